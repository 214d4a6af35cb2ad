/-
  The law FnCostOne walked: for all codes it returns true, and nothing that lay before has turned. Conditions: none but those of its row.
-/
import Derived.Test.YtnphmapiagiocaaDrawOne
import Derived.Test.YtnphmapiagiocaaMathA
import Derived.Test.YtnphmapiagiocaaVlc
import Derived.Test.YtnphmapiagiocaaDraw2
namespace Go.Proofs.Ytnphmapiagiocaa
open Go.RowKit

set_option maxHeartbeats 1000000 in
theorem DrawValleyCost_any (A : Option Addr) (c : Nat) (bs : List Int) (w : World) (h : BR w w.heap.size A bs) (hc : bs.length ≤ c) (hc2 : c ≤ 9000000000000000000) :
    Calls Try.prog 21 #[.slice A bs.length c] w (OnePost w 10) := by
  have H := Lib.hid h
  clear h
  go_enter Try.func21, Try.ntmps21
  go_wp2_with fail
  refine (l91One_any A c bs _ H.out hc hc2).mono ?_
  rintro e w1 ⟨A1, c1, zs, rfl, hz, hi, hb⟩
  have I0 := Lib.hid hi; have B0 := Lib.hid hb; have HZ := Lib.hid hz
  clear hi hb hz
  go_wp2
  go_ret
  exact ⟨A1, c1, zs, rfl, HZ.out, I0.out, B0.out⟩

theorem valleyCost_n {n : Nat} {x : Int} {b : Bool} (A : Option Addr) (c : Nat) (zs : List Int) (w : World) (h : IR w 0 w.heap.size A zs) (hn : zs.length = n) (hcl : n ≤ c) (hx : costI zs = x) (hb : rowB zs = b) :
    Calls Try.prog 15 #[.slice A n c] w fun e w' => e = .returned (.tuple #[.int .i64 x, .bool b]) ∧ Below w.heap.size w w' := by subst hn; subst hx; subst hb; exact implValleyCost_any A c zs w h hcl

theorem cost_bd {zs : List Int} (hr : rowB zs = true) : 0 ≤ costL zs ∧ costL zs ≤ 1000 * (zs.length : Int) := ⟨cost_nonneg zs, Int.le_trans (minN_le _ _ 0 (Nat.zero_le _)) (costAt_cap (row_lo hr) (Nat.zero_le _))⟩

set_option maxHeartbeats 1500000 in
set_option maxRecDepth 100000 in
theorem lawFnCostOne_any (A0 : Option Addr) (c0 : Nat) (bs : List Int) (w : World) (h0 : BR w w.heap.size A0 bs) (hc : bs.length ≤ c0) (hc2 : c0 ≤ 9000000000000000000) :
    Calls Try.prog 6 #[.slice A0 bs.length c0] w fun e w' => e = .returned (.bool true) ∧ Below w.heap.size w w' := by
  by_cases hbig : (1048576 : Int) < (bs.length : Int)
  · clear h0
    go_enter Try.func6, Try.ntmps6
    go_wp2
    go_ret
    exact ⟨rfl, Below.refl _ _⟩
  have H0 := Lib.hid h0
  clear h0
  have BB := Lib.hid (Below.refl w.heap.size w)
  go_enter Try.func6, Try.ntmps6
  go_wp2_with fail
  refine (DrawValleyCost_any _ _ bs _ H0.out hc hc2).mono ?_
  rintro e w1 ⟨A, c, zs, rfl, hz, iw, bb⟩
  replace BB := Lib.hid (below_then BB.out (Nat.le_refl _) bb)
  have Z := Lib.hid iw.toAll
  clear bb
  have HK := Lib.hid hz.2
  clear iw hz
  go_wp2_with fail
  refine (implValleyCost_any _ c zs _ Z.out.toAll HK.out.1).mono ?_
  rintro e w2 ⟨rfl, bb⟩
  replace BB := Lib.hid (below_then BB.out (Nat.le_refl _) bb)
  replace Z := Lib.hid (Z.out.grow bb)
  clear bb
  go_wp2_with fail
  refine (specValleyCost_any _ _ zs _ Z.out.toAll).mono ?_
  rintro e w3 ⟨rfl, bb⟩
  replace BB := Lib.hid (below_then BB.out (Nat.le_refl _) bb)
  replace Z := Lib.hid (Z.out.grow bb)
  clear bb
  cases hr : rowB zs with
  | false =>
    obtain ⟨x, hx⟩ : ∃ x, costI zs = x := ⟨_, rfl⟩
    rw [hx]
    clear hx hr
    go_wp2
    go_ret
    exact ⟨rfl, BB.out⟩
  | true =>
    have hl := rowB_true.1 hr
    have hz0 : 0 < zs.length := by omega
    obtain ⟨x, hx⟩ : ∃ x, costI zs = x := ⟨_, rfl⟩
    have hxc : x = costL zs := by rw [← hx]; unfold costI; rw [hr]; rfl
    have hf := cost_first zs hz0
    rw [← hxc] at hf
    obtain ⟨X, hX⟩ : ∃ X, zs[0]'hz0 = X := ⟨_, rfl⟩
    rw [getD_in hz0, hX] at hf
    have hX2 := hl.1 _ (List.getElem_mem hz0)
    rw [hX] at hX2
    have hxb := cost_bd hr
    rw [← hxc] at hxb
    obtain ⟨n, hn⟩ : ∃ n, zs.length = n := ⟨_, rfl⟩
    have HN := Lib.hid hn
    have hn12 : n ≤ 12 := by omega
    have hn0 : 0 < n := by omega
    have hn0' : (0 : Int) < (n : Int) := by omega
    obtain ⟨ys, hys⟩ : ∃ ys, zs.set 0 (X + 1) = ys := ⟨_, rfl⟩
    have HY1 : Hid (ys.length = n) := by show _ = _; rw [← hys, List.length_set]; exact hn
    rw [hys] at hf
    have HYS := Lib.hid hys
    obtain ⟨y, hy⟩ : ∃ y, costI ys = y := ⟨_, rfl⟩
    obtain ⟨q, hq⟩ : ∃ q, rowB ys = q := ⟨_, rfl⟩
    have hyf : q = true → y ≤ x + 1 ∧ x - 1 ≤ y := fun e => by
      have : y = costL ys := by rw [← hy]; unfold costI; rw [hq, e]; rfl
      rw [this]; exact hf
    have HY := Lib.hid hy; have HQ := Lib.hid hq; have HYF := Lib.hid hyf; have HX := Lib.hid hX; have HX2 := Lib.hid hX2
    have s1 : IntKind.i64.wrap (x + 1) = x + 1 := IntWalk.i64_in _ (by omega)
    have s2 : IntKind.i64.wrap (x - 1) = x - 1 := IntWalk.i64_in _ (by omega)
    have s3 : IntKind.i64.wrap (X + 1) = X + 1 := IntWalk.i64_in _ (by omega)
    rw [hx, hn]
    have HA := Lib.hid (Z.out.grow ((Below.refl w3.heap.size w3).alloc (Nat.le_refl _) (.cells #[] 3)))
    have HL : Hid (([] ++ zs : List Int).length ≤ 17592186044416) := by show _ ≤ _; simp; omega
    have HLn : Hid (([] ++ zs : List Int).length = n) := by show _ = _; simpa using hn
    clear hl hx hxc hf hX hX2 hxb hn hys hy hq hyf hr
    go_wp2_with (at_builtin; refine wpList_appendsI rfl _ _ rfl w3.heap.size _ [] zs A _ _ n c HN.out.symm rfl rfl (OwnI.made _) HA.out (by have := HN.out; simp; omega) ?_; intro v1 W1 ho1 hb1; have HO1 := Lib.hid ho1; have HB1 := Lib.hid hb1; clear ho1 hb1; obtain ⟨A1, c1, rfl, hi1, hcap1⟩ := HO1.out.iwc HLn.out (by omega); obtain ⟨b, off, rfl, hlo, hhi, hcs⟩ := hi1.2.2.2 (by rw [HLn.out]; exact hn0); have HC1 : Hid (Cells W1 b off zs) := hcs; have hz0 : 0 < zs.length := (by rw [HN.out]; exact hn0); obtain ⟨hc0, hf0⟩ := HC1.out 0 hz0; rw [Nat.add_zero] at hc0 hf0; rw [HX.out] at hc0; have HN2 := Lib.hid (HC1.out.set_ 0 hz0 (X + 1)); rw [Nat.add_zero] at HN2; have HI := Lib.hid hi1.2.1; have HCP := Lib.hid hcap1)
    have HS3 := Lib.hid BB.out.size
    replace BB := Lib.hid ((below_then BB.out (Nat.le_refl _) (((Below.refl _ _).alloc (Nat.le_refl _) _).trans HB1.out)))
    have HSZ := BB.out.size
    have HLO := Lib.hid hlo; have HHI := Lib.hid hhi
    clear hcs hi1 hcap1 HA HL hlo hhi HO1
    have X5 := Lib.hid (HN2.out.iw (by rw [HYS.out, HY1.out]) (Nat.zero_le _) HHI.out (by simp [World.setCell]) (by omega) (setI64 HI.out ⟨by have := HX2.out; omega, by have := HX2.out; omega⟩))
    rw [HYS.out] at X5
    replace BB := Lib.hid (BB.out.setCell (p := ⟨b, off, none⟩) (Nat.le_trans HS3.out HLO.out) (.int .i64 (X + 1)))
    go_wp2_with fail
    refine (valleyCost_n _ _ ys _ X5.out.toAll HY1.out HCP.out.1 HY.out HQ.out).mono ?_
    rintro e w4 ⟨rfl, bb⟩
    replace BB := Lib.hid (below_then BB.out (Nat.le_refl _) bb)
    clear bb
    cases q with
    | false =>
      go_wp2
      go_ret
      exact ⟨rfl, BB.out⟩
    | true =>
      obtain ⟨h1, h2⟩ := HYF.out rfl
      have h3 : x ≤ y + 1 := by omega
      have h4 : ¬ x + 1 < y := by omega
      have h5 : ¬ y < x - 1 := by omega
      go_wp2
      go_ret
      exact ⟨rfl, BB.out⟩
end Go.Proofs.Ytnphmapiagiocaa
