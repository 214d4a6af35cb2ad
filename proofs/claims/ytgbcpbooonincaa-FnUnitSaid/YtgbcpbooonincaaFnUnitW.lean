/-
  The law FnUnit walked: for all codes it returns true, and nothing that lay before has turned. Conditions: none but those of its row.
-/
import Derived.Test.YtgbcpbooonincaaDrawOne
import Derived.Test.YtgbcpbooonincaaSame
import Derived.Test.YtgbcpbooonincaaMath
import Derived.Test.YtgbcpbooonincaaImp4
import Derived.Test.YtgbcpbooonincaaMgU
namespace Go.Proofs.Ytgbcpbooonincaa
open Go.RowKit

set_option maxHeartbeats 1000000 in
theorem DrawMergeUnit_any (A : Option Addr) (c : Nat) (bs : List Int) (w : World) (h : BR w w.heap.size A bs) (hc : bs.length ≤ c) (hc2 : c ≤ 9000000000000000000) :
    Calls Try.prog 17 #[.slice A bs.length c] w (OnePost w 9) := by
  have H := Lib.hid h
  clear h
  go_enter Try.func17, Try.ntmps17
  go_wp2_with fail
  refine (l6Open_any A c bs _ H.out hc hc2).mono ?_
  rintro e w1 ⟨rfl, hr, hb⟩
  have B0 := Lib.hid hb; have R0 := Lib.hid hr
  have hs := hb.size
  clear hb hr
  go_wp2_with fail
  refine (l91Some_any w.heap.size 0 8 _ R0.out (by omega) (by omega)).mono ?_
  rintro e w2 ⟨A2, c2, zs, p2, rfl, hz, hi, hb, hr, hp2, hcap⟩
  have HK := Lib.hid hcap
  have HZ := Lib.hid hz
  have hs1 : w.heap.size < w1.heap.size := R0.out.lt
  have I0 := Lib.hid hi
  replace B0 := Lib.hid (B0.out.trans (hb.toBelow hs (Nat.le_refl _)))
  replace R0 := Lib.hid hr
  have hs2 := B0.out.size
  clear hi hb hr hs hcap hz
  by_cases h0 : 0 < zs.length
  · have q0 : (0 : Int) < (zs.length : Int) := by omega
    go_wp2_with fail
    refine (pick_any w.heap.size _ _ _ R0.out (by omega) (by omega)).mono ?_
    rintro e w3 ⟨v0, rfl, v00, v01, -, hb, hs, hr⟩
    replace I0 := Lib.hid (I0.out.but hb (by have := I0.out.2.2.1; omega) (.inl hs1))
    replace B0 := Lib.hid (B0.out.trans (hb.toBelow hs2 (Nat.le_refl _)))
    have hs3 := B0.out.size
    clear hb hs hr v01
    by_cases hv : 0 < v0
    · obtain ⟨b, off, rfl, hlo, hhi, hcs⟩ := I0.out.2.2.2 h0
      obtain ⟨c0, f0⟩ := hcs 0 h0
      have hcells : Cells w3 b off zs := hcs
      have hset := hcells.set_ 0 h0 0
      have HS := Lib.hid hset
      have HI := Lib.hid I0.out
      rw [Nat.add_zero] at c0 f0
      clear hcs hcells hset I0
      go_wp2
      go_ret
      have hset := HS.out
      rw [Nat.add_zero] at hset
      refine ⟨_, _, zs.set 0 0, (by rw [List.length_set]; rfl), ⟨(by rw [List.length_set]; exact HZ.out), (by rw [List.length_set]; exact HK.out)⟩, ?_, B0.out.setCell (p := ⟨b, off, none⟩) (by show w.heap.size ≤ b; omega) _⟩
      exact hset.iw rfl (by omega) (hi := (w3.setCell ⟨b, off, none⟩ (.int .i64 0)).heap.size) (by simp [World.setCell]; have := HI.out.2.2.1; omega) (Nat.le_refl _) (by rw [List.length_set]; exact HI.out.1) (setI64 HI.out.2.1 ⟨by omega, by omega⟩)
    · go_wp2
      go_ret
      exact ⟨_, _, zs, rfl, ⟨HZ.out, HK.out⟩, I0.out.wide (by omega) I0.out.2.2.1 (Nat.le_refl _), B0.out⟩
  · have q0 : ¬ (0 : Int) < (zs.length : Int) := by omega
    go_wp2
    go_ret
    exact ⟨_, _, zs, rfl, ⟨HZ.out, HK.out⟩, I0.out.wide (by omega) I0.out.2.2.1 (Nat.le_refl _), B0.out⟩

set_option maxHeartbeats 4000000 in
set_option maxRecDepth 100000 in
theorem lawFnUnit_any (A0 : Option Addr) (c0 : Nat) (bs : List Int) (w : World) (h0 : BR w w.heap.size A0 bs) (hc : bs.length ≤ c0) (hc2 : c0 ≤ 9000000000000000000) :
    Calls Try.prog 6 #[.slice A0 bs.length c0] w fun e w' => e = .returned (.bool true) ∧ Below w.heap.size w w' := by
  by_cases hbig : (1048576 : Int) < (bs.length : Int)
  · clear h0
    go_enter Try.func6, Try.ntmps6
    go_wp2
    go_ret
    exact ⟨rfl, Below.refl _ _⟩
  have H0 := Lib.hid h0
  clear h0
  have BB := Lib.hid (Below.refl w.heap.size w)
  go_enter Try.func6, Try.ntmps6
  go_wp2_with fail
  refine (DrawMergeUnit_any _ _ bs _ H0.out hc hc2).mono ?_
  rintro e w1 ⟨A, c, zs, rfl, hz, iw, bb⟩
  replace BB := Lib.hid (below_then BB.out (Nat.le_refl _) bb)
  have Z := Lib.hid iw.toAll
  clear bb
  clear iw hz
  go_wp2_with fail
  refine (implMergeUnit_v _ _ zs _ Z.out.toAll).mono ?_
  rintro e w2 ⟨rfl, bb⟩
  replace BB := Lib.hid (below_then BB.out (Nat.le_refl _) bb)
  replace Z := Lib.hid (Z.out.grow bb)
  clear bb
  go_wp2_with fail
  refine (specMergeUnit_v _ _ zs _ Z.out.toAll).mono ?_
  rintro e w3 ⟨rfl, bb⟩
  replace BB := Lib.hid (below_then BB.out (Nat.le_refl _) bb)
  replace Z := Lib.hid (Z.out.grow bb)
  clear bb
  cases hu : unitOk zs with
  | false =>
    obtain ⟨u, hu'⟩ : ∃ x, unitL zs = x := ⟨_, rfl⟩
    rw [hu']
    clear hu hu'
    go_wp2
    go_ret
    exact ⟨rfl, BB.out⟩
  | true =>
    obtain ⟨hr, u0, u1⟩ := unit_spec hu
    have HT : Hid (∀ b, tiltM zs (unitL zs) 0 = some b → rowB b = true ∧ leastA b = 0) := fun b hb => unit_tilt hu hb
    obtain ⟨u, hu'⟩ : ∃ x, unitL zs = x := ⟨_, rfl⟩
    rw [hu'] at u0 u1 HT
    rw [hu']
    obtain ⟨o, ho⟩ : ∃ o, tiltM zs u 0 = o := ⟨_, rfl⟩
    have HO := Lib.hid ho
    clear hu hu' hr ho
    go_wp2_with fail
    refine (implRowTilt_any _ _ zs _ _ _ Z.out.toAll).mono ?_
    rintro e w4 ⟨A5, c5, rfl, iw, bb⟩
    replace BB := Lib.hid (below_then BB.out (Nat.le_refl _) bb)
    replace Z := Lib.hid (Z.out.grow bb)
    have X := Lib.hid iw.toAll
    clear bb
    clear iw
    rw [HO.out] at X
    rw [HO.out]
    cases o with
    | none =>
      have e1 : (none : Option (List Int)).getD [] = [] := rfl
      rw [e1]
      replace X : Hid (IR w4 _ _ A5 []) := X
      clear e1
      go_wp2_with fail
      refine (implRowLeast_any _ _ [] _ X.out.toAll).mono ?_
      rintro e w5 ⟨rfl, bb⟩
      replace BB := Lib.hid (below_then BB.out (Nat.le_refl _) bb)
      replace Z := Lib.hid (Z.out.grow bb)
      replace X := Lib.hid (X.out.grow bb)
      clear bb
      go_wp2
      go_ret
      exact ⟨rfl, BB.out⟩
    | some b =>
      have e1 : (some b).getD [] = b := rfl
      rw [e1]
      replace X : Hid (IR w4 _ _ A5 b) := X
      clear e1
      obtain ⟨t1, t2⟩ := HT.out b HO.out
      have T1 := Lib.hid t1; have T2 := Lib.hid t2
      clear t1 t2
      go_wp2_with fail
      refine (implRowLeast_any _ _ b _ X.out.toAll).mono ?_
      rintro e w5 ⟨rfl, bb⟩
      replace BB := Lib.hid (below_then BB.out (Nat.le_refl _) bb)
      replace Z := Lib.hid (Z.out.grow bb)
      replace X := Lib.hid (X.out.grow bb)
      clear bb
      rw [T1.out, T2.out]
      go_wp2
      go_ret
      exact ⟨rfl, BB.out⟩
end Go.Proofs.Ytgbcpbooonincaa
