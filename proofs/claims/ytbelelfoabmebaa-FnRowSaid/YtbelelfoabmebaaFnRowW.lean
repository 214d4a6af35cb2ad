/-
  The law FnRow walked: for all codes it returns true, and nothing that lay before has turned. Conditions: none but those of its row.
-/
import Derived.Test.YtbelelfoabmebaaDrawOne
import Derived.Test.YtbelelfoabmebaaSame
import Derived.Test.YtbelelfoabmebaaColl
import Derived.Test.YtbelelfoabmebaaFrom2
namespace Go.Proofs.Ytbelelfoabmebaa
open Go.RowKit

set_option maxHeartbeats 1000000 in
theorem DrawRowIn_any (A : Option Addr) (c : Nat) (bs : List Int) (w : World) (h : BR w w.heap.size A bs) (hc : bs.length ≤ c) (hc2 : c ≤ 9000000000000000000) :
    Calls Try.prog 13 #[.slice A bs.length c] w (OnePost w 14) := by
  have H := Lib.hid h
  clear h
  go_enter Try.func13, Try.ntmps13
  go_wp2_with fail
  refine (l6Open_any A c bs _ H.out hc hc2).mono ?_
  rintro e w1 ⟨rfl, hr, hb⟩
  have B0 := Lib.hid hb; have R0 := Lib.hid hr
  have hs := hb.size
  clear hb hr
  go_wp2_with fail
  refine (l91Some_any w.heap.size 0 13 _ R0.out (by omega) (by omega)).mono ?_
  rintro e w2 ⟨A2, c2, zs, p', rfl, hz, hi, hb, hr, -, hcap⟩
  have I0 := Lib.hid (hi.wide hs (Nat.le_refl _) (Nat.le_refl _))
  replace B0 := Lib.hid (B0.out.trans (hb.toBelow hs (Nat.le_refl _)))
  have HZ := Lib.hid (And.intro hz hcap)
  clear hi hb hr hz hcap
  go_wp2
  go_ret
  exact ⟨A2, c2, zs, rfl, HZ.out, I0.out, B0.out⟩

theorem from_slopes {zs : List Int} (hr : rowB zs = true) (h0 : 0 < zs.length) : fromL zs[0] (slopesL zs) = zs := by
  have hl := fromL_len zs[0] (slopesL zs)
  rw [slopesL_len] at hl
  have each : ∀ (k : Nat) (h : k < zs.length), (fromL zs[0] (slopesL zs))[k]'(by omega) = zs[k] := by
    intro k
    induction k with
    | zero => intro h; exact fromL_zero _ _
    | succ k ih =>
      intro h
      rw [fromL_succ _ _ k (by rw [slopesL_len]; omega), ih (by omega), slopesL_get _ k h]
      have b1 := (rowB_true.1 hr).1 _ (List.getElem_mem h)
      unfold wrap64
      omega
  apply List.ext_getElem
  · omega
  · intro k h1 h2; exact each k h2

set_option maxHeartbeats 4000000 in
set_option maxRecDepth 100000 in
theorem lawFnRow_any (A0 : Option Addr) (c0 : Nat) (bs : List Int) (w : World) (h0 : BR w w.heap.size A0 bs) (hc : bs.length ≤ c0) (hc2 : c0 ≤ 9000000000000000000) :
    Calls Try.prog 3 #[.slice A0 bs.length c0] w fun e w' => e = .returned (.bool true) ∧ Below w.heap.size w w' := by
  by_cases hbig : (1048576 : Int) < (bs.length : Int)
  · clear h0
    go_enter Try.func3, Try.ntmps3
    go_wp2
    go_ret
    exact ⟨rfl, Below.refl _ _⟩
  have H0 := Lib.hid h0
  clear h0
  have BB := Lib.hid (Below.refl w.heap.size w)
  go_enter Try.func3, Try.ntmps3
  go_wp2_with fail
  refine (DrawRowIn_any _ _ bs _ H0.out hc hc2).mono ?_
  rintro e w1 ⟨A, c, zs, rfl, hz, iw, bb⟩
  replace BB := Lib.hid (below_then BB.out (Nat.le_refl _) bb)
  have Z := Lib.hid iw.toAll
  clear bb
  clear iw
  go_wp2_with fail
  refine (implRowIn_any _ _ zs _ Z.out.toAll).mono ?_
  rintro e w2 ⟨rfl, bb⟩
  replace BB := Lib.hid (below_then BB.out (Nat.le_refl _) bb)
  replace Z := Lib.hid (Z.out.grow bb)
  clear bb
  go_wp2_with fail
  refine (specRowIn_b _ _ zs _ Z.out.toAll).mono ?_
  rintro e w3 ⟨rfl, bb⟩
  replace BB := Lib.hid (below_then BB.out (Nat.le_refl _) bb)
  replace Z := Lib.hid (Z.out.grow bb)
  clear bb
  cases hr : rowB zs with
  | false =>
    clear hr
    go_wp2
    go_ret
    exact ⟨rfl, BB.out⟩
  | true =>
    have hm : rowSlopesM zs = some (slopesL zs) := by simp [rowSlopesM, hr]
    have hl := (rowB_true.1 hr).2
    have FM : Hid (fromM (zs[0]'(by omega)) (slopesL zs) = some zs) := by show _ = _; unfold fromM; rw [from_slopes hr (by omega), if_pos hr]
    have HM := Lib.hid hm
    clear hr hm
    go_wp2_with fail
    refine (implRowSlopes_any _ _ zs _ Z.out.toAll).mono ?_
    rintro e w4 ⟨A2, c2, rfl, iw, bb⟩
    replace BB := Lib.hid (below_then BB.out (Nat.le_refl _) bb)
    replace Z := Lib.hid (Z.out.grow bb)
    have G := Lib.hid iw.toAll
    clear bb
    clear iw
    rw [HM.out] at G
    rw [HM.out]
    have e1 : (some (slopesL zs)).getD [] = slopesL zs := rfl
    rw [e1]
    replace G : Hid (IR w4 _ _ A2 (slopesL zs)) := G
    clear e1
    obtain ⟨b, off, rfl, _, _, hc0⟩ := Z.out.at_ (k := 0) (by omega)
    rw [Nat.add_zero] at hc0
    have HX := Lib.hid (Z.out.i64 (k := 0) (by omega))
    obtain ⟨x, hx⟩ : ∃ x, zs[0]'(by omega) = x := ⟨_, rfl⟩
    rw [hx] at hc0 FM HX
    have hq : (0 : Int) < (zs.length : Int) := by omega
    clear hx hl
    go_wp2_with fail
    refine (implRowFrom_any x _ _ (slopesL zs) _ HX.out G.out.toAll).mono ?_
    rintro e w5 ⟨A3, c3, rfl, iw, bb⟩
    replace BB := Lib.hid (below_then BB.out (Nat.le_refl _) bb)
    replace Z := Lib.hid (Z.out.grow bb)
    replace G := Lib.hid (G.out.grow bb)
    have V := Lib.hid iw.toAll
    clear bb
    clear iw
    rw [FM.out] at V
    rw [FM.out]
    have e1 : (some zs).getD [] = zs := rfl
    rw [e1]
    replace V : Hid (IR w5 _ _ A3 zs) := V
    clear e1
    go_wp2_with fail
    refine (sameInts_b _ _ _ _ _ _ _ _ _ _ zs _ V.out Z.out rfl rfl).mono ?_
    rintro e w6 ⟨rfl, bb⟩
    replace BB := Lib.hid (below_then BB.out (Nat.le_refl _) bb)
    replace Z := Lib.hid (Z.out.grow bb)
    replace G := Lib.hid (G.out.grow bb)
    replace V := Lib.hid (V.out.grow bb)
    clear bb
    go_wp2
    go_ret
    exact ⟨rfl, BB.out⟩
end Go.Proofs.Ytbelelfoabmebaa
