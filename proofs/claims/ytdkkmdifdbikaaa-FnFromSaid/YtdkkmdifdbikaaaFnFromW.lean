/-
  The law FnFrom walked: for all codes it returns true, and nothing that lay before has turned. Conditions: none but those of its row.
-/
import Derived.Test.YtdkkmdifdbikaaaDraw4
import Derived.Test.YtdkkmdifdbikaaaSame
import Derived.Test.YtdkkmdifdbikaaaColl
import Derived.Test.YtdkkmdifdbikaaaFrom2
namespace Go.Proofs.Ytdkkmdifdbikaaa
open Go.RowKit

theorem slopes_from {x : Int} {ss : List Int} (hx : ∀ z, z ∈ ss → I64 z) (hr : rowB (fromL x ss) = true) : slopesL (fromL x ss) = ss := by
  have hl := fromL_len x ss
  apply List.ext_getElem
  · rw [slopesL_len, hl]; omega
  · intro k h1 h2
    rw [slopesL_get _ k (by omega), fromL_succ x ss k h2]
    have b0 := (rowB_true.1 hr).1 _ (List.getElem_mem (show k < (fromL x ss).length by omega))
    have b1 := (rowB_true.1 hr).1 _ (List.getElem_mem (show k + 1 < (fromL x ss).length by omega))
    rw [fromL_succ x ss k h2] at b1
    have h3 := hx _ (List.getElem_mem h2)
    have h4 := h3.1
    have h5 := h3.2
    unfold wrap64 at b1 ⊢
    omega

set_option maxHeartbeats 2000000 in
set_option maxRecDepth 100000 in
theorem lawFnFrom_any (A0 : Option Addr) (c0 : Nat) (bs : List Int) (w : World) (h0 : BR w w.heap.size A0 bs) (hc : bs.length ≤ c0) (hc2 : c0 ≤ 9000000000000000000) :
    Calls Try.prog 4 #[.slice A0 bs.length c0] w fun e w' => e = .returned (.bool true) ∧ Below w.heap.size w w' := by
  by_cases hbig : (1048576 : Int) < (bs.length : Int)
  · clear h0
    go_enter Try.func4, Try.ntmps4
    go_wp2
    go_ret
    exact ⟨rfl, Below.refl _ _⟩
  have H0 := Lib.hid h0
  clear h0
  go_enter Try.func4, Try.ntmps4
  go_wp2_with fail
  refine (DrawRowFrom_any _ _ bs _ H0.out hc hc2).mono ?_
  rintro e w1 ⟨x, A, c, zs, rfl, hx, hz, iw, bb⟩
  have BB := Lib.hid bb
  have Z0 := Lib.hid iw
  have HX := Lib.hid hx
  have hz' : (zs.length : Int) ≤ 13 := by omega
  clear bb iw hx
  go_wp2_with fail
  refine (implRowFrom_any x _ _ zs _ HX.out Z0.out.toAll).mono ?_
  rintro e w2 ⟨A2, c2, rfl, iw, bb⟩
  replace BB := Lib.hid (below_then BB.out (Nat.le_refl _) bb)
  replace Z0 := Lib.hid (Z0.out.grow bb)
  have G0 := Lib.hid iw.toAll
  clear bb iw
  go_wp2_with fail
  refine (specRowFrom_any x _ _ zs _ HX.out Z0.out.toAll (by omega)).mono ?_
  rintro e w3 ⟨A3, c3, rfl, iw, bb⟩
  replace BB := Lib.hid (below_then BB.out (Nat.le_refl _) bb)
  replace Z0 := Lib.hid (Z0.out.grow bb)
  replace G0 := Lib.hid (G0.out.grow bb)
  have W0 := Lib.hid iw
  clear bb iw
  cases hr : rowB (fromL x zs) with
  | false =>
    have hm : fromM x zs = none := by simp [fromM, hr]
    rw [hm] at G0 W0
    have G1 : Hid (IR w3 0 w3.heap.size A2 []) := G0.out.toAll
    have W1 : Hid (IR w3 0 w3.heap.size A3 []) := W0.out.toAll
    clear G0 W0
    rw [hm]
    clear hm hr
    go_wp2_with fail
    refine (sameInts_b _ _ _ _ _ _ _ _ _ _ [] _ G1.out W1.out rfl rfl).mono ?_
    rintro e w4 ⟨rfl, bb⟩
    replace BB := Lib.hid (below_then BB.out (Nat.le_refl _) bb)
    replace G1 := Lib.hid (G1.out.grow bb)
    replace W1 := Lib.hid (W1.out.grow bb)
    clear bb
    go_wp2_with fail
    refine (sameInts_b _ _ _ _ _ _ _ _ _ _ [] _ G1.out W1.out rfl rfl).mono ?_
    rintro e w5 ⟨rfl, bb⟩
    replace BB := Lib.hid (below_then BB.out (Nat.le_refl _) bb)
    clear bb
    go_wp2
    go_ret
    exact ⟨rfl, BB.out⟩
  | true =>
    have hm : fromM x zs = some (fromL x zs) := by simp [fromM, hr]
    rw [hm] at G0 W0
    have G1 : Hid (IR w3 0 w3.heap.size A2 (fromL x zs)) := G0.out.toAll
    have W1 : Hid (IR w3 0 w3.heap.size A3 (fromL x zs)) := W0.out.toAll
    have e2 := Lib.hid (fromL_len x zs)
    have e3 := Lib.hid (slopes_from Z0.out.2.1 hr)
    have e1 : (some (fromL x zs)).getD [] = fromL x zs := rfl
    rw [hm, e1]
    have hms : rowSlopesM (fromL x zs) = some zs := by unfold rowSlopesM; rw [if_pos hr, e3.out]
    have HMS := Lib.hid hms
    have HR := Lib.hid hr
    clear G0 W0 hm e1 hms hr
    go_wp2_with fail
    refine (sameInts_b _ _ _ _ _ _ _ _ _ _ (fromL x zs) _ G1.out W1.out rfl rfl).mono ?_
    rintro e w4 ⟨rfl, bb⟩
    replace BB := Lib.hid (below_then BB.out (Nat.le_refl _) bb)
    replace G1 := Lib.hid (G1.out.grow bb)
    replace Z0 := Lib.hid (Z0.out.grow bb)
    clear bb W1
    go_wp2_with fail
    refine (implRowSlopes_any _ _ (fromL x zs) _ G1.out.toAll).mono ?_
    rw [HMS.out]
    rintro e w5 ⟨A5, c5, rfl, iw, bb⟩
    replace BB := Lib.hid (below_then BB.out (Nat.le_refl _) bb)
    replace G1 := Lib.hid (G1.out.grow bb)
    replace Z0 := Lib.hid (Z0.out.grow bb)
    have S1 : Hid (IR w5 0 w5.heap.size A5 zs) := iw.toAll
    have e5 : (some zs).getD [] = zs := rfl
    rw [e5]
    clear bb iw e5
    go_wp2_with fail
    refine (sameInts_b _ _ _ _ _ _ _ _ _ _ zs _ S1.out Z0.out.toIR rfl rfl).mono ?_
    rintro e w6 ⟨rfl, bb⟩
    replace BB := Lib.hid (below_then BB.out (Nat.le_refl _) bb)
    replace G1 := Lib.hid (G1.out.grow bb)
    clear bb S1
    obtain ⟨b, off, rfl, _, _, hc0⟩ := G1.out.at_ (k := 0) (by rw [e2.out]; omega)
    rw [fromL_zero, Nat.add_zero] at hc0
    have hq : (0 : Int) < ((fromL x zs).length : Int) := by rw [e2.out]; omega
    go_wp2
    go_ret
    exact ⟨rfl, BB.out⟩
end Go.Proofs.Ytdkkmdifdbikaaa
