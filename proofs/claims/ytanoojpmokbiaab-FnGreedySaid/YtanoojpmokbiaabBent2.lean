/-
  RowBent of the program. Conditions: the list's cells are there.
-/
import Derived.Test.YtanoojpmokbiaabBent
namespace Go.Proofs.Ytanoojpmokbiaab
open Go.RowKit

set_option maxHeartbeats 1000000 in
theorem isBent_any (A : Option Addr) (c : Nat) (zs : List Int) (w : World) (h : IR w 0 w.heap.size A zs) (hr : rowB zs = true) :
    Calls Try.prog 35 #[.slice A zs.length c] w fun e w' => e = .returned (.bool (bentB zs)) ∧ Below w.heap.size w w' := by
  have H := Lib.hid h; have HR := Lib.hid hr; have HBS := Lib.hid (bentB_sorted zs)
  have hb1 : Below w.heap.size w (w.alloc (.cells #[.slice A zs.length c] 56)) := (Below.refl _ w).alloc (Nat.le_refl _) _
  have B1 := Lib.hid hb1
  clear h hr hb1
  go_enter Try.func35, Try.ntmps35
  go_wp2_with fail
  refine (slopes_any _ _ _ _).mono ?_; rintro e w' ⟨rfl, rfl⟩
  go_wp2_with fail
  refine (collectSlopes_any A c w.heap.size zs HR.out _ (by rw [World.size_alloc]; omega) (by rw [World.cell?_alloc_at _ _ _ _ rfl]; rfl) (H.out.grow B1.out).toAll).mono ?_
  rintro e w2 ⟨A', c', rfl, hi, hb⟩
  have HI := Lib.hid hi; have B2 := Lib.hid hb; clear hi hb
  go_wp2_with fail
  refine (isSorted_any _ _ _ _ _ _ HI.out.toIR).mono ?_
  rintro e w3 ⟨rfl, hb⟩
  have B3 := Lib.hid hb; clear hb
  go_wp2
  go_ret
  exact ⟨ret_bool HBS.out.symm, below_then (below_then B1.out (Nat.le_refl _) B2.out) (Nat.le_refl _) B3.out⟩

end Go.Proofs.Ytanoojpmokbiaab
