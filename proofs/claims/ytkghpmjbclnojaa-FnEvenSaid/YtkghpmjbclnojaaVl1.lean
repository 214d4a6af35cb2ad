/-
  ValleyOne of the model and of the program: both answer whether the list is a row that never rises ahead of a fall. Conditions: the list's cells are there.
-/
import Derived.Test.YtkghpmjbclnojaaHvMath
import Derived.Test.YtkghpmjbclnojaaImp2
import Derived.Test.YtkghpmjbclnojaaColl
namespace Go.Proofs.Ytkghpmjbclnojaa
open Go.RowKit Go.Shelf

theorem riseB_get (zs : List Int) (k : Nat) (h : k + 1 < zs.length) : riseB zs (k + 1) = (riseB zs k || decide (zs[k] < zs[k + 1])) := by
  rw [riseB_succ, getD_in h, getD_in (show k < zs.length by omega)]
theorem oneB_get {zs : List Int} {k : Nat} (h : k + 1 < zs.length) (hr : riseB zs k = true) (hf : zs[k + 1] < zs[k]) : oneB zs = false :=
  oneB_false h hr (by rw [getD_in h, getD_in (show k < zs.length by omega)]; exact hf)
/-- No fall behind a rise among the first slopes. -/
def OneTo (zs : List Int) (k : Nat) : Prop := ∀ j, j < k → j + 1 < zs.length → ¬ (riseB zs j = true ∧ zs.getD (j + 1) 0 < zs.getD j 0)
theorem oneTo_zero (zs : List Int) : OneTo zs 0 := fun j hj => absurd hj (by omega)
theorem oneTo_succ {zs : List Int} {k : Nat} (h : OneTo zs k) (hk : k + 1 < zs.length) (hn : ¬ (riseB zs k = true ∧ zs[k + 1] < zs[k])) : OneTo zs (k + 1) := by
  intro j hj hj2
  by_cases e : j = k
  · subst e; rw [getD_in hj2, getD_in (show j < zs.length by omega)]; exact hn
  · exact h j (by omega) hj2
theorem oneTo_all {zs : List Int} {k : Nat} (h : OneTo zs k) (hk : zs.length ≤ k + 1) : oneB zs = true := by
  unfold oneB
  rw [List.all_eq_true]
  intro i hi
  have := h i (by have := List.mem_range.1 hi; omega) (by have := List.mem_range.1 hi; omega)
  cases e : riseB zs i with
  | false => rfl
  | true =>
    have : ¬ zs.getD (i + 1) 0 < zs.getD i 0 := fun c => this ⟨e, c⟩
    simp only [Bool.true_and, Bool.not_eq_true', decide_eq_false_iff_not]; exact this

end Go.Proofs.Ytkghpmjbclnojaa
