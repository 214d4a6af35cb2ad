/-
  RowBent of the model and of the program: both answer whether the list is a row whose slopes never fall. Conditions: the list's cells are there.
-/
import Derived.Test.YtanoojpmokbiaaaImp2
namespace Go.Proofs.Ytanoojpmokbiaaa
open Go.RowKit

def bentB (zs : List Int) : Bool := (List.range (zs.length - 2)).all fun k => decide (zs.getD (k + 1) 0 - zs.getD k 0 ≤ zs.getD (k + 2) 0 - zs.getD (k + 1) 0)
def sortedB (xs : List Int) : Bool := (List.range (xs.length - 1)).all fun k => decide (xs.getD k 0 ≤ xs.getD (k + 1) 0)
theorem bentB_true {zs : List Int} (h : ∀ k, k + 2 < zs.length → zs.getD (k + 1) 0 - zs.getD k 0 ≤ zs.getD (k + 2) 0 - zs.getD (k + 1) 0) : bentB zs = true := by
  unfold bentB
  rw [List.all_eq_true]
  intro k hk
  simp only [List.mem_range] at hk
  exact decide_eq_true (h k (by omega))
theorem bentB_false {zs : List Int} {k : Nat} (hk : k + 2 < zs.length) (h : zs.getD (k + 2) 0 - zs.getD (k + 1) 0 < zs.getD (k + 1) 0 - zs.getD k 0) : bentB zs = false := by
  unfold bentB
  rw [List.all_eq_false]
  exact ⟨k, List.mem_range.2 (by omega), by simp only [decide_eq_true_eq]; omega⟩
theorem sortedB_true {xs : List Int} (h : ∀ k, k + 1 < xs.length → xs.getD k 0 ≤ xs.getD (k + 1) 0) : sortedB xs = true := by
  unfold sortedB
  rw [List.all_eq_true]
  intro k hk
  simp only [List.mem_range] at hk
  exact decide_eq_true (h k (by omega))
theorem sortedB_false {xs : List Int} {k : Nat} (hk : k + 1 < xs.length) (h : xs.getD (k + 1) 0 < xs.getD k 0) : sortedB xs = false := by
  unfold sortedB
  rw [List.all_eq_false]
  exact ⟨k, List.mem_range.2 (by omega), by simp only [decide_eq_true_eq]; omega⟩
theorem slopesL_getD (zs : List Int) (k : Nat) (h : k + 1 < zs.length) : (slopesL zs).getD k 0 = zs.getD (k + 1) 0 - zs.getD k 0 := by
  have hl := slopesL_len zs
  rw [getD_in (show k < (slopesL zs).length by omega), slopesL_get zs k h, getD_in h, getD_in (show k < zs.length by omega)]
theorem bentB_sorted (zs : List Int) : bentB zs = sortedB (slopesL zs) := by
  have hl := slopesL_len zs
  cases h : sortedB (slopesL zs) with
  | true =>
    refine bentB_true fun k hk => ?_
    unfold sortedB at h
    rw [List.all_eq_true] at h
    have := h k (List.mem_range.2 (by omega))
    rw [decide_eq_true_eq, slopesL_getD zs k (by omega), slopesL_getD zs (k + 1) (by omega)] at this
    exact this
  | false =>
    unfold sortedB at h
    rw [List.all_eq_false] at h
    obtain ⟨k, hk, hd⟩ := h
    simp only [List.mem_range] at hk
    rw [decide_eq_true_eq, slopesL_getD zs k (by omega), slopesL_getD zs (k + 1) (by omega)] at hd
    exact bentB_false (k := k) (by omega) (by have e : k + 1 + 1 = k + 2 := rfl; rw [e] at hd; omega)

end Go.Proofs.Ytanoojpmokbiaaa
