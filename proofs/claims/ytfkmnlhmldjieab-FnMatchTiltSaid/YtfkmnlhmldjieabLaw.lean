/-
  What the exact laws' own helpers do: copy a list (toIntS), compare two lists (eqIntS), mark a list's cells (markIntS), look whether the marks are still there (heldIntS). Conditions: the lists' cells are there.
-/
import Derived.Test.YtfkmnlhmldjieabBase
namespace Go.Proofs.Ytfkmnlhmldjieab
open Go.RowKit

/-- k, k + 1, .. -/
def marks (k : Int) (n : Nat) : List Int := (List.range n).map fun j : Nat => k + (j : Int)
theorem marks_len (k : Int) (n : Nat) : (marks k n).length = n := by simp [marks]
theorem marks_get (k : Int) (n j : Nat) (h : j < (marks k n).length) : (marks k n)[j] = k + (j : Int) := by simp [marks]
def markTo (zs : List Int) (k : Int) (j : Nat) : List Int := marks k j ++ zs.drop j
theorem markTo_len (zs : List Int) (k : Int) (j : Nat) (h : j ≤ zs.length) : (markTo zs k j).length = zs.length := by simp [markTo, marks]; omega
theorem markTo_zero (zs : List Int) (k : Int) : markTo zs k 0 = zs := by simp [markTo, marks]
theorem markTo_all (zs : List Int) (k : Int) : markTo zs k zs.length = marks k zs.length := by simp [markTo]
theorem markTo_set (zs : List Int) (k : Int) (j : Nat) (h : j < zs.length) : (markTo zs k j).set j (k + (j : Int)) = markTo zs k (j + 1) := by
  unfold markTo marks
  apply List.ext_getElem
  · simp; omega
  · intro i h1 h2
    simp at h1 h2
    simp only [List.getElem_set, List.getElem_append, List.getElem_map, List.getElem_range, List.length_map, List.length_range, List.getElem_drop]
    by_cases e : j = i
    · subst e; simp
    · by_cases e2 : i < j
      · simp [e, e2, show i < j + 1 by omega]
      · have m : j + (i - j) = j + 1 + (i - (j + 1)) := by omega
        simp only [e, e2, show ¬ i < j + 1 by omega, if_false, dif_neg, not_false_eq_true, m]

end Go.Proofs.Ytfkmnlhmldjieab
