/-
  HillFold of the model and of the program: two hills folded. Conditions: the lists' cells are there.
-/
import Derived.Test.YtkghpmjbclnojaaHl1
import Derived.Test.YtkghpmjbclnojaaHvMath
import Derived.Test.YtkghpmjbclnojaaMathA
import Derived.Test.YtkghpmjbclnojaaFrom
import Derived.Test.YtkghpmjbclnojaaIter3
import Derived.Test.YtkghpmjbclnojaaHeld
namespace Go.Proofs.Ytkghpmjbclnojaa
open Go.RowKit Go.Shelf
attribute [local go_sem] Oper.semAt_some

def foldM (zs ys : List Int) : Option (List Int) := if hillB zs && hillB ys then doneM (foldHL zs ys) else none
theorem foldM_no {zs ys : List Int} (h : (hillB zs && hillB ys) = false) : foldM zs ys = none := by unfold foldM; rw [h]; rfl
theorem foldM_yes {zs ys : List Int} (h : (hillB zs && hillB ys) = true) : foldM zs ys = doneM (foldHL zs ys) := by unfold foldM; rw [h]; rfl


end Go.Proofs.Ytkghpmjbclnojaa
