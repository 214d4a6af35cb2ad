/-
  HillRound of the model, and whether a list is a hill, of the model and of the program. Conditions: the list's cells are there.
-/
import Derived.Test.YtkghpmjbclnojaaHvMath
import Derived.Test.YtkghpmjbclnojaaImp2
namespace Go.Proofs.Ytkghpmjbclnojaa
open Go.RowKit Go.Shelf

theorem ends_get (zs : List Int) (k : Nat) (h : k + 1 < zs.length) : endsB zs (k + 1) = (endsB zs k || decide (0 < zs[k]) && decide (zs[k + 1] = 0)) := by
  rw [endsB_succ, getD_in h, getD_in (show k < zs.length by omega)]

/-! ### The program's -/
end Go.Proofs.Ytkghpmjbclnojaa
