/-
  The shapes of draws of a list and one or two numbers. Conditions: none.
-/
import Derived.Test.YtfkmnlhmldjieaaDrawOne
namespace Go.Proofs.Ytfkmnlhmldjieaa
open Go.RowKit

/-- The call returns a list of its own and a number. -/
def ListNumPost (w : World) (most : Nat) (e : Ending) (w' : World) : Prop :=
  ∃ A c zs x, e = .returned (.tuple #[.slice A zs.length c, .int .i64 x]) ∧ (zs.length ≤ most ∧ CapOk zs.length c) ∧ I64 x ∧ IW w' w.heap.size w'.heap.size A zs ∧ Below w.heap.size w w'
/-- The call returns a list of its own and two numbers. -/
def ListNum2Post (w : World) (most : Nat) (e : Ending) (w' : World) : Prop :=
  ∃ A c zs x y, e = .returned (.tuple #[.slice A zs.length c, .int .i64 x, .int .i64 y]) ∧ (zs.length ≤ most ∧ CapOk zs.length c) ∧ I64 x ∧ I64 y ∧ IW w' w.heap.size w'.heap.size A zs ∧ Below w.heap.size w w'
end Go.Proofs.Ytfkmnlhmldjieaa
