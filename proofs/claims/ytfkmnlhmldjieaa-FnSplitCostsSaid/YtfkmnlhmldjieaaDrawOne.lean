/-
  Draws of one list (l91One). Conditions: the code's bytes are there.
-/
import Derived.Test.YtfkmnlhmldjieaaDraw3
namespace Go.Proofs.Ytfkmnlhmldjieaa
open Go.RowKit

/-- The call returns a list of its own. -/
def OnePost (w : World) (most : Nat) (e : Ending) (w' : World) : Prop :=
  ∃ A c zs, e = .returned (.slice A zs.length c) ∧ (zs.length ≤ most ∧ CapOk zs.length c) ∧ IW w' w.heap.size w'.heap.size A zs ∧ Below w.heap.size w w'

/-- The call returns a number and a list of its own. -/
def NumListPost (w : World) (most : Nat) (e : Ending) (w' : World) : Prop :=
  ∃ x A c zs, e = .returned (.tuple #[.int .i64 x, .slice A zs.length c]) ∧ I64 x ∧ (zs.length ≤ most ∧ CapOk zs.length c) ∧ IW w' w.heap.size w'.heap.size A zs ∧ Below w.heap.size w w'

theorem numList_of {w w' : World} {n most c : Nat} {x : Int} {A : Option Addr} {zs : List Int} (hz : zs.length = n) (hn : n ≤ most) (hx : I64 x) (hi : IW w' w.heap.size w'.heap.size A zs) (hb : Below w.heap.size w w') (hcap : CapOk n c) : NumListPost w most (.returned (.tuple #[.int .i64 x, .slice A n c])) w' := by
  subst hz; exact ⟨x, A, c, zs, rfl, hx, ⟨hn, hcap⟩, hi, hb⟩

end Go.Proofs.Ytfkmnlhmldjieaa
