/-
  The laws' helpers sameRows and across: two lists of lists compared, a table turned across. Conditions: the cells are there.
-/
import Derived.Test.YtanoojpmokbiaaaTsA
import Derived.Test.YtanoojpmokbiaaaSame
import Derived.StillTailTactics
namespace Go.Proofs.Ytanoojpmokbiaaa
open Go.RowKit

set_option maxRecDepth 100000 in
theorem across_row (t : List (List Int)) (n m k : Nat) (h : k < (acrossL t n m).length) : (acrossL t n m)[k] = (List.range n).map fun i => ent t i k := by simp [acrossL, tabL]

end Go.Proofs.Ytanoojpmokbiaaa
