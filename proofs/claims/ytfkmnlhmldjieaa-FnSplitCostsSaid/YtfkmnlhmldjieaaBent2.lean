/-
  RowBent of the program. Conditions: the list's cells are there.
-/
import Derived.Test.YtfkmnlhmldjieaaBent
namespace Go.Proofs.Ytfkmnlhmldjieaa
open Go.RowKit

end Go.Proofs.Ytfkmnlhmldjieaa
