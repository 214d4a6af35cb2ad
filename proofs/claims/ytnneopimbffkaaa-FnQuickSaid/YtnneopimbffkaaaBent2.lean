/-
  RowBent of the program. Conditions: the list's cells are there.
-/
import Derived.Test.YtnneopimbffkaaaBent
namespace Go.Proofs.Ytnneopimbffkaaa
open Go.RowKit

end Go.Proofs.Ytnneopimbffkaaa
