/-
  RowBent of the program. Conditions: the list's cells are there.
-/
import Derived.Test.YtanoojpmokbiaaaBent
namespace Go.Proofs.Ytanoojpmokbiaaa
open Go.RowKit

end Go.Proofs.Ytanoojpmokbiaaa
