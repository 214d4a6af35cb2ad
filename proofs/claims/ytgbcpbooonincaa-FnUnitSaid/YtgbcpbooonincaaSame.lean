/-
  The laws' helpers sameInts: two lists that are alike. Conditions: the lists' cells are there.
-/
import Derived.Test.YtgbcpbooonincaaFrom
namespace Go.Proofs.Ytgbcpbooonincaa
open Go.RowKit

end Go.Proofs.Ytgbcpbooonincaa
