/-
  RowBent of the program. Conditions: the list's cells are there.
-/
import Derived.Test.YtpmmfngmnneekaaBent
namespace Go.Proofs.Ytpmmfngmnneekaa
open Go.RowKit

end Go.Proofs.Ytpmmfngmnneekaa
