/-
  RowBent of the program. Conditions: the list's cells are there.
-/
import Derived.Test.YtanmjaljcnihlabBent
namespace Go.Proofs.Ytanmjaljcnihlab
open Go.RowKit

end Go.Proofs.Ytanmjaljcnihlab
