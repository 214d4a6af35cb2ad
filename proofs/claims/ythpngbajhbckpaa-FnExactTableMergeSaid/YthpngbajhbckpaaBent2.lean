/-
  RowBent of the program. Conditions: the list's cells are there.
-/
import Derived.Test.YthpngbajhbckpaaBent
namespace Go.Proofs.Ythpngbajhbckpaa
open Go.RowKit

end Go.Proofs.Ythpngbajhbckpaa
