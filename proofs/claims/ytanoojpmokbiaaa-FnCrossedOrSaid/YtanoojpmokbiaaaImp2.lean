/-
  The program's functions that make a row entry by entry: RowSum, RowHigh, RowLow, RowTimes, RowTilt, RowBack. Conditions: the rows' cells are there.
-/
import Derived.Test.YtanoojpmokbiaaaSp1
namespace Go.Proofs.Ytanoojpmokbiaaa
open Go.RowKit

/-- What a function of two entries answers. -/
def JoinFn (jf : FuncId) (J : Int → Int → Int) : Prop := ∀ (x y : Int) (w : World), -1000 ≤ x → x ≤ 1000 → -1000 ≤ y → y ≤ 1000 → Calls Try.prog jf #[.int .i64 x, .int .i64 y] w fun e w' => e = .returned (.int .i64 (J x y)) ∧ w' = w

end Go.Proofs.Ytanoojpmokbiaaa
