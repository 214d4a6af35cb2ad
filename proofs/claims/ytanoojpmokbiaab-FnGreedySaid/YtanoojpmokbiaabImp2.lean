/-
  The program's functions that make a row entry by entry: RowSum, RowHigh, RowLow, RowTimes, RowTilt, RowBack. Conditions: the rows' cells are there.
-/
import Derived.Test.YtanoojpmokbiaabSp1
namespace Go.Proofs.Ytanoojpmokbiaab
open Go.RowKit

theorem isRow_true (A : Option Addr) (c lo hi : Nat) (zs : List Int) (w : World) (h : IR w lo hi A zs) (hr : rowB zs = true) :
    Calls Try.prog 45 #[.slice A zs.length c] w fun e w' => e = .returned (.bool true) ∧ Below w.heap.size w w' := by
  have := isRow_any A c zs w h.toAll; rwa [hr] at this
theorem isRow_false (A : Option Addr) (c lo hi : Nat) (zs : List Int) (w : World) (h : IR w lo hi A zs) (hr : rowB zs = false) :
    Calls Try.prog 45 #[.slice A zs.length c] w fun e w' => e = .returned (.bool false) ∧ Below w.heap.size w w' := by
  have := isRow_any A c zs w h.toAll; rwa [hr] at this

/-- What a function of two entries answers. -/
def JoinFn (jf : FuncId) (J : Int → Int → Int) : Prop := ∀ (x y : Int) (w : World), -1000 ≤ x → x ≤ 1000 → -1000 ≤ y → y ≤ 1000 → Calls Try.prog jf #[.int .i64 x, .int .i64 y] w fun e w' => e = .returned (.int .i64 (J x y)) ∧ w' = w

end Go.Proofs.Ytanoojpmokbiaab
