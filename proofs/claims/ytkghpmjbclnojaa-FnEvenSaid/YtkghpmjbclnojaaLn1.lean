/-
  The model's falls of rows: l2Fall, LineFall, LineFalls, LineMeets. Conditions: the rows' cells are there.
-/
import Derived.Test.YtkghpmjbclnojaaLineMath5
namespace Go.Proofs.Ytkghpmjbclnojaa
open Go.RowKit

theorem sk_bd {s : Int} {k n : Nat} (h1 : -3000 ≤ s) (h2 : s ≤ 3000) (hk : k < n) (hn : n ≤ 12) : -33000 ≤ s * (k : Int) ∧ s * (k : Int) ≤ 33000 := by
  have p1 : 0 ≤ (3000 + s) * (11 - (k : Int)) := Int.mul_nonneg (by omega) (by omega)
  have p2 : 0 ≤ (3000 - s) * (11 - (k : Int)) := Int.mul_nonneg (by omega) (by omega)
  have p3 : 0 ≤ (3000 + s) * (k : Int) := Int.mul_nonneg (by omega) (by omega)
  have p4 : 0 ≤ (3000 - s) * (k : Int) := Int.mul_nonneg (by omega) (by omega)
  simp only [Int.mul_sub, Int.sub_mul, Int.add_mul] at p1 p2 p3 p4
  constructor <;> omega
theorem fallTo_bd {zs : List Int} (hr : rowB zs = true) {s : Int} (h1 : -3000 ≤ s) (h2 : s ≤ 3000) {k : Nat} (hk : k < zs.length) : -34000 ≤ fallTo zs s k ∧ fallTo zs s k ≤ 34000 := by
  obtain ⟨j, h3, h4⟩ := fallTo_at zs s k
  have hl := (rowB_true.1 hr).2
  have a := sk_bd h1 h2 (show j < zs.length by omega) hl.2
  have b := row_getD hr j (by omega)
  rw [h4]; omega
theorem fallTo_next (zs : List Int) (s : Int) (k : Nat) (h : k + 1 < zs.length) : fallTo zs s (k + 1) = if fallTo zs s k < s * ((k : Int) + 1) - zs[k + 1] then s * ((k : Int) + 1) - zs[k + 1] else fallTo zs s k := by
  rw [fallTo, getD_in h]
  split <;> omega

theorem retInt {a b : Int} (h : a = b) : Ending.returned (.int .i64 a) = .returned (.int .i64 b) := by rw [h]
theorem retIB {a a' : Int} {b b' : Bool} (h : a = a') (k : b = b') : Ending.returned (.tuple #[.int .i64 a, .bool b]) = .returned (.tuple #[.int .i64 a', .bool b']) := by rw [h, k]
/-- What a number or none is told as. -/
def tellI (o : Option Int) : Value := .tuple #[.int .i64 (o.getD 0), .bool o.isSome]
/-- What two numbers or none are told as. -/
def tellII (o : Option (Int × Int)) : Value := .tuple #[.int .i64 (o.getD (0, 0)).1, .int .i64 (o.getD (0, 0)).2, .bool o.isSome]

theorem fallsM_no {zs : List Int} {f t : Int} (h : (rowB zs && inB (-100) 100 f && inB f 100 t) = false) : lineFallsM zs f t = none := by simp [lineFallsM, h]
theorem fall_i64 {zs : List Int} (hr : rowB zs = true) {s : Int} (h1 : -3000 ≤ s) (h2 : s ≤ 3000) : I64 (fallL zs s) := by
  have := fall_bd hr h1 h2
  exact ⟨by omega, by omega⟩

theorem meetsTo_bd {zs : List Int} (s : Int) {k : Nat} (hk : k ≤ 12) : (-1 ≤ (meetsTo zs s k).1 ∧ (meetsTo zs s k).1 ≤ 12) ∧ 0 ≤ (meetsTo zs s k).2 ∧ (meetsTo zs s k).2 ≤ 12 := by
  rcases meetsTo_spec zs s k with ⟨h1, _⟩ | ⟨i, l, h1, h2, h3, _⟩
  · rw [h1]; simp
  · rw [h1]; simp; omega
theorem meetsTo_hit {zs : List Int} {s : Int} {k : Nat} (h : s * (k : Int) - zs.getD k 0 = fallL zs s) : meetsTo zs s (k + 1) = (if (meetsTo zs s k).1 < 0 then (k : Int) else (meetsTo zs s k).1, (k : Int)) := by rw [meetsTo, if_pos h]
theorem meetsTo_skip {zs : List Int} {s : Int} {k : Nat} (h : ¬ s * (k : Int) - zs.getD k 0 = fallL zs s) : meetsTo zs s (k + 1) = meetsTo zs s k := by rw [meetsTo, if_neg h]

end Go.Proofs.Ytkghpmjbclnojaa
