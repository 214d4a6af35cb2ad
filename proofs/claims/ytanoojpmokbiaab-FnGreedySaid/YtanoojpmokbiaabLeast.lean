/-
  RowLeast of the model: the least entry, its first place and its last. Conditions: the row's cells are there.
-/
import Derived.Test.YtanoojpmokbiaabImp2
namespace Go.Proofs.Ytanoojpmokbiaab
open Go.RowKit

/-- One more entry is looked at. -/
def lstep (zs : List Int) (s : Nat × Nat) (i : Nat) : Nat × Nat := (if zs.getD i 0 < zs.getD s.1 0 then i else s.1, if zs.getD i 0 ≤ zs.getD s.2 0 then i else s.2)
def leastTo (zs : List Int) : Nat → Nat × Nat
  | 0 => (0, 0)
  | k + 1 => lstep zs (leastTo zs k) k
theorem lstep_eq {zs : List Int} {s : Nat × Nat} (h : zs.getD s.2 0 = zs.getD s.1 0) (i : Nat) : zs.getD (lstep zs s i).2 0 = zs.getD (lstep zs s i).1 0 := by
  unfold lstep
  by_cases h1 : zs.getD i 0 < zs.getD s.1 0
  · have h2 : zs.getD i 0 ≤ zs.getD s.2 0 := by omega
    simp only [h1, h2, if_true]
  · by_cases h2 : zs.getD i 0 ≤ zs.getD s.2 0
    · simp only [h1, h2, if_true, if_false]; omega
    · simp only [h1, h2, if_false]; exact h
theorem leastTo_lt (zs : List Int) (k : Nat) : (leastTo zs (k + 1)).1 ≤ k ∧ (leastTo zs (k + 1)).2 ≤ k := by
  induction k with
  | zero => simp [leastTo, lstep]
  | succ k ih =>
    show (lstep zs (leastTo zs (k + 1)) (k + 1)).1 ≤ k + 1 ∧ (lstep zs (leastTo zs (k + 1)) (k + 1)).2 ≤ k + 1
    unfold lstep
    constructor
    · show (if _ then _ else _) ≤ _; split <;> first | exact Nat.le_refl _ | omega
    · show (if _ then _ else _) ≤ _; split <;> first | exact Nat.le_refl _ | omega
theorem leastTo_one (zs : List Int) : leastTo zs 1 = (0, 0) := by simp [leastTo, lstep]

theorem results4 {fn : Func} {t u v x : Tmp} (h : fn.results = #[.tmp t, .tmp u, .tmp v, .tmp x]) (tmps : Array Value) (P : Program) (w : World) :
    (results fn tmps).run P w = .ok (.tuple #[tmps.getD t undef, tmps.getD u undef, tmps.getD v undef, tmps.getD x undef]) w := by
  simp only [results, h]
  simp

def leastV (zs : List Int) : Value := if rowB zs then .tuple #[.int .i64 (zs.getD (leastTo zs zs.length).1 0), .int .i64 ((leastTo zs zs.length).1 : Int), .int .i64 ((leastTo zs zs.length).2 : Int), .bool true] else .tuple #[.int .i64 0, .int .i64 0, .int .i64 0, .bool false]
def leastA (zs : List Int) : Int := if rowB zs then zs.getD (leastTo zs zs.length).1 0 else 0
def leastB (zs : List Int) : Int := if rowB zs then ((leastTo zs zs.length).1 : Int) else 0
def leastC (zs : List Int) : Int := if rowB zs then ((leastTo zs zs.length).2 : Int) else 0

end Go.Proofs.Ytanoojpmokbiaab
