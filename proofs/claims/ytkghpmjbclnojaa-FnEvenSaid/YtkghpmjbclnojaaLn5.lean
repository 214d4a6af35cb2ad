/-
  The program's falls of rows: within, floorDivide, at, lineAt, fall, LineFall, LineFalls. Conditions: the rows' cells are there.
-/
import Derived.Test.YtkghpmjbclnojaaLn1
import Derived.Test.YtkghpmjbclnojaaImp2
namespace Go.Proofs.Ytkghpmjbclnojaa
open Go.RowKit Go.Shelf
attribute [local go_sem] Oper.semAt_some

theorem floor_neg {x y : Int} (hy : 0 < y) (h : x.tmod y < 0) : x.tdiv y - 1 = x / y := by
  have e1 := Int.tdiv_eq_ediv (a := x) (b := y)
  have e2 := Int.tmod_eq_emod (a := x) (b := y)
  have e3 := Int.emod_nonneg x (show y ≠ 0 by omega)
  by_cases c : 0 ≤ x ∨ y ∣ x
  · rw [if_pos c] at e2; omega
  · rw [if_neg c, Int.sign_eq_one_of_pos hy] at e1; omega
theorem floor_pos {x y : Int} (hy : 0 < y) (h : ¬ x.tmod y < 0) : x.tdiv y = x / y := by
  have e1 := Int.tdiv_eq_ediv (a := x) (b := y)
  have e2 := Int.tmod_eq_emod (a := x) (b := y)
  have e4 := Int.emod_lt_of_pos x hy
  by_cases c : 0 ≤ x ∨ y ∣ x
  · rw [if_pos c] at e1; omega
  · rw [if_neg c] at e2
    have : (y.natAbs : Int) = y := by omega
    omega
theorem snocInd {α : Type} {motive : List α → Prop} (nil : motive []) (snoc : ∀ (pre : List α) (x : α), motive pre → motive (pre ++ [x])) (l : List α) : motive l := by
  rw [← List.reverse_reverse l]
  induction l.reverse with
  | nil => simpa using nil
  | cons x r ih => rw [List.reverse_cons]; exact snoc _ _ ih
/-- The greatest one so far: of the first entry with its sign turned and those of the places seen. -/
def fallP (zs : List Int) (s : Int) (pre : List (Fin zs.length)) : Int := pre.foldl (fun (m : Int) (x : Fin zs.length) => if m < s * ((x : Nat) : Int) - zs[x] then s * ((x : Nat) : Int) - zs[x] else m) (-zs.getD 0 0)
theorem fallP_snoc (zs : List Int) (s : Int) (pre : List (Fin zs.length)) (x : Fin zs.length) : fallP zs s (pre ++ [x]) = if fallP zs s pre < s * ((x : Nat) : Int) - zs[x] then s * ((x : Nat) : Int) - zs[x] else fallP zs s pre := by
  simp [fallP, List.foldl_append]
theorem fallP_spec (zs : List Int) (s : Int) (pre : List (Fin zs.length)) : (∀ x, x ∈ pre → s * ((x : Nat) : Int) - zs[x] ≤ fallP zs s pre) ∧ (fallP zs s pre = -zs.getD 0 0 ∨ ∃ x, x ∈ pre ∧ fallP zs s pre = s * ((x : Nat) : Int) - zs[x]) ∧ -zs.getD 0 0 ≤ fallP zs s pre := by
  induction pre using snocInd with
  | nil => exact ⟨fun x hx => (by cases hx), .inl rfl, Int.le_refl _⟩
  | snoc pre x ih =>
    obtain ⟨h1, h2, h3⟩ := ih
    rw [fallP_snoc]
    by_cases c : fallP zs s pre < s * ((x : Nat) : Int) - zs[x]
    · rw [if_pos c]
      refine ⟨fun y hy => ?_, .inr ⟨x, by simp, rfl⟩, by omega⟩
      rcases List.mem_append.1 hy with hy | hy
      · have := h1 y hy; omega
      · obtain rfl := List.mem_singleton.1 hy; exact Int.le_refl _
    · rw [if_neg c]
      refine ⟨fun y hy => ?_, ?_, h3⟩
      · rcases List.mem_append.1 hy with hy | hy
        · exact h1 y hy
        · obtain rfl := List.mem_singleton.1 hy; omega
      · rcases h2 with h2 | ⟨y, hy, e⟩
        · exact .inl h2
        · exact .inr ⟨y, by simp [hy], e⟩
theorem fallP_all {zs : List Int} (h0 : 0 < zs.length) (s : Int) : fallP zs s (List.finRange zs.length) = fallL zs s := by
  obtain ⟨h1, h2, _⟩ := fallP_spec zs s (List.finRange zs.length)
  apply Int.le_antisymm
  · rcases h2 with e | ⟨x, _, e⟩
    · rw [e]; have := fall_ge zs s 0 h0; simpa using this
    · rw [e]; have := fall_ge zs s x.1 x.2; rw [getD_in x.2] at this; exact this
  · refine fall_le zs s _ h0 fun k hk => ?_
    have := h1 ⟨k, hk⟩ (List.mem_finRange _)
    rw [getD_in hk]; exact this
theorem fallP_bd {zs : List Int} (hr : rowB zs = true) {s : Int} (h1 : -3000 ≤ s) (h2 : s ≤ 3000) (pre : List (Fin zs.length)) : -34000 ≤ fallP zs s pre ∧ fallP zs s pre ≤ 34000 := by
  have hl := (rowB_true.1 hr).2
  obtain ⟨_, a, b⟩ := fallP_spec zs s pre
  have z0 := row_getD hr 0 (by omega)
  rcases a with e | ⟨x, _, e⟩
  · omega
  · have m := sk_bd h1 h2 x.2 hl.2
    have g := row_get hr x
    constructor <;> omega

end Go.Proofs.Ytkghpmjbclnojaa
