/-
  RowFrom of the program: the row with a first entry and slopes. Conditions: the list's cells are there.
-/
import Derived.Test.YtkghpmjbclnojaaFrom
namespace Go.Proofs.Ytkghpmjbclnojaa
open Go.RowKit

/-- As wpList_push, for a list whose type is row. -/
theorem wpList_pushRow {ops : Array Oper} {rest : List Oper} {o : Oper} {a : Act} {W : World} {y : Int} {Q : Exit → Act → World → Prop} (hgd : o.guard = none) (s x : Operand)
    (ho : o.op = .call { callee := .builtin .append, args := #[s, x], argTypes := #[97, 97] })
    (base : Nat) (v : Value) (zs : List Int) (hs : a.eval s = v) (hx : a.eval x = .slice (some ⟨W.heap.size, 0, none⟩) 1 1) (hown : OwnI W base v zs)
    (hl : zs.length < 17592186044416) (hy : I64 y)
    (h : ∀ v' w', OwnI w' base v' (zs ++ [y]) → Below base W w' → wpList Try.prog ops Q rest (a.put o.dst v') w') : wpList Try.prog ops Q (o :: rest) a (W.alloc (.cells #[.int .i64 y] 3)) := by
  refine wpList_plain hgd fun K hK => ?_
  obtain ⟨i0, hi, hz0, hz1, hz2⟩ := info_parts info_int
  have hown' : OwnI (W.alloc (.cells #[.int .i64 y] 3)) base v zs := hown.alloc
  have hc : (W.alloc (.cells #[.int .i64 y] 3)).cell? ⟨W.heap.size, 0, none⟩ = some (.int .i64 y) := by rw [World.cell?_alloc_at _ _ _ _ rfl]; rfl
  obtain ⟨v', w', hrun, h2, h3, _⟩ := run_append_own (P := Try.prog) (W.alloc (.cells #[.int .i64 y] 3)) base 97 o.type 3 i0 (.int .i64 0) 1 8 Try.underlying97 hi hz0 hz1 hz2 rfl (by decide) v zs.length (zs.map (Value.int .i64)) hown'.1 ⟨W.heap.size, 0, none⟩ 1 1 [.int .i64 y] rfl
    (fun j u hj => by
      match j, hj with
      | 0, hj => simp at hj; subst hj; simp [Addr.add]) (by simp [Value.oneCell']) (by unfold maxLen; omega) (by omega) hown'.2.2
  have ho2 : OwnI w' base v' (zs ++ [y]) := by
    refine ⟨by simpa using h2, ?_, Nat.le_trans hown'.2.2 h3.size⟩
    intro z hz
    rcases List.mem_append.1 hz with hz | hz
    · exact hown.2.1 z hz
    · obtain rfl := List.mem_singleton.1 hz; exact hy
  have hb2 : Below base W w' := OwnI.push_of hown.2.2 ((Below.refl base _).grown h3 hown'.2.2 fun k hk => (hown'.1.lt k hk).1)
  unfold Oper.wp execOp
  simp only [ho, resolve, invoke, builtin, Sem.run_bind, Sem.run_pure, Result.andThen_ok, List.map_toArray, List.map_cons, List.map_nil, hs, hx, hrun]
  exact hK _ _ (h v' w' ho2 hb2)

theorem fromM_long {x : Int} {ss : List Int} (h : 12 ≤ ss.length) : fromM x ss = none := by
  unfold fromM
  cases hr : rowB (fromL x ss) with
  | false => rfl
  | true => have := (rowB_true.1 hr).2; rw [fromL_len] at this; omega

end Go.Proofs.Ytkghpmjbclnojaa
