/-
  slices.Collect over the slopes of a row: the list of the slopes; and RowSlopes of the program. Conditions: the row's cells are there.
-/
import Derived.Test.YtanoojpmokbiaaaIter2
namespace Go.Proofs.Ytanoojpmokbiaaa
open Go.RowKit Go.Shelf
attribute [local go_sem] Oper.semAt_some

theorem wpListIn_push {F : Fence} {n : Nat} {ops : Array Oper} {rest : List Oper} {o : Oper} {a : Act} {W : World} {y : Int} {Q : Exit → Act → World → Prop} (hgd : o.guard = none) (s x : Operand)
    (ho : o.op = .call { callee := .builtin .append, args := #[s, x], argTypes := #[31, 31] })
    (base : Nat) (v : Value) (zs : List Int) (hs : a.eval s = v) (hx : a.eval x = .slice (some ⟨W.heap.size, 0, none⟩) 1 1) (hown : OwnI W base v zs)
    (hl : zs.length < 17592186044416) (hy : I64 y)
    (h : ∀ v' w', OwnI w' base v' (zs ++ [y]) → W.grownBy w' v.ownBlock → wpListIn F n Try.prog ops Q rest (a.put o.dst v') w') : wpListIn F n Try.prog ops Q (o :: rest) a (W.alloc (.cells #[.int .i64 y] 3)) := by
  refine wpListIn_plain hgd fun K hK => ?_
  obtain ⟨v', w', hrun, h2, h3⟩ := run_push_grown (W.alloc (.cells #[.int .i64 y] 3)) base v zs hown.alloc W.heap.size y (by rw [World.cell?_alloc_at _ _ _ _ rfl]; rfl) hl hy o.type
  unfold Oper.wpIn
  refine ⟨?_, ?_⟩
  · simp [Oper.about, ho, resolve, Target.leads, Sem.run_pure]
  · rw [Oper.semAt_plain F _ _ (by rw [ho]; intro c hc'; cases hc')]
    simp only [execOp, ho, resolve, invoke, builtin, Sem.run_bind, Sem.run_pure, Result.andThen_ok, List.map_toArray, List.map_cons, List.map_nil, hs, hx, hrun]
    exact hK _ _ (h v' w' h2 ⟨h3.os, h3.tape, h3.output, Nat.le_trans (by simp) h3.size, fun k hk hne => (h3.block k (by simp; omega) hne).trans (Below.heap_alloc _ _ _ hk)⟩)

/-- A variable's box that holds a list of the call's own. -/
def BoxOwn (W : World) (B base : Nat) (zs : List Int) : Prop := ∃ v, Boxed W B 31 v ∧ OwnI W base v zs

theorem boxOwn_own {β : Type} (C B base : Nat) (f : β → List Int) : OwnFrom C (fun s W => BoxOwn W B base (f s) ∧ base ≤ W.heap.size) := by
  rintro s X Y row ⟨⟨v, hv, ho⟩, hs⟩ hg hrow
  have hne : ∀ g cs t, X.heap[g]? = some (.cells cs t (0, 0)) → some g ≠ row := by
    intro g cs t hh e
    obtain ⟨_, o, ho, hc⟩ := hrow g e.symm
    rw [hh] at ho; cases ho; cases hc
  refine ⟨⟨v, hv.kept hg (hne _ _ _ hv), ?_, ho.2.1, Nat.le_trans ho.2.2 hg.size⟩, Nat.le_trans hs hg.size⟩
  refine ⟨ho.1.1, ?_⟩
  rcases ho.1.2 with h0 | ⟨g, cap, cur, e, hb, hh, r⟩
  · exact .inl h0
  · exact .inr ⟨g, cap, cur, e, hb, (hg.block g (Array.getElem?_eq_some_iff.1 hh).1 (hne _ _ _ hh)).trans hh, r⟩

/-- Behind an append to the list in the box: the box still holds the old list; behind the store it holds the new one; whatever lay below base lies as it lay. -/
theorem box_push {W w1 : World} {B base : Nat} {v v' : Value} {zs zs' : List Int} (hv : Boxed W B 31 v) (ho : OwnI W base v zs) (hB : base ≤ B) (ho1 : OwnI w1 base v' zs') (hg : W.grownBy w1 v.ownBlock) :
    Boxed w1 B 31 v ∧ BoxOwn (w1.setCell ⟨B, 0, none⟩ v') B base zs' ∧ KeepsOthers W (w1.setCell ⟨B, 0, none⟩ v') ∧ Below base W (w1.setCell ⟨B, 0, none⟩ v') := by
  have hv1 : Boxed w1 B 31 v := hv.kept hg (hv.not_row (by decide) ho.1)
  refine ⟨hv1, ⟨v', hv1.set v', ⟨ho1.1.kept (grownBy_setCell' w1 B v') (.inr (hv1.not_row (by decide) ho1.1).symm), ho1.2.1, by simpa [World.setCell] using ho1.2.2⟩⟩, ?_, ?_⟩
  · refine (KeepsOthers.of_grownBy hg fun j o ej hj => ?_).trans (KeepsOthers.setCell _ _ _)
    rcases ho.1.2 with ⟨rfl, _⟩ | ⟨g, cap, cur, rfl, _, hgb, _⟩
    · simp [Value.ownBlock] at ej
    · obtain rfl : g = j := by simpa [Value.ownBlock] using ej
      rw [hgb] at hj; cases hj; rfl
  · exact ((Below.refl base W).grown hg ho.2.2 fun k hk => (ho.1.lt k hk).1).setCell (p := ⟨B, 0, none⟩) hB v'

theorem ownI_some {W : World} {base : Nat} {v : Value} {zs : List Int} {y : Int} (h : OwnI W base v (zs ++ [y])) : ∃ g cap, v = .slice (some ⟨g, 0, none⟩) (zs.length + 1) cap := by
  have := h.1
  rw [List.length_append, List.length_singleton] at this
  exact ownsRow_succ this

theorem slopes_i64 {zs : List Int} (hr : rowB zs = true) (x : Fin (slopesL zs).length) : I64 (slopesL zs)[x] := by
  have hB := (rowB_true.1 hr).1
  have hx : x.1 + 1 < zs.length := by have := x.2; have := slopesL_len zs; omega
  have e : (slopesL zs)[x] = zs[x.1 + 1] - zs[x.1] := slopesL_get zs x.1 hx
  have a1 := hB _ (List.getElem_mem hx)
  have a2 := hB _ (List.getElem_mem (show x.1 < zs.length by omega))
  rw [e]; exact ⟨by omega, by omega⟩
theorem ownI_putObj {W : World} {base : Nat} {v : Value} {zs : List Int} (h : OwnI W base v zs) {l : Nat} {o : Obj} (o' : Obj) (hl : W.heap[l]? = some o) (ho : o.isCells = false) : OwnI (W.putObj l o') base v zs :=
  ⟨ownsRow_putObj h.1 o' hl ho, h.2.1, Nat.le_trans h.2.2 (grownBy_putObj' W l o').size⟩

end Go.Proofs.Ytanoojpmokbiaaa
