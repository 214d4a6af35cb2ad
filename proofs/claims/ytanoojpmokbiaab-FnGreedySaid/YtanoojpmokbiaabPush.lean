/-
  'out = append(out, x)' on a list of integers of the call's own: one step of the walk. Conditions: the list stays below 2^44 entries.
-/
import Derived.Test.YtanoojpmokbiaabSpec
import Derived.Deep.RegionHeld3
import Derived.IntWalk
import Derived.Deep.AppendLies
import Derived.Maps.AppendAt
namespace Go.Proofs.Ytanoojpmokbiaab
open Go.RowKit

/-- The value is a list of the call's own (blocks from base on). -/
def OwnI (w : World) (base : Nat) (v : Value) (zs : List Int) : Prop :=
  w.ownsRow base 3 1 v zs.length (zs.map (Value.int .i64)) ∧ (∀ z, z ∈ zs → I64 z) ∧ base ≤ w.heap.size

theorem OwnI.nil (w : World) (base : Nat) (h : base ≤ w.heap.size) : OwnI w base (.slice none 0 0) [] := ⟨World.ownsRow_nil _ _ _ _, by simp, h⟩

theorem OwnI.made (w : World) : OwnI (w.alloc (.cells #[] 3)) w.heap.size (.slice (some ⟨w.heap.size, 0, none⟩) 0 0) [] :=
  ⟨World.ownsRow_made w #[] 0 (Nat.le_refl _) (by unfold maxLen; omega) rfl, by simp, by simp⟩

theorem OwnI.iw {w : World} {base : Nat} {v : Value} {zs : List Int} (h : OwnI w base v zs) (hl : zs.length ≤ 17592186044416) :
    ∃ A c, v = .slice A zs.length c ∧ IW w base w.heap.size A zs := by
  obtain ⟨ho, hz, hb⟩ := h
  have hcell := ho
  rcases ho.2 with ⟨rfl, h0⟩ | ⟨g, cap, cur, rfl, hg, hh, hn, hcap, hs, ht⟩
  · have : zs = [] := by simpa using h0
    subst this
    exact ⟨none, 0, rfl, ⟨by simp, by simp, Nat.le_refl _, fun h => absurd h (by simp)⟩⟩
  · refine ⟨some ⟨g, 0, none⟩, cap, rfl, hl, hz, Nat.le_refl _, fun _ => ⟨g, 0, rfl, hg, (Array.getElem?_eq_some_iff.1 hh).1, fun j hj => ⟨?_, ?_⟩⟩⟩
    · have := hcell.cellAt j (by simpa using hj)
      simpa [hj] using this
    · simp [World.frozen?, hh]

theorem OwnI.below {w w' : World} {base C : Nat} {v : Value} {zs : List Int} (h : OwnI w base v zs) (hb : Below C w w') (hC : w.heap.size ≤ C) : OwnI w' base v zs := by
  obtain ⟨ho, hz, hs⟩ := h
  refine ⟨⟨ho.1, ?_⟩, hz, Nat.le_trans hs hb.size⟩
  rcases ho.2 with h0 | ⟨g, cap, cur, e, hg, hh, r⟩
  · exact .inl h0
  · exact .inr ⟨g, cap, cur, e, hg, (hb.block g (Nat.lt_of_lt_of_le (Array.getElem?_eq_some_iff.1 hh).1 hC)).trans hh, r⟩
theorem OwnI.alloc {w : World} {base : Nat} {v : Value} {zs : List Int} (h : OwnI w base v zs) {o : Obj} : OwnI (w.alloc o) base v zs :=
  h.below ((Below.refl w.heap.size w).alloc (Nat.le_refl _) o) (Nat.le_refl _)
theorem OwnI.drew {w : World} {base : Nat} {v : Value} {zs : List Int} (h : OwnI w base v zs) : OwnI w.drew base v zs := h
theorem OwnI.drewN {w : World} {base : Nat} {v : Value} {zs : List Int} (h : OwnI w base v zs) (n : Nat) : OwnI (w.drewN n) base v zs := h

theorem run_push_grown (w : World) (base : Nat) (v : Value) (zs : List Int) (hown : OwnI w base v zs) (G : Nat) (y : Int) (hc : w.cell? ⟨G, 0, none⟩ = some (.int .i64 y)) (hl : zs.length < 17592186044416) (hy : I64 y) (ty : TypeId) :
    ∃ v' w', (Builtin.append_ #[24, 24] ty #[v, .slice (some ⟨G, 0, none⟩) 1 1]).run Try.prog w = .ok v' w' ∧ OwnI w' base v' (zs ++ [y]) ∧ w.grownBy w' v.ownBlock := by
  obtain ⟨i0, hi, hz0, hz1, hz2⟩ := info_parts info_int
  obtain ⟨v', w', hrun, h2, h3, _⟩ := run_append_own (P := Try.prog) w base 24 ty 3 i0 (.int .i64 0) 1 8 Try.underlying24 hi hz0 hz1 hz2 rfl (by decide) v zs.length (zs.map (Value.int .i64)) hown.1 ⟨G, 0, none⟩ 1 1 [.int .i64 y] rfl
    (fun j u hj => by
      match j, hj with
      | 0, hj => simp at hj; subst hj; simpa [Addr.add] using hc) (by simp [Value.oneCell']) (by unfold maxLen; omega) (by omega) hown.2.2
  refine ⟨v', w', hrun, ⟨by simpa using h2, ?_, Nat.le_trans hown.2.2 h3.size⟩, h3⟩
  intro z hz
  rcases List.mem_append.1 hz with hz | hz
  · exact hown.2.1 z hz
  · obtain rfl := List.mem_singleton.1 hz; exact hy

theorem run_push (w : World) (base : Nat) (v : Value) (zs : List Int) (hown : OwnI w base v zs) (G : Nat) (y : Int) (hc : w.cell? ⟨G, 0, none⟩ = some (.int .i64 y)) (hl : zs.length < 17592186044416) (hy : I64 y) (ty : TypeId) :
    ∃ v' w', (Builtin.append_ #[24, 24] ty #[v, .slice (some ⟨G, 0, none⟩) 1 1]).run Try.prog w = .ok v' w' ∧ OwnI w' base v' (zs ++ [y]) ∧ Below base w w' := by
  obtain ⟨v', w', hrun, h2, h3⟩ := run_push_grown w base v zs hown G y hc hl hy ty
  exact ⟨v', w', hrun, h2, (Below.refl base w).grown h3 hown.2.2 fun k hk => (hown.1.lt k hk).1⟩

theorem wp_push {o : Oper} {a : Act} {w : World} {K : Act → World → Prop} {Q : Exit → Act → World → Prop} (s x : Operand)
    (ho : o.op = .call { callee := .builtin .append, args := #[s, x], argTypes := #[24, 24] })
    (base : Nat) (v : Value) (zs : List Int) (y : Int) (G : Nat) (hs : a.eval s = v) (hx : a.eval x = .slice (some ⟨G, 0, none⟩) 1 1) (hown : OwnI w base v zs) (hc : w.cell? ⟨G, 0, none⟩ = some (.int .i64 y))
    (hl : zs.length < 17592186044416) (hy : I64 y)
    (h : ∀ v' w', OwnI w' base v' (zs ++ [y]) → Below base w w' → K (a.put o.dst v') w') : o.wp Try.prog a w K Q := by
  obtain ⟨v', w', hrun, h2, h3⟩ := run_push w base v zs hown G y hc hl hy o.type
  unfold Oper.wp execOp
  simp only [ho, resolve, invoke, builtin, Sem.run_bind, Sem.run_pure, Result.andThen_ok, List.map_toArray, List.map_cons, List.map_nil, hs, hx, hrun]
  exact h v' w' h2 h3

theorem OwnI.push_of {w w' : World} {base : Nat} {o : Obj} (h : base ≤ w.heap.size) (hb : Below base (w.alloc o) w') : Below base w w' := ((Below.refl base w).alloc h o).trans hb

/-- In a plain region. -/
theorem wpList_push {ops : Array Oper} {rest : List Oper} {o : Oper} {a : Act} {W : World} {y : Int} {Q : Exit → Act → World → Prop} (hgd : o.guard = none) (s x : Operand)
    (ho : o.op = .call { callee := .builtin .append, args := #[s, x], argTypes := #[24, 24] })
    (base : Nat) (v : Value) (zs : List Int) (hs : a.eval s = v) (hx : a.eval x = .slice (some ⟨W.heap.size, 0, none⟩) 1 1) (hown : OwnI W base v zs)
    (hl : zs.length < 17592186044416) (hy : I64 y)
    (h : ∀ v' w', OwnI w' base v' (zs ++ [y]) → Below base W w' → wpList Try.prog ops Q rest (a.put o.dst v') w') : wpList Try.prog ops Q (o :: rest) a (W.alloc (.cells #[.int .i64 y] 3)) :=
  wpList_plain hgd fun _ hK => wp_push s x ho base v zs y W.heap.size hs hx hown.alloc (by rw [World.cell?_alloc_at _ _ _ _ rfl]; rfl) hl hy fun v' w' h2 h3 => hK _ _ (h v' w' h2 (OwnI.push_of hown.2.2 h3))

/-- In a region that draws its order. -/
theorem step_push {ops : Array Oper} {o : Oper} {a : Act} {W : World} {y : Int} {K : Act → World → Prop} {Q : Exit → Act → World → Prop} {E : Prop} (hgd : o.guard = none) (s x : Operand)
    (ho : o.op = .call { callee := .builtin .append, args := #[s, x], argTypes := #[24, 24] })
    (base : Nat) (v : Value) (zs : List Int) (hs : a.eval s = v) (hx : a.eval x = .slice (some ⟨W.heap.size, 0, none⟩) 1 1) (hown : OwnI W base v zs)
    (hl : zs.length < 17592186044416) (hy : I64 y)
    (h : ∀ v' w', OwnI w' base v' (zs ++ [y]) → Below base W w' → K (a.put o.dst v') w') :
    if Region.wanted o (yielded ops a.tmps) = true then Oper.wp Try.prog o a (W.alloc (.cells #[.int .i64 y] 3)).drew K Q else E := by
  rw [if_pos (show Region.wanted o (yielded ops a.tmps) = true by simp [Region.wanted, hgd])]
  exact wp_push s x ho base v zs y W.heap.size hs hx hown.alloc.drew (by show (W.alloc _).cell? _ = _; rw [World.cell?_alloc_at _ _ _ _ rfl]; rfl) hl hy fun v' w' h2 h3 => h v' w' h2 (OwnI.push_of hown.2.2 ⟨h3.os, h3.tape, h3.output, h3.size, h3.block⟩)

theorem take_snoc (l : List Int) (k : Nat) (h : k < l.length) : l.take k ++ [l[k]] = l.take (k + 1) := by
  rw [List.take_add_one, List.getElem?_eq_getElem h]; rfl

/-- The slopes of a list. -/
def slopesL : List Int → List Int
  | [] => []
  | [_] => []
  | x :: y :: zs => (y - x) :: slopesL (y :: zs)
theorem slopesL_len (zs : List Int) : (slopesL zs).length = zs.length - 1 := by
  induction zs using slopesL.induct <;> simp_all [slopesL]
theorem slopesL_get (zs : List Int) (k : Nat) (h : k + 1 < zs.length) : (slopesL zs)[k]'(by rw [slopesL_len]; omega) = zs[k + 1] - zs[k] := by
  induction zs using slopesL.induct generalizing k with
  | case1 => simp at h
  | case2 => simp at h
  | case3 x y zs ih =>
    cases k with
    | zero => simp [slopesL]
    | succ k => have := ih k (by simpa using h); simp only [slopesL, List.getElem_cons_succ] at this ⊢; exact this

theorem take_slopes (zs : List Int) (k : Nat) (h : k + 1 < zs.length) : (slopesL zs).take k ++ [zs[k + 1] - zs[k]] = (slopesL zs).take (k + 1) := by
  rw [← slopesL_get zs k h]
  exact take_snoc _ _ _

def rowSlopesM (zs : List Int) : Option (List Int) := if rowB zs then some (slopesL zs) else none

end Go.Proofs.Ytanoojpmokbiaab
