/-
  slices.Collect over the slopes of a row: the list of the slopes; and RowSlopes of the program. Conditions: the row's cells are there.
-/
import Derived.Test.YtanoojpmokbiaabIter2
namespace Go.Proofs.Ytanoojpmokbiaab
open Go.RowKit Go.Shelf
attribute [local go_sem] Oper.semAt_some

set_option maxHeartbeats 1000000 in
theorem slopes_any (A : Option Addr) (m c : Nat) (w : World) :
    Calls Try.prog 50 #[.slice A m c] w fun e w' => e = .returned (.func (.func 62) #[] #[.pointer (some ⟨w.heap.size, 0, none⟩)]) ∧ w' = w.alloc (.cells #[.slice A m c] 56) := by
  have hmf : ∀ (fn : Fn) (first cap : Array Value) (w : World), (Instr.makeFunc fn first cap).run Try.prog w = .ok (.func fn first cap) w := fun _ _ _ _ => rfl
  go_enter Try.func50, Try.ntmps50
  go_wp2
  go_ret
  exact ⟨rfl, rfl⟩

/-- The value that slopes hands back: a loop over it. -/
theorem slopes_stops (n : Nat) (Bn n₀ c : Nat) (A : Option Addr) (zs : List Int) (hr : rowB zs = true) (w : World) (hBn : Bn < n₀) (hn₀ : n₀ ≤ w.heap.size)
    (hc : w.cell? ⟨Bn, 0, none⟩ = some (.slice A zs.length c)) (hL : IR w 0 n₀ A zs) :
    SeqStopsK Fence.wide n Try.prog 62 #[.pointer (some ⟨Bn, 0, none⟩)] (fun x : Fin (slopesL zs).length => #[.int .i64 (slopesL zs)[x]]) (Below n₀) (fun ys => ys = List.finRange (slopesL zs).length) (fun _ => True) (slopesL zs).length w := fun l J Jx W hW hA _ hY h0 =>
  slopes1_in n l Bn n₀ c A zs hr J Jx W hA hY ((hW.cell (p := ⟨Bn, 0, none⟩) (by show Bn < _; omega)).trans hc) hBn (hL.below hW hn₀) h0

theorem wpListIn_push {F : Fence} {n : Nat} {ops : Array Oper} {rest : List Oper} {o : Oper} {a : Act} {W : World} {y : Int} {Q : Exit → Act → World → Prop} (hgd : o.guard = none) (s x : Operand)
    (ho : o.op = .call { callee := .builtin .append, args := #[s, x], argTypes := #[24, 24] })
    (base : Nat) (v : Value) (zs : List Int) (hs : a.eval s = v) (hx : a.eval x = .slice (some ⟨W.heap.size, 0, none⟩) 1 1) (hown : OwnI W base v zs)
    (hl : zs.length < 17592186044416) (hy : I64 y)
    (h : ∀ v' w', OwnI w' base v' (zs ++ [y]) → W.grownBy w' v.ownBlock → wpListIn F n Try.prog ops Q rest (a.put o.dst v') w') : wpListIn F n Try.prog ops Q (o :: rest) a (W.alloc (.cells #[.int .i64 y] 3)) := by
  refine wpListIn_plain hgd fun K hK => ?_
  obtain ⟨v', w', hrun, h2, h3⟩ := run_push_grown (W.alloc (.cells #[.int .i64 y] 3)) base v zs hown.alloc W.heap.size y (by rw [World.cell?_alloc_at _ _ _ _ rfl]; rfl) hl hy o.type
  unfold Oper.wpIn
  refine ⟨?_, ?_⟩
  · simp [Oper.about, ho, resolve, Target.leads, Sem.run_pure]
  · rw [Oper.semAt_plain F _ _ (by rw [ho]; intro c hc'; cases hc')]
    simp only [execOp, ho, resolve, invoke, builtin, Sem.run_bind, Sem.run_pure, Result.andThen_ok, List.map_toArray, List.map_cons, List.map_nil, hs, hx, hrun]
    exact hK _ _ (h v' w' h2 ⟨h3.os, h3.tape, h3.output, Nat.le_trans (by simp) h3.size, fun k hk hne => (h3.block k (by simp; omega) hne).trans (Below.heap_alloc _ _ _ hk)⟩)

/-- A variable's box that holds a list of the call's own. -/
def BoxOwn (W : World) (B base : Nat) (zs : List Int) : Prop := ∃ v, Boxed W B 24 v ∧ OwnI W base v zs

theorem boxOwn_own {β : Type} (C B base : Nat) (f : β → List Int) : OwnFrom C (fun s W => BoxOwn W B base (f s) ∧ base ≤ W.heap.size) := by
  rintro s X Y row ⟨⟨v, hv, ho⟩, hs⟩ hg hrow
  have hne : ∀ g cs t, X.heap[g]? = some (.cells cs t (0, 0)) → some g ≠ row := by
    intro g cs t hh e
    obtain ⟨_, o, ho, hc⟩ := hrow g e.symm
    rw [hh] at ho; cases ho; cases hc
  refine ⟨⟨v, hv.kept hg (hne _ _ _ hv), ?_, ho.2.1, Nat.le_trans ho.2.2 hg.size⟩, Nat.le_trans hs hg.size⟩
  refine ⟨ho.1.1, ?_⟩
  rcases ho.1.2 with h0 | ⟨g, cap, cur, e, hb, hh, r⟩
  · exact .inl h0
  · exact .inr ⟨g, cap, cur, e, hb, (hg.block g (Array.getElem?_eq_some_iff.1 hh).1 (hne _ _ _ hh)).trans hh, r⟩

/-- Behind an append to the list in the box: the box still holds the old list; behind the store it holds the new one; whatever lay below base lies as it lay. -/
theorem box_push {W w1 : World} {B base : Nat} {v v' : Value} {zs zs' : List Int} (hv : Boxed W B 24 v) (ho : OwnI W base v zs) (hB : base ≤ B) (ho1 : OwnI w1 base v' zs') (hg : W.grownBy w1 v.ownBlock) :
    Boxed w1 B 24 v ∧ BoxOwn (w1.setCell ⟨B, 0, none⟩ v') B base zs' ∧ KeepsOthers W (w1.setCell ⟨B, 0, none⟩ v') ∧ Below base W (w1.setCell ⟨B, 0, none⟩ v') := by
  have hv1 : Boxed w1 B 24 v := hv.kept hg (hv.not_row (by decide) ho.1)
  refine ⟨hv1, ⟨v', hv1.set v', ⟨ho1.1.kept (grownBy_setCell' w1 B v') (.inr (hv1.not_row (by decide) ho1.1).symm), ho1.2.1, by simpa [World.setCell] using ho1.2.2⟩⟩, ?_, ?_⟩
  · refine (KeepsOthers.of_grownBy hg fun j o ej hj => ?_).trans (KeepsOthers.setCell _ _ _)
    rcases ho.1.2 with ⟨rfl, _⟩ | ⟨g, cap, cur, rfl, _, hgb, _⟩
    · simp [Value.ownBlock] at ej
    · obtain rfl : g = j := by simpa [Value.ownBlock] using ej
      rw [hgb] at hj; cases hj; rfl
  · exact ((Below.refl base W).grown hg ho.2.2 fun k hk => (ho.1.lt k hk).1).setCell (p := ⟨B, 0, none⟩) hB v'

theorem ownI_some {W : World} {base : Nat} {v : Value} {zs : List Int} {y : Int} (h : OwnI W base v (zs ++ [y])) : ∃ g cap, v = .slice (some ⟨g, 0, none⟩) (zs.length + 1) cap := by
  have := h.1
  rw [List.length_append, List.length_singleton] at this
  exact ownsRow_succ this

theorem slopes_i64 {zs : List Int} (hr : rowB zs = true) (x : Fin (slopesL zs).length) : I64 (slopesL zs)[x] := by
  have hB := (rowB_true.1 hr).1
  have hx : x.1 + 1 < zs.length := by have := x.2; have := slopesL_len zs; omega
  have e : (slopesL zs)[x] = zs[x.1 + 1] - zs[x.1] := slopesL_get zs x.1 hx
  have a1 := hB _ (List.getElem_mem hx)
  have a2 := hB _ (List.getElem_mem (show x.1 < zs.length by omega))
  rw [e]; exact ⟨by omega, by omega⟩
theorem ownI_putObj {W : World} {base : Nat} {v : Value} {zs : List Int} (h : OwnI W base v zs) {l : Nat} {o : Obj} (o' : Obj) (hl : W.heap[l]? = some o) (ho : o.isCells = false) : OwnI (W.putObj l o') base v zs :=
  ⟨ownsRow_putObj h.1 o' hl ho, h.2.1, Nat.le_trans h.2.2 (grownBy_putObj' W l o').size⟩

set_option maxRecDepth 100000 in
set_option maxHeartbeats 1000000 in
theorem appendSlopes_any (A : Option Addr) (c Bn : Nat) (zs : List Int) (hr : rowB zs = true) (w : World) (hBn : Bn < w.heap.size) (hc : w.cell? ⟨Bn, 0, none⟩ = some (.slice A zs.length c)) (h : IR w 0 w.heap.size A zs) :
    Calls Try.prog 61 #[.slice none 0 0, .func (.func 62) #[] #[.pointer (some ⟨Bn, 0, none⟩)]] w (RetS w (slopesL zs)) := by
  have hl := (rowB_true.1 hr).2
  have HB := Lib.hid (rowB_true.1 hr).1
  have hsl := slopesL_len zs
  have HI := Lib.hid (slopes_i64 hr)
  refine (callsIn_wide (n := 6)).1 ?_
  refine callsIn_of_wp_marks Try.func61 rfl trivial ?_ rfl
  simp only [Try.ntmps61, List.size_toArray, List.length_cons, List.length_nil, Nat.reduceAdd, Nat.reduceSub, Array.replicate_succ, Array.replicate_zero, List.push_toArray, List.append_toArray, List.nil_append, List.cons_append]
  have HSL := Lib.hid hsl
  clear hsl
  gi_wp2
  have bO := Boxed.new w 24 (.slice none 0 0)
  have hB0 : Below w.heap.size w (w.alloc (.cells #[.slice none 0 0] 24)) := (Below.refl _ w).alloc (Nat.le_refl _) _
  have hR0 := h.grow hB0
  apply (fun a₁ => wpIn_rangeFunc_ownF (F := Fence.wide) rfl (by decide) (gf := 62) (lb := #[.pointer (some ⟨Bn, 0, none⟩)]) rfl trivial (enters_of Try.func62 (by kernel_rfl) rfl)
    (slopes_stops (6 - 1) Bn w.heap.size c A zs hr _ hBn (by simp) ((hB0.cell (p := ⟨Bn, 0, none⟩) hBn).trans hc) hR0) belowK_t (belowK_b (by simp)) (Below.refl _ _) (fun _ => rfl)
    (fun pre W => (BoxOwn W w.heap.size w.heap.size (pre.map fun x => (slopesL zs)[x]) ∧ w.heap.size ≤ W.heap.size) ∧ Below w.heap.size w W)
    (fun _ _ _ => False)
    (OwnFrom.and (boxOwn_own _ _ _ _) (ownFrom_below (Nat.le_refl _) (by simp)))
    (fun _ _ _ _ _ hs _ _ => hs)
    ⟨⟨⟨_, bO, OwnI.nil _ _ (by simp)⟩, by simp⟩, hB0⟩ a₁)
  case hassign =>
    intro l x W K hK
    gi_wp2
    exact hK
  case hbody =>
    rintro l pre x W ⟨⟨⟨v, hv, ho⟩, hs⟩, hB⟩ hlt
    have hcx := hv.cell
    have hy := HI.out x
    have HV := Lib.hid hv; have HO := Lib.hid ho; have HBB := Lib.hid hB; have HY := Lib.hid hy
    have hll : (pre.map fun x => (slopesL zs)[x]).length < 17592186044416 := by have := HSL.out; simp; omega
    have HLL := Lib.hid hll
    clear hv ho hB hy hll
    gi_wp2_with (gi_at_builtin; refine wpListIn_push rfl _ _ rfl w.heap.size _ _ rfl rfl HO.out HLL.out HY.out ?_; intro v' w1 ho1 hg1; obtain ⟨g', cap', rfl⟩ := ownI_some ho1; obtain ⟨hv1, hv2, hk2, hb2⟩ := box_push HV.out HO.out (Nat.le_refl _) ho1 hg1; have hc1 := hv1.cell; have hf1 := hv1.frozen)
    simp only [List.length_map] at hv2 hk2 hb2
    exact ⟨hk2, hb2, ⟨by rw [List.map_append]; exact hv2, by have := hb2.size; omega⟩, HBB.out.trans hb2⟩
  case hdone =>
    rintro D ys W hD rfl ⟨⟨⟨v, hv, ho⟩, hs⟩, hB⟩ hK
    have hcx := hv.cell
    have e : (List.finRange (slopesL zs).length).map (fun x => (slopesL zs)[x]) = slopesL zs := by
      apply List.ext_getElem <;> simp
    rw [e] at ho
    have HO := Lib.hid ho; have HBB := Lib.hid hB; have HV := Lib.hid hv
    clear ho hB e hv
    gi_wp2
    refine ⟨by simp, .inl ⟨_, _, rfl, run_takeDeferred hK, ?_⟩⟩
    obtain ⟨A', c', rfl, hi⟩ := (ownI_putObj HO.out (.deferred none) hK rfl).iw (by have := HSL.out; omega)
    exact ⟨_, results_tmp rfl _ _ _, A', c', rfl, hi, HBB.out.trans (belowK_b (w := w) (Nat.le_refl _) W D _ _ (by simp at hD; omega) hK rfl rfl)⟩
  case hstop =>
    rintro D cd pre W _ _ h _
    exact h.elim

set_option maxHeartbeats 400000 in
theorem collectSlopes_any (A : Option Addr) (c Bn : Nat) (zs : List Int) (hr : rowB zs = true) (w : World) (hBn : Bn < w.heap.size) (hc : w.cell? ⟨Bn, 0, none⟩ = some (.slice A zs.length c)) (h : IR w 0 w.heap.size A zs) :
    Calls Try.prog 49 #[.func (.func 62) #[] #[.pointer (some ⟨Bn, 0, none⟩)]] w (RetS w (slopesL zs)) := by
  have HC := Lib.hid hc
  clear hc
  go_enter Try.func49, Try.ntmps49
  go_wp2_with (go_at_call 61; refine (appendSlopes_any _ _ _ zs hr _ hBn HC.out h).mono ?_; rintro e w' ⟨A', c', rfl, hi', hb'⟩)
  go_ret
  exact ⟨A', c', rfl, hi', hb'⟩

end Go.Proofs.Ytanoojpmokbiaab
