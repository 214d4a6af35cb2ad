/-
  The program's steps of all rows in order: sharers.steps. Conditions: the rows' cells are there.
-/
import Derived.Test.YtanoojpmokbiaabGrB
import Derived.RangeFuncBox
import Derived.LoopNIn
namespace Go.Proofs.Ytanoojpmokbiaab
open Go.RowKit Go.Shelf Go.Lib Go.Sort

theorem info_step : (Try.prog.info? 61).map (fun i => (i.zero, i.size, i.bytes)) = some (some (.agg #[.int .i64 0, .int .i64 0]), 2, 16) := by kernel_rfl
/-- The value is a list of steps of the call's own. -/
def OwnS (W : World) (base : Nat) (v : Value) (L : List (Nat × Int)) : Prop := W.ownsRow base 61 2 v L.length (L.flatMap encS) ∧ base ≤ W.heap.size
theorem OwnS.nil (W : World) (base : Nat) (h : base ≤ W.heap.size) : OwnS W base (.slice none 0 0) [] := ⟨World.ownsRow_nil _ _ _ _, h⟩
theorem OwnS.alloc {W : World} {base : Nat} {v : Value} {L : List (Nat × Int)} (h : OwnS W base v L) (o : Obj) : OwnS (W.alloc o) base v L := ⟨World.ownsRow.alloc h.1 o, Nat.le_trans h.2 (by simp)⟩
set_option maxRecDepth 100000 in
theorem wpListIn_pushS {F : Fence} {n : Nat} {ops : Array Oper} {rest : List Oper} {o : Oper} {a : Act} {W : World} {Q : Exit → Act → World → Prop} (y : Nat × Int) (hgd : o.guard = none) (s x : Operand)
    (ho : o.op = .call { callee := .builtin .append, args := #[s, x], argTypes := #[57, 57] })
    (base : Nat) (v : Value) (L : List (Nat × Int)) (hs : a.eval s = v) (hx : a.eval x = .slice (some ⟨W.heap.size, 0, none⟩) 1 1) (hown : OwnS W base v L) (hl : L.length < 1000000)
    (h : ∀ v' w', OwnS w' base v' (L ++ [y]) → (W.alloc (.cells #[.int .i64 (y.1 : Int), .int .i64 y.2] 61)).grownBy w' v.ownBlock → wpListIn F n Try.prog ops Q rest (a.put o.dst v') w') :
    wpListIn F n Try.prog ops Q (o :: rest) a (W.alloc (.cells #[.int .i64 (y.1 : Int), .int .i64 y.2] 61)) := by
  refine wpListIn_plain hgd fun K hK => ?_
  obtain ⟨i0, hi, hz0, hz1, hz2⟩ := info_parts info_step
  have hnw := World.alloc_heap_new W (.cells #[.int .i64 (y.1 : Int), .int .i64 y.2] 61)
  obtain ⟨v', w', hrun, h2, h3, _⟩ := run_append_own (P := Try.prog) (W.alloc (.cells #[.int .i64 (y.1 : Int), .int .i64 y.2] 61)) base 57 o.type 61 i0 (.agg #[.int .i64 0, .int .i64 0]) 2 16 Try.underlying57 hi hz0 hz1 hz2 rfl (by decide) v L.length (L.flatMap encS) (hown.alloc _).1 ⟨W.heap.size, 0, none⟩ 1 1 (encS y) rfl
    (fun j u hj => by
      have e : (⟨W.heap.size, 0, none⟩ : Addr).add j = ⟨W.heap.size, 0 + j, none⟩ := by unfold Addr.add; split <;> simp_all
      rw [e, Nat.zero_add, cell_of_row _ _ j _ _ _ hnw]
      match j, hj with
      | 0, hj => simpa [encS] using hj
      | 1, hj => simpa [encS] using hj) (by intro u hu; simp [encS] at hu; rcases hu with rfl | rfl <;> rfl) (by unfold maxLen; omega) (by omega) (Nat.le_trans hown.2 (by simp))
  have hown' : OwnS w' base v' (L ++ [y]) := ⟨by rw [List.length_append, List.flatMap_append, List.flatMap_singleton]; exact h2, Nat.le_trans (hown.alloc _).2 h3.size⟩
  unfold Oper.wpIn
  refine ⟨?_, ?_⟩
  · simp [Oper.about, ho, resolve, Target.leads, Sem.run_pure]
  · rw [Oper.semAt_plain F _ _ (by rw [ho]; intro c hc'; cases hc')]
    simp only [execOp, ho, resolve, invoke, builtin, Sem.run_bind, Sem.run_pure, Result.andThen_ok, List.map_toArray, List.map_cons, List.map_nil, hs, hx, hrun]
    exact hK _ _ (h v' w' hown' h3)

/-- The list of steps in its variable, and whatever else is held while rows are gone through. -/
structure StI (W w : World) (B Bi i : Nat) (L : List (Nat × Int)) : Prop where
  own : ∃ v, Boxed W B 57 v ∧ OwnS W B v L
  box : Boxed W Bi 3 (.int .i64 (i : Int))
  below : Below w.heap.size w W
/-- The marks of the ranges that have ended. -/
def Marks (W : World) (B : Nat) (ds : List Nat) : Prop := ds.Pairwise (fun a b => b < a) ∧ ∀ D, D ∈ ds → B < D ∧ W.heap[D]? = some (.deferred (some []))
theorem Marks.grow {W W' : World} {B : Nat} {ds : List Nat} (h : Marks W B ds) (hk : KeepsOthers W W') : Marks W' B ds := ⟨h.1, fun D hD => ⟨(h.2 D hD).1, hk.same D _ (h.2 D hD).2 rfl⟩⟩
def dsOf (ds : List Nat) : List Deferred := ds.map fun D => { target := .collected D, args := #[] }
/-- At the function's return the marks are taken one by one. -/
theorem marks_leave {F : Fence} {n : Nat} {P : Program} {fn : Func} {tmps : Array Value} {R : Ending → World → Prop} {B : Nat} : ∀ (ds : List Nat) (W : World), Marks W B ds → (∀ W', Below B W W' → (∀ k, k < W.heap.size → k ∉ ds → W'.heap[k]? = W.heap[k]?) → LeavesIn F n P fn tmps R [] .returning W') →
    LeavesInM F n P fn tmps R (dsOf ds) .returning W
  | [], W, _, h => h W (Below.refl _ _) (fun _ _ _ => rfl)
  | D :: ds, W, hm, h => by
    obtain ⟨h1, h2⟩ := hm
    obtain ⟨hB, hD⟩ := h2 D (by simp)
    have hp := List.pairwise_cons.1 h1
    refine ⟨by simp, .inl ⟨D, _, rfl, run_takeDeferred hD, ?_⟩⟩
    refine marks_leave (B := B) ds _ ⟨hp.2, fun E hE => ?_⟩ fun W' hb hk => h W' ?_ ?_
    · have := hp.1 E hE
      exact ⟨(h2 E (by simp [hE])).1, (World.putObj_heap_other (by omega)).trans (h2 E (by simp [hE])).2⟩
    · exact ((Below.refl B W).grown (grownBy_putObj' W D (.deferred none)) (by have := (Array.getElem?_eq_some_iff.1 hD).1; omega) (fun k e => by cases e; omega)).trans hb
    · intro k hk' hn
      rw [hk k (by rw [show (W.putObj D (.deferred none)).heap.size = W.heap.size by simp [World.putObj]]; exact hk') (fun e => hn (by simp [e]))]
      exact World.putObj_heap_other (fun e => hn (by simp [e]))

theorem flat_at : ∀ (L : List (Nat × Int)) (j : Nat), j < L.length * 2 → (L.flatMap encS)[j]? = some ((encS (L.toArray[j / 2]!))[j % 2]!)
  | [], j, h => by simp at h
  | x :: L, 0, _ => by simp [encS]
  | x :: L, 1, _ => by simp [encS]
  | x :: L, j + 2, h => by
    have ih := flat_at L j (by simp at h; omega)
    rw [List.flatMap_cons, List.getElem?_append_right (by simp [encS])]
    rw [show j + 2 - (encS x).length = j by simp [encS], ih]
    have e1 : (j + 2) / 2 = j / 2 + 1 := by omega
    have e2 : (j + 2) % 2 = j % 2 := by omega
    have e3 : (x :: L).toArray[j / 2 + 1]! = L.toArray[j / 2]! := by
      have hl : j / 2 < L.length := by simp at h; omega
      rw [getElem!_pos _ _ (by simpa using hl), getElem!_pos _ _ (by simpa using hl)]
      simp
    rw [e1, e2, e3]
theorem OwnS.holds {W : World} {base g k cap : Nat} {L : List (Nat × Int)} (h : OwnS W base (.slice (some ⟨g, 0, none⟩) k cap) L) : k = L.length ∧ base ≤ g ∧ g < W.heap.size ∧ HoldsK encS 2 W g 0 L.toArray := by
  have h0 := h.1
  rcases h0.2 with ⟨e, _⟩ | ⟨g', cap', cur, e, hb, hh, hn, hc, hs, ht⟩
  · cases e
  · injection e with e1 e2 e3
    injection e1 with e1; injection e1 with e1 _ _
    subst e1; subst e2; subst e3
    refine ⟨rfl, hb, (Array.getElem?_eq_some_iff.1 hh).1, fun j hj => ⟨?_, by simp [World.frozen?, hh]⟩⟩
    rw [size_flatK, List.size_toArray] at hj
    rw [Nat.zero_add, h0.cellAt j hj, flat_at L j hj, get_flatK _ _ _ _ (by rw [List.size_toArray]; exact hj)]
    rfl
/-- Behind an append to the list in its variable. -/
theorem push_box {W w1 : World} {B : Nat} {v v' : Value} {L L' : List (Nat × Int)} {tmp : Obj} (hv : Boxed W B 57 v) (ho : OwnS W B v L) (ho1 : OwnS w1 B v' L') (hg : (W.alloc tmp).grownBy w1 v.ownBlock) :
    Boxed w1 B 57 v ∧ Boxed (w1.setCell ⟨B, 0, none⟩ v') B 57 v' ∧ OwnS (w1.setCell ⟨B, 0, none⟩ v') B v' L' ∧ KeepsOthers W (w1.setCell ⟨B, 0, none⟩ v') ∧ Below B W (w1.setCell ⟨B, 0, none⟩ v') := by
  obtain ⟨h1, h2, h3, h4, h5⟩ := hv.appended (by decide) ho.1 ho.2 (Nat.le_refl _) ho1.1 hg
  exact ⟨h1, h2, ⟨h3, by simpa [World.setCell] using ho1.2⟩, h4, h5⟩
/-- Another variable keeps what it holds. -/
theorem push_other {W w1 : World} {B B2 : Nat} {t : TypeId} {u v v' : Value} {L : List (Nat × Int)} {tmp : Obj} (hu : Boxed W B2 t u) (ht : t ≠ 61) (hB : B2 ≠ B) (ho : OwnS W B v L) (hg : (W.alloc tmp).grownBy w1 v.ownBlock) : Boxed (w1.setCell ⟨B, 0, none⟩ v') B2 t u :=
  ((hu.alloc tmp).kept hg (hu.not_row ht ho.1)).other hB v'
theorem push_same {W w1 : World} {B B2 : Nat} {t : TypeId} {u v v' : Value} {L : List (Nat × Int)} {tmp : Obj} (hu : Boxed W B2 t u) (ht : t ≠ 61) (hB : B2 ≠ B) (ho : OwnS W B v L) (hg : (W.alloc tmp).grownBy w1 v.ownBlock) : (w1.setCell ⟨B, 0, none⟩ v').heap[B2]? = W.heap[B2]? :=
  (push_other (v' := v') hu ht hB ho hg).trans hu.symm
theorem ownS_own {β : Type} (C base : Nat) (v : Value) (L : β → List (Nat × Int)) : OwnFrom C (fun s W => OwnS W base v (L s)) := fun s X Y row h hg hr => by
  refine ⟨h.1.kept hg ?_, Nat.le_trans h.2 hg.size⟩
  rcases h.1.2 with ⟨rfl, _⟩ | ⟨g, cap, cur, rfl, _, hgb, _⟩
  · exact .inl rfl
  · refine .inr fun e' => ?_
    obtain ⟨_, o, ho, hc⟩ := hr g (by simpa [Value.ownBlock] using e'.symm)
    rw [hgb] at ho; cases ho; cases hc
theorem ownS_some {W : World} {base : Nat} {v : Value} {L : List (Nat × Int)} {y : Nat × Int} (h : OwnS W base v (L ++ [y])) : ∃ g cap, v = .slice (some ⟨g, 0, none⟩) (L.length + 1) cap := by
  have := h.1
  rw [List.length_append, List.length_singleton] at this
  exact ownsRow_succ this
/-- The world behind a sort: another block lies as it lay. -/
theorem sw_block {W : World} {g m k : Nat} {d : Array (Nat × Int)} {os : Array Obj} (hk : k ≠ g) (hs : k < W.heap.size) : (sortWorldK encS 2 W g 0 m d os).heap[k]? = W.heap[k]? := by
  unfold sortWorldK grow putRowK Sort.putRow Sort.mapBlock Sort.ahead
  show (Array.modify _ _ _ ++ os)[k]? = _
  rw [Array.getElem?_append_left (by simpa using hs), Array.getElem?_modify]
  rw [if_neg (Ne.symm hk)]
theorem sw_size {W : World} {g m : Nat} {d : Array (Nat × Int)} {os : Array Obj} : W.heap.size ≤ (sortWorldK encS 2 W g 0 m d os).heap.size := by
  unfold sortWorldK grow putRowK Sort.putRow Sort.mapBlock Sort.ahead
  show _ ≤ (Array.modify _ _ _ ++ os).size
  simp
theorem sw_below {W : World} {B g m : Nat} {d : Array (Nat × Int)} {os : Array Obj} (hg : B ≤ g) (hB : B ≤ W.heap.size) : Below B W (sortWorldK encS 2 W g 0 m d os) :=
  ⟨rfl, rfl, rfl, sw_size, fun k hk => sw_block (by omega) (by omega)⟩
theorem holdsK_block {W W' : World} {g : Nat} {d : Array (Nat × Int)} (h : HoldsK encS 2 W g 0 d) (hb : W'.heap[g]? = W.heap[g]?) : HoldsK encS 2 W' g 0 d := fun j hj =>
  ⟨(World.cell?_of_block (a := ⟨g, 0 + j, none⟩) hb).trans (h j hj).1, (World.frozen?_of_block (a := ⟨g, 0 + j, none⟩) hb).trans (h j hj).2⟩
theorem ltS (x y : Nat × Int) : ltOf cfS x y = true ↔ x.2 < y.2 ∨ (x.2 = y.2 ∧ x.1 < y.1) := by
  unfold ltOf cfS
  rw [decide_eq_true_iff]
  rcases Int.lt_trichotomy x.2 y.2 with h | h | h
  · simp [h]
  · rcases Nat.lt_trichotomy x.1 y.1 with h' | h' | h'
    · simp [h, h']
    · simp [h, h']
    · simp [h, h', Nat.lt_asymm h']
  · simp [h, Int.lt_asymm h, Int.ne_of_gt h]
theorem ltS_no (x y : Nat × Int) : ltOf cfS x y = false ↔ ¬ (x.2 < y.2 ∨ (x.2 = y.2 ∧ x.1 < y.1)) := by rw [← ltS, Bool.not_eq_true]
theorem swoS : SWO (ltOf cfS) where
  irrefl x := by rw [ltS_no]; omega
  trans x y z h1 h2 := by rw [ltS] at *; omega
  ntrans x y z h1 h2 := by rw [ltS_no] at *; omega
theorem totS (x y : Nat × Int) (h1 : ltOf cfS x y = false) (h2 : ltOf cfS y x = false) : x = y := by
  rw [ltS_no] at h1 h2
  obtain ⟨a, b⟩ := x
  obtain ⟨c, d⟩ := y
  simp only at h1 h2
  have : a = c := by omega
  have : b = d := by omega
  subst_vars; rfl
theorem cmpS (blk off size : Nat) (w : World) : CmpLays Try.prog 37 #[] encS 2 cfS blk off size w := fun _ _ _ _ x y => flatter_any x y _
theorem OwnS.below {w w' : World} {base C : Nat} {v : Value} {L : List (Nat × Int)} (h : OwnS w base v L) (hb : Below C w w') (hC : w.heap.size ≤ C) : OwnS w' base v L := by
  obtain ⟨ho, hs⟩ := h
  refine ⟨⟨ho.1, ?_⟩, Nat.le_trans hs hb.size⟩
  rcases ho.2 with h0 | ⟨g, cap, cur, e, hg, hh, r⟩
  · exact .inl h0
  · exact .inr ⟨g, cap, cur, e, hg, (hb.block g (Nat.lt_of_lt_of_le (Array.getElem?_eq_some_iff.1 hh).1 hC)).trans hh, r⟩
end Go.Proofs.Ytanoojpmokbiaab
