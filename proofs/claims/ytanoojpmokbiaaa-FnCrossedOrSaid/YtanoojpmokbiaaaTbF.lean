/-
  tableFrom of the program: a table of what a function tells for each spot. Conditions: the function's contract.
-/
import Derived.Test.YtanoojpmokbiaaaTbA
import Derived.Test.YtanoojpmokbiaaaHeldE
namespace Go.Proofs.Ytanoojpmokbiaaa
open Go.RowKit Go.Shelf
attribute [local go_sem] Oper.semAt_some

section
variable {F : Fence} {n : Nat} {P : Program} {ops : Array Oper} {Q : Exit → Act → World → Prop} {md : Region.Mode} {S : World → Prop} {T : Nat}
set_option maxRecDepth 100000 in
theorem anyE_takeP {i : Nat} {oi : Oper} {v : Value} (hp : plainOps ops = true) (hi : ops[i]? = some oi) (hiT : i ≠ T) (hQ : ∀ c a w, Q (.panic c) (a.put oi.dst v) w → Q (.panic c) a w) :
    ∀ (fuel : Nat) (listed : Array Bool) (a : Act) (w : World),
      (∀ j oj, ops[j]? = some oj → j ≠ i → listed.getD j true = false → (∀ e ∈ oj.after, Region.binds md e = true → e.on ≠ i) → oi.apart ops oj = true) →
      i ∈ Region.ready md ops listed → Gives P ops (fun _ => True) oi v a → anyE F n P md ops Q S T fuel (listed.setIfInBounds i true) (a.put oi.dst v) w → anyE F n P md ops Q S T (fuel + 1) listed a w := by
  have hsi := (plainOps_spec hp hi).1
  intro fuel
  induction fuel with
  | zero =>
    intro listed a w _ hr hy H
    refine ⟨fun h => H.1 (by rw [getD_set_ne false hiT]; exact h), fun h => (by rw [h] at hr; cases hr), fun j hj => ?_⟩
    by_cases hji : j = i
    · subst hji; exact hy.step hp hi trivial H
    · have := ready_mono hj hji
      rw [H.2.1] at this
      cases this
  | succ fuel ih =>
    intro listed a w hfree hr hy H
    refine ⟨fun h => H.1 (by rw [getD_set_ne false hiT]; exact h), fun h => (by rw [h] at hr; cases hr), fun j hj => ?_⟩
    by_cases hji : j = i
    · subst hji; exact hy.step hp hi trivial H
    · obtain ⟨hjun, oj, hoj, hall⟩ := mem_ready.1 hj
      have hiu := (mem_ready.1 hr).1
      have hnot : ∀ e ∈ oj.after, Region.binds md e = true → e.on ≠ i := by
        intro e he hb heq
        have h1 := hall e he hb
        rw [heq] at h1
        by_cases hlt : i < listed.size
        · simp [hlt] at hiu h1; rw [hiu] at h1; cases h1
        · simp [Array.getElem?_eq_none (Nat.le_of_not_lt hlt)] at h1
      have hst := step_apart hp hsi hoj (hfree j oj hoj hji hjun hnot) hQ hy (H.2.2 j (ready_mono hj hji))
      refine wpOpIn_mono (fun a' w' hk => ?_) hst
      refine ih (listed.setIfInBounds j true) a' w' (fun k ok hk' hki hun hno => hfree k ok hk' hki ?_ hno) (ready_mono hr (Ne.symm hji)) hk.1 ?_
      · by_cases hjk : j = k
        · subst hjk; exact hjun
        · rwa [getD_set_ne true hjk] at hun
      · rw [Array.setIfInBounds_comm _ _ hji]; exact hk.2
set_option maxRecDepth 100000 in
/-- Take number i first, whatever the world. -/
theorem anyE_pure (i : Nat) {oi : Oper} {v : Value} {fuel : Nat} {listed : Array Bool} {a : Act} {w : World} (hi : ops[i]? = some oi) (hp : plainOps ops = true) (hf : Region.free md ops listed i = true) (hr : (Region.ready md ops listed).contains i = true)
    (hT : (i != T) = true) (hQ : ∀ c a w, Q (.panic c) (a.put oi.dst v) w → Q (.panic c) a w) (hw : Region.wanted oi (yielded ops a.tmps) = true) (hc : ∀ w, oi.about P w a.eval = none) (hy : ∀ w, (execOp a.eval oi).run P w = .ok (.value v) w)
    (h : anyE F n P md ops Q S T fuel (listed.setIfInBounds i true) (a.put oi.dst v) w) : anyE F n P md ops Q S T (fuel + 1) listed a w :=
  anyE_takeP hp hi (by simpa using hT) hQ fuel listed a w (Region.free_spec hi hf) (by simpa using hr) ⟨hc, .inl ⟨hw, fun w _ => hy w⟩⟩ h
set_option maxRecDepth 100000 in
/-- A call of a function value. -/
theorem wpI_callV {l : Nat} {o : Oper} {a : Act} {w : World} {K : Act → World → Prop} {f : FuncId} {fo : Operand} {ags : Array Operand} {ts : Array TypeId} {args cap : Array Value} (ho : o.op = .call { callee := .value fo, args := ags, argTypes := ts }) (hfo : a.eval fo = .func (.func f) #[] cap) (hen : ∀ args w, (callFunc f args).run P w = .ok (.enter f args) w) (ha : ags.map a.eval ++ cap = args)
    (h : Calls P f args w fun e w' => ∃ v, e = .returned v ∧ K (a.put o.dst v) w') : WpI (Fence.wide.inRound l) n P o a w K Q := by
  have hr : (execOp a.eval o).run P w = .ok (.enter f args) w := by
    unfold execOp
    subst ha
    simp only [ho, resolve, hfo]
    simp [go_sem, hen]
  refine ⟨⟨fun _ _ => trivial, ?_⟩⟩
  rw [Oper.semAt_plain _ _ _ (by rw [ho]; intro c e; cases e), hr]
  refine ⟨fun h => (by cases h), ?_⟩
  exact (callsIn_wide.2 h).mono fun e w' ⟨v, he, hK⟩ => by subst he; exact hK
set_option maxRecDepth 100000 in
theorem wpListIn_sk {F : Fence} {N : Nat} {ops : Array Oper} {rest : List Oper} {o : Oper} {a : Act} {w w' : World} (hg : o.guard = none) (hd : ∀ c, o.op ≠ .defer c) (hab : o.about P w a.eval = none)
    (hr : (execOp a.eval o).run P w = .ok .skip w') (h : wpListIn F N P ops Q rest (a.put o.dst undef) w') : wpListIn F N P ops Q (o :: rest) a w := by
  refine wpListIn_plain hg fun K hK => ?_
  unfold Oper.wpIn
  refine ⟨fun f hf => (by rw [hab] at hf; cases hf), ?_⟩
  rw [Oper.semAt_plain F _ _ hd, hr]
  exact hK _ _ h
end
set_option maxRecDepth 100000 in
theorem run_stT {o : Oper} {ρ : Operand → Value} {w : World} {x y : Operand} (ho : o.op = .store 50 x y) {B n m n' m' : Nat} {f f' : Nat → Nat → Int} (hx : ρ x = .pointer (some ⟨B, 0, none⟩)) (hy : ρ y = .agg (tabV n' m' f')) (hb : BT w B n m f) : (execOp ρ o).run Try.prog w = .ok .skip (w.setRow B (tabV n' m' f')) := by
  unfold execOp
  simp only [ho, hx, hy, Instr.storeAt, Instr.sureAddr, Sem.run_bind, Sem.run_pure, Result.andThen_ok, run_storeVar_row (P := Try.prog) w B 50 50 (tabV n m f) (tabV n' m' f') hb (by rw [tabV_size]; kernel_rfl) (by rw [tabV_size, tabV_size]) (tabV_one _ _ _)]
set_option maxRecDepth 100000 in
theorem wpListIn_stT {F : Fence} {N : Nat} {ops : Array Oper} {rest : List Oper} {o : Oper} {a : Act} {w : World} {Q : Exit → Act → World → Prop} (hg : o.guard = none) (x y : Operand) (ho : o.op = .store 50 x y) {B n m n' m' : Nat} {f f' : Nat → Nat → Int} (hx : a.eval x = .pointer (some ⟨B, 0, none⟩)) (hy : a.eval y = .agg (tabV n' m' f')) (hb : BT w B n m f)
    (h : wpListIn F N Try.prog ops Q rest (a.put o.dst undef) (w.setRow B (tabV n' m' f'))) : wpListIn F N Try.prog ops Q (o :: rest) a w :=
  wpListIn_sk hg (by rw [ho]; intro c e; cases e) (by unfold Oper.about; rw [ho]) (run_stT ho hx hy hb) h
set_option maxRecDepth 100000 in
theorem wpListIn_alT {F : Fence} {N : Nat} {ops : Array Oper} {rest : List Oper} {o : Oper} {a : Act} {w : World} {Q : Exit → Act → World → Prop} (hg : o.guard = none) (ho : o.op = .alloc 50)
    (h : wpListIn F N Try.prog ops Q rest (a.put o.dst (.pointer (some ⟨w.heap.size, 0, none⟩))) (w.alloc (.cells (tabV 0 0 zF) 50))) : wpListIn F N Try.prog ops Q (o :: rest) a w :=
  wpListIn_op hg (by rw [ho]; intro c e; cases e) (by unfold Oper.about; rw [ho]) (run_alT ho) h
set_option maxRecDepth 100000 in
theorem wpListIn_bu2 {F : Fence} {N : Nat} {ops : Array Oper} {rest : List Oper} {o : Oper} {a : Act} {w : World} {Q : Exit → Act → World → Prop} (hg : o.guard = none) (x y : Operand) (ho : o.op = .build 50 #[(0, x), (1, y)]) {n m : Nat} (hx : a.eval x = .int .i64 (n : Int)) (hy : a.eval y = .int .i64 (m : Int))
    (h : wpListIn F N Try.prog ops Q rest (a.put o.dst (.agg (tabV n m zF))) w) : wpListIn F N Try.prog ops Q (o :: rest) a w :=
  wpListIn_op hg (by rw [ho]; intro c e; cases e) (by unfold Oper.about; rw [ho]) (by unfold execOp; simp only [ho, Sem.run_bind, List.map_toArray, List.map_cons, List.map_nil, hx, hy, run_build w _ _ _ (built2 n m), Result.andThen_ok, Sem.run_pure]) h

/-- What the function answers at a spot. -/
def FnT (w : World) (fn : FuncId) (cap : Array Value) (n m : Nat) (f : Nat → Nat → Int) : Prop :=
  ∀ i k, i < n → k < m → ∀ W, Below w.heap.size w W → Calls Try.prog fn (#[.int .i64 (i : Int), .int .i64 (k : Int)] ++ cap) W fun e W' => e = .returned (.int .i64 (f i k)) ∧ Below W.heap.size W W'
def fromP (m : Nat) (f : Nat → Nat → Int) (pre : List Nat) (g : Nat → Nat → Int) : Nat → Nat → Int := pre.foldl (fun g x => putF g (x / m) (x % m) (f (x / m) (x % m))) g
set_option maxRecDepth 100000 in
theorem fromP_snoc (m : Nat) (f : Nat → Nat → Int) (pre : List Nat) (x : Nat) (g : Nat → Nat → Int) : fromP m f (pre ++ [x]) g = putF (fromP m f pre g) (x / m) (x % m) (f (x / m) (x % m)) := by simp [fromP]
set_option maxRecDepth 100000 in
theorem fromP_keep (m : Nat) (f : Nat → Nat → Int) (a b : Nat) : ∀ (pre : List Nat) (g : Nat → Nat → Int), g a b = f a b → fromP m f pre g a b = f a b := by
  intro pre
  induction pre with
  | nil => intro g h; exact h
  | cons x pre ih =>
    intro g h
    refine ih _ ?_
    show (if a = x / m ∧ b = x % m then f (x / m) (x % m) else g a b) = f a b
    split
    · next e => rw [e.1, e.2]
    · exact h
set_option maxRecDepth 100000 in
theorem fromP_at (m : Nat) (f : Nat → Nat → Int) (a b : Nat) : ∀ (pre : List Nat) (g : Nat → Nat → Int) (x : Nat), x ∈ pre → x / m = a → x % m = b → fromP m f pre g a b = f a b := by
  intro pre
  induction pre with
  | nil => intro g x h; cases h
  | cons y pre ih =>
    intro g x h h1 h2
    rcases List.mem_cons.1 h with rfl | h
    · refine fromP_keep m f a b pre _ ?_
      show (if a = x / m ∧ b = x % m then f (x / m) (x % m) else g a b) = f a b
      rw [if_pos ⟨h1.symm, h2.symm⟩, h1, h2]
    · exact ih _ x h h1 h2

end Go.Proofs.Ytanoojpmokbiaaa
