/-
  A region whose order Go leaves open, inside a loop over an iterator: what only reads may be taken first, as long as a condition S holds, till the operation T, which waits for all of them, has come up. Conditions: no select, no defer among the operations.
-/
import Derived.Test.YtanoojpmokbiaabHeld
import Derived.WalkKit
import Derived.Test.YtanoojpmokbiaabBase
namespace Go.Proofs.Ytanoojpmokbiaab

section
variable {F : Fence} {n : Nat} {P : Program} {ops : Array Oper} {Q : Exit → Act → World → Prop} {md : Region.Mode} {S : World → Prop} {T : Nat}

/-- wpAnyIn, S shown anew behind each operation, till T has come up. -/
def anyE (F : Fence) (n : Nat) (P : Program) (md : Region.Mode) (ops : Array Oper) (Q : Exit → Act → World → Prop) (S : World → Prop) (T : Nat) : Nat → Array Bool → Act → World → Prop
  | 0, listed, a, w => (listed.getD T false = false → S w) ∧ Region.ready md ops listed = [] ∧ Q .normal a w
  | fuel + 1, listed, a, w => (listed.getD T false = false → S w) ∧ (Region.ready md ops listed = [] → Q .normal a w) ∧
      ∀ i ∈ Region.ready md ops listed, wpOpIn F n P ops Q i (anyE F n P md ops Q S T fuel (listed.setIfInBounds i true)) a w

theorem anyE_sound : ∀ (fuel : Nat) (listed : Array Bool) (a : Act) (w : World), anyE F n P md ops Q S T fuel listed a w → wpAnyIn F n P md ops Q fuel listed a w
  | 0, _, _, _, h => h.2
  | fuel + 1, _, _, _, h => ⟨h.2.1, fun i hi => wpOpIn_mono (fun a w => anyE_sound fuel _ a w) (h.2.2 i hi)⟩

/-- T waits for i. -/
def waitsFor (md : Region.Mode) (ops : Array Oper) (T i : Nat) : Bool := match ops[T]? with
  | some o => o.after.any fun e => Region.binds md e && e.on == i
  | none => false

theorem anyE_take {i : Nat} {oi : Oper} {v : Value} (hp : plainOps ops = true) (hi : ops[i]? = some oi) (hT : waitsFor md ops T i = true) (hQ : ∀ c a w, Q (.panic c) (a.put oi.dst v) w → Q (.panic c) a w) :
    ∀ (fuel : Nat) (listed : Array Bool) (a : Act) (w : World),
      (∀ j oj, ops[j]? = some oj → j ≠ i → listed.getD j true = false → (∀ e ∈ oj.after, Region.binds md e = true → e.on ≠ i) → oi.apart ops oj = true) →
      i ∈ Region.ready md ops listed → listed.getD T false = false → Gives P ops S oi v a → S w → anyE F n P md ops Q S T fuel (listed.setIfInBounds i true) (a.put oi.dst v) w → anyE F n P md ops Q S T (fuel + 1) listed a w := by
  have hsi := (plainOps_spec hp hi).1
  intro fuel
  induction fuel with
  | zero =>
    intro listed a w _ hr _ hy hS H
    refine ⟨fun _ => hS, fun h => (by rw [h] at hr; cases hr), fun j hj => ?_⟩
    by_cases hji : j = i
    · subst hji; exact hy.step hp hi hS H
    · have := ready_mono hj hji
      rw [H.2.1] at this
      cases this
  | succ fuel ih =>
    intro listed a w hfree hr hlT hy hS H
    refine ⟨fun _ => hS, fun h => (by rw [h] at hr; cases hr), fun j hj => ?_⟩
    by_cases hji : j = i
    · subst hji; exact hy.step hp hi hS H
    · obtain ⟨hjun, oj, hoj, hall⟩ := mem_ready.1 hj
      have hiu := (mem_ready.1 hr).1
      have hnot : ∀ e ∈ oj.after, Region.binds md e = true → e.on ≠ i := by
        intro e he hb heq
        have h1 := hall e he hb
        rw [heq] at h1
        by_cases hlt : i < listed.size
        · simp [hlt] at hiu h1; rw [hiu] at h1; cases h1
        · simp [Array.getElem?_eq_none (Nat.le_of_not_lt hlt)] at h1
      have hjT : j ≠ T := fun e => by
        subst e
        unfold waitsFor at hT
        rw [hoj] at hT
        simp only [Array.any_eq_true] at hT
        obtain ⟨k, hk, he⟩ := hT
        rw [Bool.and_eq_true, beq_iff_eq] at he
        exact hnot _ (Array.getElem_mem hk) he.1 he.2
      have hst := step_apart hp hsi hoj (hfree j oj hoj hji hjun hnot) hQ hy (H.2.2 j (ready_mono hj hji))
      have hl2 : (listed.setIfInBounds j true).getD T false = false := by
        rw [getD_set_ne false hjT]; exact hlT
      refine wpOpIn_mono (fun a' w' hk => ?_) hst
      refine ih (listed.setIfInBounds j true) a' w' (fun k ok hk' hki hun hno => hfree k ok hk' hki ?_ hno) (ready_mono hr (Ne.symm hji)) hl2 hk.1 ?_ ?_
      · by_cases hjk : j = k
        · subst hjk; exact hjun
        · rwa [getD_set_ne true hjk] at hun
      · have hiT : i ≠ T := fun e => by
          subst e
          unfold waitsFor at hT
          rw [hi] at hT
          simp only [Array.any_eq_true] at hT
          obtain ⟨k, hk2, he⟩ := hT
          rw [Bool.and_eq_true, beq_iff_eq] at he
          obtain ⟨_, oi', hoi', hall'⟩ := mem_ready.1 hr
          rw [hi] at hoi'
          injection hoi' with hoi'
          subst hoi'
          have h1 := hall' _ (Array.getElem_mem hk2) he.1
          rw [he.2] at h1
          by_cases hlt : i < listed.size
          · simp [hlt] at hiu h1; rw [hiu] at h1; cases h1
          · simp [Array.getElem?_eq_none (Nat.le_of_not_lt hlt)] at h1
        have hl3 : ((listed.setIfInBounds i true).setIfInBounds j true).getD T false = false := by
          rw [getD_set_ne false hjT, getD_set_ne false hiT]; exact hlT
        cases fuel with
        | zero => exact hk.2.1 hl3
        | succ fuel => exact hk.2.1 hl3
      · rw [Array.setIfInBounds_comm _ _ hji]; exact hk.2

/-- Begin. -/
theorem region_anyE {id : Nat} {a : Act} {w : World} (S : World → Prop) (T : Nat) (hm : P.follows .mixedOrders = true) (h : anyE F n P .any ops Q S T ops.size (Array.replicate ops.size false) a w.drew) : (Code.region id ops true).wpIn F n P Q a w :=
  wpIn_region_any hm (anyE_sound _ _ _ _ h)
/-- Take number i first. -/
theorem anyE_first (i : Nat) {oi : Oper} {v : Value} {fuel : Nat} {listed : Array Bool} {a : Act} {w : World} (hi : ops[i]? = some oi) (hp : plainOps ops = true) (hf : Region.free md ops listed i = true) (hr : (Region.ready md ops listed).contains i = true)
    (hT : (waitsFor md ops T i && !listed.getD T false) = true) (hQ : ∀ c a w, Q (.panic c) (a.put oi.dst v) w → Q (.panic c) a w) (hS : S w) (hw : Region.wanted oi (yielded ops a.tmps) = true) (hc : ∀ w, oi.about P w a.eval = none) (hy : ∀ w, S w → (execOp a.eval oi).run P w = .ok (.value v) w)
    (h : anyE F n P md ops Q S T fuel (listed.setIfInBounds i true) (a.put oi.dst v) w) : anyE F n P md ops Q S T (fuel + 1) listed a w := by
  rw [Bool.and_eq_true, Bool.not_eq_true'] at hT
  exact anyE_take hp hi hT.1 hQ fuel listed a w (Region.free_spec hi hf) (by simpa using hr) hT.2 ⟨hc, .inl ⟨hw, hy⟩⟩ hS h
/-- A step, closed: nobody runs it to see what it is. -/
structure WpI (F : Fence) (n : Nat) (P : Program) (o : Oper) (a : Act) (w : World) (K : Act → World → Prop) (Q : Exit → Act → World → Prop) : Prop where
  out : o.wpIn F n P a w K Q
/-- One alone may come up. -/
theorem anyE_one (i : Nat) {oi : Oper} {fuel : Nat} {listed : Array Bool} {a : Act} {w : World} (hi : ops[i]? = some oi) (hw : Region.wanted oi (yielded ops a.tmps) = true) (hr : Region.ready md ops listed = [i]) (hS : listed.getD T false = false → S w)
    (h : WpI F n P oi a w (anyE F n P md ops Q S T fuel (listed.setIfInBounds i true)) Q) : anyE F n P md ops Q S T (fuel + 1) listed a w :=
  ⟨hS, fun h0 => (by rw [hr] at h0; cases h0), fun j hj => by
    rw [hr] at hj
    obtain rfl := List.mem_singleton.1 hj
    unfold wpOpIn
    simp only [hi]
    rw [if_pos hw]
    exact h.out⟩
theorem anyE_done {fuel : Nat} {listed : Array Bool} {a : Act} {w : World} (hr : Region.ready md ops listed = []) (hS : listed.getD T false = false → S w) (h : Q .normal a w) : anyE F n P md ops Q S T fuel listed a w := by
  cases fuel with
  | zero => exact ⟨hS, hr, h⟩
  | succ fuel => exact ⟨hS, fun _ => h, by rw [hr]; simp⟩
theorem wpI_op {o : Oper} {a : Act} {w w' : World} {K : Act → World → Prop} {v : Value} (hd : ∀ c, o.op ≠ .defer c) (hab : o.about P w a.eval = none) (hr : (execOp a.eval o).run P w = .ok (.value v) w') (h : K (a.put o.dst v) w') : WpI F n P o a w K Q := by
  refine ⟨⟨fun f hf => (by rw [hab] at hf; cases hf), ?_⟩⟩
  rw [Oper.semAt_plain F _ _ hd, hr]
  exact h
/-- A store of one number. -/
theorem wpI_store {o : Oper} {a : Act} {w : World} {K : Act → World → Prop} {x y : Operand} (ho : o.op = .store 3 x y) {p : Addr} {v : Int} {u : Value} (hx : a.eval x = .pointer (some p)) (hy : a.eval y = .int .i64 v) (hc : w.cell? p = some u) (hf : w.frozen? p = false)
    (h : K (a.put o.dst undef) (w.setCell p (.int .i64 v))) : WpI F n Try.prog o a w K Q := by
  refine ⟨⟨fun f hf => ?_, ?_⟩⟩
  · unfold Oper.about at hf; rw [ho] at hf; cases hf
  · rw [Oper.semAt_plain F _ _ (by rw [ho]; intro c e; cases e)]
    have hr : (execOp a.eval o).run Try.prog w = .ok .skip (w.setCell p (.int .i64 v)) := by
      unfold execOp
      simp only [ho, hx, hy]
      simp [go_sem, hc, hf]
    rw [hr]
    exact h
end
end Go.Proofs.Ytanoojpmokbiaab
