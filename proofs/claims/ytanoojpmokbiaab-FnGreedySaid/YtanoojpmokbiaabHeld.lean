/-
  A region whose order Go leaves open, inside a loop over an iterator: what only reads may be taken first, as long as a condition S on the world holds. Conditions: no select, no defer among the operations.
-/
import Derived.OrdersIn
import Derived.OwnWalkIn
namespace Go.Proofs.Ytanoojpmokbiaab

section
variable {F : Fence} {n : Nat} {P : Program} {ops : Array Oper} {Q : Exit → Act → World → Prop} {md : Region.Mode} {S : World → Prop}

/-- In every world that meets S the operation leaves v in its slot and does nothing else. -/
structure Gives (P : Program) (ops : Array Oper) (S : World → Prop) (o : Oper) (v : Value) (a : Act) : Prop where
  calls : ∀ w, o.about P w a.eval = none
  gives : (Region.wanted o (yielded ops a.tmps) = true ∧ ∀ w, S w → (execOp a.eval o).run P w = .ok (.value v) w) ∨ (Region.wanted o (yielded ops a.tmps) = false ∧ v = undef)

/-- The operations are neither a select nor a defer statement. -/
def plainOps (ops : Array Oper) : Bool := ops.all fun o => match o.op with | .select .. => false | .defer .. => false | _ => true
theorem plainOps_spec (h : plainOps ops = true) {j : Nat} {o : Oper} (hj : ops[j]? = some o) : (∀ cs b, o.op ≠ .select cs b) ∧ ∀ c, o.op ≠ .defer c := by
  obtain ⟨hlt, rfl⟩ := Array.getElem?_eq_some_iff.1 hj
  have hk := (Array.all_eq_true.1 h) j hlt
  constructor
  · intro cs b e; rw [e] at hk; cases hk
  · intro c e; rw [e] at hk; cases hk

theorem Gives.step {i : Nat} {o : Oper} {v : Value} {a : Act} (hp : plainOps ops = true) (hi : ops[i]? = some o) (hy : Gives P ops S o v a) {K : Act → World → Prop} {w : World} (hS : S w) (h : K (a.put o.dst v) w) :
    wpOpIn F n P ops Q i K a w := by
  have hab : ∀ f, o.about P w a.eval = some f → F.fn f := fun f hf => by rw [hy.calls w] at hf; cases hf
  unfold wpOpIn
  simp only [hi]
  rcases hy.gives with ⟨hw, hv⟩ | ⟨hw, rfl⟩
  · rw [if_pos hw]
    refine ⟨hab, ?_⟩
    rw [Oper.semAt_plain F _ _ (plainOps_spec hp hi).2, hv w hS]
    exact h
  · rw [if_neg (by rw [hw]; exact Bool.false_ne_true)]
    exact ⟨hab, h⟩

theorem Gives.other {oi : Oper} {v : Value} {a : Act} (hsi : ∀ cs b, oi.op ≠ .select cs b) (hy : Gives P ops S oi v a) {d : Option Tmp} (u : Value) (h3 : ∀ t, d = some t → t ∉ oi.looksAt ops) : Gives P ops S oi v (a.put d u) :=
  ⟨fun w => by rw [about_put oi w a d u h3]; exact hy.calls w, by rw [wanted_put oi a d u h3, execOp_put oi hsi a d u h3]; exact hy.gives⟩

/-- An operation apart from oi does the same whether oi's value already lies in its slot or not. -/
theorem step_apart {j : Nat} {oi oj : Oper} {v : Value} (hp : plainOps ops = true) (hi : ∀ cs b, oi.op ≠ .select cs b) (hj : ops[j]? = some oj) (hap : oi.apart ops oj = true)
    (hQ : ∀ c a w, Q (.panic c) (a.put oi.dst v) w → Q (.panic c) a w) {K : Act → World → Prop} {a : Act} {w : World} (hy : Gives P ops S oi v a) (h : wpOpIn F n P ops Q j K (a.put oi.dst v) w) :
    wpOpIn F n P ops Q j (fun a' w' => Gives P ops S oi v a' ∧ K (a'.put oi.dst v) w') a w := by
  obtain ⟨h1, h2, h3⟩ := Oper.apart_spec hap
  obtain ⟨hsj, hdj⟩ := plainOps_spec hp hj
  have next : ∀ u w', K ((a.put oi.dst v).put oj.dst u) w' → Gives P ops S oi v (a.put oj.dst u) ∧ K ((a.put oj.dst u).put oi.dst v) w' := fun u w' hk =>
    ⟨hy.other hi u h3, by rw [← Act.put_comm a v u h2]; exact hk⟩
  unfold wpOpIn at h ⊢
  simp only [hj] at h ⊢
  rw [wanted_put oj a oi.dst v h1, about_put oj w a oi.dst v h1] at h
  by_cases hw : Region.wanted oj (yielded ops a.tmps) = true
  · rw [if_pos hw] at h ⊢
    obtain ⟨hc, hu⟩ := h
    rw [about_put oj w a oi.dst v h1] at hc
    refine ⟨hc, ?_⟩
    rw [Oper.semAt_plain F _ _ hdj] at hu ⊢
    rw [execOp_put oj hsj a oi.dst v h1] at hu
    cases hr : (execOp a.eval oj).run P w with
    | ok x w' =>
      rw [hr] at hu
      cases x with
      | value u => exact next _ _ hu
      | skip => exact next _ _ hu
      | defer d =>
        have hd : Gives P ops S oi v { a with defers := d :: a.defers } := ⟨hy.calls, hy.gives⟩
        have hu' : K (({ a.put oi.dst v with defers := d :: (a.put oi.dst v).defers } : Act).put oj.dst undef) w' := hu
        refine ⟨hd.other hi undef h3, ?_⟩
        rw [← Act.put_comm _ v undef h2, ← Act.put_defers]
        exact hu'
      | enter f args => exact ⟨hu.1, hu.2.mono fun e w'' he => by cases e <;> first | exact next _ _ he | exact hQ _ _ _ he | exact he⟩
      | row r args => exact ⟨hu.1, hu.2.mono fun u w'' he => next _ _ he⟩
      | round l f tmps assign body => exact ⟨hu.1, hu.2.mono fun e w'' he => by cases e <;> first | exact next _ _ he | exact hQ _ _ _ he | exact he⟩
      | _ => exact hu
    | halt x w' =>
      rw [hr] at hu
      cases x with
      | panic u => exact hQ _ _ _ hu
      | _ => exact hu
  · rw [if_neg hw] at h ⊢
    exact ⟨h.1, next _ _ h.2⟩

/-- wpAnyIn, S shown anew behind each operation. -/
def anyS (F : Fence) (n : Nat) (P : Program) (md : Region.Mode) (ops : Array Oper) (Q : Exit → Act → World → Prop) (S : World → Prop) : Nat → Array Bool → Act → World → Prop
  | 0, listed, a, w => S w ∧ Region.ready md ops listed = [] ∧ Q .normal a w
  | fuel + 1, listed, a, w => S w ∧ (Region.ready md ops listed = [] → Q .normal a w) ∧
      ∀ i ∈ Region.ready md ops listed, wpOpIn F n P ops Q i (anyS F n P md ops Q S fuel (listed.setIfInBounds i true)) a w

theorem anyS_sound : ∀ (fuel : Nat) (listed : Array Bool) (a : Act) (w : World), anyS F n P md ops Q S fuel listed a w → wpAnyIn F n P md ops Q fuel listed a w
  | 0, _, _, _, h => h.2
  | fuel + 1, _, _, _, h => ⟨h.2.1, fun i hi => wpOpIn_mono (fun a w => anyS_sound fuel _ a w) (h.2.2 i hi)⟩

theorem anyS_take {i : Nat} {oi : Oper} {v : Value} (hp : plainOps ops = true) (hi : ops[i]? = some oi) (hQ : ∀ c a w, Q (.panic c) (a.put oi.dst v) w → Q (.panic c) a w) :
    ∀ (fuel : Nat) (listed : Array Bool) (a : Act) (w : World),
      (∀ j oj, ops[j]? = some oj → j ≠ i → listed.getD j true = false → (∀ e ∈ oj.after, Region.binds md e = true → e.on ≠ i) → oi.apart ops oj = true) →
      i ∈ Region.ready md ops listed → Gives P ops S oi v a → S w → anyS F n P md ops Q S fuel (listed.setIfInBounds i true) (a.put oi.dst v) w → anyS F n P md ops Q S (fuel + 1) listed a w := by
  have hsi := (plainOps_spec hp hi).1
  intro fuel
  induction fuel with
  | zero =>
    intro listed a w _ hr hy hS H
    refine ⟨hS, fun h => (by rw [h] at hr; cases hr), fun j hj => ?_⟩
    by_cases hji : j = i
    · subst hji; exact hy.step hp hi hS H
    · have := ready_mono hj hji
      rw [H.2.1] at this
      cases this
  | succ fuel ih =>
    intro listed a w hfree hr hy hS H
    refine ⟨hS, fun h => (by rw [h] at hr; cases hr), fun j hj => ?_⟩
    by_cases hji : j = i
    · subst hji; exact hy.step hp hi hS H
    · obtain ⟨hjun, oj, hoj, hall⟩ := mem_ready.1 hj
      have hiu := (mem_ready.1 hr).1
      have hnot : ∀ e ∈ oj.after, Region.binds md e = true → e.on ≠ i := by
        intro e he hb heq
        have h1 := hall e he hb
        rw [heq] at h1
        by_cases hlt : i < listed.size
        · simp [hlt] at hiu h1; rw [hiu] at h1; cases h1
        · simp [Array.getElem?_eq_none (Nat.le_of_not_lt hlt)] at h1
      have hst := step_apart hp hsi hoj (hfree j oj hoj hji hjun hnot) hQ hy (H.2.2 j (ready_mono hj hji))
      refine wpOpIn_mono (fun a' w' hk => ?_) hst
      refine ih (listed.setIfInBounds j true) a' w' (fun k ok hk' hki hun hno => hfree k ok hk' hki ?_ hno) (ready_mono hr (Ne.symm hji)) hk.1 ?_ ?_
      · by_cases hjk : j = k
        · subst hjk; exact hjun
        · rwa [getD_set_ne true hjk] at hun
      · cases fuel with
        | zero => exact hk.2.1
        | succ fuel => exact hk.2.1
      · rw [Array.setIfInBounds_comm _ _ hji]; exact hk.2

/-- Begin. -/
theorem region_anyS {id : Nat} {a : Act} {w : World} (S : World → Prop) (hm : P.follows .mixedOrders = true) (h : anyS F n P .any ops Q S ops.size (Array.replicate ops.size false) a w.drew) : (Code.region id ops true).wpIn F n P Q a w :=
  wpIn_region_any hm (anyS_sound _ _ _ _ h)
/-- Take number i first. -/
theorem anyS_first (i : Nat) {oi : Oper} {v : Value} {fuel : Nat} {listed : Array Bool} {a : Act} {w : World} (hi : ops[i]? = some oi) (hp : plainOps ops = true) (hf : Region.free md ops listed i = true) (hr : (Region.ready md ops listed).contains i = true)
    (hQ : ∀ c a w, Q (.panic c) (a.put oi.dst v) w → Q (.panic c) a w) (hS : S w) (hy : Gives P ops S oi v a)
    (h : anyS F n P md ops Q S fuel (listed.setIfInBounds i true) (a.put oi.dst v) w) : anyS F n P md ops Q S (fuel + 1) listed a w :=
  anyS_take hp hi hQ fuel listed a w (Region.free_spec hi hf) (by simpa using hr) hy hS h
/-- One alone may come up. -/
theorem anyS_one (i : Nat) {oi : Oper} {fuel : Nat} {listed : Array Bool} {a : Act} {w : World} (hi : ops[i]? = some oi) (hr : Region.ready md ops listed = [i]) (hS : S w)
    (h : wpOpIn F n P ops Q i (anyS F n P md ops Q S fuel (listed.setIfInBounds i true)) a w) : anyS F n P md ops Q S (fuel + 1) listed a w :=
  ⟨hS, fun h0 => (by rw [hr] at h0; cases h0), fun j hj => by rw [hr] at hj; obtain rfl := List.mem_singleton.1 hj; exact h⟩
theorem anyS_done {fuel : Nat} {listed : Array Bool} {a : Act} {w : World} (hr : Region.ready md ops listed = []) (hS : S w) (h : Q .normal a w) : anyS F n P md ops Q S fuel listed a w := by
  cases fuel with
  | zero => exact ⟨hS, hr, h⟩
  | succ fuel => exact ⟨hS, fun _ => h, by rw [hr]; simp⟩
end
end Go.Proofs.Ytanoojpmokbiaab
