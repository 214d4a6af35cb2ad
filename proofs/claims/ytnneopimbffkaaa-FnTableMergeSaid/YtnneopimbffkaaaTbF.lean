/-
  tableFrom of the program: a table of what a function tells for each spot. Conditions: the function's contract.
-/
import Derived.Test.YtnneopimbffkaaaTbA
import Derived.Test.YtnneopimbffkaaaHeldE
namespace Go.Proofs.Ytnneopimbffkaaa
open Go.RowKit Go.Shelf
attribute [local go_sem] Oper.semAt_some

section
variable {F : Fence} {n : Nat} {P : Program} {ops : Array Oper} {Q : Exit → Act → World → Prop} {md : Region.Mode} {S : World → Prop} {T : Nat}
set_option maxRecDepth 100000 in
theorem anyE_takeP {i : Nat} {oi : Oper} {v : Value} (hp : plainOps ops = true) (hi : ops[i]? = some oi) (hiT : i ≠ T) (hQ : ∀ c a w, Q (.panic c) (a.put oi.dst v) w → Q (.panic c) a w) :
    ∀ (fuel : Nat) (listed : Array Bool) (a : Act) (w : World),
      (∀ j oj, ops[j]? = some oj → j ≠ i → listed.getD j true = false → (∀ e ∈ oj.after, Region.binds md e = true → e.on ≠ i) → oi.apart ops oj = true) →
      i ∈ Region.ready md ops listed → Gives P ops (fun _ => True) oi v a → anyE F n P md ops Q S T fuel (listed.setIfInBounds i true) (a.put oi.dst v) w → anyE F n P md ops Q S T (fuel + 1) listed a w := by
  have hsi := (plainOps_spec hp hi).1
  intro fuel
  induction fuel with
  | zero =>
    intro listed a w _ hr hy H
    refine ⟨fun h => H.1 (by rw [getD_set_ne false hiT]; exact h), fun h => (by rw [h] at hr; cases hr), fun j hj => ?_⟩
    by_cases hji : j = i
    · subst hji; exact hy.step hp hi trivial H
    · have := ready_mono hj hji
      rw [H.2.1] at this
      cases this
  | succ fuel ih =>
    intro listed a w hfree hr hy H
    refine ⟨fun h => H.1 (by rw [getD_set_ne false hiT]; exact h), fun h => (by rw [h] at hr; cases hr), fun j hj => ?_⟩
    by_cases hji : j = i
    · subst hji; exact hy.step hp hi trivial H
    · obtain ⟨hjun, oj, hoj, hall⟩ := mem_ready.1 hj
      have hiu := (mem_ready.1 hr).1
      have hnot : ∀ e ∈ oj.after, Region.binds md e = true → e.on ≠ i := by
        intro e he hb heq
        have h1 := hall e he hb
        rw [heq] at h1
        by_cases hlt : i < listed.size
        · simp [hlt] at hiu h1; rw [hiu] at h1; cases h1
        · simp [Array.getElem?_eq_none (Nat.le_of_not_lt hlt)] at h1
      have hst := step_apart hp hsi hoj (hfree j oj hoj hji hjun hnot) hQ hy (H.2.2 j (ready_mono hj hji))
      refine wpOpIn_mono (fun a' w' hk => ?_) hst
      refine ih (listed.setIfInBounds j true) a' w' (fun k ok hk' hki hun hno => hfree k ok hk' hki ?_ hno) (ready_mono hr (Ne.symm hji)) hk.1 ?_
      · by_cases hjk : j = k
        · subst hjk; exact hjun
        · rwa [getD_set_ne true hjk] at hun
      · rw [Array.setIfInBounds_comm _ _ hji]; exact hk.2
set_option maxRecDepth 100000 in
/-- Take number i first, whatever the world. -/
theorem anyE_pure (i : Nat) {oi : Oper} {v : Value} {fuel : Nat} {listed : Array Bool} {a : Act} {w : World} (hi : ops[i]? = some oi) (hp : plainOps ops = true) (hf : Region.free md ops listed i = true) (hr : (Region.ready md ops listed).contains i = true)
    (hT : (i != T) = true) (hQ : ∀ c a w, Q (.panic c) (a.put oi.dst v) w → Q (.panic c) a w) (hw : Region.wanted oi (yielded ops a.tmps) = true) (hc : ∀ w, oi.about P w a.eval = none) (hy : ∀ w, (execOp a.eval oi).run P w = .ok (.value v) w)
    (h : anyE F n P md ops Q S T fuel (listed.setIfInBounds i true) (a.put oi.dst v) w) : anyE F n P md ops Q S T (fuel + 1) listed a w :=
  anyE_takeP hp hi (by simpa using hT) hQ fuel listed a w (Region.free_spec hi hf) (by simpa using hr) ⟨hc, .inl ⟨hw, fun w _ => hy w⟩⟩ h
set_option maxRecDepth 100000 in
/-- A call of a function value. -/
theorem wpI_callV {l : Nat} {o : Oper} {a : Act} {w : World} {K : Act → World → Prop} {f : FuncId} {fo : Operand} {ags : Array Operand} {ts : Array TypeId} {args cap : Array Value} (ho : o.op = .call { callee := .value fo, args := ags, argTypes := ts }) (hfo : a.eval fo = .func (.func f) #[] cap) (hen : ∀ args w, (callFunc f args).run P w = .ok (.enter f args) w) (ha : ags.map a.eval ++ cap = args)
    (h : Calls P f args w fun e w' => ∃ v, e = .returned v ∧ K (a.put o.dst v) w') : WpI (Fence.wide.inRound l) n P o a w K Q := by
  have hr : (execOp a.eval o).run P w = .ok (.enter f args) w := by
    unfold execOp
    subst ha
    simp only [ho, resolve, hfo]
    simp [go_sem, hen]
  refine ⟨⟨fun _ _ => trivial, ?_⟩⟩
  rw [Oper.semAt_plain _ _ _ (by rw [ho]; intro c e; cases e), hr]
  refine ⟨fun h => (by cases h), ?_⟩
  exact (callsIn_wide.2 h).mono fun e w' ⟨v, he, hK⟩ => by subst he; exact hK
set_option maxRecDepth 100000 in
theorem wpListIn_sk {F : Fence} {N : Nat} {ops : Array Oper} {rest : List Oper} {o : Oper} {a : Act} {w w' : World} (hg : o.guard = none) (hd : ∀ c, o.op ≠ .defer c) (hab : o.about P w a.eval = none)
    (hr : (execOp a.eval o).run P w = .ok .skip w') (h : wpListIn F N P ops Q rest (a.put o.dst undef) w') : wpListIn F N P ops Q (o :: rest) a w := by
  refine wpListIn_plain hg fun K hK => ?_
  unfold Oper.wpIn
  refine ⟨fun f hf => (by rw [hab] at hf; cases hf), ?_⟩
  rw [Oper.semAt_plain F _ _ hd, hr]
  exact hK _ _ h
end
set_option maxRecDepth 100000 in
theorem run_stT {o : Oper} {ρ : Operand → Value} {w : World} {x y : Operand} (ho : o.op = .store 50 x y) {B n m n' m' : Nat} {f f' : Nat → Nat → Int} (hx : ρ x = .pointer (some ⟨B, 0, none⟩)) (hy : ρ y = .agg (tabV n' m' f')) (hb : BT w B n m f) : (execOp ρ o).run Try.prog w = .ok .skip (w.setRow B (tabV n' m' f')) := by
  unfold execOp
  simp only [ho, hx, hy, Instr.storeAt, Instr.sureAddr, Sem.run_bind, Sem.run_pure, Result.andThen_ok, run_storeVar_row (P := Try.prog) w B 50 50 (tabV n m f) (tabV n' m' f') hb (by rw [tabV_size]; kernel_rfl) (by rw [tabV_size, tabV_size]) (tabV_one _ _ _)]
set_option maxRecDepth 100000 in
theorem wpListIn_stT {F : Fence} {N : Nat} {ops : Array Oper} {rest : List Oper} {o : Oper} {a : Act} {w : World} {Q : Exit → Act → World → Prop} (hg : o.guard = none) (x y : Operand) (ho : o.op = .store 50 x y) {B n m n' m' : Nat} {f f' : Nat → Nat → Int} (hx : a.eval x = .pointer (some ⟨B, 0, none⟩)) (hy : a.eval y = .agg (tabV n' m' f')) (hb : BT w B n m f)
    (h : wpListIn F N Try.prog ops Q rest (a.put o.dst undef) (w.setRow B (tabV n' m' f'))) : wpListIn F N Try.prog ops Q (o :: rest) a w :=
  wpListIn_sk hg (by rw [ho]; intro c e; cases e) (by unfold Oper.about; rw [ho]) (run_stT ho hx hy hb) h
set_option maxRecDepth 100000 in
theorem wpListIn_alT {F : Fence} {N : Nat} {ops : Array Oper} {rest : List Oper} {o : Oper} {a : Act} {w : World} {Q : Exit → Act → World → Prop} (hg : o.guard = none) (ho : o.op = .alloc 50)
    (h : wpListIn F N Try.prog ops Q rest (a.put o.dst (.pointer (some ⟨w.heap.size, 0, none⟩))) (w.alloc (.cells (tabV 0 0 zF) 50))) : wpListIn F N Try.prog ops Q (o :: rest) a w :=
  wpListIn_op hg (by rw [ho]; intro c e; cases e) (by unfold Oper.about; rw [ho]) (run_alT ho) h
set_option maxRecDepth 100000 in
theorem wpListIn_bu2 {F : Fence} {N : Nat} {ops : Array Oper} {rest : List Oper} {o : Oper} {a : Act} {w : World} {Q : Exit → Act → World → Prop} (hg : o.guard = none) (x y : Operand) (ho : o.op = .build 50 #[(0, x), (1, y)]) {n m : Nat} (hx : a.eval x = .int .i64 (n : Int)) (hy : a.eval y = .int .i64 (m : Int))
    (h : wpListIn F N Try.prog ops Q rest (a.put o.dst (.agg (tabV n m zF))) w) : wpListIn F N Try.prog ops Q (o :: rest) a w :=
  wpListIn_op hg (by rw [ho]; intro c e; cases e) (by unfold Oper.about; rw [ho]) (by unfold execOp; simp only [ho, Sem.run_bind, List.map_toArray, List.map_cons, List.map_nil, hx, hy, run_build w _ _ _ (built2 n m), Result.andThen_ok, Sem.run_pure]) h

/-- What the function answers at a spot. -/
def FnT (w : World) (fn : FuncId) (cap : Array Value) (n m : Nat) (f : Nat → Nat → Int) : Prop :=
  ∀ i k, i < n → k < m → ∀ W, Below w.heap.size w W → Calls Try.prog fn (#[.int .i64 (i : Int), .int .i64 (k : Int)] ++ cap) W fun e W' => e = .returned (.int .i64 (f i k)) ∧ Below W.heap.size W W'
def fromP (m : Nat) (f : Nat → Nat → Int) (pre : List Nat) (g : Nat → Nat → Int) : Nat → Nat → Int := pre.foldl (fun g x => putF g (x / m) (x % m) (f (x / m) (x % m))) g
set_option maxRecDepth 100000 in
theorem fromP_snoc (m : Nat) (f : Nat → Nat → Int) (pre : List Nat) (x : Nat) (g : Nat → Nat → Int) : fromP m f (pre ++ [x]) g = putF (fromP m f pre g) (x / m) (x % m) (f (x / m) (x % m)) := by simp [fromP]
set_option maxRecDepth 100000 in
theorem fromP_keep (m : Nat) (f : Nat → Nat → Int) (a b : Nat) : ∀ (pre : List Nat) (g : Nat → Nat → Int), g a b = f a b → fromP m f pre g a b = f a b := by
  intro pre
  induction pre with
  | nil => intro g h; exact h
  | cons x pre ih =>
    intro g h
    refine ih _ ?_
    show (if a = x / m ∧ b = x % m then f (x / m) (x % m) else g a b) = f a b
    split
    · next e => rw [e.1, e.2]
    · exact h
set_option maxRecDepth 100000 in
theorem fromP_at (m : Nat) (f : Nat → Nat → Int) (a b : Nat) : ∀ (pre : List Nat) (g : Nat → Nat → Int) (x : Nat), x ∈ pre → x / m = a → x % m = b → fromP m f pre g a b = f a b := by
  intro pre
  induction pre with
  | nil => intro g x h; cases h
  | cons y pre ih =>
    intro g x h h1 h2
    rcases List.mem_cons.1 h with rfl | h
    · refine fromP_keep m f a b pre _ ?_
      show (if a = x / m ∧ b = x % m then f (x / m) (x % m) else g a b) = f a b
      rw [if_pos ⟨h1.symm, h2.symm⟩, h1, h2]
    · exact ih _ x h h1 h2

set_option maxRecDepth 100000 in
set_option maxHeartbeats 2000000 in
theorem tableFrom_any (n m : Nat) (f : Nat → Nat → Int) (fn : FuncId) (cap : Array Value) (hn6 : n ≤ 6) (hm6 : m ≤ 6) (hen : ∀ args w, (callFunc fn args).run Try.prog w = .ok (.enter fn args) w) (w : World) (hfn : FnT w fn cap n m f) :
    Calls Try.prog 73 #[.int .i64 (n : Int), .int .i64 (m : Int), .func (.func fn) #[] cap] w fun e w' => ∃ g, e = .returned (.agg (tabV n m g)) ∧ (∀ i k, i < n → k < m → g i k = f i k) ∧ Below w.heap.size w w' := by
  have HFN := Lib.hid hfn
  clear hfn
  have bE := Boxed.new w 91 (.func (.func fn) #[] cap)
  have bR := BT.new (w.alloc (.cells #[.func (.func fn) #[] cap] 91)) 0 0 zF
  have bZ := BT.new ((w.alloc (.cells #[.func (.func fn) #[] cap] 91)).alloc (.cells (tabV 0 0 zF) 50)) 0 0 zF
  have bZr := bZ
  rw [World.size_alloc, World.size_alloc] at bZ
  rw [World.size_alloc] at bR
  have bT := bZ.put (n' := n) (m' := m) (f' := zF)
  have bTr := bZr.put (n' := n) (m' := m) (f' := zF)
  have bR2 : BT ((((w.alloc (.cells #[.func (.func fn) #[] cap] 91)).alloc (.cells (tabV 0 0 zF) 50)).alloc (.cells (tabV 0 0 zF) 50)).setRow (w.heap.size + 1 + 1) (tabV n m zF)) (w.heap.size + 1) 0 0 zF := (bR.alloc _).block (setRow_other _ _ _ _ (by omega))
  have bE2 : Boxed ((((w.alloc (.cells #[.func (.func fn) #[] cap] 91)).alloc (.cells (tabV 0 0 zF) 50)).alloc (.cells (tabV 0 0 zF) 50)).setRow (w.heap.size + 1 + 1) (tabV n m zF)) w.heap.size 91 (.func (.func fn) #[] cap) := (setRow_other _ _ _ _ (by omega)).trans ((bE.alloc _).alloc _)
  have bB : Below w.heap.size w ((((w.alloc (.cells #[.func (.func fn) #[] cap] 91)).alloc (.cells (tabV 0 0 zF) 50)).alloc (.cells (tabV 0 0 zF) 50)).setRow (w.heap.size + 1 + 1) (tabV n m zF)) := below_setRow ((((Below.refl _ w).alloc (Nat.le_refl _) _).alloc (by simp) _).alloc (by simp; omega) _) (by omega) _
  have hsz : ((((w.alloc (.cells #[.func (.func fn) #[] cap] 91)).alloc (.cells (tabV 0 0 zF) 50)).alloc (.cells (tabV 0 0 zF) 50)).setRow (w.heap.size + 1 + 1) (tabV n m zF)).heap.size = w.heap.size + 3 := by simp
  refine (callsIn_wide (n := 6)).1 ?_
  refine callsIn_of_wp_marks Try.func73 rfl trivial ?_ rfl
  simp only [Try.ntmps73, List.size_toArray, List.length_cons, List.length_nil, Nat.reduceAdd, Nat.reduceSub, Array.replicate_succ, Array.replicate_zero, List.push_toArray, List.append_toArray, List.nil_append, List.cons_append]
  gi_wp2_with (first | (refine wpListIn_bu2 rfl _ _ rfl rfl rfl ?_) | (refine wpListIn_alT rfl rfl ?_) | (refine wpListIn_stT rfl _ _ rfl rfl rfl bZr ?_) | (refine wpListIn_ldT rfl _ rfl rfl bT ?_) | (refine wpListIn_ldT rfl _ rfl rfl bTr ?_) | (refine ⟨trivial, ?_⟩; gi_at_call 75; refine (callsIn_wide.2 (spots_any _ _ _ _)).mono ?_; rintro e w' ⟨rfl, rfl⟩))
  obtain ⟨W4, hW4⟩ : ∃ W4, (((w.alloc (.cells #[.func (.func fn) #[] cap] 91)).alloc (.cells (tabV 0 0 zF) 50)).alloc (.cells (tabV 0 0 zF) 50)).setRow (w.heap.size + 1 + 1) (tabV n m zF) = W4 := ⟨_, rfl⟩
  rw [hW4] at bT bR2 bE2 bB hsz
  rw [hW4]
  clear hW4 bTr bZr bZ bR bE
  have bP : BT (W4.alloc (.cells (tabV n m zF) 50)) W4.heap.size n m zF := BT.new W4 n m zF
  obtain ⟨B, hB⟩ : ∃ B, w.heap.size = B := ⟨_, rfl⟩
  rw [hB] at bT bR2 bE2 bB hsz
  have HB := Lib.hid hB
  rw [hB]
  rw [hsz] at bP
  clear hB
  refine wpIn_rangeFunc_ownF (F := Fence.wide) rfl (by decide) (gf := 86) (lb := #[.pointer (some ⟨B + 3, 0, none⟩)]) rfl trivial (enters_of Try.func86 (by kernel_rfl) rfl)
    (spots_pf Fence.wide (6 - 1) trivial rfl (by decide) (B + 3) B n m zF hn6 hm6 _ bP) (fun h1 h2 => KeepAt.trans h1 h2) (keepAt_b (by simp; omega) (by simp; omega)) (Below.refl _ _) (fun _ => rfl)
    (fun pre W => ((Boxed W B 91 (.func (.func fn) #[] cap) ∧ BT W (B + 1) 0 0 zF) ∧ BT W (B + 1 + 1) n m (fromP m f (pre.map (·.1)) zF)) ∧ (Below B w W ∧ B + 4 ≤ W.heap.size))
    (fun _ _ _ => False)
    (OwnFrom.and (OwnFrom.and (OwnFrom.and (Own.from (boxed_own _ _ _) _) (Own.from (bt_own _ _ _ (fun _ => zF)) _)) (Own.from (bt_own _ _ _ _) _)) (OwnFrom.and (ownFrom_below (by have := HB.out; omega) (by simp; omega)) (fun _ _ _ _ hs hg _ => Nat.le_trans hs hg.size)))
    (fun _ _ _ _ _ hs _ _ => hs)
    ⟨⟨⟨(Boxed.alloc bE2 _), bR2.alloc _⟩, bT.alloc _⟩, bB.alloc (by omega) _, by simp; omega⟩ ?a1 ?hassign ?hbody ?hdone ?hstop
  case hassign =>
    intro l x W K hK
    gi_wp2
    exact hK
  case hbody =>
    rintro l pre x W ⟨⟨⟨hE, hR⟩, hT⟩, hBl, hsW⟩ hlt
    obtain ⟨hxi, hxk⟩ := spot_lt x
    have hsn := fromP_snoc m f (pre.map (·.1)) x.1 zF
    rw [show pre.map (·.1) ++ [x.1] = (pre ++ [x]).map (·.1) by simp] at hsn
    obtain ⟨i, hie⟩ : ∃ i, x.1 / m = i := ⟨_, rfl⟩
    obtain ⟨k, hke⟩ : ∃ k, x.1 % m = k := ⟨_, rfl⟩
    rw [hie, hke] at hsn
    rw [hie] at hxi
    rw [hke] at hxk
    have hBW : Below w.heap.size w W.drew := by rw [HB.out]; exact below_drawN hBl 1
    have hcall := HFN.out i k hxi hxk W.drew hBW
    have i6 : (i : Int) < 6 := by omega
    have k6 : (k : Int) < 6 := by omega
    have i0 : (0 : Int) ≤ (i : Int) := by omega
    have k0 : (0 : Int) ≤ (k : Int) := by omega
    have hi6 : i < 6 := by omega
    have hk6 : k < 6 := by omega
    have hie' : ((x.1 : Nat) : Int) / ((m : Nat) : Int) = ((i : Nat) : Int) := by rw [← hie]; simp
    have hke' : ((x.1 : Nat) : Int) % ((m : Nat) : Int) = ((k : Nat) : Int) := by rw [← hke]; simp
    rw [hie', hke']
    have HE := Lib.hid hE; have HR := Lib.hid hR; have HT := Lib.hid hT; have HBl := Lib.hid hBl; have HSN := Lib.hid hsn; have HSW := Lib.hid hsW; have HCALL := Lib.hid hcall
    have hS : W.drew.cell? ⟨B, 0, none⟩ = some (.func (.func fn) #[] cap) := hE.cell
    clear hE hR hT hBl hsn hie hke hie' hke' hxi hxk hsW hcall hBW
    gi_wp2
    refine region_anyE (fun W' => W'.cell? ⟨B, 0, none⟩ = some (.func (.func fn) #[] cap)) 9 (by kernel_rfl) ?_
    refine anyE_first 0 (v := .int .i64 (i : Int)) rfl (by kernel_rfl) (by kernel_rfl) (by kernel_rfl) (by kernel_rfl) (fun _ _ _ h => h) hS (by kernel_rfl) (fun _ => by kernel_rfl) (fun W hW => by kernel_rfl) ?_
    refine anyE_first 1 (v := .int .i64 (k : Int)) rfl (by kernel_rfl) (by kernel_rfl) (by kernel_rfl) (by kernel_rfl) (fun _ _ _ h => h) hS (by kernel_rfl) (fun _ => by kernel_rfl) (fun W hW => by kernel_rfl) ?_
    refine anyE_first 2 (v := .func (.func fn) #[] cap) rfl (by kernel_rfl) (by kernel_rfl) (by kernel_rfl) (by kernel_rfl) (fun _ _ _ h => h) hS (by kernel_rfl) (fun _ => by kernel_rfl) (fun W hW => by go_simp) ?_
    refine anyE_first 3 (v := .int .i64 (i : Int)) rfl (by kernel_rfl) (by kernel_rfl) (by kernel_rfl) (by kernel_rfl) (fun _ _ _ h => h) hS (by kernel_rfl) (fun _ => by kernel_rfl) (fun W hW => by kernel_rfl) ?_
    refine anyE_first 4 (v := .int .i64 (k : Int)) rfl (by kernel_rfl) (by kernel_rfl) (by kernel_rfl) (by kernel_rfl) (fun _ _ _ h => h) hS (by kernel_rfl) (fun _ => by kernel_rfl) (fun W hW => by kernel_rfl) ?_
    refine anyE_pure 6 (v := .pointer (some ⟨B + 1 + 1, 2, none⟩)) rfl (by kernel_rfl) (by kernel_rfl) (by kernel_rfl) (by kernel_rfl) (fun _ _ _ h => h) (by kernel_rfl) (fun _ => by kernel_rfl) (fun W => by go_simp) ?_
    refine anyE_pure 7 (v := .pointer (some ⟨B + 1 + 1, 2 + i * 6, none⟩)) rfl (by kernel_rfl) (by kernel_rfl) (by kernel_rfl) (by kernel_rfl) (fun _ _ _ h => h) (by kernel_rfl) (fun _ => by kernel_rfl) (fun W => by go_simp) ?_
    refine anyE_one 5 rfl (by kernel_rfl) (by kernel_rfl) (fun _ => hS) ?_
    refine wpI_callV (args := #[.int .i64 (i : Int), .int .i64 (k : Int)] ++ cap) (cap := cap) rfl (by kernel_rfl) hen (by kernel_rfl) ?_
    refine HCALL.out.mono ?_
    obtain ⟨v, hv⟩ : ∃ v, f i k = v := ⟨_, rfl⟩
    rw [hv] at HSN
    rw [hv]
    rintro e w5 ⟨rfl, hb5⟩
    have hsw := HSW.out
    have hT5 : BT w5 (B + 1 + 1) n m (fromP m f (pre.map (·.1)) zF) := BT.grow (W := W.drew) HT.out hb5
    have hS5 : w5.cell? ⟨B, 0, none⟩ = some (.func (.func fn) #[] cap) := (hb5.cell (p := ⟨B, 0, none⟩) (by show B < W.heap.size; omega)).trans hS
    have c5 := hT5.entry hi6 hk6
    have f5 := hT5.frozen (2 + i * 6 + k)
    refine ⟨_, rfl, ?_⟩
    refine anyE_pure 8 (v := .pointer (some ⟨B + 1 + 1, 2 + i * 6 + k, none⟩)) rfl (by kernel_rfl) (by kernel_rfl) (by kernel_rfl) (by kernel_rfl) (fun _ _ _ h => h) (by kernel_rfl) (fun _ => by kernel_rfl) (fun W => by go_simp) ?_
    refine anyE_one 9 rfl (by kernel_rfl) (by kernel_rfl) (fun _ => hS5) ?_
    refine wpI_store (v := v) rfl (by kernel_rfl) (by kernel_rfl) c5 f5 ?_
    refine anyE_done (by kernel_rfl) (fun h => absurd h (by decide)) ?_
    have hb5' : Below W.heap.size W w5 := ⟨hb5.os, hb5.tape, hb5.output, hb5.size, hb5.block⟩
    have hE5 : Boxed w5 B 91 (.func (.func fn) #[] cap) := (hb5'.block B (by omega)).trans HE.out
    have hR5 : BT w5 (B + 1) 0 0 zF := HR.out.grow hb5'
    have hB5 : Below B w w5 := HBl.out.trans (hb5'.mono (by omega))
    have hK5 : KeepsOthers W (w5.setCell ⟨B + 1 + 1, 2 + i * 6 + k, none⟩ (.int .i64 v)) := KeepsOthers.trans (B := w5) ⟨hb5'.size, fun q o h _ => (hb5'.block q (Array.getElem?_eq_some_iff.1 h).1).trans h⟩ (KeepsOthers.setCell _ _ _)
    have hA5 : KeepAt B (B + 3) W (w5.setCell ⟨B + 1 + 1, 2 + i * 6 + k, none⟩ (.int .i64 v)) := ⟨by simp only [World.setCell, Array.size_modify]; exact hb5'.size, fun q hq => (Below.heap_setCell w5 ⟨B + 1 + 1, _, none⟩ _ q (by show q ≠ B + 1 + 1; omega)).trans (hb5'.block q (by omega))⟩
    have HG : Hid (_ ∧ _) := ⟨hK5, hA5⟩
    have HQ : Hid (((Boxed w5 B 91 (.func (.func fn) #[] cap) ∧ BT w5 (B + 1) 0 0 zF) ∧ BT w5 (B + 1 + 1) n m (fromP m f (pre.map (·.1)) zF)) ∧ Below B w w5 ∧ B + 4 ≤ w5.heap.size) := ⟨⟨⟨hE5, hR5⟩, hT5⟩, hB5, Nat.le_trans hsw hb5'.size⟩
    clear hS hS5 c5 f5 hK5 hA5 hE5 hR5 hB5 hT5 hb5 hb5' hsw
    gi_wp2
    obtain ⟨⟨⟨q1, q2⟩, q3⟩, q4, q5⟩ := HQ.out
    refine ⟨HG.out.1, HG.out.2, ⟨⟨(heap_setCell_other w5 ⟨B + 1 + 1, 2 + i * 6 + k, none⟩ B _ (by show B ≠ B + 1 + 1; omega)).trans q1, q2.other (by show B + 1 ≠ B + 1 + 1; omega) _⟩, ?_⟩, q4.setCell (p := ⟨B + 1 + 1, 2 + i * 6 + k, none⟩) (by show B ≤ B + 1 + 1; omega) _, by simpa [World.setCell] using q5⟩
    rw [HSN.out]
    exact q3.set_ hi6 hk6 v
  case hdone =>
    rintro D ys W hD rfl ⟨⟨⟨hE, hR⟩, hT⟩, hBl, hsW⟩ hK
    obtain ⟨g, hg⟩ : ∃ g, fromP m f ((List.finRange (n * m)).map (·.1)) zF = g := ⟨_, rfl⟩
    have HG : Hid (∀ a b, a < n → b < m → g a b = f a b) := fun a b ha hb => by
      rw [← hg]
      obtain ⟨hx, _⟩ := spots_snoc ha hb
      exact fromP_at m f a b _ zF (a * m + b) (List.mem_map.2 ⟨⟨a * m + b, hx⟩, List.mem_finRange _, rfl⟩) (spot_row hb) (spot_col hb)
    rw [hg] at hT
    have HBl := Lib.hid hBl
    have hR2 : BT (W.setRow (B + 1) (tabV n m g)) (B + 1) n m g := hR.put
    have HR2 := Lib.hid hR2
    have hK2 : (W.setRow (B + 1) (tabV n m g)).heap[D]? = some (.deferred (some [])) := (setRow_other _ _ _ _ (by simp at hD; omega)).trans hK
    have HD : Hid (B + 4 ≤ D) := by simp at hD; show _ ≤ _; omega
    clear hE hBl hg hR2
    gi_wp2_with (first | (refine wpListIn_ldT rfl _ rfl rfl hT ?_) | (refine wpListIn_stT rfl _ _ rfl rfl rfl hR ?_))
    refine ⟨by simp, .inl ⟨_, _, rfl, run_takeDeferred hK2, ?_⟩⟩
    have hd := HD.out
    have hKb : Below (B + 2) (W.setRow (B + 1) (tabV n m g)) ((W.setRow (B + 1) (tabV n m g)).putObj D (.deferred none)) := (Below.refl _ _).grown (grownBy_putObj' _ D _) (by simp; omega) (fun k e => by cases e; omega)
    have hR3 : BT ((W.setRow (B + 1) (tabV n m g)).putObj D (.deferred none)) (B + 1) n m g := HR2.out.below hKb (by omega)
    refine ⟨.agg (tabV n m g), ?_, g, rfl, HG.out, ?_⟩
    · exact resX rfl _ _ (by kernel_rfl) hR3 rowT_table (tabV_size _ _ _)
    · rw [HB.out]
      exact (below_setRow HBl.out (by omega) _).trans (hKb.mono (by omega))
  case hstop =>
    rintro D cd pre W hD hp h hK
    exact h.elim
end Go.Proofs.Ytnneopimbffkaaa
