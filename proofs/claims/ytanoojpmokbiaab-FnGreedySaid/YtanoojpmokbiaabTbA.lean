/-
  Tables of the program: the value of 38 numbers, in memory, their spots, told by lists, crossed ones. Conditions: the lists' cells are there.
-/
import Derived.Test.YtanoojpmokbiaabTabA
import Derived.Test.YtanoojpmokbiaabColl2
import Derived.Laws.Rows
import Derived.Deep.MidRow
import Derived.Test.YtanoojpmokbiaabIter3
import Derived.Test.YtanoojpmokbiaabHeld
import Derived.Sort.QuietIn
import Derived.Deep.RegionHeld
import Derived.Test.YtanoojpmokbiaabTmA
import Derived.Laws.IdiomCopy
import Derived.Laws.Tables
import Derived.Deep.WholeRow
import Derived.ChangeKeysEq
import Derived.Laws.StructEq
/-
  A table of the program as a value of 38 numbers, and in a block of its own. Conditions: none.
-/
namespace Go.Proofs.Ytanoojpmokbiaab
open Go.RowKit Go.Shelf

/-- The numbers of a table: how many rows, how many columns, 36 entries. -/
def tabC (n m : Nat) (f : Nat → Nat → Int) : List Value := .int .i64 (n : Int) :: .int .i64 (m : Int) :: (List.range 36).map fun j => .int .i64 (f (j / 6) (j % 6))
def tabV (n m : Nat) (f : Nat → Nat → Int) : Array Value := (tabC n m f).toArray
set_option maxRecDepth 100000 in
theorem tabC_len (n m : Nat) (f : Nat → Nat → Int) : (tabC n m f).length = 38 := by simp [tabC]
set_option maxRecDepth 100000 in
theorem tabV_size (n m : Nat) (f : Nat → Nat → Int) : (tabV n m f).size = 38 := by simp [tabV, tabC]
set_option maxRecDepth 100000 in
theorem tabC_entry (n m : Nat) (f : Nat → Nat → Int) {i k : Nat} (hi : i < 6) (hk : k < 6) : (tabC n m f)[2 + i * 6 + k]? = some (.int .i64 (f i k)) := by
  unfold tabC
  rw [show 2 + i * 6 + k = (i * 6 + k) + 1 + 1 by omega, List.getElem?_cons_succ, List.getElem?_cons_succ, List.getElem?_map, List.getElem?_range (by omega)]
  show some (Value.int .i64 (f ((i * 6 + k) / 6) ((i * 6 + k) % 6))) = _
  rw [show (i * 6 + k) / 6 = i by omega, show (i * 6 + k) % 6 = k by omega]
set_option maxRecDepth 100000 in
theorem tabC_one (n m : Nat) (f : Nat → Nat → Int) : ∀ v ∈ tabC n m f, v.oneCell' = true := by
  intro v hv
  unfold tabC at hv
  simp only [List.mem_cons, List.mem_map] at hv
  rcases hv with rfl | rfl | ⟨j, -, rfl⟩ <;> rfl

def putF (f : Nat → Nat → Int) (i k : Nat) (v : Int) : Nat → Nat → Int := fun a b => if a = i ∧ b = k then v else f a b
set_option maxRecDepth 100000 in
theorem tabC_set (n m : Nat) (f : Nat → Nat → Int) {i k : Nat} (hi : i < 6) (hk : k < 6) (v : Int) : (tabC n m f).set (2 + i * 6 + k) (.int .i64 v) = tabC n m (putF f i k v) := by
  apply List.ext_getElem?
  intro j
  rw [List.getElem?_set]
  by_cases e : 2 + i * 6 + k = j
  · subst e
    rw [if_pos rfl, if_pos (by rw [tabC_len]; omega), tabC_entry _ _ _ hi hk]
    simp [putF]
  · rw [if_neg e]
    unfold tabC
    match j with
    | 0 => rfl
    | 1 => rfl
    | j + 2 =>
      rw [List.getElem?_cons_succ, List.getElem?_cons_succ, List.getElem?_cons_succ, List.getElem?_cons_succ, List.getElem?_map, List.getElem?_map]
      by_cases hj : j < 36
      · rw [List.getElem?_range hj]
        show some (Value.int .i64 (f (j / 6) (j % 6))) = some (Value.int .i64 (putF f i k v (j / 6) (j % 6)))
        unfold putF
        rw [if_neg (by omega)]
      · rw [List.getElem?_eq_none (by simp; omega)]; rfl
set_option maxRecDepth 100000 in
theorem tabC_congr {n m : Nat} {f g : Nat → Nat → Int} (h : ∀ i k, i < 6 → k < 6 → f i k = g i k) : tabC n m f = tabC n m g := by
  unfold tabC
  congr 2
  refine List.map_congr_left fun j hj => ?_
  have := List.mem_range.1 hj
  rw [h _ _ (by omega) (by omega)]

section
variable {W W' : World} {B n m : Nat} {f : Nat → Nat → Int}
end
set_option maxRecDepth 100000 in
/-- Laws at an operation that leaves a value. -/
theorem wpListIn_op {F : Fence} {N : Nat} {P : Program} {ops : Array Oper} {rest : List Oper} {o : Oper} {a : Act} {w w' : World} {Q : Exit → Act → World → Prop} {v : Value} (hg : o.guard = none) (hd : ∀ c, o.op ≠ .defer c) (hab : o.about P w a.eval = none)
    (hr : (execOp a.eval o).run P w = .ok (.value v) w') (h : wpListIn F N P ops Q rest (a.put o.dst v) w') : wpListIn F N P ops Q (o :: rest) a w := by
  refine wpListIn_plain hg fun K hK => ?_
  unfold Oper.wpIn
  refine ⟨fun f hf => (by rw [hab] at hf; cases hf), ?_⟩
  rw [Oper.semAt_plain F _ _ hd, hr]
  exact hK _ _ h
set_option maxRecDepth 100000 in
theorem wpList_op {P : Program} {ops : Array Oper} {rest : List Oper} {o : Oper} {a : Act} {w w' : World} {Q : Exit → Act → World → Prop} {v : Value} (hg : o.guard = none)
    (hr : (execOp a.eval o).run P w = .ok (.value v) w') (h : wpList P ops Q rest (a.put o.dst v) w') : wpList P ops Q (o :: rest) a w := by
  refine wpList_plain hg fun K hK => ?_
  unfold Oper.wp
  rw [hr]
  exact hK _ _ h
end Go.Proofs.Ytanoojpmokbiaab

/-
  The iterator of a table's spots, row by row. Conditions: the table lies in a block of its own.
-/
namespace Go.Proofs.Ytanoojpmokbiaab
open Go.RowKit Go.Shelf
attribute [local go_sem] Oper.semAt_some

set_option maxRecDepth 100000 in
theorem ownP {β : Type} (C : Nat) (p : β → Prop) : OwnFrom C (fun s (_ : World) => p s) := fun _ _ _ _ h _ _ => h
set_option maxRecDepth 100000 in
theorem spot_lt {n m : Nat} (x : Fin (n * m)) : x.1 / m < n ∧ x.1 % m < m := by
  have hx := x.2
  have hm : 0 < m := by
    rcases Nat.eq_zero_or_pos m with h | h
    · subst h; simp at hx
    · exact h
  exact ⟨by rw [Nat.div_lt_iff_lt_mul hm]; exact hx, Nat.mod_lt _ hm⟩
set_option maxRecDepth 100000 in
theorem spots_snoc {n m i k : Nat} (hi : i < n) (hk : k < m) : ∃ h : i * m + k < n * m, (List.finRange (n * m)).take (i * m + k) ++ [⟨i * m + k, h⟩] = (List.finRange (n * m)).take (i * m + k + 1) := by
  have h : i * m + k < n * m := by
    have := Nat.mul_le_mul_right m (show i + 1 ≤ n by omega)
    rw [Nat.succ_mul] at this
    omega
  exact ⟨h, finRange_succ h⟩
set_option maxRecDepth 100000 in
theorem spot_row {m i k : Nat} (hk : k < m) : (i * m + k) / m = i := by
  rw [Nat.mul_comm, Nat.mul_add_div (by omega), Nat.div_eq_of_lt hk, Nat.add_zero]
set_option maxRecDepth 100000 in
theorem spot_col {m i k : Nat} (hk : k < m) : (i * m + k) % m = k := by
  rw [Nat.mul_comm, Nat.mul_add_mod, Nat.mod_eq_of_lt hk]

end Go.Proofs.Ytanoojpmokbiaab

/-
  A region whose order Go leaves open and that only reads, inside a loop over an iterator too: one walk in the text's order. Conditions: no select, no defer among the operations.
-/
namespace Go.Proofs.Ytanoojpmokbiaab
section
variable {F : Fence} {n : Nat} {P : Program} {ops : Array Oper} {md : Region.Mode} {C : World → Prop}
set_option maxRecDepth 100000 in
theorem wpIn_quietR {o : Oper} {a : Act} {K : Act → Prop} {K' : Act → World → Prop} {Q' : Exit → Act → World → Prop} {w : World} (hd : ∀ c, o.op ≠ .defer c) (hw : C w) (h : ∀ a w', C w' → K a → K' a w')
    (ha : o.askedIn F P a C) (hh : o.quietIn F n P a C K) : o.wpIn F n P a w K' Q' := by
  obtain ⟨v, h1, h2⟩ := hh
  have h3 := h1 w hw
  unfold Oper.quietAtIn at h3
  unfold Oper.wpIn
  refine ⟨ha w hw, ?_⟩
  rw [Oper.semAt_plain F _ _ hd]
  generalize (execOp a.eval o).run P w = r at *
  cases r with
  | ok x w' =>
    cases x <;> simp only [Oper.quietUponIn] at h3 <;> simp only [Oper.uponIn]
    case value u =>
      obtain ⟨e1, e2⟩ := h3
      rw [e1, e2]
      exact h _ _ hw h2
    case skip =>
      obtain ⟨e1, e2⟩ := h3
      rw [e1, ← e2]
      exact h _ _ hw h2
    case enter f args =>
      obtain ⟨e1, hd, hc⟩ := h3
      rw [e1]
      exact ⟨hd, hc.mono fun e w'' ⟨he, hw''⟩ => by subst he; exact h _ _ hw'' h2⟩
  | halt x w' => simp only [Oper.quietUponIn] at h3
set_option maxRecDepth 100000 in
theorem wpOpIn_quietR {i : Nat} {a : Act} {K : Act → Prop} {K' : Act → World → Prop} {Q' : Exit → Act → World → Prop} {w : World} (hp : plainOps ops = true) (hC : C w) (h : ∀ a w', C w' → K a → K' a w')
    (hh : qOpIn F n P ops C i K a) : wpOpIn F n P ops Q' i K' a w := by
  unfold qOpIn at hh
  unfold wpOpIn
  split
  · rename_i ho; simp only [ho] at hh; exact h _ _ hC hh
  · rename_i o ho
    simp only [ho] at hh
    obtain ⟨ha, hh⟩ := hh
    split
    · rename_i hw; simp only [hw, if_true] at hh; exact wpIn_quietR (plainOps_spec hp ho).2 hC h ha hh
    · rename_i hw; simp only [hw] at hh; exact ⟨ha w hC, h _ _ hC hh⟩
set_option maxRecDepth 100000 in
theorem wpAnyIn_quietR {Q : Act → Prop} {Q' : Exit → Act → World → Prop} (hp : plainOps ops = true) (hQ : ∀ a w, C w → Q a → Q' .normal a w) : ∀ (fuel : Nat) (listed : Array Bool) (a : Act) (w : World), C w →
    wpAnyQIn F n P md ops C Q fuel listed a → wpAnyIn F n P md ops Q' fuel listed a w
  | 0, _, _, _, hw, h => ⟨h.1, hQ _ _ hw h.2⟩
  | fuel + 1, _, _, _, hw, h => ⟨fun h0 => hQ _ _ hw (h.1 h0), fun i hi => wpOpIn_quietR hp hw (fun a' w' hw' => wpAnyIn_quietR hp hQ fuel _ a' w' hw') (h.2 i hi)⟩
set_option maxRecDepth 100000 in
theorem wpIn_region_quietR {id : Nat} {Q : Exit → Act → World → Prop} {a : Act} {w : World} (hp : plainOps ops = true) (hm : P.follows .mixedOrders = true) (hB : Region.lexB .any ops = true) (hC : C { w with drawn := w.drawn + 1 })
    (h : wpQuietIn F n P ops C (fun a' => ∀ w', C w' → Q .normal a' w') ops.toList a) : (Code.region id ops true).wpIn F n P Q a w := by
  simp only [Region.lexB, Bool.and_eq_true] at hB
  refine wpIn_region_any hm (wpAnyIn_quietR (Q := fun a' => ∀ w', C w' → Q .normal a' w') hp (fun _ w' hw' h => h w' hw') _ _ _ _ hC ?_)
  have := wpAnyQIn_lex (F := F) (n := n) (C := C) (md := .any) hB.1 ops.toList 0 (Array.replicate ops.size false) a (by simp) (by simpa using hB.2) h
  simpa using this
set_option maxRecDepth 100000 in
/-- The same for a region whose operations are written out. -/
theorem wpIn_region_quietL {id : Nat} {Q : Exit → Act → World → Prop} {a : Act} {w : World} {l : List Oper} (hp : plainOps l.toArray = true) (hm : P.follows .mixedOrders = true) (hB : Region.lexB .any l.toArray = true)
    (h : wpQuietIn F n P l.toArray (fun w' => ∃ n, w' = w.drewN n) (fun a' => ∀ w', (∃ n, w' = w.drewN n) → Q .normal a' w') l a) : (Code.region id l.toArray true).wpIn F n P Q a w :=
  wpIn_region_quietR (C := fun w' => ∃ n, w' = w.drewN n) hp hm hB ⟨1, rfl⟩ (by simpa using h)
end
/- The plain walk: a region under a condition S on the world, by hand. -/
section
variable {P : Program} {ops : Array Oper} {Q : Exit → Act → World → Prop} {S : World → Prop} {md : Region.Mode}
set_option maxRecDepth 100000 in
theorem anyH_take (i : Nat) {oi : Oper} {v : Value} {fuel : Nat} {listed : Array Bool} {a : Act} {w : World} (hi : ops[i]? = some oi)
    (hs : Region.noSelect ops = true) (hf : Region.free md ops listed i = true) (hr : (Region.ready md ops listed).contains i = true)
    (hQ : ∀ c a w, Q (.panic c) (a.put oi.dst v) w → Q (.panic c) a w) (hg : oi.guard = none) (hy : ∀ w, S w → (execOp a.eval oi).run P w = .ok (.value v) w) (hS : S w)
    (h : wpAnyH P md ops Q S fuel (listed.setIfInBounds i true) (a.put oi.dst v) w) : wpAnyH P md ops Q S (fuel + 1) listed a w :=
  wpAnyH_take hi hs hf hr hQ (.inl ⟨by simp [Region.wanted, hg], hy⟩) hS h
set_option maxRecDepth 100000 in
theorem anyH_takeW (i : Nat) {oi : Oper} {v : Value} {fuel : Nat} {listed : Array Bool} {a : Act} {w : World} (hi : ops[i]? = some oi)
    (hs : Region.noSelect ops = true) (hf : Region.free md ops listed i = true) (hr : (Region.ready md ops listed).contains i = true)
    (hQ : ∀ c a w, Q (.panic c) (a.put oi.dst v) w → Q (.panic c) a w) (hw : Region.wanted oi (yielded ops a.tmps) = true) (hy : ∀ w, S w → (execOp a.eval oi).run P w = .ok (.value v) w) (hS : S w)
    (h : wpAnyH P md ops Q S fuel (listed.setIfInBounds i true) (a.put oi.dst v) w) : wpAnyH P md ops Q S (fuel + 1) listed a w :=
  wpAnyH_take hi hs hf hr hQ (.inl ⟨hw, hy⟩) hS h
set_option maxRecDepth 100000 in
theorem anyH_skip (i : Nat) {oi : Oper} {fuel : Nat} {listed : Array Bool} {a : Act} {w : World} (hi : ops[i]? = some oi)
    (hs : Region.noSelect ops = true) (hf : Region.free md ops listed i = true) (hr : (Region.ready md ops listed).contains i = true)
    (hQ : ∀ c a w, Q (.panic c) (a.put oi.dst undef) w → Q (.panic c) a w) (hw : Region.wanted oi (yielded ops a.tmps) = false) (hS : S w)
    (h : wpAnyH P md ops Q S fuel (listed.setIfInBounds i true) (a.put oi.dst undef) w) : wpAnyH P md ops Q S (fuel + 1) listed a w :=
  wpAnyH_take hi hs hf hr hQ (.inr ⟨hw, rfl⟩) hS h
/-- A step, closed: nobody runs it to see what it is. -/
structure WpS (P : Program) (o : Oper) (a : Act) (w : World) (K : Act → World → Prop) (Q : Exit → Act → World → Prop) : Prop where
  out : o.wp P a w K Q
set_option maxRecDepth 100000 in
theorem anyH_one (i : Nat) {oi : Oper} {fuel : Nat} {listed : Array Bool} {a : Act} {w : World} (hi : ops[i]? = some oi) (hg : Region.wanted oi (yielded ops a.tmps) = true) (hr : Region.ready md ops listed = [i])
    (h : WpS P oi a w (fun a' w' => S w' ∧ wpAnyH P md ops Q S fuel (listed.setIfInBounds i true) a' w') Q) : wpAnyH P md ops Q S (fuel + 1) listed a w :=
  wpAnyH_all hr (by simp) fun j hj => by
    obtain rfl := List.mem_singleton.1 hj
    unfold wpOp
    simp only [hi]
    rw [if_pos hg]
    exact .inl h.out
set_option maxRecDepth 100000 in
/-- Two may come up: each way. -/
theorem anyH_two (i j : Nat) {fuel : Nat} {listed : Array Bool} {a : Act} {w : World} (hr : Region.ready md ops listed = [i, j])
    (h : wpOp P ops Q i (fun a' w' => S w' ∧ wpAnyH P md ops Q S fuel (listed.setIfInBounds i true) a' w') a w)
    (h' : wpOp P ops Q j (fun a' w' => S w' ∧ wpAnyH P md ops Q S fuel (listed.setIfInBounds j true) a' w') a w) : wpAnyH P md ops Q S (fuel + 1) listed a w :=
  wpAnyH_all hr (by simp) fun k hk => by
    rcases List.mem_cons.1 hk with rfl | hk
    · exact h
    · obtain rfl := List.mem_singleton.1 hk; exact h'
set_option maxRecDepth 100000 in
theorem wp_enter {o : Oper} {a : Act} {w : World} {K : Act → World → Prop} {f : FuncId} {args : Array Value} (hr : (execOp a.eval o).run P w = .ok (.enter f args) w)
    (h : Calls P f args w fun e w' => ∃ v, e = .returned v ∧ K (a.put o.dst v) w') : WpS P o a w K Q := by
  refine ⟨?_⟩
  unfold Oper.wp
  rw [hr]
  exact h.mono fun e w' ⟨v, he, hK⟩ => by subst he; exact hK
set_option maxRecDepth 100000 in
theorem wp_callF {o : Oper} {a : Act} {w : World} {K : Act → World → Prop} {f : FuncId} {ags : Array Operand} {ts : Array TypeId} {args : Array Value} (ho : o.op = .call { callee := .value (.func f), args := ags, argTypes := ts }) (hen : ∀ args w, (callFunc f args).run P w = .ok (.enter f args) w) (ha : ags.map a.eval = args)
    (h : Calls P f args w fun e w' => ∃ v, e = .returned v ∧ K (a.put o.dst v) w') : WpS P o a w K Q := by
  refine wp_enter (f := f) (args := args) ?_ h
  unfold execOp
  simp [ho, go_sem, ha, hen]
set_option maxRecDepth 100000 in
theorem wp_value {o : Oper} {a : Act} {w w' : World} {K : Act → World → Prop} {v : Value} (hr : (execOp a.eval o).run P w = .ok (.value v) w') (h : K (a.put o.dst v) w') : WpS P o a w K Q := by
  refine ⟨?_⟩
  unfold Oper.wp
  rw [hr]
  exact h
end
end Go.Proofs.Ytanoojpmokbiaab

/-
  isWithin of the program: all entries of a table lie between two numbers. Conditions: none.
-/
namespace Go.Proofs.Ytanoojpmokbiaab
open Go.RowKit Go.Shelf
attribute [local go_sem] Oper.semAt_some

/-- All entries lie between two numbers. -/
def inF (lo hi : Int) (n m : Nat) (f : Nat → Nat → Int) : Bool := (List.finRange (n * m)).all fun x => decide (lo ≤ f (x.1 / m) (x.1 % m) ∧ f (x.1 / m) (x.1 % m) ≤ hi)

end Go.Proofs.Ytanoojpmokbiaab

/-
  A row copied into a table, a table stored, the program's tableWithin and tableIn. Conditions: the lists' cells are there.
-/
namespace Go.Proofs.Ytanoojpmokbiaab
open Go.RowKit Go.Shelf

/-- A row's entries put from column k on. -/
def putRow (f : Nat → Nat → Int) (i : Nat) : Nat → List Int → Nat → Nat → Int
  | _, [] => f
  | k, z :: zs => putRow (putF f i k z) i (k + 1) zs
set_option maxRecDepth 100000 in
theorem putRow_at (i : Nat) : ∀ (zs : List Int) (f : Nat → Nat → Int) (k a b : Nat), putRow f i k zs a b = if a = i ∧ k ≤ b ∧ b < k + zs.length then zs.getD (b - k) 0 else f a b := by
  intro zs
  induction zs with
  | nil => intro f k a b; rw [putRow, if_neg (by simp)]
  | cons z zs ih =>
    intro f k a b
    rw [putRow, ih]
    by_cases h : a = i ∧ k + 1 ≤ b ∧ b < k + 1 + zs.length
    · rw [if_pos h, if_pos (by simp; omega), show b - k = b - (k + 1) + 1 by omega]; rfl
    · rw [if_neg h]
      unfold putF
      by_cases h2 : a = i ∧ b = k
      · rw [if_pos h2, if_pos (by simp; omega), h2.2, Nat.sub_self]; rfl
      · rw [if_neg h2, if_neg (by simp; omega)]
set_option maxRecDepth 100000 in
theorem below_setCells {C b : Nat} (hb : C ≤ b) {w : World} : ∀ (vs : List Value) (o : Nat) (W : World), Below C w W → Below C w (W.setCells b o vs) := by
  intro vs
  induction vs with
  | nil => intro o W h; exact h
  | cons v vs ih => intro o W h; exact ih (o + 1) _ (h.setCell (p := ⟨b, o, none⟩) hb v)
set_option maxRecDepth 100000 in
theorem heap_setCells {b k : Nat} (hk : k ≠ b) : ∀ (vs : List Value) (o : Nat) (W : World), (W.setCells b o vs).heap[k]? = W.heap[k]? := by
  intro vs
  induction vs with
  | nil => intro o W; rfl
  | cons v vs ih => intro o W; exact (ih (o + 1) _).trans (heap_setCell_other W ⟨b, o, none⟩ k v hk)
set_option maxRecDepth 100000 in
theorem size_setCells {b : Nat} : ∀ (vs : List Value) (o : Nat) (W : World), (W.setCells b o vs).heap.size = W.heap.size := by
  intro vs
  induction vs with
  | nil => intro o W; rfl
  | cons v vs ih => intro o W; rw [World.setCells, ih]; simp [World.setCell]
set_option maxRecDepth 100000 in
theorem below_setRow {C B : Nat} {w W : World} (h : Below C w W) (hB : C ≤ B) (cs : Array Value) : Below C w (W.setRow B cs) :=
  ⟨h.os, h.tape, h.output, by simpa [World.setRow] using h.size, fun k hk => (setRow_other W B k cs (by omega)).trans (h.block k hk)⟩
set_option maxRecDepth 100000 in
theorem tabV_one (n m : Nat) (f : Nat → Nat → Int) : (tabV n m f).all (·.oneCell') = true := by
  unfold tabV
  rw [List.all_toArray, List.all_eq_true]
  exact tabC_one n m f
def zF : Nat → Nat → Int := fun _ _ => 0
end Go.Proofs.Ytanoojpmokbiaab

/-
  tableWithin and tableIn of the program: a table told by lists. Conditions: the lists' cells are there.
-/
namespace Go.Proofs.Ytanoojpmokbiaab
open Go.RowKit Go.Shelf
attribute [local go_sem] Oper.semAt_some

/-- 1 to 6 rows of 1 to 6 entries, as many in each. -/
def shB (t : List (List Int)) : Bool := decide (1 ≤ t.length ∧ t.length ≤ 6) && (decide (1 ≤ colsN t ∧ colsN t ≤ 6) && t.all fun r => decide (r.length = colsN t))
set_option maxRecDepth 100000 in
theorem shB_true {t : List (List Int)} : shB t = true ↔ (1 ≤ t.length ∧ t.length ≤ 6) ∧ (1 ≤ colsN t ∧ colsN t ≤ 6) ∧ ∀ r, r ∈ t → r.length = colsN t := by
  simp only [shB, Bool.and_eq_true, decide_eq_true_eq, List.all_eq_true]
set_option maxRecDepth 100000 in
theorem shB_sh {t : List (List Int)} (h : shB t = true) : Sh t t.length (colsN t) := ⟨rfl, (shB_true.1 h).2.2⟩
def withinB (lo hi : Int) (t : List (List Int)) : Bool := shB t && inF lo hi t.length (colsN t) (ent t)
set_option maxRecDepth 100000 in
theorem inF_true {lo hi : Int} {n m : Nat} {f : Nat → Nat → Int} : inF lo hi n m f = true ↔ ∀ i k, i < n → k < m → lo ≤ f i k ∧ f i k ≤ hi := by
  unfold inF
  rw [List.all_eq_true]
  constructor
  · intro h i k hi hk
    obtain ⟨hx, _⟩ := spots_snoc hi hk
    have := of_decide_eq_true (h ⟨i * m + k, hx⟩ (List.mem_finRange _))
    simp only [spot_row hk, spot_col hk] at this
    exact this
  · intro h x _
    obtain ⟨h1, h2⟩ := spot_lt x
    exact decide_eq_true (h _ _ h1 h2)
set_option maxRecDepth 100000 in
theorem inF_congr {lo hi : Int} {n m : Nat} {f g : Nat → Nat → Int} (h : ∀ i k, i < n → k < m → f i k = g i k) : inF lo hi n m f = inF lo hi n m g := by
  rw [Bool.eq_iff_iff, inF_true, inF_true]
  exact ⟨fun q i k hi hk => by rw [← h i k hi hk]; exact q i k hi hk, fun q i k hi hk => by rw [h i k hi hk]; exact q i k hi hk⟩
set_option maxRecDepth 100000 in
theorem within_table (t : List (List Int)) : withinB (-1000) 1000 t = tableB t := by
  rw [Bool.eq_iff_iff]
  constructor
  · intro h
    unfold withinB at h
    rw [Bool.and_eq_true] at h
    obtain ⟨h1, h2⟩ := h
    obtain ⟨g1, g2, g3⟩ := shB_true.1 h1
    rw [inF_true] at h2
    refine tableB_true.2 ⟨fun i hi => ?_, g1⟩
    have hr := (shB_sh h1).row hi
    refine rowOk_true.2 ⟨by rw [hr]; exact g2, hr, fun x hx => ?_⟩
    obtain ⟨k, hk, rfl⟩ := List.getElem_of_mem hx
    have := h2 i k hi (by rw [← hr]; exact hk)
    unfold ent at this
    rwa [getD_in hk] at this
  · intro h
    obtain ⟨h1, h2, h3, h4⟩ := table_sh h
    unfold withinB
    rw [Bool.and_eq_true, inF_true]
    exact ⟨shB_true.2 ⟨h2, h3, h1.2⟩, h4⟩

/-- The rows below the i-th one have been copied. -/
def rowsTo (t : List (List Int)) (m i : Nat) : Nat → Nat → Int := fun a b => if a < i ∧ b < m then ent t a b else 0
end Go.Proofs.Ytanoojpmokbiaab

/-
  Structs and arrays of numbers in blocks of their own: 36 cells, and in general; two arrays of cells compared. Conditions: none.
-/
namespace Go.Proofs.Ytanoojpmokbiaab
open Go.RowKit Go.Shelf

/-- A struct or an array in block B. -/
def BX (W : World) (B : Nat) (T : TypeId) (cs : Array Value) : Prop := W.heap[B]? = some (.cells cs T (0, 0))
/-- The type's values are kept in cells, as many as cs has. -/
def RowT (P : Program) (T : TypeId) (k : Nat) : Prop := (∃ d, P.underlying T = some d ∧ (match d with | .struct _ | .array _ _ => true | _ => false) = true) ∧ (P.info? T).map (·.size) = some k
section
variable {W W' : World} {B : Nat} {T : TypeId} {cs : Array Value}
set_option maxRecDepth 100000 in
theorem BX.lt (h : BX W B T cs) : B < W.heap.size := (Array.getElem?_eq_some_iff.1 h).1
set_option maxRecDepth 100000 in
theorem BX.cell (h : BX W B T cs) (j : Nat) : W.cell? ⟨B, j, none⟩ = cs[j]? := cell_of_row W B j _ _ _ h
set_option maxRecDepth 100000 in
theorem BX.frozen (h : BX W B T cs) (j : Nat) : W.frozen? ⟨B, j, none⟩ = false := frozen_of_row W B j _ _ h
set_option maxRecDepth 100000 in
theorem BX.block (h : BX W B T cs) (hb : W'.heap[B]? = W.heap[B]?) : BX W' B T cs := hb.trans h
set_option maxRecDepth 100000 in
theorem BX.below {C : Nat} (h : BX W B T cs) (hb : Below C W W') (hC : B < C) : BX W' B T cs := hb.block B hC |>.trans h
set_option maxRecDepth 100000 in
theorem BX.grow (h : BX W B T cs) (hb : Below W.heap.size W W') : BX W' B T cs := h.below hb h.lt
set_option maxRecDepth 100000 in
theorem BX.alloc (h : BX W B T cs) (o : Obj) : BX (W.alloc o) B T cs := h.grow ((Below.refl _ W).alloc (Nat.le_refl _) o)
set_option maxRecDepth 100000 in
theorem BX.set_ (h : BX W B T cs) (j : Nat) (v : Value) : BX (W.setCell ⟨B, j, none⟩ v) B T (cs.setIfInBounds j v) := heap_setCell_same W B j cs T v h
set_option maxRecDepth 100000 in
theorem BX.other (h : BX W B T cs) {p : Addr} (hp : B ≠ p.block) (v : Value) : BX (W.setCell p v) B T cs := (heap_setCell_other W p B v hp).trans h
set_option maxRecDepth 100000 in
theorem BX.put (h : BX W B T cs) (cs' : Array Value) : BX (W.setRow B cs') B T cs' := setRow_heap W B _ _ _ _ h
set_option maxRecDepth 100000 in
theorem BX.apart (h : BX W B T cs) {B' : Nat} (hB : B ≠ B') (cs' : Array Value) : BX (W.setRow B' cs') B T cs := (setRow_other W B' B cs' hB).trans h
set_option maxRecDepth 100000 in
theorem BX.loadV {P : Program} {k : Nat} (h : BX W B T cs) (hT : RowT P T k) (hk : cs.size = k) : (loadVar T ⟨B, 0, none⟩).run P W = .ok (.agg cs) W := by
  obtain ⟨⟨d, h1, h2⟩, h3⟩ := hT
  exact run_loadVar_row W B _ _ cs (0, 0) d h h1 (by cases d <;> first | rfl | cases h2) (by rw [hk]; exact h3)
set_option maxRecDepth 100000 in
theorem run_ldX {P : Program} {k : Nat} {o : Oper} {ρ : Operand → Value} {x : Operand} (ho : o.op = .load T x) (hx : ρ x = .pointer (some ⟨B, 0, none⟩)) (h : BX W B T cs) (hT : RowT P T k) (hk : cs.size = k) : (execOp ρ o).run P W = .ok (.value (.agg cs)) W := by
  unfold execOp
  simp only [ho, hx, Instr.loadAt, Instr.sureAddr, Sem.run_bind, Sem.run_pure, Result.andThen_ok, h.loadV hT hk]
end
set_option maxRecDepth 100000 in
theorem BX.new (w : World) (T : TypeId) (cs : Array Value) : BX (w.alloc (.cells cs T)) w.heap.size T cs := World.alloc_heap_new w _
set_option maxRecDepth 100000 in
theorem bx_own {β : Type} (B : Nat) (T : TypeId) (cs : β → Array Value) : Own (fun s W => BX W B T (cs s)) := by
  rintro s X Y row h hg hrow
  have hne : some B ≠ row := by
    intro e
    obtain ⟨o, ho, hc⟩ := hrow B e.symm
    rw [show X.heap[B]? = _ from h] at ho; cases ho; cases hc
  exact (hg.block B h.lt hne).trans h
section
variable {ops : Array Oper} {rest : List Oper} {o : Oper} {a : Act} {w : World} {Q : Exit → Act → World → Prop} {P : Program}
set_option maxRecDepth 100000 in
theorem wpList_ldX (hg : o.guard = none) (x : Operand) {T : TypeId} (ho : o.op = .load T x) {B k : Nat} {cs : Array Value} (hx : a.eval x = .pointer (some ⟨B, 0, none⟩)) (hb : BX w B T cs) (hT : RowT P T k) (hk : cs.size = k)
    (h : wpList P ops Q rest (a.put o.dst (.agg cs)) w) : wpList P ops Q (o :: rest) a w := wpList_op hg (run_ldX ho hx hb hT hk) h
set_option maxRecDepth 100000 in
theorem wpList_stX (hg : o.guard = none) (x y : Operand) {T : TypeId} (ho : o.op = .store T x y) {B k : Nat} {cs cs' : Array Value} (hx : a.eval x = .pointer (some ⟨B, 0, none⟩)) (hy : a.eval y = .agg cs') (hb : BX w B T cs) (hT : RowT P T k) (hk : cs.size = k) (hk' : cs'.size = k) (h1 : cs'.all (·.oneCell') = true)
    (h : wpList P ops Q rest (a.put o.dst undef) (w.setRow B cs')) : wpList P ops Q (o :: rest) a w :=
  wpList_store_row hg _ x y ho B _ hx hy _ _ hb (by rw [hk']; exact hT.2) (by rw [hk, hk']) h1 h
/-- The type's zero. -/
def ZeroT (P : Program) (T : TypeId) (cs : Array Value) : Prop := (P.info? T).map (fun i => (i.zero, i.size)) = some (some (.agg cs), cs.size)
set_option maxRecDepth 100000 in
theorem wpList_alX (hg : o.guard = none) {T : TypeId} (ho : o.op = .alloc T) {cs : Array Value} (hz : ZeroT P T cs)
    (h : wpList P ops Q rest (a.put o.dst (.pointer (some ⟨w.heap.size, 0, none⟩))) (w.alloc (.cells cs T))) : wpList P ops Q (o :: rest) a w :=
  wpList_op hg (by
    have hz' := (zero_of_info hz).1
    unfold execOp
    simp [ho, go_sem, hz']) h
set_option maxRecDepth 100000 in
theorem wpList_buX (hg : o.guard = none) {T : TypeId} (ho : o.op = .build T #[]) {cs : Array Value} (hz : P.built T [] = some cs)
    (h : wpList P ops Q rest (a.put o.dst (.agg cs)) w) : wpList P ops Q (o :: rest) a w :=
  wpList_op hg (by unfold execOp; simp only [ho, Sem.run_bind, Array.map_empty, run_build w _ #[] _ hz, Result.andThen_ok, Sem.run_pure]) h
end

set_option maxRecDepth 100000 in
theorem resX {P : Program} {fn : Func} {p : Tmp} {T : TypeId} (h : fn.results = #[.cell p T]) (tmps : Array Value) (W : World) {B k : Nat} {cs : Array Value} (hp : tmps.getD p undef = .pointer (some ⟨B, 0, none⟩)) (hb : BX W B T cs) (hT : RowT P T k) (hk : cs.size = k) :
    (results fn tmps).run P W = .ok (.agg cs) W := by
  have hp' : tmps[p]?.getD undef = .pointer (some ⟨B, 0, none⟩) := by simpa using hp
  simp [results, h, hp', asAddr, hb.loadV hT hk]
/-- The 36 cells. -/
def cellC (f : Nat → Nat → Int) : List Value := (List.range 36).map fun j => .int .i64 (f (j / 6) (j % 6))
def cellV (f : Nat → Nat → Int) : Array Value := (cellC f).toArray
set_option maxRecDepth 100000 in
theorem cellV_size (f : Nat → Nat → Int) : (cellV f).size = 36 := by simp [cellV, cellC]
set_option maxRecDepth 100000 in
theorem cellV_get (f : Nat → Nat → Int) {i k : Nat} (hi : i < 6) (hk : k < 6) : (cellV f)[i * 6 + k]? = some (.int .i64 (f i k)) := by
  unfold cellV cellC
  rw [List.getElem?_toArray, List.getElem?_map, List.getElem?_range (by omega)]
  show some (Value.int .i64 (f ((i * 6 + k) / 6) ((i * 6 + k) % 6))) = _
  rw [show (i * 6 + k) / 6 = i by omega, show (i * 6 + k) % 6 = k by omega]
set_option maxRecDepth 100000 in
theorem cellV_congr {f g : Nat → Nat → Int} (h : ∀ i k, i < 6 → k < 6 → f i k = g i k) : cellV f = cellV g := by
  unfold cellV cellC
  congr 1
  refine List.map_congr_left fun j hj => ?_
  have := List.mem_range.1 hj
  rw [h _ _ (by omega) (by omega)]
set_option maxRecDepth 100000 in
theorem cellV_set (f : Nat → Nat → Int) {i k : Nat} (hi : i < 6) (hk : k < 6) (v : Int) : (cellV f).setIfInBounds (i * 6 + k) (.int .i64 v) = cellV (putF f i k v) := by
  unfold cellV
  rw [List.setIfInBounds_toArray]
  congr 1
  apply List.ext_getElem?
  intro j
  rw [List.getElem?_set]
  unfold cellC
  by_cases e : i * 6 + k = j
  · subst e
    rw [if_pos rfl, if_pos (by simp; omega), List.getElem?_map, List.getElem?_range (by omega)]
    show _ = some (Value.int .i64 (putF f i k v ((i * 6 + k) / 6) ((i * 6 + k) % 6)))
    rw [show (i * 6 + k) / 6 = i by omega, show (i * 6 + k) % 6 = k by omega]
    simp [putF]
  · rw [if_neg e, List.getElem?_map, List.getElem?_map]
    by_cases hj : j < 36
    · rw [List.getElem?_range hj]
      show some (Value.int .i64 (f (j / 6) (j % 6))) = some (Value.int .i64 (putF f i k v (j / 6) (j % 6)))
      unfold putF
      rw [if_neg (by omega)]
    · rw [List.getElem?_eq_none (by simp; omega)]; rfl
set_option maxRecDepth 100000 in
theorem cellV_one (f : Nat → Nat → Int) : (cellV f).all (·.oneCell') = true := by
  unfold cellV
  rw [List.all_toArray, List.all_eq_true]
  intro v hv
  obtain ⟨j, _, rfl⟩ := List.mem_map.1 hv
  rfl
set_option maxRecDepth 100000 in
/-- Two arrays, entry by entry. -/
theorem eqItems_all {P : Program} {w : World} (d : Nat) (e : TypeId) (s : Nat) (xs ys : Array Value) (b : Nat → Bool) : ∀ is : List Nat,
    (∀ i, i ∈ is → ∃ vx vy, (part e xs (i * s)).run P w = .ok vx w ∧ (part e ys (i * s)).run P w = .ok vy w ∧ (Op.equalIn d e vx vy).run P w = .ok (b i) w) → (Op.eqItems d e s xs ys is).run P w = .ok (is.all b) w := by
  intro is
  induction is with
  | nil => intro _; simp [Op.eqItems]
  | cons i is ih =>
    intro h
    obtain ⟨vx, vy, p1, p2, p3⟩ := h i (List.mem_cons_self ..)
    simp only [Op.eqItems, Sem.run_bind, p1, p2, p3, Result.andThen_ok]
    cases hb : b i with
    | false => simp [List.all_cons, hb]
    | true =>
      simp only [List.all_cons, hb, Bool.true_and]
      simpa using ih fun j hj => h j (List.mem_cons_of_mem _ hj)
end Go.Proofs.Ytanoojpmokbiaab

/-
  excess, isCrossed, tableIn, crossedIn and TableCrossed of the program. Conditions: the lists' cells are there.
-/
namespace Go.Proofs.Ytanoojpmokbiaab
open Go.RowKit Go.Shelf
attribute [local go_sem] Oper.semAt_some

set_option maxRecDepth 100000 in
theorem cells_part (f : Nat → Nat → Int) {i k : Nat} (hi : i < 6) (hk : k < 6) : ((cellV f).extract (i * 6) (i * 6 + 6))[k]? = some (.int .i64 (f i k)) := by
  rw [Array.getElem?_extract]
  rw [cellV_size, if_pos (by omega)]
  exact cellV_get f hi hk
/-- What excess answers. -/
def exF (n m : Nat) (f : Nat → Nat → Int) : Nat → Nat → Int := fun i k => if i + 1 < n ∧ k + 1 < m then max 0 (f i k + f (i + 1) (k + 1) - (f i (k + 1) + f (i + 1) k)) else 0
/-- As far as it has come. -/
def exTo (n m : Nat) (f : Nat → Nat → Int) (p q : Nat) : Nat → Nat → Int := fun i k => if i < p ∨ i = p ∧ k < q then exF n m f i k else 0
set_option maxRecDepth 100000 in
theorem exTo_start (n m : Nat) (f : Nat → Nat → Int) : cellV (exTo n m f 0 0) = cellV zF := cellV_congr fun i k _ _ => if_neg (by omega)
set_option maxRecDepth 100000 in
theorem exTo_step (n m : Nat) (f : Nat → Nat → Int) {p q : Nat} (hp : p + 1 < n) (hq : q + 1 < m) (hn : n ≤ 6) (hm : m ≤ 6) : (cellV (exTo n m f p q)).setIfInBounds (p * 6 + q) (.int .i64 (max 0 (f p q + f (p + 1) (q + 1) - (f p (q + 1) + f (p + 1) q)))) = cellV (exTo n m f p (q + 1)) := by
  rw [cellV_set _ (by omega) (by omega)]
  refine cellV_congr fun i k _ _ => ?_
  unfold putF exTo
  by_cases e : i = p ∧ k = q
  · obtain ⟨rfl, rfl⟩ := e
    rw [if_pos ⟨rfl, rfl⟩, if_pos (by omega)]
    unfold exF
    rw [if_pos ⟨hp, hq⟩]
  · rw [if_neg e]
    by_cases c : i < p ∨ i = p ∧ k < q
    · rw [if_pos c, if_pos (by omega)]
    · rw [if_neg c, if_neg (by omega)]
set_option maxRecDepth 100000 in
theorem exTo_next (n m : Nat) (f : Nat → Nat → Int) {p q : Nat} (hq : m ≤ q + 1) : cellV (exTo n m f p q) = cellV (exTo n m f (p + 1) 0) := by
  refine cellV_congr fun i k _ _ => ?_
  unfold exTo
  by_cases c : i < p ∨ i = p ∧ k < q
  · rw [if_pos c, if_pos (by omega)]
  · rw [if_neg c]
    by_cases d : i = p
    · rw [if_pos (by omega)]
      unfold exF
      rw [if_neg (by omega)]
    · rw [if_neg (by omega)]
set_option maxRecDepth 100000 in
theorem exTo_all (n m : Nat) (f : Nat → Nat → Int) {p : Nat} (hp : n ≤ p + 1) : cellV (exTo n m f p 0) = cellV (exF n m f) := by
  refine cellV_congr fun i k _ _ => ?_
  unfold exTo
  by_cases c : i < p ∨ i = p ∧ k < 0
  · rw [if_pos c]
  · rw [if_neg c]
    unfold exF
    rw [if_neg (by omega)]

def crF (n m : Nat) (f : Nat → Nat → Int) : Bool := (List.range (n - 1)).all fun i => (List.range (m - 1)).all fun k => decide (f i k + f (i + 1) (k + 1) ≤ f i (k + 1) + f (i + 1) k)
set_option maxRecDepth 100000 in
theorem crF_ex (n m : Nat) (f : Nat → Nat → Int) (hn : n ≤ 6) (hm : m ≤ 6) : ((List.range 6).all fun i => (List.range 6).all fun k => exF n m f i k == zF i k) = crF n m f := by
  rw [Bool.eq_iff_iff]
  unfold crF
  simp only [List.all_eq_true, List.mem_range, decide_eq_true_eq, beq_iff_eq]
  constructor
  · intro h i hi k hk
    have := h i (by omega) k (by omega)
    unfold exF zF at this
    rw [if_pos (by omega)] at this
    omega
  · intro h i _ k _
    unfold exF zF
    split
    · next c => have := h i (by omega) k (by omega); omega
    · rfl
set_option maxRecDepth 100000 in
theorem crF_congr {n m : Nat} {f g : Nat → Nat → Int} (h : ∀ i k, i < n → k < m → f i k = g i k) : crF n m f = crF n m g := by
  rw [Bool.eq_iff_iff]
  unfold crF
  simp only [List.all_eq_true, List.mem_range, decide_eq_true_eq]
  constructor
  · intro q i hi k hk
    have := q i hi k hk
    rwa [h i k (by omega) (by omega), h (i + 1) (k + 1) (by omega) (by omega), h i (k + 1) (by omega) (by omega), h (i + 1) k (by omega) (by omega)] at this
  · intro q i hi k hk
    rw [h i k (by omega) (by omega), h (i + 1) (k + 1) (by omega) (by omega), h i (k + 1) (by omega) (by omega), h (i + 1) k (by omega) (by omega)]
    exact q i hi k hk

/-- What tableIn answers. -/
def TabRet (w : World) (ok : Bool) (t : List (List Int)) (e : Ending) (w' : World) : Prop :=
  ∃ n m f, e = .returned (.tuple #[.agg (tabV n m f), .bool ok]) ∧ (n ≤ 6 ∧ m ≤ 6) ∧ (ok = true → n = t.length ∧ m = colsN t ∧ ∀ i k, i < t.length → k < colsN t → f i k = ent t i k) ∧ Below w.heap.size w w'

end Go.Proofs.Ytanoojpmokbiaab
