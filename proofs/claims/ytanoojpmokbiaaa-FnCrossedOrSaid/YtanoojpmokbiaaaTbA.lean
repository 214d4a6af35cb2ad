/-
  Tables of the program: the value of 38 numbers, in memory, their spots, told by lists, crossed ones. Conditions: the lists' cells are there.
-/
import Derived.Test.YtanoojpmokbiaaaTabA
import Derived.Test.YtanoojpmokbiaaaColl2
import Derived.Laws.Rows
import Derived.Deep.MidRow
import Derived.Test.YtanoojpmokbiaaaIter3
import Derived.Test.YtanoojpmokbiaaaHeld
import Derived.Sort.QuietIn
import Derived.Deep.RegionHeld
import Derived.Test.YtanoojpmokbiaaaTmA
import Derived.Laws.IdiomCopy
import Derived.Laws.Tables
import Derived.Deep.WholeRow
import Derived.ChangeKeysEq
import Derived.Laws.StructEq
/-
  A table of the program as a value of 38 numbers, and in a block of its own. Conditions: none.
-/
namespace Go.Proofs.Ytanoojpmokbiaaa
open Go.RowKit Go.Shelf

/-- The numbers of a table: how many rows, how many columns, 36 entries. -/
def tabC (n m : Nat) (f : Nat → Nat → Int) : List Value := .int .i64 (n : Int) :: .int .i64 (m : Int) :: (List.range 36).map fun j => .int .i64 (f (j / 6) (j % 6))
def tabV (n m : Nat) (f : Nat → Nat → Int) : Array Value := (tabC n m f).toArray
set_option maxRecDepth 100000 in
theorem tabC_len (n m : Nat) (f : Nat → Nat → Int) : (tabC n m f).length = 38 := by simp [tabC]
set_option maxRecDepth 100000 in
theorem tabV_size (n m : Nat) (f : Nat → Nat → Int) : (tabV n m f).size = 38 := by simp [tabV, tabC]
set_option maxRecDepth 100000 in
theorem tabC_entry (n m : Nat) (f : Nat → Nat → Int) {i k : Nat} (hi : i < 6) (hk : k < 6) : (tabC n m f)[2 + i * 6 + k]? = some (.int .i64 (f i k)) := by
  unfold tabC
  rw [show 2 + i * 6 + k = (i * 6 + k) + 1 + 1 by omega, List.getElem?_cons_succ, List.getElem?_cons_succ, List.getElem?_map, List.getElem?_range (by omega)]
  show some (Value.int .i64 (f ((i * 6 + k) / 6) ((i * 6 + k) % 6))) = _
  rw [show (i * 6 + k) / 6 = i by omega, show (i * 6 + k) % 6 = k by omega]
set_option maxRecDepth 100000 in
theorem tabC_one (n m : Nat) (f : Nat → Nat → Int) : ∀ v ∈ tabC n m f, v.oneCell' = true := by
  intro v hv
  unfold tabC at hv
  simp only [List.mem_cons, List.mem_map] at hv
  rcases hv with rfl | rfl | ⟨j, -, rfl⟩ <;> rfl

def putF (f : Nat → Nat → Int) (i k : Nat) (v : Int) : Nat → Nat → Int := fun a b => if a = i ∧ b = k then v else f a b
set_option maxRecDepth 100000 in
theorem tabC_set (n m : Nat) (f : Nat → Nat → Int) {i k : Nat} (hi : i < 6) (hk : k < 6) (v : Int) : (tabC n m f).set (2 + i * 6 + k) (.int .i64 v) = tabC n m (putF f i k v) := by
  apply List.ext_getElem?
  intro j
  rw [List.getElem?_set]
  by_cases e : 2 + i * 6 + k = j
  · subst e
    rw [if_pos rfl, if_pos (by rw [tabC_len]; omega), tabC_entry _ _ _ hi hk]
    simp [putF]
  · rw [if_neg e]
    unfold tabC
    match j with
    | 0 => rfl
    | 1 => rfl
    | j + 2 =>
      rw [List.getElem?_cons_succ, List.getElem?_cons_succ, List.getElem?_cons_succ, List.getElem?_cons_succ, List.getElem?_map, List.getElem?_map]
      by_cases hj : j < 36
      · rw [List.getElem?_range hj]
        show some (Value.int .i64 (f (j / 6) (j % 6))) = some (Value.int .i64 (putF f i k v (j / 6) (j % 6)))
        unfold putF
        rw [if_neg (by omega)]
      · rw [List.getElem?_eq_none (by simp; omega)]; rfl
set_option maxRecDepth 100000 in
theorem tabC_congr {n m : Nat} {f g : Nat → Nat → Int} (h : ∀ i k, i < 6 → k < 6 → f i k = g i k) : tabC n m f = tabC n m g := by
  unfold tabC
  congr 2
  refine List.map_congr_left fun j hj => ?_
  have := List.mem_range.1 hj
  rw [h _ _ (by omega) (by omega)]

/-- A table in block B. -/
def BT (W : World) (B n m : Nat) (f : Nat → Nat → Int) : Prop := W.heap[B]? = some (.cells (tabV n m f) 50 (0, 0))
section
variable {W W' : World} {B n m : Nat} {f : Nat → Nat → Int}
set_option maxRecDepth 100000 in
theorem BT.lt (h : BT W B n m f) : B < W.heap.size := (Array.getElem?_eq_some_iff.1 h).1
set_option maxRecDepth 100000 in
theorem BT.rows (h : BT W B n m f) : W.cell? ⟨B, 0, none⟩ = some (.int .i64 (n : Int)) := by
  rw [cell_of_row W B 0 _ _ _ h]; rfl
set_option maxRecDepth 100000 in
theorem BT.cols (h : BT W B n m f) : W.cell? ⟨B, 1, none⟩ = some (.int .i64 (m : Int)) := by
  rw [cell_of_row W B 1 _ _ _ h]; rfl
set_option maxRecDepth 100000 in
theorem BT.entry (h : BT W B n m f) {i k : Nat} (hi : i < 6) (hk : k < 6) : W.cell? ⟨B, 2 + i * 6 + k, none⟩ = some (.int .i64 (f i k)) := by
  rw [cell_of_row W B _ _ _ _ h]
  unfold tabV
  rw [List.getElem?_toArray, tabC_entry _ _ _ hi hk]
set_option maxRecDepth 100000 in
theorem BT.frozen (h : BT W B n m f) (j : Nat) : W.frozen? ⟨B, j, none⟩ = false := frozen_of_row W B j _ _ h
set_option maxRecDepth 100000 in
theorem BT.block (h : BT W B n m f) (hb : W'.heap[B]? = W.heap[B]?) : BT W' B n m f := hb.trans h
set_option maxRecDepth 100000 in
theorem BT.below {C : Nat} (h : BT W B n m f) (hb : Below C W W') (hC : B < C) : BT W' B n m f := hb.block B hC |>.trans h
set_option maxRecDepth 100000 in
theorem BT.grow (h : BT W B n m f) (hb : Below W.heap.size W W') : BT W' B n m f := h.below hb h.lt
set_option maxRecDepth 100000 in
theorem BT.drew (h : BT W B n m f) : BT W.drew B n m f := h
set_option maxRecDepth 100000 in
theorem BT.alloc (h : BT W B n m f) (o : Obj) : BT (W.alloc o) B n m f := h.grow ((Below.refl _ W).alloc (Nat.le_refl _) o)
set_option maxRecDepth 100000 in
theorem BT.set_ (h : BT W B n m f) {i k : Nat} (hi : i < 6) (hk : k < 6) (v : Int) : BT (W.setCell ⟨B, 2 + i * 6 + k, none⟩ (.int .i64 v)) B n m (putF f i k v) := by
  have := heap_setCell_same W B (2 + i * 6 + k) (tabV n m f) 50 (.int .i64 v) h
  unfold BT
  rw [this, ← show (tabV n m f).setIfInBounds (2 + i * 6 + k) (.int .i64 v) = tabV n m (putF f i k v) from ?_]
  unfold tabV
  rw [List.setIfInBounds_toArray, tabC_set _ _ _ hi hk]
set_option maxRecDepth 100000 in
theorem BT.other (h : BT W B n m f) {p : Addr} (hp : B ≠ p.block) (v : Value) : BT (W.setCell p v) B n m f := (heap_setCell_other W p B v hp).trans h
end
set_option maxRecDepth 100000 in
theorem BT.new (w : World) (n m : Nat) (f : Nat → Nat → Int) : BT (w.alloc (.cells (tabV n m f) 50)) w.heap.size n m f := World.alloc_heap_new w _
set_option maxRecDepth 100000 in
theorem bt_own {β : Type} (B n m : Nat) (f : β → Nat → Nat → Int) : Own (fun s W => BT W B n m (f s)) := by
  rintro s X Y row h hg hrow
  have hne : some B ≠ row := by
    intro e
    obtain ⟨o, ho, hc⟩ := hrow B e.symm
    rw [show X.heap[B]? = _ from h] at ho; cases ho; cases hc
  exact (hg.block B h.lt hne).trans h
set_option maxRecDepth 100000 in
/-- A whole table out of its block. -/
theorem BT.load {W : World} {B n m : Nat} {f : Nat → Nat → Int} (h : BT W B n m f) : (Instr.loadAt 50 (.pointer (some ⟨B, 0, none⟩))).run Try.prog W = .ok (.agg (tabV n m f)) W := by
  simp only [Instr.loadAt, Instr.sureAddr, Sem.run_bind, Sem.run_pure, Result.andThen]
  exact run_loadVar_row W B _ _ (tabV n m f) (0, 0) _ h Try.underlying50 rfl (by rw [tabV_size]; kernel_rfl)
set_option maxRecDepth 100000 in
theorem BT.loadV {W : World} {B n m : Nat} {f : Nat → Nat → Int} (h : BT W B n m f) : (loadVar 50 ⟨B, 0, none⟩).run Try.prog W = .ok (.agg (tabV n m f)) W :=
  run_loadVar_row W B _ _ (tabV n m f) (0, 0) _ h Try.underlying50 rfl (by rw [tabV_size]; kernel_rfl)
set_option maxRecDepth 100000 in
/-- Laws at an operation that leaves a value. -/
theorem wpListIn_op {F : Fence} {N : Nat} {P : Program} {ops : Array Oper} {rest : List Oper} {o : Oper} {a : Act} {w w' : World} {Q : Exit → Act → World → Prop} {v : Value} (hg : o.guard = none) (hd : ∀ c, o.op ≠ .defer c) (hab : o.about P w a.eval = none)
    (hr : (execOp a.eval o).run P w = .ok (.value v) w') (h : wpListIn F N P ops Q rest (a.put o.dst v) w') : wpListIn F N P ops Q (o :: rest) a w := by
  refine wpListIn_plain hg fun K hK => ?_
  unfold Oper.wpIn
  refine ⟨fun f hf => (by rw [hab] at hf; cases hf), ?_⟩
  rw [Oper.semAt_plain F _ _ hd, hr]
  exact hK _ _ h
set_option maxRecDepth 100000 in
theorem wpList_op {P : Program} {ops : Array Oper} {rest : List Oper} {o : Oper} {a : Act} {w w' : World} {Q : Exit → Act → World → Prop} {v : Value} (hg : o.guard = none)
    (hr : (execOp a.eval o).run P w = .ok (.value v) w') (h : wpList P ops Q rest (a.put o.dst v) w') : wpList P ops Q (o :: rest) a w := by
  refine wpList_plain hg fun K hK => ?_
  unfold Oper.wp
  rw [hr]
  exact hK _ _ h
set_option maxRecDepth 100000 in
theorem run_ldT {o : Oper} {ρ : Operand → Value} {w : World} {x : Operand} (ho : o.op = .load 50 x) {B n m : Nat} {f : Nat → Nat → Int} (hx : ρ x = .pointer (some ⟨B, 0, none⟩)) (h : BT w B n m f) : (execOp ρ o).run Try.prog w = .ok (.value (.agg (tabV n m f))) w := by
  unfold execOp
  simp only [ho, hx, Sem.run_bind, h.load, Result.andThen_ok, Sem.run_pure]
set_option maxRecDepth 100000 in
theorem wpListIn_ldT {F : Fence} {N : Nat} {ops : Array Oper} {rest : List Oper} {o : Oper} {a : Act} {w : World} {Q : Exit → Act → World → Prop} (hg : o.guard = none) (x : Operand) (ho : o.op = .load 50 x) {B n m : Nat} {f : Nat → Nat → Int} (hx : a.eval x = .pointer (some ⟨B, 0, none⟩)) (hb : BT w B n m f)
    (h : wpListIn F N Try.prog ops Q rest (a.put o.dst (.agg (tabV n m f))) w) : wpListIn F N Try.prog ops Q (o :: rest) a w :=
  wpListIn_op hg (by rw [ho]; intro c e; cases e) (by unfold Oper.about; rw [ho]) (run_ldT ho hx hb) h
set_option maxRecDepth 100000 in
theorem wpList_ldT {ops : Array Oper} {rest : List Oper} {o : Oper} {a : Act} {w : World} {Q : Exit → Act → World → Prop} (hg : o.guard = none) (x : Operand) (ho : o.op = .load 50 x) {B n m : Nat} {f : Nat → Nat → Int} (hx : a.eval x = .pointer (some ⟨B, 0, none⟩)) (hb : BT w B n m f)
    (h : wpList Try.prog ops Q rest (a.put o.dst (.agg (tabV n m f))) w) : wpList Try.prog ops Q (o :: rest) a w :=
  wpList_op hg (run_ldT ho hx hb) h
set_option maxRecDepth 100000 in
/-- The same as the walk comes upon it. -/
theorem BT.loadC {W : World} {B n m : Nat} {f : Nat → Nat → Int} (h : BT W B n m f) : (loadCellsFrom ⟨B, 0, none⟩ 0 38 #[]).run Try.prog W = .ok (tabV n m f) W := by
  have := run_loadCells_list (P := Try.prog) W ⟨B, 0, none⟩ (tabV n m f).toList (fun j v hv => by
    have hadd : (⟨B, 0, none⟩ : Addr).add j = ⟨B, j, none⟩ := by unfold Addr.add; split <;> simp_all
    rw [hadd, cell_of_row W B j _ _ _ h]
    simpa using hv)
  simpa [loadCells, tabV, tabC_len] using this
end Go.Proofs.Ytanoojpmokbiaaa

/-
  The iterator of a table's spots, row by row. Conditions: the table lies in a block of its own.
-/
namespace Go.Proofs.Ytanoojpmokbiaaa
open Go.RowKit Go.Shelf
attribute [local go_sem] Oper.semAt_some

set_option maxRecDepth 100000 in
theorem ownP {β : Type} (C : Nat) (p : β → Prop) : OwnFrom C (fun s (_ : World) => p s) := fun _ _ _ _ h _ _ => h
set_option maxRecDepth 100000 in
theorem spot_lt {n m : Nat} (x : Fin (n * m)) : x.1 / m < n ∧ x.1 % m < m := by
  have hx := x.2
  have hm : 0 < m := by
    rcases Nat.eq_zero_or_pos m with h | h
    · subst h; simp at hx
    · exact h
  exact ⟨by rw [Nat.div_lt_iff_lt_mul hm]; exact hx, Nat.mod_lt _ hm⟩
set_option maxRecDepth 100000 in
theorem spots_snoc {n m i k : Nat} (hi : i < n) (hk : k < m) : ∃ h : i * m + k < n * m, (List.finRange (n * m)).take (i * m + k) ++ [⟨i * m + k, h⟩] = (List.finRange (n * m)).take (i * m + k + 1) := by
  have h : i * m + k < n * m := by
    have := Nat.mul_le_mul_right m (show i + 1 ≤ n by omega)
    rw [Nat.succ_mul] at this
    omega
  exact ⟨h, finRange_succ h⟩
set_option maxRecDepth 100000 in
theorem spot_row {m i k : Nat} (hk : k < m) : (i * m + k) / m = i := by
  rw [Nat.mul_comm, Nat.mul_add_div (by omega), Nat.div_eq_of_lt hk, Nat.add_zero]
set_option maxRecDepth 100000 in
theorem spot_col {m i k : Nat} (hk : k < m) : (i * m + k) % m = k := by
  rw [Nat.mul_comm, Nat.mul_add_mod, Nat.mod_eq_of_lt hk]

set_option maxRecDepth 100000 in
set_option maxHeartbeats 1000000 in
theorem spots1_pf (F : Fence) (N : Nat) (hF : F.fn 60) (hro : F.round = none) (hn : 1 ≤ N) (l Bn n₀ n m : Nat) (f : Nat → Nat → Int) (hn6 : n ≤ 6) (hm6 : m ≤ 6) (J Jx : List (Fin (n * m)) → World → Prop)
    (hY : ∀ pre x W, J pre W → pre.length < n * m → YieldAt F (N - 1) Try.prog l #[.int .i64 (((x : Fin (n * m)).1 / m : Nat) : Int), .int .i64 ((x.1 % m : Nat) : Int)] W fun e W' =>
      (e = .returned (.bool true) ∧ J (pre ++ [x]) W' ∧ KeepAt n₀ Bn W W') ∨ (e = .returned (.bool false) ∧ Jx (pre ++ [x]) W'))
    (W : World) (hBn : BT W Bn n m f) (h0 : J [] W) :
    CallsIn F N Try.prog 60 #[.func (.yield l) #[] #[], .pointer (some ⟨Bn, 0, none⟩)] W fun e W' => (∃ v, e = .returned v) ∧
      ((∃ ys, ys = List.finRange (n * m) ∧ J ys W') ∨ (∃ pre, Pfx (n * m) pre ∧ Jx pre W')) := by
  have c0 := hBn.rows
  have HB := Lib.hid hBn
  clear hBn
  refine callsIn_of_wp Try.func60 rfl hF ?_ hro
  simp only [Try.ntmps60, List.size_toArray, List.length_cons, List.length_nil, Nat.reduceAdd, Nat.reduceSub, Array.replicate_succ, Array.replicate_zero, List.push_toArray, List.append_toArray, List.nil_append, List.cons_append]
  gi_wp2
  gi_loopw [7] (fun i wr => ∃ a : Nat, a ≤ n ∧ i = .int .i64 (a : Int) ∧ BT wr Bn n m f ∧ J ((List.finRange (n * m)).take (a * m)) wr)
    (fun i _ => n - (intOf i).toNat)
  case atStart => exact ⟨0, Nat.zero_le _, rfl, HB.out, by simpa using h0⟩
  case round =>
    clear c0 HB
    obtain ⟨a, ha, rfl, hb, hJ⟩ := hrel
    have c1 := hb.cols
    have HB := Lib.hid hb; have HJ := Lib.hid hJ
    clear hb hJ
    by_cases hlt : a < n
    · have hlt' : (a : Int) < (n : Int) := by omega
      gi_wp2
      gi_loopw [12] (fun i wr => ∃ b : Nat, b ≤ m ∧ i = .int .i64 (b : Int) ∧ BT wr Bn n m f ∧ J ((List.finRange (n * m)).take (a * m + b)) wr)
        (fun i _ => m - (intOf i).toNat)
      case atStart => exact ⟨0, Nat.zero_le _, rfl, HB.out, by simpa using HJ.out⟩
      case round =>
        clear c1 HB HJ
        obtain ⟨b, hb', rfl, hb, hJ⟩ := hrel
        have HB := Lib.hid hb
        clear hb
        by_cases hltb : b < m
        · have hltb' : (b : Int) < (m : Int) := by omega
          obtain ⟨hx, hsn⟩ := spots_snoc hlt hltb
          obtain ⟨fn, tmps, assign, body, hy, hYR⟩ := hY ((List.finRange (n * m)).take (a * m + b)) ⟨a * m + b, hx⟩ wr hJ (by simp; omega)
          simp only [spot_row hltb, spot_col hltb] at hy hYR
          rw [hsn] at hYR
          gi_wp2
          refine hYR.mono ?_
          rintro e W3 (⟨rfl, hJ3, hk3⟩ | ⟨rfl, hJx3⟩)
          · have HJ := Lib.hid hJ3
            have HB3 : Hid (BT W3 Bn n m f) := HB.out.block (hk3.block Bn (.inr rfl))
            clear hJ3 hk3 hYR hJ
            gi_wp2
            go_roundw
            case rel => exact ⟨b + 1, by omega, by go_num, HB3.out, HJ.out⟩
            case measure => simp [intOf]; omega
          · have HJ := Lib.hid hJx3
            clear hJx3 hYR hJ
            gi_wp2
            refine bodyPost_ret (results_none rfl _ _ _) rfl ?_
            exact ⟨⟨_, rfl⟩, .inr ⟨_, ⟨a * m + b, hx, rfl⟩, HJ.out⟩⟩
        · obtain rfl : b = m := by omega
          have hltb' : ¬ (b : Int) < (b : Int) := by omega
          have HJ := Lib.hid hJ
          clear hJ
          gi_wp2
          go_roundw
          case rel => exact ⟨a + 1, by omega, by go_num, HB.out, by rw [Nat.succ_mul]; exact HJ.out⟩
          case measure => simp [intOf]; omega
    · obtain rfl : a = n := by omega
      have hlt' : ¬ (a : Int) < (a : Int) := by omega
      gi_wp2
      go_end0
      exact ⟨⟨_, rfl⟩, .inl (by have := HJ.out; rwa [List.take_of_length_le (by simp)] at this)⟩

set_option maxRecDepth 100000 in
/-- The value that spots hands back: a loop over it, that may be left early. -/
theorem spots_pf (F : Fence) (N : Nat) (hF : F.fn 60) (hro : F.round = none) (hn : 1 ≤ N) (Bn n₀ n m : Nat) (f : Nat → Nat → Int) (hn6 : n ≤ 6) (hm6 : m ≤ 6) (w : World) (hc : BT w Bn n m f) :
    SeqStopsK F N Try.prog 60 #[.pointer (some ⟨Bn, 0, none⟩)] (fun x : Fin (n * m) => #[.int .i64 ((x.1 / m : Nat) : Int), .int .i64 ((x.1 % m : Nat) : Int)]) (KeepAt n₀ Bn) (fun ys => ys = List.finRange (n * m)) (Pfx (n * m)) (n * m) w := fun l J Jx W hW _ _ hY h0 =>
  spots1_pf F N hF hro hn l Bn n₀ n m f hn6 hm6 J Jx hY W (hc.grow hW) h0

set_option maxHeartbeats 1000000 in
set_option maxRecDepth 100000 in
theorem spots_any (n m : Nat) (f : Nat → Nat → Int) (w : World) :
    Calls Try.prog 49 #[.agg (tabV n m f)] w fun e w' => e = .returned (.func (.func 60) #[] #[.pointer (some ⟨w.heap.size, 0, none⟩)]) ∧ w' = w.alloc (.cells (tabV n m f) 50) := by
  go_enter Try.func49, Try.ntmps49
  go_wp2
  go_ret
  exact ⟨rfl, rfl⟩
end Go.Proofs.Ytanoojpmokbiaaa

/-
  A region whose order Go leaves open and that only reads, inside a loop over an iterator too: one walk in the text's order. Conditions: no select, no defer among the operations.
-/
namespace Go.Proofs.Ytanoojpmokbiaaa
section
variable {F : Fence} {n : Nat} {P : Program} {ops : Array Oper} {md : Region.Mode} {C : World → Prop}
set_option maxRecDepth 100000 in
theorem wpIn_quietR {o : Oper} {a : Act} {K : Act → Prop} {K' : Act → World → Prop} {Q' : Exit → Act → World → Prop} {w : World} (hd : ∀ c, o.op ≠ .defer c) (hw : C w) (h : ∀ a w', C w' → K a → K' a w')
    (ha : o.askedIn F P a C) (hh : o.quietIn F n P a C K) : o.wpIn F n P a w K' Q' := by
  obtain ⟨v, h1, h2⟩ := hh
  have h3 := h1 w hw
  unfold Oper.quietAtIn at h3
  unfold Oper.wpIn
  refine ⟨ha w hw, ?_⟩
  rw [Oper.semAt_plain F _ _ hd]
  generalize (execOp a.eval o).run P w = r at *
  cases r with
  | ok x w' =>
    cases x <;> simp only [Oper.quietUponIn] at h3 <;> simp only [Oper.uponIn]
    case value u =>
      obtain ⟨e1, e2⟩ := h3
      rw [e1, e2]
      exact h _ _ hw h2
    case skip =>
      obtain ⟨e1, e2⟩ := h3
      rw [e1, ← e2]
      exact h _ _ hw h2
    case enter f args =>
      obtain ⟨e1, hd, hc⟩ := h3
      rw [e1]
      exact ⟨hd, hc.mono fun e w'' ⟨he, hw''⟩ => by subst he; exact h _ _ hw'' h2⟩
  | halt x w' => simp only [Oper.quietUponIn] at h3
set_option maxRecDepth 100000 in
theorem wpOpIn_quietR {i : Nat} {a : Act} {K : Act → Prop} {K' : Act → World → Prop} {Q' : Exit → Act → World → Prop} {w : World} (hp : plainOps ops = true) (hC : C w) (h : ∀ a w', C w' → K a → K' a w')
    (hh : qOpIn F n P ops C i K a) : wpOpIn F n P ops Q' i K' a w := by
  unfold qOpIn at hh
  unfold wpOpIn
  split
  · rename_i ho; simp only [ho] at hh; exact h _ _ hC hh
  · rename_i o ho
    simp only [ho] at hh
    obtain ⟨ha, hh⟩ := hh
    split
    · rename_i hw; simp only [hw, if_true] at hh; exact wpIn_quietR (plainOps_spec hp ho).2 hC h ha hh
    · rename_i hw; simp only [hw] at hh; exact ⟨ha w hC, h _ _ hC hh⟩
set_option maxRecDepth 100000 in
theorem wpAnyIn_quietR {Q : Act → Prop} {Q' : Exit → Act → World → Prop} (hp : plainOps ops = true) (hQ : ∀ a w, C w → Q a → Q' .normal a w) : ∀ (fuel : Nat) (listed : Array Bool) (a : Act) (w : World), C w →
    wpAnyQIn F n P md ops C Q fuel listed a → wpAnyIn F n P md ops Q' fuel listed a w
  | 0, _, _, _, hw, h => ⟨h.1, hQ _ _ hw h.2⟩
  | fuel + 1, _, _, _, hw, h => ⟨fun h0 => hQ _ _ hw (h.1 h0), fun i hi => wpOpIn_quietR hp hw (fun a' w' hw' => wpAnyIn_quietR hp hQ fuel _ a' w' hw') (h.2 i hi)⟩
set_option maxRecDepth 100000 in
theorem wpIn_region_quietR {id : Nat} {Q : Exit → Act → World → Prop} {a : Act} {w : World} (hp : plainOps ops = true) (hm : P.follows .mixedOrders = true) (hB : Region.lexB .any ops = true) (hC : C { w with drawn := w.drawn + 1 })
    (h : wpQuietIn F n P ops C (fun a' => ∀ w', C w' → Q .normal a' w') ops.toList a) : (Code.region id ops true).wpIn F n P Q a w := by
  simp only [Region.lexB, Bool.and_eq_true] at hB
  refine wpIn_region_any hm (wpAnyIn_quietR (Q := fun a' => ∀ w', C w' → Q .normal a' w') hp (fun _ w' hw' h => h w' hw') _ _ _ _ hC ?_)
  have := wpAnyQIn_lex (F := F) (n := n) (C := C) (md := .any) hB.1 ops.toList 0 (Array.replicate ops.size false) a (by simp) (by simpa using hB.2) h
  simpa using this
set_option maxRecDepth 100000 in
/-- The same for a region whose operations are written out. -/
theorem wpIn_region_quietL {id : Nat} {Q : Exit → Act → World → Prop} {a : Act} {w : World} {l : List Oper} (hp : plainOps l.toArray = true) (hm : P.follows .mixedOrders = true) (hB : Region.lexB .any l.toArray = true)
    (h : wpQuietIn F n P l.toArray (fun w' => ∃ n, w' = w.drewN n) (fun a' => ∀ w', (∃ n, w' = w.drewN n) → Q .normal a' w') l a) : (Code.region id l.toArray true).wpIn F n P Q a w :=
  wpIn_region_quietR (C := fun w' => ∃ n, w' = w.drewN n) hp hm hB ⟨1, rfl⟩ (by simpa using h)
end
/- The plain walk: a region under a condition S on the world, by hand. -/
section
variable {P : Program} {ops : Array Oper} {Q : Exit → Act → World → Prop} {S : World → Prop} {md : Region.Mode}
set_option maxRecDepth 100000 in
theorem anyH_take (i : Nat) {oi : Oper} {v : Value} {fuel : Nat} {listed : Array Bool} {a : Act} {w : World} (hi : ops[i]? = some oi)
    (hs : Region.noSelect ops = true) (hf : Region.free md ops listed i = true) (hr : (Region.ready md ops listed).contains i = true)
    (hQ : ∀ c a w, Q (.panic c) (a.put oi.dst v) w → Q (.panic c) a w) (hg : oi.guard = none) (hy : ∀ w, S w → (execOp a.eval oi).run P w = .ok (.value v) w) (hS : S w)
    (h : wpAnyH P md ops Q S fuel (listed.setIfInBounds i true) (a.put oi.dst v) w) : wpAnyH P md ops Q S (fuel + 1) listed a w :=
  wpAnyH_take hi hs hf hr hQ (.inl ⟨by simp [Region.wanted, hg], hy⟩) hS h
set_option maxRecDepth 100000 in
theorem anyH_takeW (i : Nat) {oi : Oper} {v : Value} {fuel : Nat} {listed : Array Bool} {a : Act} {w : World} (hi : ops[i]? = some oi)
    (hs : Region.noSelect ops = true) (hf : Region.free md ops listed i = true) (hr : (Region.ready md ops listed).contains i = true)
    (hQ : ∀ c a w, Q (.panic c) (a.put oi.dst v) w → Q (.panic c) a w) (hw : Region.wanted oi (yielded ops a.tmps) = true) (hy : ∀ w, S w → (execOp a.eval oi).run P w = .ok (.value v) w) (hS : S w)
    (h : wpAnyH P md ops Q S fuel (listed.setIfInBounds i true) (a.put oi.dst v) w) : wpAnyH P md ops Q S (fuel + 1) listed a w :=
  wpAnyH_take hi hs hf hr hQ (.inl ⟨hw, hy⟩) hS h
set_option maxRecDepth 100000 in
theorem anyH_skip (i : Nat) {oi : Oper} {fuel : Nat} {listed : Array Bool} {a : Act} {w : World} (hi : ops[i]? = some oi)
    (hs : Region.noSelect ops = true) (hf : Region.free md ops listed i = true) (hr : (Region.ready md ops listed).contains i = true)
    (hQ : ∀ c a w, Q (.panic c) (a.put oi.dst undef) w → Q (.panic c) a w) (hw : Region.wanted oi (yielded ops a.tmps) = false) (hS : S w)
    (h : wpAnyH P md ops Q S fuel (listed.setIfInBounds i true) (a.put oi.dst undef) w) : wpAnyH P md ops Q S (fuel + 1) listed a w :=
  wpAnyH_take hi hs hf hr hQ (.inr ⟨hw, rfl⟩) hS h
/-- A step, closed: nobody runs it to see what it is. -/
structure WpS (P : Program) (o : Oper) (a : Act) (w : World) (K : Act → World → Prop) (Q : Exit → Act → World → Prop) : Prop where
  out : o.wp P a w K Q
set_option maxRecDepth 100000 in
theorem anyH_one (i : Nat) {oi : Oper} {fuel : Nat} {listed : Array Bool} {a : Act} {w : World} (hi : ops[i]? = some oi) (hg : Region.wanted oi (yielded ops a.tmps) = true) (hr : Region.ready md ops listed = [i])
    (h : WpS P oi a w (fun a' w' => S w' ∧ wpAnyH P md ops Q S fuel (listed.setIfInBounds i true) a' w') Q) : wpAnyH P md ops Q S (fuel + 1) listed a w :=
  wpAnyH_all hr (by simp) fun j hj => by
    obtain rfl := List.mem_singleton.1 hj
    unfold wpOp
    simp only [hi]
    rw [if_pos hg]
    exact .inl h.out
set_option maxRecDepth 100000 in
/-- Two may come up: each way. -/
theorem anyH_two (i j : Nat) {fuel : Nat} {listed : Array Bool} {a : Act} {w : World} (hr : Region.ready md ops listed = [i, j])
    (h : wpOp P ops Q i (fun a' w' => S w' ∧ wpAnyH P md ops Q S fuel (listed.setIfInBounds i true) a' w') a w)
    (h' : wpOp P ops Q j (fun a' w' => S w' ∧ wpAnyH P md ops Q S fuel (listed.setIfInBounds j true) a' w') a w) : wpAnyH P md ops Q S (fuel + 1) listed a w :=
  wpAnyH_all hr (by simp) fun k hk => by
    rcases List.mem_cons.1 hk with rfl | hk
    · exact h
    · obtain rfl := List.mem_singleton.1 hk; exact h'
set_option maxRecDepth 100000 in
theorem wp_enter {o : Oper} {a : Act} {w : World} {K : Act → World → Prop} {f : FuncId} {args : Array Value} (hr : (execOp a.eval o).run P w = .ok (.enter f args) w)
    (h : Calls P f args w fun e w' => ∃ v, e = .returned v ∧ K (a.put o.dst v) w') : WpS P o a w K Q := by
  refine ⟨?_⟩
  unfold Oper.wp
  rw [hr]
  exact h.mono fun e w' ⟨v, he, hK⟩ => by subst he; exact hK
set_option maxRecDepth 100000 in
theorem wp_callF {o : Oper} {a : Act} {w : World} {K : Act → World → Prop} {f : FuncId} {ags : Array Operand} {ts : Array TypeId} {args : Array Value} (ho : o.op = .call { callee := .value (.func f), args := ags, argTypes := ts }) (hen : ∀ args w, (callFunc f args).run P w = .ok (.enter f args) w) (ha : ags.map a.eval = args)
    (h : Calls P f args w fun e w' => ∃ v, e = .returned v ∧ K (a.put o.dst v) w') : WpS P o a w K Q := by
  refine wp_enter (f := f) (args := args) ?_ h
  unfold execOp
  simp [ho, go_sem, ha, hen]
set_option maxRecDepth 100000 in
theorem wp_value {o : Oper} {a : Act} {w w' : World} {K : Act → World → Prop} {v : Value} (hr : (execOp a.eval o).run P w = .ok (.value v) w') (h : K (a.put o.dst v) w') : WpS P o a w K Q := by
  refine ⟨?_⟩
  unfold Oper.wp
  rw [hr]
  exact h
end
end Go.Proofs.Ytanoojpmokbiaaa

/-
  isWithin of the program: all entries of a table lie between two numbers. Conditions: none.
-/
namespace Go.Proofs.Ytanoojpmokbiaaa
open Go.RowKit Go.Shelf
attribute [local go_sem] Oper.semAt_some

/-- All entries lie between two numbers. -/
def inF (lo hi : Int) (n m : Nat) (f : Nat → Nat → Int) : Bool := (List.finRange (n * m)).all fun x => decide (lo ≤ f (x.1 / m) (x.1 % m) ∧ f (x.1 / m) (x.1 % m) ≤ hi)

set_option maxRecDepth 100000 in
set_option maxHeartbeats 2000000 in
theorem isWithin_any (n m : Nat) (f : Nat → Nat → Int) (lo hi : Int) (hn6 : n ≤ 6) (hm6 : m ≤ 6) (w : World) :
    Calls Try.prog 59 #[.agg (tabV n m f), .int .i64 lo, .int .i64 hi] w fun e w' => e = .returned (.bool (inF lo hi n m f)) ∧ Below w.heap.size w w' := by
  obtain ⟨W4, hW4⟩ : ∃ W4, (((w.alloc (.cells (tabV n m f) 50)).alloc (.cells #[.int .i64 lo] 3)).alloc (.cells #[.int .i64 hi] 3)).alloc (.cells #[.bool false] 4) = W4 := ⟨_, rfl⟩
  have bT : BT W4 w.heap.size n m f := by rw [← hW4]; exact (((BT.new w n m f).alloc _).alloc _).alloc _
  refine (callsIn_wide (n := 6)).1 ?_
  refine callsIn_of_wp_marks Try.func59 rfl trivial ?_ rfl
  simp only [Try.ntmps59, List.size_toArray, List.length_cons, List.length_nil, Nat.reduceAdd, Nat.reduceSub, Array.replicate_succ, Array.replicate_zero, List.push_toArray, List.append_toArray, List.nil_append, List.cons_append]
  gi_wp2_with (first | (refine wpListIn_ldT rfl _ rfl rfl bT ?_) | (refine ⟨trivial, ?_⟩; gi_at_call 49; refine (callsIn_wide.2 (spots_any _ _ _ _)).mono ?_; rintro e w' ⟨rfl, rfl⟩))
  have bS : BT (W4.alloc (.cells (tabV n m f) 50)) W4.heap.size n m f := BT.new W4 n m f
  have bL : Boxed W4 (w.heap.size + 1) 3 (.int .i64 lo) := by
    rw [← hW4]
    have := Boxed.new (w.alloc (.cells (tabV n m f) 50)) 3 (.int .i64 lo)
    rw [World.size_alloc] at this
    exact (this.alloc _).alloc _
  have bH : Boxed W4 (w.heap.size + 1 + 1) 3 (.int .i64 hi) := by
    rw [← hW4]
    have := Boxed.new ((w.alloc (.cells (tabV n m f) 50)).alloc (.cells #[.int .i64 lo] 3)) 3 (.int .i64 hi)
    rw [World.size_alloc, World.size_alloc] at this
    exact this.alloc _
  have bR : Boxed W4 (w.heap.size + 1 + 1 + 1) 4 (.bool false) := by
    rw [← hW4]
    have := Boxed.new (((w.alloc (.cells (tabV n m f) 50)).alloc (.cells #[.int .i64 lo] 3)).alloc (.cells #[.int .i64 hi] 3)) 4 (.bool false)
    rw [World.size_alloc, World.size_alloc, World.size_alloc] at this
    exact this
  have hsz : W4.heap.size = w.heap.size + 4 := by rw [← hW4]; simp
  have hB4 : Below w.heap.size w W4 := by rw [← hW4]; exact ((((Below.refl _ w).alloc (Nat.le_refl _) _).alloc (by simp) _).alloc (by simp; omega) _).alloc (by simp; omega) _
  clear hW4
  obtain ⟨B, hB⟩ : ∃ B, w.heap.size = B := ⟨_, rfl⟩
  rw [hB] at bT bL bH bR hsz hB4
  have HB := Lib.hid hB
  rw [hB]
  rw [hsz]
  rw [hsz] at bS
  clear hB
  refine wpIn_rangeFunc_ownF (F := Fence.wide) rfl (by decide) (gf := 60) (lb := #[.pointer (some ⟨B + 4, 0, none⟩)]) rfl trivial (enters_of Try.func60 (by kernel_rfl) rfl)
    (spots_pf Fence.wide (6 - 1) trivial rfl (by decide) (B + 4) B n m f hn6 hm6 _ bS) (fun h1 h2 => KeepAt.trans h1 h2) (keepAt_b (by simp; omega) (by simp; omega)) (Below.refl _ _) (fun _ => rfl)
    (fun pre W => (((BT W B n m f ∧ Boxed W (B + 1) 3 (.int .i64 lo)) ∧ (Boxed W (B + 1 + 1) 3 (.int .i64 hi) ∧ Boxed W (B + 1 + 1 + 1) 4 (.bool false))) ∧ ∀ x, x ∈ pre → lo ≤ f (x.1 / m) (x.1 % m) ∧ f (x.1 / m) (x.1 % m) ≤ hi) ∧ Below B w W)
    (fun cd pre W => (Boxed W (B + 1 + 1 + 1) 4 (.bool false) ∧ (cd = .ret ∧ ∃ x : Fin (n * m), ¬ (lo ≤ f (x.1 / m) (x.1 % m) ∧ f (x.1 / m) (x.1 % m) ≤ hi))) ∧ Below B w W)
    (OwnFrom.and (OwnFrom.and (OwnFrom.and (OwnFrom.and (Own.from (bt_own _ _ _ _) _) (Own.from (boxed_own _ _ _) _)) (OwnFrom.and (Own.from (boxed_own _ _ _) _) (Own.from (boxed_own _ _ _) _))) (ownP _ _)) (ownFrom_below (by have := HB.out; omega) (by simp; omega)))
    (fun cd => OwnFrom.and (OwnFrom.and (Own.from (boxed_own _ _ _) _) (ownP _ _)) (ownFrom_below (by have := HB.out; omega) (by simp; omega)))
    ⟨⟨⟨⟨bT.alloc _, bL.alloc _⟩, bH.alloc _, bR.alloc _⟩, fun x hx => by cases hx⟩, hB4.alloc (by omega) _⟩ ?a1 ?hassign ?hbody ?hdone ?hstop
  case hassign =>
    intro l x W K hK
    gi_wp2
    exact hK
  case hbody =>
    rintro l pre x W ⟨⟨⟨⟨hT, hL⟩, hH, hR⟩, hok⟩, hB⟩ hlt
    obtain ⟨hxi, hxk⟩ := spot_lt x
    obtain ⟨i, hie⟩ : ∃ i, x.1 / m = i := ⟨_, rfl⟩
    obtain ⟨k, hke⟩ : ∃ k, x.1 % m = k := ⟨_, rfl⟩
    have ce := hT.entry (i := i) (k := k) (by omega) (by omega)
    have c1 := hL.cell; have c2 := hH.cell; have c3 := hR.cell; have f3 := hR.frozen
    obtain ⟨e, he⟩ : ∃ e, f i k = e := ⟨_, rfl⟩
    have HX : Hid (∀ P : Int → Prop, P e → P (f (x.1 / m) (x.1 % m))) := fun P h => by rw [hie, hke, he]; exact h
    have i6 : (i : Int) < 6 := by omega
    have k6 : (k : Int) < 6 := by omega
    have i0 : (0 : Int) ≤ (i : Int) := by omega
    have k0 : (0 : Int) ≤ (k : Int) := by omega
    rw [he] at ce
    have hie' : ((x.1 : Nat) : Int) / ((m : Nat) : Int) = ((i : Nat) : Int) := by rw [← hie]; simp
    have hke' : ((x.1 : Nat) : Int) % ((m : Nat) : Int) = ((k : Nat) : Int) := by rw [← hke]; simp
    rw [hie', hke']
    clear hie' hke'
    have HT := Lib.hid hT; have HL := Lib.hid hL; have HH := Lib.hid hH; have HR := Lib.hid hR; have HBl := Lib.hid hB; have HOK := Lib.hid hok
    clear hT hL hH hR hB hok he hie hke hxi hxk
    have HK : Hid (∀ W' : World, KeepsOthers W W' → W'.heap = W.heap → KeepAt B (B + 4) W W') := fun W' _ h => ⟨by rw [h]; exact Nat.le_refl _, fun k _ => by rw [h]⟩
    have c3' : ∀ q, (W.drewN q).cell? ⟨B + 1 + 1 + 1, 0, none⟩ = some (.bool false) := fun _ => c3
    have f3' : ∀ q, (W.drewN q).frozen? ⟨B + 1 + 1 + 1, 0, none⟩ = false := fun _ => f3
    have hd : ∀ q, KeepsOthers W (W.drewN q) := fun q => ⟨Nat.le_refl _, fun _ _ h _ => h⟩
    by_cases h1 : e < lo
    · have HBAD : Hid (¬ (lo ≤ f (x.1 / m) (x.1 % m) ∧ f (x.1 / m) (x.1 % m) ≤ hi)) := HX.out (fun e => ¬ (lo ≤ e ∧ e ≤ hi)) (by omega)
      gi_wp2
      refine wpIn_region_quietL (by kernel_rfl) (by kernel_rfl) (by kernel_rfl) ?_
      repeat (gi_big_quiet_step (fail))
      refine wpQuietIn_nil ?_
      intro _ hw'
      obtain ⟨nq, hw''⟩ := hw'
      subst hw''
      gi_wp2
      exact ⟨(hd nq).trans (KeepsOthers.setCell _ _ _), ⟨(show Boxed (W.drewN nq) _ _ _ from HR.out).set _, rfl, x, HBAD.out⟩, (below_drawN HBl.out nq).setCell (p := ⟨B + 1 + 1 + 1, 0, none⟩) (by show B ≤ B + 1 + 1 + 1; omega) _⟩
    · have h1' : decide (e < lo) = false := decide_eq_false h1
      by_cases h2 : hi < e
      · have HBAD : Hid (¬ (lo ≤ f (x.1 / m) (x.1 % m) ∧ f (x.1 / m) (x.1 % m) ≤ hi)) := HX.out (fun e => ¬ (lo ≤ e ∧ e ≤ hi)) (by omega)
        gi_wp2
        refine wpIn_region_quietL (by kernel_rfl) (by kernel_rfl) (by kernel_rfl) ?_
        repeat (gi_big_quiet_step (fail))
        refine wpQuietIn_nil ?_
        intro _ hw'
        obtain ⟨nq, hw''⟩ := hw'
        subst hw''
        gi_wp2
        exact ⟨(hd nq).trans (KeepsOthers.setCell _ _ _), ⟨(show Boxed (W.drewN nq) _ _ _ from HR.out).set _, rfl, x, HBAD.out⟩, (below_drawN HBl.out nq).setCell (p := ⟨B + 1 + 1 + 1, 0, none⟩) (by show B ≤ B + 1 + 1 + 1; omega) _⟩
      · have h2' : decide (hi < e) = false := decide_eq_false h2
        have HOK2 : Hid (lo ≤ f (x.1 / m) (x.1 % m) ∧ f (x.1 / m) (x.1 % m) ≤ hi) := HX.out (fun e => lo ≤ e ∧ e ≤ hi) (by omega)
        gi_wp2
        refine wpIn_region_quietL (by kernel_rfl) (by kernel_rfl) (by kernel_rfl) ?_
        repeat (gi_big_quiet_step (fail))
        refine wpQuietIn_nil ?_
        intro _ hw'
        obtain ⟨nq, hw''⟩ := hw'
        subst hw''
        gi_wp2
        refine ⟨hd nq, HK.out _ (hd nq) rfl, ⟨⟨⟨HT.out, HL.out⟩, HH.out, HR.out⟩, fun y hy => ?_⟩, below_drawN HBl.out nq⟩
        rcases List.mem_append.1 hy with hy | hy
        · exact HOK.out y hy
        · obtain rfl := List.mem_singleton.1 hy; exact HOK2.out
  case hdone =>
    rintro D ys W hD rfl ⟨⟨⟨⟨hT, hL⟩, hH, hR⟩, hok⟩, hBl⟩ hK
    have HM : Hid (inF lo hi n m f = true) := by
      show _ = _
      unfold inF
      rw [List.all_eq_true]
      exact fun x hx => decide_eq_true (hok x hx)
    have c3 := hR.cell; have f3 := hR.frozen
    have HR := Lib.hid hR; have HBl := Lib.hid hBl
    clear hT hL hH hR hok hBl
    gi_wp2
    refine ⟨by simp, .inl ⟨_, _, rfl, run_takeDeferred ((KeepsOthers.setCell _ _ _).same D _ hK rfl), ?_⟩⟩
    refine ⟨.bool true, ?_, ?_⟩
    · have hc4 : ((W.setCell ⟨B + 1 + 1 + 1, 0, none⟩ (.bool true)).putObj D (.deferred none)).cell? ⟨B + 1 + 1 + 1, 0, none⟩ = some (.bool true) :=
        cell_kept (HR.out.set (.bool true)).cell (grownBy_putObj' _ D (.deferred none)) (fun r e => by cases e; exact ⟨_, (KeepsOthers.setCell _ _ _).same D _ hK rfl, rfl⟩)
      simp [results, Try.f59, go_sem, hc4]
    · exact ⟨ret_bool HM.out.symm, by rw [HB.out]; exact (HBl.out.setCell (p := ⟨B + 1 + 1 + 1, 0, none⟩) (by show B ≤ B + 1 + 1 + 1; omega) _).trans (belowK_b (w := w) (by have := HB.out; omega) _ D _ _ (by simp at hD; have := HB.out; omega) ((KeepsOthers.setCell _ _ _).same D _ hK rfl) rfl rfl)⟩
  case hstop =>
    rintro D cd pre W hD hp ⟨⟨hR, rfl, x, hx⟩, hBl⟩ hK
    have HM : Hid (inF lo hi n m f = false) := by
      show _ = _
      unfold inF
      rw [List.all_eq_false]
      exact ⟨x, List.mem_finRange x, by rw [decide_eq_true_eq]; exact hx⟩
    have c3 := hR.cell
    have HR := Lib.hid hR; have HBl := Lib.hid hBl
    clear hR hBl hx hp
    gi_wp2
    refine ⟨by simp, .inl ⟨_, _, rfl, run_takeDeferred hK, ?_⟩⟩
    refine ⟨.bool false, ?_, ?_⟩
    · have hc4 : (W.putObj D (.deferred none)).cell? ⟨B + 1 + 1 + 1, 0, none⟩ = some (.bool false) :=
        cell_kept HR.out.cell (grownBy_putObj' _ D (.deferred none)) (fun r e => by cases e; exact ⟨_, hK, rfl⟩)
      simp [results, Try.f59, go_sem, hc4]
    · exact ⟨ret_bool HM.out.symm, by rw [HB.out]; exact HBl.out.trans (belowK_b (w := w) (by have := HB.out; omega) _ D _ _ (by simp at hD; have := HB.out; omega) hK rfl rfl)⟩
end Go.Proofs.Ytanoojpmokbiaaa

/-
  A row copied into a table, a table stored, the program's tableWithin and tableIn. Conditions: the lists' cells are there.
-/
namespace Go.Proofs.Ytanoojpmokbiaaa
open Go.RowKit Go.Shelf

/-- A row's entries put from column k on. -/
def putRow (f : Nat → Nat → Int) (i : Nat) : Nat → List Int → Nat → Nat → Int
  | _, [] => f
  | k, z :: zs => putRow (putF f i k z) i (k + 1) zs
set_option maxRecDepth 100000 in
theorem putRow_at (i : Nat) : ∀ (zs : List Int) (f : Nat → Nat → Int) (k a b : Nat), putRow f i k zs a b = if a = i ∧ k ≤ b ∧ b < k + zs.length then zs.getD (b - k) 0 else f a b := by
  intro zs
  induction zs with
  | nil => intro f k a b; rw [putRow, if_neg (by simp)]
  | cons z zs ih =>
    intro f k a b
    rw [putRow, ih]
    by_cases h : a = i ∧ k + 1 ≤ b ∧ b < k + 1 + zs.length
    · rw [if_pos h, if_pos (by simp; omega), show b - k = b - (k + 1) + 1 by omega]; rfl
    · rw [if_neg h]
      unfold putF
      by_cases h2 : a = i ∧ b = k
      · rw [if_pos h2, if_pos (by simp; omega), h2.2, Nat.sub_self]; rfl
      · rw [if_neg h2, if_neg (by simp; omega)]
set_option maxRecDepth 100000 in
theorem BT.setCells {B n m i : Nat} (hi : i < 6) : ∀ (zs : List Int) (W : World) (f : Nat → Nat → Int) (k : Nat), BT W B n m f → k + zs.length ≤ 6 → BT (W.setCells B (2 + i * 6 + k) (zs.map (Value.int .i64))) B n m (putRow f i k zs) := by
  intro zs
  induction zs with
  | nil => intro W f k h _; exact h
  | cons z zs ih =>
    intro W f k h hl
    exact ih _ _ (k + 1) (h.set_ hi (by simp at hl; omega) z) (by simp at hl ⊢; omega)
set_option maxRecDepth 100000 in
theorem below_setCells {C b : Nat} (hb : C ≤ b) {w : World} : ∀ (vs : List Value) (o : Nat) (W : World), Below C w W → Below C w (W.setCells b o vs) := by
  intro vs
  induction vs with
  | nil => intro o W h; exact h
  | cons v vs ih => intro o W h; exact ih (o + 1) _ (h.setCell (p := ⟨b, o, none⟩) hb v)
set_option maxRecDepth 100000 in
theorem heap_setCells {b k : Nat} (hk : k ≠ b) : ∀ (vs : List Value) (o : Nat) (W : World), (W.setCells b o vs).heap[k]? = W.heap[k]? := by
  intro vs
  induction vs with
  | nil => intro o W; rfl
  | cons v vs ih => intro o W; exact (ih (o + 1) _).trans (heap_setCell_other W ⟨b, o, none⟩ k v hk)
set_option maxRecDepth 100000 in
theorem size_setCells {b : Nat} : ∀ (vs : List Value) (o : Nat) (W : World), (W.setCells b o vs).heap.size = W.heap.size := by
  intro vs
  induction vs with
  | nil => intro o W; rfl
  | cons v vs ih => intro o W; rw [World.setCells, ih]; simp [World.setCell]
set_option maxRecDepth 100000 in
/-- A row copied into a table. -/
theorem BT.copy {W : World} {B n m i c : Nat} {f : Nat → Nat → Int} (h : BT W B n m f) (hi : i < 6) {lo hi' : Nat} {A : Option Addr} {zs : List Int} (hz : IR W lo hi' A zs) (hl : zs.length ≤ 6) (ty : TypeId) :
    (Builtin.copy_ #[31, 31] ty #[.slice (some ⟨B, 2 + i * 6, none⟩) 6 6, .slice A zs.length c]).run Try.prog W = .ok (goInt zs.length) (W.setCells B (2 + i * 6) (zs.map (Value.int .i64))) := by
  by_cases h0 : zs.length = 0
  · have : zs = [] := by simpa using h0
    subst this
    exact run_copy_none W _ _ ty 3 _ _ 6 6 0 c Try.underlying31 (by kernel_rfl) (by simp)
  · obtain ⟨b, off, e, _, _, hc⟩ := hz.2.2.2 (by omega)
    subst e
    have := run_copy_cells (P := Try.prog) W 31 31 ty 3 B (2 + i * 6) 6 6 ⟨b, off, none⟩ zs.length c (zs.map (Value.int .i64)) Try.underlying31 (by kernel_rfl)
      (by rw [List.length_map]; exact (Nat.min_eq_left hl).symm) (fun j v hv => by
        have hj : j < zs.length := by have := (List.getElem?_eq_some_iff.1 hv).1; simpa using this
        have hv2 : v = .int .i64 zs[j] := by have := (List.getElem?_eq_some_iff.1 hv).2; simpa using this.symm
        have hadd : (⟨b, off, none⟩ : Addr).add j = ⟨b, off + j, none⟩ := by unfold Addr.add; split <;> simp_all
        rw [hadd, hv2]; exact hc j hj)
      (fun j hj => by rw [h.entry hi (k := j) (by simp at hj; omega)]; rfl) (fun j hj => h.frozen _) (fun v hv => by
        obtain ⟨z, _, rfl⟩ := List.mem_map.1 hv; rfl)
    simpa using this

set_option maxRecDepth 100000 in
/-- A whole table stored. -/
theorem BT.put {W : World} {B n m n' m' : Nat} {f f' : Nat → Nat → Int} (h : BT W B n m f) : BT (W.setRow B (tabV n' m' f')) B n' m' f' := setRow_heap W B _ _ _ _ h
set_option maxRecDepth 100000 in
theorem below_setRow {C B : Nat} {w W : World} (h : Below C w W) (hB : C ≤ B) (cs : Array Value) : Below C w (W.setRow B cs) :=
  ⟨h.os, h.tape, h.output, by simpa [World.setRow] using h.size, fun k hk => (setRow_other W B k cs (by omega)).trans (h.block k hk)⟩
set_option maxRecDepth 100000 in
theorem tabV_one (n m : Nat) (f : Nat → Nat → Int) : (tabV n m f).all (·.oneCell') = true := by
  unfold tabV
  rw [List.all_toArray, List.all_eq_true]
  exact tabC_one n m f
set_option maxRecDepth 100000 in
theorem wpList_stT {ops : Array Oper} {rest : List Oper} {o : Oper} {a : Act} {w : World} {Q : Exit → Act → World → Prop} (hg : o.guard = none) (x y : Operand) (ho : o.op = .store 50 x y) {B n m n' m' : Nat} {f f' : Nat → Nat → Int} (hx : a.eval x = .pointer (some ⟨B, 0, none⟩)) (hy : a.eval y = .agg (tabV n' m' f')) (hb : BT w B n m f)
    (h : wpList Try.prog ops Q rest (a.put o.dst undef) (w.setRow B (tabV n' m' f'))) : wpList Try.prog ops Q (o :: rest) a w :=
  wpList_store_row hg _ x y ho B _ hx hy _ _ hb (by rw [tabV_size]; kernel_rfl) (by rw [tabV_size, tabV_size]) (tabV_one _ _ _) h
set_option maxRecDepth 100000 in
theorem wpList_copyT {ops : Array Oper} {rest : List Oper} {o : Oper} {a : Act} {w : World} {Q : Exit → Act → World → Prop} (hgd : o.guard = none) (d s : Operand)
    (ho : o.op = .call { callee := .builtin .copy, args := #[d, s], argTypes := #[31, 31] }) {B n m i c : Nat} {f : Nat → Nat → Int} {lo hi' : Nat} {A : Option Addr} {zs : List Int} {k : Nat} (hd : a.eval d = .slice (some ⟨B, 2 + i * 6, none⟩) 6 6) (hs : a.eval s = .slice A k c) (hk : k = zs.length) (hb : BT w B n m f) (hi : i < 6) (hz : IR w lo hi' A zs) (hl : zs.length ≤ 6)
    (h : wpList Try.prog ops Q rest (a.put o.dst (goInt k)) (w.setCells B (2 + i * 6) (zs.map (Value.int .i64)))) : wpList Try.prog ops Q (o :: rest) a w := by
  subst hk
  refine wpList_plain hgd fun _ hK => ?_
  unfold Oper.wp execOp
  simp only [ho, resolve, invoke, builtin, Sem.run_bind, Sem.run_pure, Result.andThen_ok, List.map_toArray, List.map_cons, List.map_nil, hd, hs, hb.copy hi hz hl]
  exact hK _ _ h
set_option maxRecDepth 100000 in
theorem wp_stV {o : Oper} {a : Act} {w : World} {K : Act → World → Prop} {Q : Exit → Act → World → Prop} {x y : Operand} (ho : o.op = .store 50 x y) {B n m n' m' : Nat} {f f' : Nat → Nat → Int} {V : Array Value} (hV : tabV n' m' f' = V) (hx : a.eval x = .pointer (some ⟨B, 0, none⟩)) (hy : a.eval y = .agg V) (hb : BT w B n m f)
    (h : K (a.put o.dst undef) (w.setRow B V)) : WpS Try.prog o a w K Q := by
  subst hV
  refine ⟨?_⟩
  exact wp_store_row _ x y ho B _ hx hy _ _ hb (by rw [tabV_size]; kernel_rfl) (by rw [tabV_size, tabV_size]) (tabV_one _ _ _) h
set_option maxRecDepth 100000 in
theorem resT2 {fn : Func} {p q : Tmp} (h : fn.results = #[.cell p 50, .tmp q]) (tmps : Array Value) (W : World) {B n m : Nat} {f : Nat → Nat → Int} {v : Value} (hp : tmps.getD p undef = .pointer (some ⟨B, 0, none⟩)) (hq : tmps.getD q undef = v) (hb : BT W B n m f) :
    (results fn tmps).run Try.prog W = .ok (.tuple #[.agg (tabV n m f), v]) W := by
  have hp' : tmps[p]?.getD undef = .pointer (some ⟨B, 0, none⟩) := by simpa using hp
  have hq' : tmps[q]?.getD undef = v := by simpa using hq
  simp [results, h, hp', hq', asAddr, hb.loadV]
def zF : Nat → Nat → Int := fun _ _ => 0
set_option maxRecDepth 100000 in
theorem zeroT : (Try.prog.info? 50).map (fun i => (i.zero, i.size)) = some (some (.agg (tabV 0 0 zF)), 38) := by kernel_rfl
set_option maxRecDepth 100000 in
theorem run_alT {o : Oper} {ρ : Operand → Value} {w : World} (ho : o.op = .alloc 50) : (execOp ρ o).run Try.prog w = .ok (.value (.pointer (some ⟨w.heap.size, 0, none⟩))) (w.alloc (.cells (tabV 0 0 zF) 50)) := by
  have hz := (zero_of_info zeroT).1
  unfold execOp
  simp [ho, go_sem, hz]
set_option maxRecDepth 100000 in
theorem built0 : Try.prog.built 50 [] = some (tabV 0 0 zF) := by kernel_rfl
set_option maxRecDepth 100000 in
theorem built2 (n m : Nat) : Try.prog.built 50 [(0, .int .i64 (n : Int)), (1, .int .i64 (m : Int))] = some (tabV n m zF) := by kernel_rfl
set_option maxRecDepth 100000 in
theorem wpList_alT {ops : Array Oper} {rest : List Oper} {o : Oper} {a : Act} {w : World} {Q : Exit → Act → World → Prop} (hg : o.guard = none) (ho : o.op = .alloc 50)
    (h : wpList Try.prog ops Q rest (a.put o.dst (.pointer (some ⟨w.heap.size, 0, none⟩))) (w.alloc (.cells (tabV 0 0 zF) 50))) : wpList Try.prog ops Q (o :: rest) a w :=
  wpList_op hg (run_alT ho) h
set_option maxRecDepth 100000 in
theorem wpList_bu0 {ops : Array Oper} {rest : List Oper} {o : Oper} {a : Act} {w : World} {Q : Exit → Act → World → Prop} (hg : o.guard = none) (ho : o.op = .build 50 #[])
    (h : wpList Try.prog ops Q rest (a.put o.dst (.agg (tabV 0 0 zF))) w) : wpList Try.prog ops Q (o :: rest) a w :=
  wpList_op hg (by unfold execOp; simp only [ho, Sem.run_bind, Array.map_empty, run_build w _ #[] _ built0, Result.andThen_ok, Sem.run_pure]) h
set_option maxRecDepth 100000 in
theorem wpList_bu2 {ops : Array Oper} {rest : List Oper} {o : Oper} {a : Act} {w : World} {Q : Exit → Act → World → Prop} (hg : o.guard = none) (x y : Operand) (ho : o.op = .build 50 #[(0, x), (1, y)]) {n m : Nat} (hx : a.eval x = .int .i64 (n : Int)) (hy : a.eval y = .int .i64 (m : Int))
    (h : wpList Try.prog ops Q rest (a.put o.dst (.agg (tabV n m zF))) w) : wpList Try.prog ops Q (o :: rest) a w :=
  wpList_op hg (by unfold execOp; simp only [ho, Sem.run_bind, List.map_toArray, List.map_cons, List.map_nil, hx, hy, run_build w _ _ _ (built2 n m), Result.andThen_ok, Sem.run_pure]) h
end Go.Proofs.Ytanoojpmokbiaaa

/-
  tableWithin and tableIn of the program: a table told by lists. Conditions: the lists' cells are there.
-/
namespace Go.Proofs.Ytanoojpmokbiaaa
open Go.RowKit Go.Shelf
attribute [local go_sem] Oper.semAt_some

/-- 1 to 6 rows of 1 to 6 entries, as many in each. -/
def shB (t : List (List Int)) : Bool := decide (1 ≤ t.length ∧ t.length ≤ 6) && (decide (1 ≤ colsN t ∧ colsN t ≤ 6) && t.all fun r => decide (r.length = colsN t))
set_option maxRecDepth 100000 in
theorem shB_true {t : List (List Int)} : shB t = true ↔ (1 ≤ t.length ∧ t.length ≤ 6) ∧ (1 ≤ colsN t ∧ colsN t ≤ 6) ∧ ∀ r, r ∈ t → r.length = colsN t := by
  simp only [shB, Bool.and_eq_true, decide_eq_true_eq, List.all_eq_true]
set_option maxRecDepth 100000 in
theorem shB_sh {t : List (List Int)} (h : shB t = true) : Sh t t.length (colsN t) := ⟨rfl, (shB_true.1 h).2.2⟩
def withinB (lo hi : Int) (t : List (List Int)) : Bool := shB t && inF lo hi t.length (colsN t) (ent t)
set_option maxRecDepth 100000 in
theorem inF_true {lo hi : Int} {n m : Nat} {f : Nat → Nat → Int} : inF lo hi n m f = true ↔ ∀ i k, i < n → k < m → lo ≤ f i k ∧ f i k ≤ hi := by
  unfold inF
  rw [List.all_eq_true]
  constructor
  · intro h i k hi hk
    obtain ⟨hx, _⟩ := spots_snoc hi hk
    have := of_decide_eq_true (h ⟨i * m + k, hx⟩ (List.mem_finRange _))
    simp only [spot_row hk, spot_col hk] at this
    exact this
  · intro h x _
    obtain ⟨h1, h2⟩ := spot_lt x
    exact decide_eq_true (h _ _ h1 h2)
set_option maxRecDepth 100000 in
theorem inF_congr {lo hi : Int} {n m : Nat} {f g : Nat → Nat → Int} (h : ∀ i k, i < n → k < m → f i k = g i k) : inF lo hi n m f = inF lo hi n m g := by
  rw [Bool.eq_iff_iff, inF_true, inF_true]
  exact ⟨fun q i k hi hk => by rw [← h i k hi hk]; exact q i k hi hk, fun q i k hi hk => by rw [h i k hi hk]; exact q i k hi hk⟩
set_option maxRecDepth 100000 in
theorem within_table (t : List (List Int)) : withinB (-1000) 1000 t = tableB t := by
  rw [Bool.eq_iff_iff]
  constructor
  · intro h
    unfold withinB at h
    rw [Bool.and_eq_true] at h
    obtain ⟨h1, h2⟩ := h
    obtain ⟨g1, g2, g3⟩ := shB_true.1 h1
    rw [inF_true] at h2
    refine tableB_true.2 ⟨fun i hi => ?_, g1⟩
    have hr := (shB_sh h1).row hi
    refine rowOk_true.2 ⟨by rw [hr]; exact g2, hr, fun x hx => ?_⟩
    obtain ⟨k, hk, rfl⟩ := List.getElem_of_mem hx
    have := h2 i k hi (by rw [← hr]; exact hk)
    unfold ent at this
    rwa [getD_in hk] at this
  · intro h
    obtain ⟨h1, h2, h3, h4⟩ := table_sh h
    unfold withinB
    rw [Bool.and_eq_true, inF_true]
    exact ⟨shB_true.2 ⟨h2, h3, h1.2⟩, h4⟩

/-- The rows below the i-th one have been copied. -/
def rowsTo (t : List (List Int)) (m i : Nat) : Nat → Nat → Int := fun a b => if a < i ∧ b < m then ent t a b else 0
set_option maxRecDepth 100000 in
theorem rowsTo_step {t : List (List Int)} {m i n : Nat} (hi : i < t.length) (hl : t[i].length = m) (W : World) {B : Nat} (h : BT W B n m (putRow (rowsTo t m i) i 0 t[i])) : BT W B n m (rowsTo t m (i + 1)) := by
  unfold BT at h ⊢
  rw [h]
  unfold tabV
  rw [tabC_congr fun a b ha hb => ?_]
  rw [putRow_at]
  unfold rowsTo
  have e : ∀ b, ent t i b = t[i].getD b 0 := fun b => by unfold ent; rw [show t.getD i [] = t[i] by simp [List.getD, hi]]
  by_cases h1 : a = i ∧ b < m
  · rw [if_pos ⟨h1.1, Nat.zero_le _, by omega⟩, if_pos (by omega), h1.1, e, Nat.sub_zero]
  · rw [if_neg (by omega)]
    by_cases h2 : a < i ∧ b < m
    · rw [if_pos h2, if_pos (by omega)]
    · rw [if_neg h2, if_neg (by omega)]

set_option maxRecDepth 100000 in
theorem isTableCount_any (x : Int) (w : World) : Calls Try.prog 58 #[.int .i64 x] w fun e w' => e = .returned (.bool (inB 1 6 x)) ∧ w' = w := by
  go_enter Try.func58, Try.ntmps58
  by_cases h1 : 1 ≤ x
  · by_cases h2 : x ≤ 6
    · have HP : Hid (inB 1 6 x = true) := inB_true.2 ⟨h1, h2⟩
      go_wp2
      go_ret
      exact ⟨by rw [HP.out]; rfl, rfl⟩
    · have HP : Hid (inB 1 6 x = false) := by show _ = _; unfold inB; rw [decide_eq_false h2, Bool.and_false]
      have h2' : decide (x ≤ 6) = false := decide_eq_false h2
      go_wp2
      go_ret
      exact ⟨by rw [HP.out]; rfl, rfl⟩
  · have HP : Hid (inB 1 6 x = false) := by show _ = _; unfold inB; rw [decide_eq_false h1]; rfl
    have h1' : decide (1 ≤ x) = false := decide_eq_false h1
    go_wp2
    go_ret
    exact ⟨by rw [HP.out]; rfl, rfl⟩

set_option maxRecDepth 100000 in
set_option maxHeartbeats 1000000 in
theorem tableWithin_any (A : Option Addr) (c lo hi : Nat) (t : List (List Int)) (x y : Int) (w : World) (h : IRR w lo hi A t) :
    Calls Try.prog 45 #[.slice A t.length c, .int .i64 x, .int .i64 y] w fun e w' => ∃ n m f, e = .returned (.tuple #[.agg (tabV n m f), .bool (withinB x y t)]) ∧ (n ≤ 6 ∧ m ≤ 6) ∧ (shB t = true → n = t.length ∧ m = colsN t ∧ ∀ i k, i < t.length → k < colsN t → f i k = ent t i k) ∧ Below w.heap.size w w' := by
  have H := Lib.hid h
  have hl := h.1
  clear h
  obtain ⟨n, hn⟩ : ∃ n, t.length = n := ⟨_, rfl⟩
  have HN := Lib.hid hn
  rw [hn] at hl
  rw [hn]
  clear hn
  by_cases hn1 : 1 ≤ n ∧ n ≤ 6
  · obtain ⟨hn1, hn6⟩ := hn1
    have hp : inB 1 6 (n : Int) = true := inB_true.2 ⟨by omega, by omega⟩
    have h0 : 0 < t.length := by rw [HN.out]; omega
    obtain ⟨b, off, A0, c0, hA, _, hc0, _, hrow0⟩ := H.out.at_ h0
    rw [Nat.add_zero] at hc0
    have hcol : Hid (t[0].length = colsN t) := by show _ = _; unfold colsN; simp [List.getD, h0]
    rw [hcol.out] at hc0
    have hm0 := hrow0.1
    rw [hcol.out] at hm0
    obtain ⟨m, hm⟩ : ∃ m, colsN t = m := ⟨_, rfl⟩
    rw [hm] at hc0 hm0
    have HM := Lib.hid hm
    rw [hm]
    clear hrow0 hm
    subst hA
    have hn0 : (0 : Int) < (n : Int) := by omega
    have hb6 := BT.new w 0 0 zF
    have hs6 : Below w.heap.size w (w.alloc (.cells (tabV 0 0 zF) 50)) := (Below.refl _ w).alloc (Nat.le_refl _) _
    have hbb : b < w.heap.size := block_lt_of_cell hc0
    have hc0' : (w.alloc (.cells (tabV 0 0 zF) 50)).cell? ⟨b, off, none⟩ = some (.slice A0 m c0) := (hs6.cell (p := ⟨b, off, none⟩) hbb).trans hc0
    obtain ⟨q, hq⟩ : ∃ q, inB 1 6 (m : Int) = q := ⟨_, rfl⟩
    go_enter Try.func45, Try.ntmps45
    go_wp2_with (refine wpList_alT rfl rfl ?_)
    refine (isTableCount_any _ _).mono ?_
    rintro e w' ⟨rfl, rfl⟩
    rw [hp]
    go_wp2_with fail
    refine (isTableCount_any _ _).mono ?_
    rintro e w' ⟨rfl, rfl⟩
    rw [hq]
    cases q with
    | false =>
      have hF : shB t = false := by
        cases e : shB t with
        | false => rfl
        | true =>
          have := (shB_true.1 e).2.1
          rw [HM.out] at this
          rw [inB_true.2 ⟨by omega, by omega⟩] at hq; cases hq
      have HF := Lib.hid hF
      clear hF
      have b6 := BT.new w 0 0 zF
      clear hq hc0 hc0'
      go_wp2_with (first | (refine wpList_bu0 rfl rfl ?_) | (refine wpList_stT rfl _ _ rfl rfl rfl b6 ?_))
      have b7 := (b6.put (n' := 0) (m' := 0) (f' := zF)).loadV
      refine bodyPost_ret (v := .tuple #[.agg (tabV 0 0 zF), .bool false]) ?_ rfl ⟨0, 0, zF, ?_, ⟨by omega, by omega⟩, fun q => ?_, ?_⟩
      · simp [results, Try.results45, asAddr, Result.andThen, b7]
      · unfold withinB; rw [HF.out]; rfl
      · rw [HF.out] at q; cases q
      · exact below_setRow ((Below.refl _ w).alloc (Nat.le_refl _) _) (Nat.le_refl _) _
    | true =>
      obtain ⟨hm1, hm6⟩ := inB_true.1 hq
      have hm1 : 1 ≤ m := by omega
      have hm6 : m ≤ 6 := by omega
      have b8 := BT.new (w.alloc (.cells (tabV 0 0 zF) 50)) 0 0 zF
      clear hq
      go_wp2_with (first | (refine wpList_bu2 rfl _ _ rfl rfl rfl ?_) | (refine wpList_alT rfl rfl ?_) | (refine wpList_stT rfl _ _ rfl rfl rfl b8 ?_))
      have bT := b8.put (n' := n) (m' := m) (f' := zF)
      have bR : BT (((w.alloc (.cells (tabV 0 0 zF) 50)).alloc (.cells (tabV 0 0 zF) 50)).setRow (w.alloc (.cells (tabV 0 0 zF) 50)).heap.size (tabV n m zF)) w.heap.size 0 0 zF :=
        (hb6.alloc _).block (setRow_other _ _ _ _ (by simp))
      have bB : Below w.heap.size w (((w.alloc (.cells (tabV 0 0 zF) 50)).alloc (.cells (tabV 0 0 zF) 50)).setRow (w.alloc (.cells (tabV 0 0 zF) 50)).heap.size (tabV n m zF)) := below_setRow (hs6.alloc (by simp) _) (by simp) _
      obtain ⟨W, hW⟩ : ∃ W, ((w.alloc (.cells (tabV 0 0 zF) 50)).alloc (.cells (tabV 0 0 zF) 50)).setRow (w.alloc (.cells (tabV 0 0 zF) 50)).heap.size (tabV n m zF) = W := ⟨_, rfl⟩
      have hsz : W.heap.size = w.heap.size + 2 := by rw [← hW]; simp
      rw [hW] at bT bR bB
      rw [World.size_alloc] at hW bT
      rw [hW]
      clear hW b8 hb6 hs6 hc0' hc0
      have HT : Hid (BT W (w.heap.size + 1) n m (rowsTo t m 0)) := by
        have e : zF = rowsTo t m 0 := by funext a b; unfold zF rowsTo; rw [if_neg (by omega)]
        rw [← e]; exact bT
      have HR := Lib.hid bR; have HBL := Lib.hid bB
      clear bT bR bB
      go_loopw [33] (fun v wr => ∃ i : Nat, i ≤ n ∧ v = .int .i64 (i : Int) ∧ BT wr (w.heap.size + 1) n m (rowsTo t m i) ∧ BT wr w.heap.size 0 0 zF ∧ Below w.heap.size w wr ∧ Hid (∀ (j : Nat) (hj : j < t.length), j < i → t[j].length = m)) (fun v _ => n - (intOf v).toNat)
      case atStart => exact ⟨0, Nat.zero_le _, rfl, HT.out, HR.out, HBL.out, fun j _ h => by omega⟩
      case round =>
        clear HT HR HBL hsz
        obtain ⟨i, hi, rfl, hT, hR, hB, hok⟩ := hrel
        have HT := Lib.hid hT; have HR := Lib.hid hR; have HB := Lib.hid hB; have HOK := hok
        clear hT hR hB hok
        by_cases hlt : i < n
        · have hit : i < t.length := by rw [HN.out]; exact hlt
          have hlt' : (i : Int) < (n : Int) := by omega
          have i0 : (0 : Int) ≤ (i : Int) := by omega
          have HI := Lib.hid (H.out.below HB.out H.out.2.1)
          obtain ⟨_, _, Ai, ci, e, _, hci, _, hrow⟩ := HI.out.at_ hit
          injection e with e; injection e with e1 e2 _; subst e1; subst e2
          have hcol := HT.out.cols
          obtain ⟨k, hk⟩ : ∃ k, t[i].length = k := ⟨_, rfl⟩
          have HK := Lib.hid hk
          have hk0 := hrow.1
          rw [hk] at hci hk0
          have HROW := Lib.hid hrow
          clear hrow hk
          by_cases hkm : k = m
          · subst hkm
            have HST : Hid (∀ {W : World}, BT W (w.heap.size + 1) n k (putRow (rowsTo t k i) i 0 t[i]) → BT W (w.heap.size + 1) n k (rowsTo t k (i + 1))) := fun {W} h => rowsTo_step hit HK.out W h
            obtain ⟨zs, hzs⟩ : ∃ zs, t[i] = zs := ⟨_, rfl⟩
            rw [hzs] at HROW HK HST
            have HZ := Lib.hid hzs
            clear hzs
            have hbT := HT.out
            have hzr := HROW.out
            have hz6 : Hid (zs.length ≤ 6) := by show _ ≤ _; rw [HK.out]; exact hm6
            have hi6 : i < 6 := by omega
            have i6 : (i : Int) < 6 := by omega
            have HR2 : Hid (BT (wr.setCells (w.heap.size + 1) (2 + i * 6) (zs.map (Value.int .i64))) w.heap.size 0 0 zF) := HR.out.block (heap_setCells (by omega) _ _ _)
            have HB2 : Hid (Below w.heap.size w (wr.setCells (w.heap.size + 1) (2 + i * 6) (zs.map (Value.int .i64)))) := below_setCells (by omega) _ _ _ HB.out
            have HT2 : Hid (BT (wr.setCells (w.heap.size + 1) (2 + i * 6) (zs.map (Value.int .i64))) (w.heap.size + 1) n k (rowsTo t k (i + 1))) := HST.out (BT.setCells hi6 zs wr _ 0 HT.out (by have := hz6.out; omega))
            go_wp2_with (refine wpList_copyT (i := i) (B := w.heap.size + 1) rfl _ _ rfl rfl rfl HK.out.symm hbT hi6 hzr hz6.out ?_)
            go_roundw
            case rel =>
              refine ⟨i + 1, by omega, by go_num, HT2.out, HR2.out, HB2.out, fun j hj hji => ?_⟩
              by_cases e : j = i
              · subst e; rw [HZ.out]; exact HK.out
              · exact HOK.out j hj (by omega)
            case measure => simp [intOf]; omega
          · have hF : shB t = false := by
              cases e : shB t with
              | false => rfl
              | true =>
                have := (shB_true.1 e).2.2 _ (List.getElem_mem hit)
                rw [HK.out, HM.out] at this
                exact absurd this hkm
            have HF := Lib.hid hF
            have hkm' : ¬ (k : Int) = (m : Int) := by omega
            have b6 := HR.out
            clear hF
            go_wp2_with (first | (refine wpList_bu0 rfl rfl ?_) | (refine wpList_stT rfl _ _ rfl rfl rfl b6 ?_))
            have b7 := (b6.put (n' := 0) (m' := 0) (f' := zF)).loadV
            refine bodyPost_ret (v := .tuple #[.agg (tabV 0 0 zF), .bool false]) ?_ rfl ⟨0, 0, zF, ?_, ⟨by omega, by omega⟩, fun q => ?_, ?_⟩
            · simp [results, Try.results45, asAddr, Result.andThen, b7]
            · unfold withinB; rw [HF.out]; rfl
            · rw [HF.out] at q; cases q
            · exact below_setRow HB.out (Nat.le_refl _) _
        · obtain rfl : i = n := by omega
          have hlt' : ¬ (i : Int) < (i : Int) := by omega
          have hS : shB t = true := by
            refine shB_true.2 ⟨by rw [HN.out]; omega, by rw [HM.out]; omega, fun r hr => ?_⟩
            obtain ⟨j, hj, rfl⟩ := List.getElem_of_mem hr
            rw [HM.out]
            exact HOK.out j hj (by rw [← HN.out]; exact hj)
          have HS := Lib.hid hS
          have HE : Hid (∀ a b, a < i → b < m → rowsTo t m i a b = ent t a b) := fun a b h1 h2 => if_pos ⟨h1, h2⟩
          have HW : Hid (withinB x y t = inF x y i m (rowsTo t m i)) := by
            show _ = _
            unfold withinB
            rw [HS.out, HN.out, HM.out]
            exact inF_congr fun a b h1 h2 => (HE.out a b h1 h2).symm
          obtain ⟨g, hg⟩ : ∃ g, rowsTo t m i = g := ⟨_, rfl⟩
          rw [hg] at HT HE HW
          clear hg hS HOK
          go_wp2
          have hbw := HB.out.size
          obtain ⟨V, hV⟩ : ∃ V, tabV i m g = V := ⟨_, rfl⟩
          have hWI := fun W => isWithin_any i m g x y hn6 hm6 W
          rw [hV] at hWI
          refine wp_region_held_drew (S := fun W => BT W (w.heap.size + 1) i m g) (by kernel_rfl) HT.out (fun hS => ?_)
          refine anyH_take 0 (v := .agg V) rfl (by kernel_rfl) (by kernel_rfl) (by kernel_rfl) (fun _ _ _ h => h) rfl (fun W hW => by rw [← hV]; exact run_ldT rfl rfl hW) hS ?_
          refine anyH_take 1 (v := .agg V) rfl (by kernel_rfl) (by kernel_rfl) (by kernel_rfl) (fun _ _ _ h => h) rfl (fun W hW => by rw [← hV]; exact run_ldT rfl rfl hW) hS ?_
          refine anyH_take 2 (v := .int .i64 x) rfl (by kernel_rfl) (by kernel_rfl) (by kernel_rfl) (fun _ _ _ h => h) rfl (fun W hW => rfl) hS ?_
          refine anyH_take 3 (v := .int .i64 y) rfl (by kernel_rfl) (by kernel_rfl) (by kernel_rfl) (fun _ _ _ h => h) rfl (fun W hW => rfl) hS ?_
          refine anyH_one 4 rfl (by kernel_rfl) (by kernel_rfl) ?_
          refine wp_callF (args := #[.agg V, .int .i64 x, .int .i64 y]) rfl Try.call59 (by kernel_rfl) ?_
          refine (hWI _).mono ?_
          rintro e w5 ⟨rfl, hb5⟩
          have hT5 := hS.grow hb5
          have hR5 : BT w5 w.heap.size 0 0 zF := BT.grow (W := wr.drew) HR.out hb5
          have hB5 : Below w.heap.size w w5 := below_then (below_drawN HB.out 1) (Nat.le_refl _) hb5
          rw [← HW.out]
          obtain ⟨q, hq⟩ : ∃ q, withinB x y t = q := ⟨_, rfl⟩
          rw [hq]
          have HQ := Lib.hid hq
          refine ⟨_, rfl, hT5, ?_⟩
          refine anyH_one 5 rfl (by kernel_rfl) (by kernel_rfl) ?_
          refine wp_stV (x := .tmp 6) (y := .tmp 51) ?ho hV ?hx ?hy hR5 ?_
          case ho => rfl
          case hx => kernel_rfl
          case hy => kernel_rfl
          have hR6 : BT (w5.setRow w.heap.size V) w.heap.size i m g := by rw [← hV]; exact hR5.put
          have hT6 : BT (w5.setRow w.heap.size V) (w.heap.size + 1) i m g := hT5.block (setRow_other _ _ _ _ (by omega))
          have hB6 := below_setRow hB5 (Nat.le_refl _) V
          have HE2 := HE
          refine ⟨hT6, ?_⟩
          refine anyH_one 6 rfl (by kernel_rfl) (by kernel_rfl) ?_
          refine wp_value (v := .bool q) (by kernel_rfl) ⟨hT6, ?_⟩
          refine wpAnyH_done (by kernel_rfl) ?_ _
          clear hWI
          go_wp2
          refine bodyPost_ret (v := .tuple #[.agg (tabV i m g), .bool q]) (resT2 rfl _ _ (by kernel_rfl) (by kernel_rfl) hR6) rfl ⟨i, m, g, ?_, ⟨hn6, hm6⟩, fun _ => ⟨rfl, rfl, HE.out⟩, hB6⟩
          rw [HQ.out]
  · have HF : Hid (shB t = false) := by
      show _ = _
      unfold shB; rw [HN.out, decide_eq_false hn1]; rfl
    have hp : inB 1 6 (n : Int) = false := by
      cases e : inB 1 6 (n : Int) with
      | false => rfl
      | true => have := inB_true.1 e; omega
    go_enter Try.func45, Try.ntmps45
    go_wp2_with (refine wpList_alT rfl rfl ?_)
    refine (isTableCount_any _ _).mono ?_
    rintro e w' ⟨rfl, rfl⟩
    rw [hp]
    have b6 := BT.new w 0 0 zF
    go_wp2_with (first | (refine wpList_bu0 rfl rfl ?_) | (refine wpList_stT rfl _ _ rfl rfl rfl b6 ?_))
    have b7 := (b6.put (n' := 0) (m' := 0) (f' := zF)).loadV
    refine bodyPost_ret (v := .tuple #[.agg (tabV 0 0 zF), .bool false]) ?_ rfl ⟨0, 0, zF, ?_, ⟨by omega, by omega⟩, fun q => ?_, ?_⟩
    · simp [results, Try.results45, asAddr, Result.andThen, b7]
    · unfold withinB; rw [HF.out]; rfl
    · rw [HF.out] at q; cases q
    · exact below_setRow ((Below.refl _ w).alloc (Nat.le_refl _) _) (Nat.le_refl _) _
end Go.Proofs.Ytanoojpmokbiaaa

/-
  Structs and arrays of numbers in blocks of their own: 36 cells, and in general; two arrays of cells compared. Conditions: none.
-/
namespace Go.Proofs.Ytanoojpmokbiaaa
open Go.RowKit Go.Shelf

/-- A struct or an array in block B. -/
def BX (W : World) (B : Nat) (T : TypeId) (cs : Array Value) : Prop := W.heap[B]? = some (.cells cs T (0, 0))
/-- The type's values are kept in cells, as many as cs has. -/
def RowT (P : Program) (T : TypeId) (k : Nat) : Prop := (∃ d, P.underlying T = some d ∧ (match d with | .struct _ | .array _ _ => true | _ => false) = true) ∧ (P.info? T).map (·.size) = some k
section
variable {W W' : World} {B : Nat} {T : TypeId} {cs : Array Value}
set_option maxRecDepth 100000 in
theorem BX.lt (h : BX W B T cs) : B < W.heap.size := (Array.getElem?_eq_some_iff.1 h).1
set_option maxRecDepth 100000 in
theorem BX.cell (h : BX W B T cs) (j : Nat) : W.cell? ⟨B, j, none⟩ = cs[j]? := cell_of_row W B j _ _ _ h
set_option maxRecDepth 100000 in
theorem BX.frozen (h : BX W B T cs) (j : Nat) : W.frozen? ⟨B, j, none⟩ = false := frozen_of_row W B j _ _ h
set_option maxRecDepth 100000 in
theorem BX.block (h : BX W B T cs) (hb : W'.heap[B]? = W.heap[B]?) : BX W' B T cs := hb.trans h
set_option maxRecDepth 100000 in
theorem BX.below {C : Nat} (h : BX W B T cs) (hb : Below C W W') (hC : B < C) : BX W' B T cs := hb.block B hC |>.trans h
set_option maxRecDepth 100000 in
theorem BX.grow (h : BX W B T cs) (hb : Below W.heap.size W W') : BX W' B T cs := h.below hb h.lt
set_option maxRecDepth 100000 in
theorem BX.alloc (h : BX W B T cs) (o : Obj) : BX (W.alloc o) B T cs := h.grow ((Below.refl _ W).alloc (Nat.le_refl _) o)
set_option maxRecDepth 100000 in
theorem BX.set_ (h : BX W B T cs) (j : Nat) (v : Value) : BX (W.setCell ⟨B, j, none⟩ v) B T (cs.setIfInBounds j v) := heap_setCell_same W B j cs T v h
set_option maxRecDepth 100000 in
theorem BX.other (h : BX W B T cs) {p : Addr} (hp : B ≠ p.block) (v : Value) : BX (W.setCell p v) B T cs := (heap_setCell_other W p B v hp).trans h
set_option maxRecDepth 100000 in
theorem BX.put (h : BX W B T cs) (cs' : Array Value) : BX (W.setRow B cs') B T cs' := setRow_heap W B _ _ _ _ h
set_option maxRecDepth 100000 in
theorem BX.apart (h : BX W B T cs) {B' : Nat} (hB : B ≠ B') (cs' : Array Value) : BX (W.setRow B' cs') B T cs := (setRow_other W B' B cs' hB).trans h
set_option maxRecDepth 100000 in
theorem BX.loadV {P : Program} {k : Nat} (h : BX W B T cs) (hT : RowT P T k) (hk : cs.size = k) : (loadVar T ⟨B, 0, none⟩).run P W = .ok (.agg cs) W := by
  obtain ⟨⟨d, h1, h2⟩, h3⟩ := hT
  exact run_loadVar_row W B _ _ cs (0, 0) d h h1 (by cases d <;> first | rfl | cases h2) (by rw [hk]; exact h3)
set_option maxRecDepth 100000 in
theorem run_ldX {P : Program} {k : Nat} {o : Oper} {ρ : Operand → Value} {x : Operand} (ho : o.op = .load T x) (hx : ρ x = .pointer (some ⟨B, 0, none⟩)) (h : BX W B T cs) (hT : RowT P T k) (hk : cs.size = k) : (execOp ρ o).run P W = .ok (.value (.agg cs)) W := by
  unfold execOp
  simp only [ho, hx, Instr.loadAt, Instr.sureAddr, Sem.run_bind, Sem.run_pure, Result.andThen_ok, h.loadV hT hk]
end
set_option maxRecDepth 100000 in
theorem BX.new (w : World) (T : TypeId) (cs : Array Value) : BX (w.alloc (.cells cs T)) w.heap.size T cs := World.alloc_heap_new w _
set_option maxRecDepth 100000 in
theorem bx_own {β : Type} (B : Nat) (T : TypeId) (cs : β → Array Value) : Own (fun s W => BX W B T (cs s)) := by
  rintro s X Y row h hg hrow
  have hne : some B ≠ row := by
    intro e
    obtain ⟨o, ho, hc⟩ := hrow B e.symm
    rw [show X.heap[B]? = _ from h] at ho; cases ho; cases hc
  exact (hg.block B h.lt hne).trans h
section
variable {ops : Array Oper} {rest : List Oper} {o : Oper} {a : Act} {w : World} {Q : Exit → Act → World → Prop} {P : Program}
set_option maxRecDepth 100000 in
theorem wpList_ldX (hg : o.guard = none) (x : Operand) {T : TypeId} (ho : o.op = .load T x) {B k : Nat} {cs : Array Value} (hx : a.eval x = .pointer (some ⟨B, 0, none⟩)) (hb : BX w B T cs) (hT : RowT P T k) (hk : cs.size = k)
    (h : wpList P ops Q rest (a.put o.dst (.agg cs)) w) : wpList P ops Q (o :: rest) a w := wpList_op hg (run_ldX ho hx hb hT hk) h
set_option maxRecDepth 100000 in
theorem wpList_stX (hg : o.guard = none) (x y : Operand) {T : TypeId} (ho : o.op = .store T x y) {B k : Nat} {cs cs' : Array Value} (hx : a.eval x = .pointer (some ⟨B, 0, none⟩)) (hy : a.eval y = .agg cs') (hb : BX w B T cs) (hT : RowT P T k) (hk : cs.size = k) (hk' : cs'.size = k) (h1 : cs'.all (·.oneCell') = true)
    (h : wpList P ops Q rest (a.put o.dst undef) (w.setRow B cs')) : wpList P ops Q (o :: rest) a w :=
  wpList_store_row hg _ x y ho B _ hx hy _ _ hb (by rw [hk']; exact hT.2) (by rw [hk, hk']) h1 h
/-- The type's zero. -/
def ZeroT (P : Program) (T : TypeId) (cs : Array Value) : Prop := (P.info? T).map (fun i => (i.zero, i.size)) = some (some (.agg cs), cs.size)
set_option maxRecDepth 100000 in
theorem wpList_alX (hg : o.guard = none) {T : TypeId} (ho : o.op = .alloc T) {cs : Array Value} (hz : ZeroT P T cs)
    (h : wpList P ops Q rest (a.put o.dst (.pointer (some ⟨w.heap.size, 0, none⟩))) (w.alloc (.cells cs T))) : wpList P ops Q (o :: rest) a w :=
  wpList_op hg (by
    have hz' := (zero_of_info hz).1
    unfold execOp
    simp [ho, go_sem, hz']) h
set_option maxRecDepth 100000 in
theorem wpList_buX (hg : o.guard = none) {T : TypeId} (ho : o.op = .build T #[]) {cs : Array Value} (hz : P.built T [] = some cs)
    (h : wpList P ops Q rest (a.put o.dst (.agg cs)) w) : wpList P ops Q (o :: rest) a w :=
  wpList_op hg (by unfold execOp; simp only [ho, Sem.run_bind, Array.map_empty, run_build w _ #[] _ hz, Result.andThen_ok, Sem.run_pure]) h
end

set_option maxRecDepth 100000 in
theorem resX {P : Program} {fn : Func} {p : Tmp} {T : TypeId} (h : fn.results = #[.cell p T]) (tmps : Array Value) (W : World) {B k : Nat} {cs : Array Value} (hp : tmps.getD p undef = .pointer (some ⟨B, 0, none⟩)) (hb : BX W B T cs) (hT : RowT P T k) (hk : cs.size = k) :
    (results fn tmps).run P W = .ok (.agg cs) W := by
  have hp' : tmps[p]?.getD undef = .pointer (some ⟨B, 0, none⟩) := by simpa using hp
  simp [results, h, hp', asAddr, hb.loadV hT hk]
/-- The 36 cells. -/
def cellC (f : Nat → Nat → Int) : List Value := (List.range 36).map fun j => .int .i64 (f (j / 6) (j % 6))
def cellV (f : Nat → Nat → Int) : Array Value := (cellC f).toArray
set_option maxRecDepth 100000 in
theorem cellV_size (f : Nat → Nat → Int) : (cellV f).size = 36 := by simp [cellV, cellC]
set_option maxRecDepth 100000 in
theorem cellV_get (f : Nat → Nat → Int) {i k : Nat} (hi : i < 6) (hk : k < 6) : (cellV f)[i * 6 + k]? = some (.int .i64 (f i k)) := by
  unfold cellV cellC
  rw [List.getElem?_toArray, List.getElem?_map, List.getElem?_range (by omega)]
  show some (Value.int .i64 (f ((i * 6 + k) / 6) ((i * 6 + k) % 6))) = _
  rw [show (i * 6 + k) / 6 = i by omega, show (i * 6 + k) % 6 = k by omega]
set_option maxRecDepth 100000 in
theorem cellV_congr {f g : Nat → Nat → Int} (h : ∀ i k, i < 6 → k < 6 → f i k = g i k) : cellV f = cellV g := by
  unfold cellV cellC
  congr 1
  refine List.map_congr_left fun j hj => ?_
  have := List.mem_range.1 hj
  rw [h _ _ (by omega) (by omega)]
set_option maxRecDepth 100000 in
theorem cellV_set (f : Nat → Nat → Int) {i k : Nat} (hi : i < 6) (hk : k < 6) (v : Int) : (cellV f).setIfInBounds (i * 6 + k) (.int .i64 v) = cellV (putF f i k v) := by
  unfold cellV
  rw [List.setIfInBounds_toArray]
  congr 1
  apply List.ext_getElem?
  intro j
  rw [List.getElem?_set]
  unfold cellC
  by_cases e : i * 6 + k = j
  · subst e
    rw [if_pos rfl, if_pos (by simp; omega), List.getElem?_map, List.getElem?_range (by omega)]
    show _ = some (Value.int .i64 (putF f i k v ((i * 6 + k) / 6) ((i * 6 + k) % 6)))
    rw [show (i * 6 + k) / 6 = i by omega, show (i * 6 + k) % 6 = k by omega]
    simp [putF]
  · rw [if_neg e, List.getElem?_map, List.getElem?_map]
    by_cases hj : j < 36
    · rw [List.getElem?_range hj]
      show some (Value.int .i64 (f (j / 6) (j % 6))) = some (Value.int .i64 (putF f i k v (j / 6) (j % 6)))
      unfold putF
      rw [if_neg (by omega)]
    · rw [List.getElem?_eq_none (by simp; omega)]; rfl
set_option maxRecDepth 100000 in
theorem cellV_one (f : Nat → Nat → Int) : (cellV f).all (·.oneCell') = true := by
  unfold cellV
  rw [List.all_toArray, List.all_eq_true]
  intro v hv
  obtain ⟨j, _, rfl⟩ := List.mem_map.1 hv
  rfl
set_option maxRecDepth 100000 in
theorem rowT_table : RowT Try.prog 50 38 := ⟨⟨_, Try.underlying50, rfl⟩, by kernel_rfl⟩
set_option maxRecDepth 100000 in
theorem rowT_cells : RowT Try.prog 48 36 := ⟨⟨_, Try.underlying48, rfl⟩, by kernel_rfl⟩
set_option maxRecDepth 100000 in
theorem zeroT_cells : ZeroT Try.prog 48 (cellV zF) := by show _ = _; kernel_rfl
set_option maxRecDepth 100000 in
theorem built_cells : Try.prog.built 48 [] = some (cellV zF) := by kernel_rfl

set_option maxRecDepth 100000 in
/-- Two arrays, entry by entry. -/
theorem eqItems_all {P : Program} {w : World} (d : Nat) (e : TypeId) (s : Nat) (xs ys : Array Value) (b : Nat → Bool) : ∀ is : List Nat,
    (∀ i, i ∈ is → ∃ vx vy, (part e xs (i * s)).run P w = .ok vx w ∧ (part e ys (i * s)).run P w = .ok vy w ∧ (Op.equalIn d e vx vy).run P w = .ok (b i) w) → (Op.eqItems d e s xs ys is).run P w = .ok (is.all b) w := by
  intro is
  induction is with
  | nil => intro _; simp [Op.eqItems]
  | cons i is ih =>
    intro h
    obtain ⟨vx, vy, p1, p2, p3⟩ := h i (List.mem_cons_self ..)
    simp only [Op.eqItems, Sem.run_bind, p1, p2, p3, Result.andThen_ok]
    cases hb : b i with
    | false => simp [List.all_cons, hb]
    | true =>
      simp only [List.all_cons, hb, Bool.true_and]
      simpa using ih fun j hj => h j (List.mem_cons_of_mem _ hj)
end Go.Proofs.Ytanoojpmokbiaaa

/-
  excess, isCrossed, tableIn, crossedIn and TableCrossed of the program. Conditions: the lists' cells are there.
-/
namespace Go.Proofs.Ytanoojpmokbiaaa
open Go.RowKit Go.Shelf
attribute [local go_sem] Oper.semAt_some

set_option maxRecDepth 100000 in
theorem cells_part (f : Nat → Nat → Int) {i k : Nat} (hi : i < 6) (hk : k < 6) : ((cellV f).extract (i * 6) (i * 6 + 6))[k]? = some (.int .i64 (f i k)) := by
  rw [Array.getElem?_extract]
  rw [cellV_size, if_pos (by omega)]
  exact cellV_get f hi hk
set_option maxRecDepth 100000 in
theorem eqCells (f g : Nat → Nat → Int) (w : World) : (Op.equalIn 10000 48 (.agg (cellV f)) (.agg (cellV g))).run Try.prog w = .ok ((List.range 6).all fun i => (List.range 6).all fun k => f i k == g i k) w := by
  obtain ⟨i46, h46⟩ : ∃ i, Try.prog.info? 46 = some i := ⟨_, rfl⟩
  obtain ⟨i3, h3⟩ : ∃ i, Try.prog.info? 3 = some i := ⟨_, rfl⟩
  rw [show (10000 : Nat) = 9999 + 1 from rfl, run_equalIn_array w 9999 _ _ Try.underlying48 h46]
  rw [show Try.prog.cellsOf 46 = 6 by kernel_rfl]
  refine eqItems_all _ _ _ _ _ _ _ fun i hi => ?_
  have hi6 := List.mem_range.1 hi
  refine ⟨.agg ((cellV f).extract (i * 6) (i * 6 + 6)), .agg ((cellV g).extract (i * 6) (i * 6 + 6)), ?_, ?_, ?_⟩
  · simp [part, Try.isAgg46, Try.sizeOf46]
  · simp [part, Try.isAgg46, Try.sizeOf46]
  · rw [show (9999 : Nat) = 9998 + 1 from rfl, run_equalIn_array w 9998 _ _ Try.underlying46 h3]
    rw [show Try.prog.cellsOf 3 = 1 by kernel_rfl]
    refine eqItems_all _ _ _ _ _ _ _ fun k hk => ?_
    have hk6 := List.mem_range.1 hk
    refine ⟨.int .i64 (f i k), .int .i64 (g i k), ?_, ?_, ?_⟩
    · simp [part, Try.isAgg3, cells_part f hi6 hk6]
    · simp [part, Try.isAgg3, cells_part g hi6 hk6]
    · rw [show (9998 : Nat) = 9997 + 1 from rfl, run_equalIn_int w 9997 _ _ _ _ _ Try.underlying3]

/-- What excess answers. -/
def exF (n m : Nat) (f : Nat → Nat → Int) : Nat → Nat → Int := fun i k => if i + 1 < n ∧ k + 1 < m then max 0 (f i k + f (i + 1) (k + 1) - (f i (k + 1) + f (i + 1) k)) else 0
/-- As far as it has come. -/
def exTo (n m : Nat) (f : Nat → Nat → Int) (p q : Nat) : Nat → Nat → Int := fun i k => if i < p ∨ i = p ∧ k < q then exF n m f i k else 0
set_option maxRecDepth 100000 in
theorem exTo_start (n m : Nat) (f : Nat → Nat → Int) : cellV (exTo n m f 0 0) = cellV zF := cellV_congr fun i k _ _ => if_neg (by omega)
set_option maxRecDepth 100000 in
theorem exTo_step (n m : Nat) (f : Nat → Nat → Int) {p q : Nat} (hp : p + 1 < n) (hq : q + 1 < m) (hn : n ≤ 6) (hm : m ≤ 6) : (cellV (exTo n m f p q)).setIfInBounds (p * 6 + q) (.int .i64 (max 0 (f p q + f (p + 1) (q + 1) - (f p (q + 1) + f (p + 1) q)))) = cellV (exTo n m f p (q + 1)) := by
  rw [cellV_set _ (by omega) (by omega)]
  refine cellV_congr fun i k _ _ => ?_
  unfold putF exTo
  by_cases e : i = p ∧ k = q
  · obtain ⟨rfl, rfl⟩ := e
    rw [if_pos ⟨rfl, rfl⟩, if_pos (by omega)]
    unfold exF
    rw [if_pos ⟨hp, hq⟩]
  · rw [if_neg e]
    by_cases c : i < p ∨ i = p ∧ k < q
    · rw [if_pos c, if_pos (by omega)]
    · rw [if_neg c, if_neg (by omega)]
set_option maxRecDepth 100000 in
theorem exTo_next (n m : Nat) (f : Nat → Nat → Int) {p q : Nat} (hq : m ≤ q + 1) : cellV (exTo n m f p q) = cellV (exTo n m f (p + 1) 0) := by
  refine cellV_congr fun i k _ _ => ?_
  unfold exTo
  by_cases c : i < p ∨ i = p ∧ k < q
  · rw [if_pos c, if_pos (by omega)]
  · rw [if_neg c]
    by_cases d : i = p
    · rw [if_pos (by omega)]
      unfold exF
      rw [if_neg (by omega)]
    · rw [if_neg (by omega)]
set_option maxRecDepth 100000 in
theorem exTo_all (n m : Nat) (f : Nat → Nat → Int) {p : Nat} (hp : n ≤ p + 1) : cellV (exTo n m f p 0) = cellV (exF n m f) := by
  refine cellV_congr fun i k _ _ => ?_
  unfold exTo
  by_cases c : i < p ∨ i = p ∧ k < 0
  · rw [if_pos c]
  · rw [if_neg c]
    unfold exF
    rw [if_neg (by omega)]

set_option maxRecDepth 100000 in
set_option maxHeartbeats 2000000 in
theorem excess_any (n m : Nat) (f : Nat → Nat → Int) (hn : 1 ≤ n ∧ n ≤ 6) (hm : 1 ≤ m ∧ m ≤ 6) (hf : ∀ i k, i < n → k < m → -1000 ≤ f i k ∧ f i k ≤ 1000) (w : World) :
    Calls Try.prog 48 #[.agg (tabV n m f)] w fun e w' => e = .returned (.agg (cellV (exF n m f))) ∧ Below w.heap.size w w' := by
  have HF := Lib.hid hf
  clear hf
  have bT := BT.new w n m f
  have bR := BX.new (w.alloc (.cells (tabV n m f) 50)) 48 (cellV zF)
  have bM := BX.new ((w.alloc (.cells (tabV n m f) 50)).alloc (.cells (cellV zF) 48)) 48 (cellV zF)
  rw [World.size_alloc] at bR bM
  rw [World.size_alloc] at bM
  have bB : Below w.heap.size w (((w.alloc (.cells (tabV n m f) 50)).alloc (.cells (cellV zF) 48)).alloc (.cells (cellV zF) 48)) := (((Below.refl _ w).alloc (Nat.le_refl _) _).alloc (by simp) _).alloc (by simp; omega) _
  have bT2 := (bT.alloc (.cells (cellV zF) 48)).alloc (.cells (cellV zF) 48)
  have bR2 := bR.alloc (.cells (cellV zF) 48)
  have c0 := bT2.rows
  rw [← exTo_start n m f] at bM
  have hz := zeroT_cells
  have s1 : IntKind.i64.wrap ((n : Int) - 1) = (n : Int) - 1 := IntWalk.i64_in _ (by omega)
  have HT := Lib.hid bT2; have HR := Lib.hid bR2; have HM := Lib.hid bM; have HB := Lib.hid bB
  clear bT bT2 bR bR2 bM bB
  go_enter Try.func48, Try.ntmps48
  go_wp2_with (refine wpList_alX rfl rfl hz ?_)
  clear c0
  go_loopw [11] (fun v wr => ∃ p : Nat, p + 1 ≤ n ∧ v = .int .i64 (p : Int) ∧ BT wr w.heap.size n m f ∧ BX wr (w.heap.size + 1) 48 (cellV zF) ∧ BX wr (w.heap.size + 1 + 1) 48 (cellV (exTo n m f p 0)) ∧ Below w.heap.size w wr) (fun v _ => n - (intOf v).toNat)
  case atStart => exact ⟨0, by omega, rfl, HT.out, HR.out, HM.out, HB.out⟩
  case round =>
    clear HT HR HM HB
    obtain ⟨p, hp, rfl, hT, hR, hM, hB⟩ := hrel
    have c1 := hT.cols
    have HT := Lib.hid hT; have HR := Lib.hid hR; have HM := Lib.hid hM; have HB := Lib.hid hB
    clear hT hR hM hB
    by_cases hlt : p + 1 < n
    · have hlt' : (p : Int) < (n : Int) - 1 := by omega
      have s2 : IntKind.i64.wrap ((m : Int) - 1) = (m : Int) - 1 := IntWalk.i64_in _ (by omega)
      go_wp2
      clear c1
      go_loopw [17] (fun v wr => ∃ q : Nat, q + 1 ≤ m ∧ v = .int .i64 (q : Int) ∧ BT wr w.heap.size n m f ∧ BX wr (w.heap.size + 1) 48 (cellV zF) ∧ BX wr (w.heap.size + 1 + 1) 48 (cellV (exTo n m f p q)) ∧ Below w.heap.size w wr) (fun v _ => m - (intOf v).toNat)
      case atStart => exact ⟨0, by omega, rfl, HT.out, HR.out, HM.out, HB.out⟩
      case round =>
        clear HT HR HM HB
        obtain ⟨q, hq, rfl, hT, hR, hM, hB⟩ := hrel
        by_cases hqm : q + 1 < m
        · have hqm' : (q : Int) < (m : Int) - 1 := by omega
          have x00 := hT.entry (i := p) (k := q) (by omega) (by omega)
          have x01 := hT.entry (i := p) (k := q + 1) (by omega) (by omega)
          have x10 := hT.entry (i := p + 1) (k := q) (by omega) (by omega)
          have x11 := hT.entry (i := p + 1) (k := q + 1) (by omega) (by omega)
          have g00 := HF.out p q (by omega) (by omega)
          have g01 := HF.out p (q + 1) (by omega) (by omega)
          have g10 := HF.out (p + 1) q (by omega) (by omega)
          have g11 := HF.out (p + 1) (q + 1) (by omega) (by omega)
          have hst := exTo_step n m f hlt hqm hn.2 hm.2
          have cM := hM.cell (p * 6 + q)
          rw [cellV_get _ (by omega) (by omega)] at cM
          have fM := hM.frozen (p * 6 + q)
          obtain ⟨y00, hy00⟩ : ∃ y, f p q = y := ⟨_, rfl⟩
          obtain ⟨y01, hy01⟩ : ∃ y, f p (q + 1) = y := ⟨_, rfl⟩
          obtain ⟨y10, hy10⟩ : ∃ y, f (p + 1) q = y := ⟨_, rfl⟩
          obtain ⟨y11, hy11⟩ : ∃ y, f (p + 1) (q + 1) = y := ⟨_, rfl⟩
          rw [hy00] at x00 g00; rw [hy01] at x01 g01; rw [hy10] at x10 g10; rw [hy11] at x11 g11
          rw [hy00, hy01, hy10, hy11] at hst
          have HST := Lib.hid hst
          have HT := Lib.hid hT; have HR := Lib.hid hR; have HM := Lib.hid hM; have HB := Lib.hid hB
          have t1 : IntKind.i64.wrap ((p : Int) + 1) = (p : Int) + 1 := IntWalk.i64_in _ (by omega)
          have t2 : IntKind.i64.wrap ((q : Int) + 1) = (q : Int) + 1 := IntWalk.i64_in _ (by omega)
          have t3 : IntKind.i64.wrap (y00 + y11) = y00 + y11 := IntWalk.i64_in _ (by omega)
          have t4 : IntKind.i64.wrap (y01 + y10) = y01 + y10 := IntWalk.i64_in _ (by omega)
          have t5 : IntKind.i64.wrap (y00 + y11 - (y01 + y10)) = y00 + y11 - (y01 + y10) := IntWalk.i64_in _ (by omega)
          have p0 : (0 : Int) ≤ (p : Int) := by omega
          have q0 : (0 : Int) ≤ (q : Int) := by omega
          have p1 : (0 : Int) ≤ (p : Int) + 1 := by omega
          have q1 : (0 : Int) ≤ (q : Int) + 1 := by omega
          have p6 : (p : Int) < 6 := by omega
          have q6 : (q : Int) < 6 := by omega
          have p7 : (p : Int) + 1 < 6 := by omega
          have q7 : (q : Int) + 1 < 6 := by omega
          have u0 : ((p : Int) + 1).toNat = p + 1 := by omega
          have u1 : ((q : Int) + 1).toNat = q + 1 := by omega
          clear hst hT hR hM hB hy00 hy01 hy10 hy11 g00 g01 g10 g11
          go_wp2
          go_quiet (fail)
          go_wp2
          go_quiet (fail)
          have hmx : (if y01 + y10 < y00 + y11 then y00 + y11 - (y01 + y10) else 0) = max 0 (y00 + y11 - (y01 + y10)) := by split <;> omega
          go_wp2
          go_roundw
          case rel =>
            refine ⟨q + 1, by omega, by go_num, BT.other (W := wr.drewN _) HT.out (by show w.heap.size ≠ w.heap.size + 1 + 1; omega) _, BX.other (W := wr.drewN _) HR.out (by show w.heap.size + 1 ≠ w.heap.size + 1 + 1; omega) _, ?_, (below_drawN HB.out _).setCell (p := ⟨w.heap.size + 1 + 1, p * 6 + q, none⟩) (by show w.heap.size ≤ w.heap.size + 1 + 1; omega) _⟩
            rw [← HST.out]
            exact BX.set_ (W := wr.drewN _) HM.out _ _
          case measure => simp [intOf]; omega
        · obtain rfl : m = q + 1 := by omega
          have hqm' : ¬ (q : Int) < (q : Int) := by omega
          have hqm'' : ¬ (q : Int) < ((q + 1 : Nat) : Int) - 1 := by omega
          rw [exTo_next n (q + 1) f (by omega)] at hM
          have HT := Lib.hid hT; have HR := Lib.hid hR; have HM := Lib.hid hM; have HB := Lib.hid hB
          clear hT hR hM hB
          go_wp2
          go_roundw
          case rel => exact ⟨p + 1, by omega, by go_num, HT.out, HR.out, HM.out, HB.out⟩
          case measure => simp [intOf]; omega
    · obtain rfl : n = p + 1 := by omega
      have hlt' : ¬ (p : Int) < ((p + 1 : Nat) : Int) - 1 := by omega
      rw [exTo_all (p + 1) m f (by omega)] at HM
      have hM := HM.out; have hR := HR.out
      have rC := rowT_cells
      obtain ⟨V, hV⟩ : ∃ V, cellV (exF (p + 1) m f) = V := ⟨_, rfl⟩
      rw [hV] at hM
      have hVs : V.size = 36 := by rw [← hV]; exact cellV_size _
      have hV1 : V.all (·.oneCell') = true := by rw [← hV]; exact cellV_one _
      have hzs := cellV_size zF
      go_wp2_with (first | (refine wpList_ldX rfl _ rfl rfl hM rC hVs ?_) | (refine wpList_stX rfl _ _ rfl rfl rfl hR rC hzs hVs hV1 ?_))
      refine bodyPost_ret (v := .agg V) (resX rfl _ _ (by kernel_rfl) (hR.put V) rC hVs) rfl ⟨rfl, below_setRow HB.out (by omega) _⟩

def crF (n m : Nat) (f : Nat → Nat → Int) : Bool := (List.range (n - 1)).all fun i => (List.range (m - 1)).all fun k => decide (f i k + f (i + 1) (k + 1) ≤ f i (k + 1) + f (i + 1) k)
set_option maxRecDepth 100000 in
theorem crF_ex (n m : Nat) (f : Nat → Nat → Int) (hn : n ≤ 6) (hm : m ≤ 6) : ((List.range 6).all fun i => (List.range 6).all fun k => exF n m f i k == zF i k) = crF n m f := by
  rw [Bool.eq_iff_iff]
  unfold crF
  simp only [List.all_eq_true, List.mem_range, decide_eq_true_eq, beq_iff_eq]
  constructor
  · intro h i hi k hk
    have := h i (by omega) k (by omega)
    unfold exF zF at this
    rw [if_pos (by omega)] at this
    omega
  · intro h i _ k _
    unfold exF zF
    split
    · next c => have := h i (by omega) k (by omega); omega
    · rfl
set_option maxRecDepth 100000 in
theorem crF_congr {n m : Nat} {f g : Nat → Nat → Int} (h : ∀ i k, i < n → k < m → f i k = g i k) : crF n m f = crF n m g := by
  rw [Bool.eq_iff_iff]
  unfold crF
  simp only [List.all_eq_true, List.mem_range, decide_eq_true_eq]
  constructor
  · intro q i hi k hk
    have := q i hi k hk
    rwa [h i k (by omega) (by omega), h (i + 1) (k + 1) (by omega) (by omega), h i (k + 1) (by omega) (by omega), h (i + 1) k (by omega) (by omega)] at this
  · intro q i hi k hk
    rw [h i k (by omega) (by omega), h (i + 1) (k + 1) (by omega) (by omega), h i (k + 1) (by omega) (by omega), h (i + 1) k (by omega) (by omega)]
    exact q i hi k hk

set_option maxRecDepth 100000 in
set_option maxHeartbeats 1000000 in
theorem isCrossed_any (n m : Nat) (f : Nat → Nat → Int) (hn : 1 ≤ n ∧ n ≤ 6) (hm : 1 ≤ m ∧ m ≤ 6) (hf : ∀ i k, i < n → k < m → -1000 ≤ f i k ∧ f i k ≤ 1000) (w : World) :
    Calls Try.prog 50 #[.agg (tabV n m f)] w fun e w' => e = .returned (.bool (crF n m f)) ∧ Below w.heap.size w w' := by
  have bT := BT.new w n m f
  have heq := eqCells (exF n m f) zF
  have HC := Lib.hid (crF_ex n m f hn.2 hm.2)
  rw [HC.out] at heq
  have hz := built_cells
  have hEX := excess_any n m f hn hm hf
  obtain ⟨V, hV⟩ : ∃ V, cellV (exF n m f) = V := ⟨_, rfl⟩
  obtain ⟨Z, hZ⟩ : ∃ Z, cellV zF = Z := ⟨_, rfl⟩
  rw [hV, hZ] at heq
  rw [hZ] at hz
  rw [hV] at hEX
  have HEX := Lib.hid hEX
  clear hV hZ hf hEX
  obtain ⟨b, hb⟩ : ∃ b, crF n m f = b := ⟨_, rfl⟩
  rw [hb] at heq
  rw [hb]
  clear HC hb
  go_enter Try.func50, Try.ntmps50
  go_wp2_with (refine wpList_ldT rfl _ rfl rfl bT ?_)
  refine (HEX.out _).mono ?_
  rintro e w1 ⟨rfl, hb1⟩
  have HB := Lib.hid (below_then ((Below.refl _ w).alloc (Nat.le_refl _) (.cells (tabV n m f) 50)) (Nat.le_refl _) hb1)
  clear hb1
  go_wp2_with (refine wpList_buX rfl rfl hz ?_)
  go_ret
  exact ⟨rfl, HB.out⟩

/-- What tableIn answers. -/
def TabRet (w : World) (ok : Bool) (t : List (List Int)) (e : Ending) (w' : World) : Prop :=
  ∃ n m f, e = .returned (.tuple #[.agg (tabV n m f), .bool ok]) ∧ (n ≤ 6 ∧ m ≤ 6) ∧ (ok = true → n = t.length ∧ m = colsN t ∧ ∀ i k, i < t.length → k < colsN t → f i k = ent t i k) ∧ Below w.heap.size w w'

set_option maxRecDepth 100000 in
set_option maxHeartbeats 1000000 in
theorem tableIn_any (A : Option Addr) (c lo hi : Nat) (t : List (List Int)) (w : World) (h : IRR w lo hi A t) :
    Calls Try.prog 28 #[.slice A t.length c] w (TabRet w (tableB t) t) := by
  have b0 : Below w.heap.size w (w.alloc (.cells (tabV 0 0 zF) 50)) := (Below.refl _ w).alloc (Nat.le_refl _) _
  have HI := Lib.hid (h.below b0 h.2.1)
  clear h
  go_enter Try.func28, Try.ntmps28
  go_wp2_with (refine wpList_alT rfl rfl ?_)
  refine (tableWithin_any A c lo hi t (-1000) 1000 _ HI.out).mono ?_
  rintro e w1 ⟨n, m, f, rfl, hnm, hf, hb1⟩
  rw [within_table]
  have bR := (BT.new w 0 0 zF).grow hb1
  have HB := Lib.hid (below_then b0 (Nat.le_refl _) hb1)
  have HF : Hid (tableB t = true → n = t.length ∧ m = colsN t ∧ ∀ i k, i < t.length → k < colsN t → f i k = ent t i k) := fun e => hf (by
    rw [← within_table] at e
    unfold withinB at e
    exact (Bool.and_eq_true_iff.1 e).1)
  obtain ⟨b, hbb⟩ : ∃ b, tableB t = b := ⟨_, rfl⟩
  rw [hbb] at HF
  have HBB := Lib.hid hbb
  rw [hbb]
  clear hf hb1 b0 hbb
  go_wp2_with (refine wpList_stT rfl _ _ rfl rfl rfl bR ?_)
  exact bodyPost_ret (v := .tuple #[.agg (tabV n m f), .bool b]) (resT2 rfl _ _ (by kernel_rfl) (by kernel_rfl) bR.put) rfl (by
    show TabRet _ _ _ _ _
    rw [HBB.out]
    exact ⟨n, m, f, rfl, hnm, HF.out, below_setRow HB.out (Nat.le_refl _) _⟩)

set_option maxRecDepth 100000 in
set_option maxHeartbeats 1000000 in
theorem crossedIn_any (A : Option Addr) (c lo hi : Nat) (t : List (List Int)) (w : World) (h : IRR w lo hi A t) :
    Calls Try.prog 31 #[.slice A t.length c] w (TabRet w (crossedB t) t) := by
  have b0 : Below w.heap.size w (w.alloc (.cells (tabV 0 0 zF) 50)) := (Below.refl _ w).alloc (Nat.le_refl _) _
  have HI := Lib.hid (h.below b0 h.2.1)
  clear h
  go_enter Try.func31, Try.ntmps31
  go_wp2_with (refine wpList_alT rfl rfl ?_)
  refine (tableIn_any A c lo hi t _ HI.out).mono ?_
  rintro e w1 ⟨n, m, f, rfl, ⟨hn6, hm6⟩, hf, hb1⟩
  have bR := ((BT.new w 0 0 zF).grow hb1).alloc (.cells (tabV 0 0 zF) 50)
  have bT := BT.new w1 0 0 zF
  have HB := Lib.hid (below_then b0 (Nat.le_refl _) hb1)
  have hsz : w.heap.size + 1 ≤ w1.heap.size := by have := hb1.size; simpa using this
  have bR2 : BT ((w1.alloc (.cells (tabV 0 0 zF) 50)).setRow w1.heap.size (tabV n m f)) w.heap.size 0 0 zF := bR.block (setRow_other _ _ _ _ (by omega))
  have bT2 : BT ((w1.alloc (.cells (tabV 0 0 zF) 50)).setRow w1.heap.size (tabV n m f)) w1.heap.size n m f := bT.put
  have bB2 : Below w.heap.size w ((w1.alloc (.cells (tabV 0 0 zF) 50)).setRow w1.heap.size (tabV n m f)) := below_setRow (HB.out.alloc (by omega) _) (by omega) _
  cases hb : tableB t with
  | false =>
    have HX : Hid (crossedB t = false) := by show _ = _; unfold crossedB; rw [hb]; rfl
    rw [hb] at hf
    clear hb
    go_wp2_with (first | (refine wpList_alT rfl rfl ?_) | (refine wpList_stT rfl _ _ rfl rfl rfl bT ?_))
    obtain ⟨V, hV⟩ : ∃ V, tabV n m f = V := ⟨_, rfl⟩
    rw [hV] at bR2 bT2 bB2
    rw [hV]
    obtain ⟨W2, hW2⟩ : ∃ W2, (w1.alloc (.cells (tabV 0 0 zF) 50)).setRow w1.heap.size V = W2 := ⟨_, rfl⟩
    rw [hW2] at bR2 bT2 bB2
    rw [hW2]
    clear hW2 bR bT
    refine wp_region_held_drew (S := fun W => BT W w1.heap.size n m f) (by kernel_rfl) bT2 (fun hS => ?_)
    refine anyH_take 0 (v := .agg V) rfl (by kernel_rfl) (by kernel_rfl) (by kernel_rfl) (fun _ _ _ h => h) rfl (fun W hW => by rw [← hV]; exact run_ldT rfl rfl hW) hS ?_
    refine anyH_take 1 (v := .bool false) rfl (by kernel_rfl) (by kernel_rfl) (by kernel_rfl) (fun _ _ _ h => h) rfl (fun W hW => rfl) hS ?_
    refine anyH_take 2 (v := .bool false) rfl (by kernel_rfl) (by kernel_rfl) (by kernel_rfl) (fun _ _ _ h => h) rfl (fun W hW => rfl) hS ?_
    refine anyH_skip 3 rfl (by kernel_rfl) (by kernel_rfl) (by kernel_rfl) (fun _ _ _ h => h) (by kernel_rfl) hS ?_
    refine anyH_skip 4 rfl (by kernel_rfl) (by kernel_rfl) (by kernel_rfl) (fun _ _ _ h => h) (by kernel_rfl) hS ?_
    refine anyH_take 5 (v := .bool false) rfl (by kernel_rfl) (by kernel_rfl) (by kernel_rfl) (fun _ _ _ h => h) rfl (fun W hW => rfl) hS ?_
    refine anyH_one 6 rfl (by kernel_rfl) (by kernel_rfl) ?_
    refine wp_stV (x := .tmp 2) (y := .tmp 11) ?ho hV ?hx ?hy (BT.drew bR2) ?_
    case ho => rfl
    case hx => kernel_rfl
    case hy => kernel_rfl
    have hR6 : BT (W2.drew.setRow w.heap.size V) w.heap.size n m f := by rw [← hV]; exact BT.put (W := W2.drew) bR2
    have hT6 : BT (W2.drew.setRow w.heap.size V) w1.heap.size n m f := BT.block (W := W2.drew) bT2 (setRow_other _ _ _ _ (by omega))
    have hB6 := below_setRow (below_drawN bB2 1) (Nat.le_refl _) V
    refine ⟨hT6, ?_⟩
    refine anyH_one 7 rfl (by kernel_rfl) (by kernel_rfl) ?_
    refine wp_value (v := .bool false) (by kernel_rfl) ⟨hT6, ?_⟩
    refine wpAnyH_done (by kernel_rfl) ?_ _
    go_wp2
    refine bodyPost_ret (v := .tuple #[.agg (tabV n m f), .bool false]) (resT2 rfl _ _ (by kernel_rfl) (by kernel_rfl) hR6) rfl ?_
    show TabRet _ _ _ _ _
    rw [HX.out]
    exact ⟨n, m, f, rfl, ⟨hn6, hm6⟩, fun e => (by cases e), hB6⟩
  | true =>
    obtain ⟨hsh, hn, hm, hE⟩ := table_sh hb
    rw [hb] at hf
    obtain ⟨e1, e2, e3⟩ := hf rfl
    have HX : Hid (crossedB t = crF n m f) := by
      show _ = _
      unfold crossedB
      rw [hb, Bool.true_and, e1, e2]
      exact (crF_congr e3).symm
    have hCR := fun W => isCrossed_any n m f (by omega) (by omega) (fun i k hi hk => by rw [e3 i k (by omega) (by omega)]; exact hE i k (by omega) (by omega)) W
    have HE3 := Lib.hid e3; have HE1 := Lib.hid e1; have HE2 := Lib.hid e2
    obtain ⟨q, hq⟩ : ∃ q, crF n m f = q := ⟨_, rfl⟩
    rw [hq] at HX hCR
    clear hb hf e3 hsh hn hm hE e1 e2 hq
    go_wp2_with (first | (refine wpList_alT rfl rfl ?_) | (refine wpList_stT rfl _ _ rfl rfl rfl bT ?_))
    obtain ⟨V, hV⟩ : ∃ V, tabV n m f = V := ⟨_, rfl⟩
    rw [hV] at bR2 bT2 bB2 hCR
    rw [hV]
    obtain ⟨W2, hW2⟩ : ∃ W2, (w1.alloc (.cells (tabV 0 0 zF) 50)).setRow w1.heap.size V = W2 := ⟨_, rfl⟩
    rw [hW2] at bR2 bT2 bB2
    rw [hW2]
    clear hW2 bR bT
    refine wp_region_held_drew (S := fun W => BT W w1.heap.size n m f) (by kernel_rfl) bT2 (fun hS => ?_)
    refine anyH_take 0 (v := .agg V) rfl (by kernel_rfl) (by kernel_rfl) (by kernel_rfl) (fun _ _ _ h => h) rfl (fun W hW => by rw [← hV]; exact run_ldT rfl rfl hW) hS ?_
    refine anyH_take 1 (v := .bool true) rfl (by kernel_rfl) (by kernel_rfl) (by kernel_rfl) (fun _ _ _ h => h) rfl (fun W hW => rfl) hS ?_
    refine anyH_take 2 (v := .bool true) rfl (by kernel_rfl) (by kernel_rfl) (by kernel_rfl) (fun _ _ _ h => h) rfl (fun W hW => rfl) hS ?_
    refine anyH_takeW 3 (v := .agg V) rfl (by kernel_rfl) (by kernel_rfl) (by kernel_rfl) (fun _ _ _ h => h) (by kernel_rfl) (fun W hW => by rw [← hV]; exact run_ldT rfl rfl hW) hS ?_
    refine anyH_one 4 rfl (by kernel_rfl) (by kernel_rfl) ?_
    refine wp_callF (args := #[.agg V]) rfl Try.call50 (by kernel_rfl) ?_
    refine (hCR _).mono ?_
    rintro e w5 ⟨rfl, hb5⟩
    have hT5 : BT w5 w1.heap.size n m f := hS.grow hb5
    have hR5 : BT w5 w.heap.size 0 0 zF := BT.grow (W := W2.drew) bR2 hb5
    have hB5 : Below w.heap.size w w5 := below_then (below_drawN bB2 1) (Nat.le_refl _) hb5
    refine ⟨_, rfl, hT5, ?_⟩
    refine anyH_take 5 (v := .bool q) rfl (by kernel_rfl) (by kernel_rfl) (by kernel_rfl) (fun _ _ _ h => h) rfl (fun W hW => rfl) hT5 ?_
    refine anyH_one 6 rfl (by kernel_rfl) (by kernel_rfl) ?_
    refine wp_stV (x := .tmp 2) (y := .tmp 11) ?ho hV ?hx ?hy hR5 ?_
    case ho => rfl
    case hx => kernel_rfl
    case hy => kernel_rfl
    have hR6 : BT (w5.setRow w.heap.size V) w.heap.size n m f := by rw [← hV]; exact hR5.put
    have hT6 : BT (w5.setRow w.heap.size V) w1.heap.size n m f := hT5.block (setRow_other _ _ _ _ (by omega))
    have hB6 := below_setRow hB5 (Nat.le_refl _) V
    refine ⟨hT6, ?_⟩
    refine anyH_one 7 rfl (by kernel_rfl) (by kernel_rfl) ?_
    refine wp_value (v := .bool q) (by kernel_rfl) ⟨hT6, ?_⟩
    refine wpAnyH_done (by kernel_rfl) ?_ _
    clear hCR
    go_wp2
    refine bodyPost_ret (v := .tuple #[.agg (tabV n m f), .bool q]) (resT2 rfl _ _ (by kernel_rfl) (by kernel_rfl) hR6) rfl ?_
    show TabRet _ _ _ _ _
    rw [HX.out]
    exact ⟨n, m, f, rfl, ⟨hn6, hm6⟩, fun _ => ⟨HE1.out, HE2.out, HE3.out⟩, hB6⟩

set_option maxHeartbeats 1000000 in
set_option maxRecDepth 100000 in
theorem implTableCrossed_any (A : Option Addr) (c : Nat) (t : List (List Int)) (w : World) (h : IRR w 0 w.heap.size A t) :
    Calls Try.prog 14 #[.slice A t.length c] w fun e w' => e = .returned (.bool (crossedB t)) ∧ Below w.heap.size w w' := by
  have H := Lib.hid h
  clear h
  go_enter Try.func14, Try.ntmps14
  go_wp2_with fail
  refine (crossedIn_any A c _ _ t _ H.out).mono ?_
  rintro e w1 ⟨n, m, f, rfl, -, -, hb1⟩
  have bT := BT.new w1 0 0 zF
  obtain ⟨b, hb⟩ : ∃ b, crossedB t = b := ⟨_, rfl⟩
  rw [hb]
  have HBB := Lib.hid hb
  have HB := Lib.hid hb1
  clear hb1 hb
  go_wp2_with (first | (refine wpList_alT rfl rfl ?_) | (refine wpList_stT rfl _ _ rfl rfl rfl bT ?_))
  go_ret
  exact ⟨by rw [HBB.out]; rfl, below_setRow (HB.out.alloc HB.out.size _) HB.out.size _⟩
end Go.Proofs.Ytanoojpmokbiaaa
