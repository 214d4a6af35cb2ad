/-
  The functions of chapter 5 of the model. Conditions: the lists' cells are there.
-/
import Derived.Test.YtanoojpmokbiaabTabA
import Derived.Test.YtanoojpmokbiaabSpec
import Derived.Test.YtanoojpmokbiaabTmA
import Derived.Test.YtanoojpmokbiaabPush
import Derived.Test.YtanoojpmokbiaabFrom
import Derived.Deep.RegionHeldLaw
import Derived.StillTailTactics
import Derived.Test.YtanoojpmokbiaabDraw2
import Derived.Test.YtanoojpmokbiaabPart
/-
  l5Table, l5Crossed and TableCrossed of the model. Conditions: the tables' cells are there.
-/
namespace Go.Proofs.Ytanoojpmokbiaab
open Go.RowKit

theorem rowOk_get {t : List (List Int)} {k : Nat} (hk : k < t.length) (h0 : 0 < t.length) : rowOkB t k = (inB 1 6 (t[k].length : Int) && decide (t[k].length = t[0].length) && t[k].all fun x => inB (-1000) 1000 x) := by
  unfold rowOkB
  rw [show t.getD k [] = t[k] by simp [List.getD, hk], show t.getD 0 [] = t[0] by simp [List.getD, h0]]
  have e1 : decide (1 ≤ t[k].length ∧ t[k].length ≤ 6) = inB 1 6 (t[k].length : Int) := by
    rw [Bool.eq_iff_iff, decide_eq_true_eq, inB_true]; omega
  have e2 : (fun x : Int => decide (-1000 ≤ x ∧ x ≤ 1000)) = fun x => inB (-1000) 1000 x := funext fun x => by
    rw [Bool.eq_iff_iff, decide_eq_true_eq, inB_true]
  rw [e1, e2]
theorem all_to {zs : List Int} {f : Int → Bool} (h : ∀ (j : Nat) (hj : j < zs.length), f zs[j] = true) : zs.all f = true := List.all_eq_true.2 fun x hx => by
  obtain ⟨i, hi, rfl⟩ := List.getElem_of_mem hx; exact h i hi

/-- Only draws. -/
def Dr (w w' : World) : Prop := ∃ m, w' = w.drewN m
theorem Dr.refl (w : World) : Dr w w := ⟨0, rfl⟩
theorem Dr.more {w w' : World} (h : Dr w w') (n : Nat) : Dr w (w'.drewN n) := by
  obtain ⟨m, rfl⟩ := h; exact ⟨m + n, by simp [World.drewN]; omega⟩
theorem Dr.trans {a b c : World} (h : Dr a b) (k : Dr b c) : Dr a c := by
  obtain ⟨m, rfl⟩ := k; exact h.more m
theorem Dr.irr {w w' : World} {lo hi : Nat} {A : Option Addr} {t : List (List Int)} (h : IRR w lo hi A t) (k : Dr w w') : IRR w' lo hi A t := by
  obtain ⟨m, rfl⟩ := k; exact h.drewN m
theorem Dr.ir {w w' : World} {lo hi : Nat} {A : Option Addr} {t : List Int} (h : IR w lo hi A t) (k : Dr w w') : IR w' lo hi A t := by
  obtain ⟨m, rfl⟩ := k; exact h.drewN m
theorem Dr.below {w w' : World} (k : Dr w w') : Below w.heap.size w w' := by
  obtain ⟨m, rfl⟩ := k; exact below_drawN (Below.refl _ _) m
theorem l6In_of {x lo hi : Int} {p : Bool} (h : inB lo hi x = p) (W : World) : Calls Try.prog 21 #[.int .i64 x, .int .i64 lo, .int .i64 hi] W fun e w' => e = .returned (.bool p) ∧ w' = W := by
  subst h; exact (l6In_any x lo hi W).mono fun _ _ ⟨a, b⟩ => ⟨a, b.symm⟩

theorem table_row {t : List (List Int)} (h : tableB t = true) {k : Nat} (hk : k < t.length) : t[k].length = colsN t := by
  have := (table_sh h).1.row hk
  rwa [show t.getD k [] = t[k] by simp [List.getD, hk]] at this
theorem ent_get {t : List (List Int)} {i k : Nat} (hi : i < t.length) (hk : k < t[i].length) : ent t i k = t[i][k] := by
  unfold ent
  rw [show t.getD i [] = t[i] by simp [List.getD, hi], getD_in hk]
/-- A table's entry in memory. -/
theorem IRR.entry {w : World} {lo hi : Nat} {A : Option Addr} {t : List (List Int)} (h : IRR w lo hi A t) (ht : tableB t = true) {i : Nat} (hi' : i < t.length) :
    ∃ b off b' o' c, A = some ⟨b, off, none⟩ ∧ w.cell? ⟨b, off + i, none⟩ = some (.slice (some ⟨b', o', none⟩) (colsN t) c) ∧ ∀ k, k < colsN t → w.cell? ⟨b', o' + k, none⟩ = some (.int .i64 (ent t i k)) := by
  obtain ⟨b, off, Ak, ck, e, _, hc, _, hrow⟩ := h.at_ hi'
  have hl := table_row ht hi'
  have hp := (table_sh ht).2.2.1.1
  obtain ⟨b', o', e', _, _, hcs⟩ := hrow.2.2.2 (by rw [hl]; omega)
  rw [hl, e'] at hc
  refine ⟨b, off, b', o', ck, e, hc, fun k hk => ?_⟩
  rw [ent_get hi' (by rw [hl]; exact hk)]
  exact hcs k (by rw [hl]; exact hk)

end Go.Proofs.Ytanoojpmokbiaab

/-
  l5First and TableLeast of the model: the first column of the least entry of each row. Conditions: the tables' cells are there.
-/
namespace Go.Proofs.Ytanoojpmokbiaab
open Go.RowKit

/-- The first of the least of f over a, .., q - 1 (or a). -/
def bstTo (f : Nat → Int) (a q : Nat) : Nat := fstTo f a (q - 1 - a)
theorem bst_start (f : Nat → Int) (a : Nat) : bstTo f a a = a := by unfold bstTo; rw [show a - 1 - a = 0 by omega]; rfl
theorem bst_yes {f : Nat → Int} {a q : Nat} (h : a ≤ q) (c : f q < f (bstTo f a q)) : bstTo f a (q + 1) = q := by
  by_cases e : q = a
  · subst e; rw [bst_start] at c; exact absurd c (Int.lt_irrefl _)
  · unfold bstTo at c ⊢
    rw [show q + 1 - 1 - a = (q - 1 - a) + 1 by omega]
    unfold fstTo
    rw [show a + (q - 1 - a) + 1 = q by omega, if_pos c]
theorem bst_no {f : Nat → Int} {a q : Nat} (h : a ≤ q) (c : ¬ f q < f (bstTo f a q)) : bstTo f a (q + 1) = bstTo f a q := by
  by_cases e : q = a
  · subst e; unfold bstTo; rw [show q + 1 - 1 - q = 0 by omega, show q - 1 - q = 0 by omega]
  · unfold bstTo at c ⊢
    rw [show q + 1 - 1 - a = (q - 1 - a) + 1 by omega]
    conv => lhs; unfold fstTo
    rw [show a + (q - 1 - a) + 1 = q by omega, if_neg c]
theorem bst_le (f : Nat → Int) {a q b : Nat} (h : a ≤ b) (hq : q ≤ b + 1) : bstTo f a q ≤ b := by
  have := (fstTo_is f a (q - 1 - a)).2.1
  unfold bstTo
  omega

theorem Dr.cell {w w' : World} {p : Addr} {v : Value} (h : w.cell? p = some v) (k : Dr w w') : w'.cell? p = some v := by
  obtain ⟨m, rfl⟩ := k; exact h
theorem Dr.own {w w' : World} {base : Nat} {v : Value} {zs : List Int} (h : OwnI w base v zs) (k : Dr w w') : OwnI w' base v zs := by
  obtain ⟨m, rfl⟩ := k; exact h.drewN m
theorem Dr.grow {w w1 w2 : World} (h : Below w.heap.size w w1) (k : Dr w1 w2) : Below w.heap.size w w2 := h.trans (k.below.mono h.size)
theorem leastC_take (t : List (List Int)) (k : Nat) (h : k < t.length) : (t.map fun r => (firstOf r : Int)).take k ++ [((fstTo (fun i => t[k].getD i 0) 0 (t[k].length - 1) : Nat) : Int)] = (t.map fun r => (firstOf r : Int)).take (k + 1) := by
  rw [← take_snoc _ k (by simpa using h)]
  simp [firstOf]

/-- append, in a region that draws its order, behind a call (the draw lies before it). -/
theorem step_push2 {ops : Array Oper} {o : Oper} {a : Act} {W : World} {y : Int} {K : Act → World → Prop} {Q : Exit → Act → World → Prop} {E : Prop} (hgd : o.guard = none) (s x : Operand)
    (ho : o.op = .call { callee := .builtin .append, args := #[s, x], argTypes := #[24, 24] })
    (base : Nat) (v : Value) (zs : List Int) (hs : a.eval s = v) (hx : a.eval x = .slice (some ⟨W.heap.size, 0, none⟩) 1 1) (hown : OwnI W base v zs)
    (hl : zs.length < 17592186044416) (hy : I64 y)
    (h : ∀ v' w', OwnI w' base v' (zs ++ [y]) → Below base W w' → K (a.put o.dst v') w') :
    if Region.wanted o (yielded ops a.tmps) = true then Oper.wp Try.prog o a (W.alloc (.cells #[.int .i64 y] 3)) K Q else E := by
  rw [if_pos (show Region.wanted o (yielded ops a.tmps) = true by simp [Region.wanted, hgd])]
  exact wp_push s x ho base v zs y W.heap.size hs hx hown.alloc (by rw [World.cell?_alloc_at _ _ _ _ rfl]; rfl) hl hy fun v' w' h2 h3 => h v' w' h2 (OwnI.push_of hown.2.2 h3)

end Go.Proofs.Ytanoojpmokbiaab

/-
  l5Quick and TableQuick of the model: the middle row first. Conditions: the table's cells are there.
-/
namespace Go.Proofs.Ytanoojpmokbiaab
open Go.RowKit

/-- xs with the first columns put at the rows from a on, len of them. -/
def putR (t : List (List Int)) (xs : List Int) (a len : Nat) : List Int := (List.range xs.length).map fun i => if a ≤ i ∧ i < a + len then (firstOf (t.getD i []) : Int) else xs.getD i 0
theorem putR_len (t : List (List Int)) (xs : List Int) (a len : Nat) : (putR t xs a len).length = xs.length := by simp [putR]
theorem putR_get (t : List (List Int)) (xs : List Int) (a len i : Nat) (h : i < (putR t xs a len).length) : (putR t xs a len)[i] = if a ≤ i ∧ i < a + len then (firstOf (t.getD i []) : Int) else xs.getD i 0 := by simp [putR]
theorem putR_zero (t : List (List Int)) (xs : List Int) (a : Nat) : putR t xs a 0 = xs := by
  apply List.ext_getElem
  · exact putR_len _ _ _ _
  · intro i h1 h2
    rw [putR_get, if_neg (by omega), getD_in h2]
theorem putR_getD (t : List (List Int)) (xs : List Int) (a len i : Nat) (h : i < xs.length) : (putR t xs a len).getD i 0 = if a ≤ i ∧ i < a + len then (firstOf (t.getD i []) : Int) else xs.getD i 0 := by
  rw [getD_in (show i < (putR t xs a len).length by rw [putR_len]; exact h), putR_get]
theorem set_at (xs : List Int) (k i : Nat) (v : Int) (h : i < xs.length) : (xs.set k v).getD i 0 = if i = k then v else xs.getD i 0 := by
  rw [getD_in (by simpa using h), List.getElem_set]
  by_cases e : k = i
  · subst e; rw [if_pos rfl, if_pos rfl]
  · rw [if_neg e, if_neg (Ne.symm e), getD_in h]
/-- The middle one, those ahead of it, those behind it. -/
theorem putR_step (t : List (List Int)) (xs : List Int) (a h d : Nat) :
    putR t (putR t (xs.set (a + h) (firstOf (t.getD (a + h) []) : Int)) a h) (a + h + 1) d = putR t xs a (h + 1 + d) := by
  apply List.ext_getElem
  · simp [putR_len]
  · intro i h1 h2
    rw [putR_get, putR_get]
    have hi : i < xs.length := by rw [putR_len] at h2; exact h2
    rw [putR_getD _ _ _ _ _ (by simpa using hi), set_at _ _ _ _ hi]
    by_cases c1 : a + h + 1 ≤ i ∧ i < a + h + 1 + d
    · rw [if_pos c1, if_pos (by omega)]
    · rw [if_neg c1]
      by_cases c2 : a ≤ i ∧ i < a + h
      · rw [if_pos c2, if_pos (by omega)]
      · rw [if_neg c2]
        by_cases c3 : i = a + h
        · rw [if_pos c3, if_pos (by omega), c3]
        · rw [if_neg c3, if_neg (by omega)]
theorem Dr.only {B : Nat} {a b c : World} (h : Only B (B + 1) a b) (k : Dr b c) : Only B (B + 1) a c := by
  obtain ⟨m, rfl⟩ := k; exact ⟨h.os, h.tape, h.output, h.size, h.block⟩
theorem Dr.cells {w w' : World} {b off : Nat} {xs : List Int} (h : Cells w b off xs) (k : Dr w w') : Cells w' b off xs := by
  obtain ⟨m, rfl⟩ := k; exact h

theorem Only.trans3 {lo hi : Nat} {a b c : World} (h : Only lo hi a b) (k : Only lo hi b c) : Only lo hi a c :=
  ⟨k.os.trans h.os, k.tape.trans h.tape, k.output.trans h.output, k.size.trans h.size, fun i hi => (k.block i hi).trans (h.block i hi)⟩
theorem first_fst {t : List (List Int)} (ht : tableB t = true) {i : Nat} (hi : i < t.length) : Fst (ent t i) 0 (colsN t - 1) (firstOf (t.getD i [])) := by
  have h := fstTo_is (ent t i) 0 ((t.getD i []).length - 1)
  rw [(table_sh ht).1.row hi, Nat.zero_add] at h
  unfold firstOf
  rw [(table_sh ht).1.row hi]
  exact h
theorem first_part {zs : List Int} {m l r : Nat} (hl : zs.length = m) (h1 : l ≤ firstOf zs) (h2 : firstOf zs ≤ r) (hr : r < m) : fstTo (fun k => zs.getD k 0) l (r - l) = firstOf zs := by
  have h := fstTo_is (fun k => zs.getD k 0) 0 (m - 1)
  have e : fstTo (fun k => zs.getD k 0) 0 (m - 1) = firstOf zs := by unfold firstOf; rw [hl]
  rw [e, Nat.zero_add] at h
  have g := fstTo_is (fun k => zs.getD k 0) l (r - l)
  rw [show l + (r - l) = r by omega] at g
  exact g.uniq (h.part (Nat.zero_le _) (by omega) h1 h2)
theorem first_mono {t : List (List Int)} (ht : tableB t = true) (hcr : Cr (ent t) t.length (colsN t)) {i j : Nat} (hij : i ≤ j) (hj : j < t.length) : firstOf (t.getD i []) ≤ firstOf (t.getD j []) :=
  cr_fst hcr hij hj (by have := (table_sh ht).2.2.1; omega) (first_fst ht (by omega)) (first_fst ht hj)

end Go.Proofs.Ytanoojpmokbiaab

/-
  TableQuick and TableOf of the model. Conditions: the cells are there.
-/
namespace Go.Proofs.Ytanoojpmokbiaab
open Go.RowKit

end Go.Proofs.Ytanoojpmokbiaab

/-
  TableOf of the model: the table of a row. Conditions: the row's cells are there.
-/
namespace Go.Proofs.Ytanoojpmokbiaab
open Go.RowKit

theorem IWW.nil' (w : World) (lo hi : Nat) (A : Option Addr) (h : hi ≤ w.heap.size) : IWW w lo hi A [] :=
  ⟨by simp, h, 0, 0, fun _ => none, fun _ => 0, fun h => absurd h (by simp), fun k hk => absurd hk (by simp), fun j k _ hk => absurd hk (by simp)⟩
theorem retTB_none {w w' : World} {A : Option Addr} {c : Nat} (hb : Below w.heap.size w w') : RetTB w none (.returned (.tuple #[.slice A 0 c, .bool false])) w' :=
  ⟨A, c, rfl, Nat.zero_le _, IWW.nil' _ _ _ _ (Nat.le_refl _), hb⟩
theorem ofM_no {n m : Int} {a : List Int} (h : (inB 1 6 n && inB 1 6 m && rowB a && decide ((a.length : Int) = n + m - 1)) = false) : ofM n m a = none := by
  unfold ofM
  rw [if_neg]
  rintro ⟨h1, h2, h3, h4⟩
  rw [inB_true.2 h1, inB_true.2 h2, h3, decide_eq_true h4] at h
  cases h
theorem ofM_yes {n m : Nat} {a : List Int} (h1 : 1 ≤ n ∧ n ≤ 6) (h2 : 1 ≤ m ∧ m ≤ 6) (h3 : rowB a = true) (h4 : a.length + 1 = n + m) : ofM n m a = some (tabL n m (ofRow a n)) := by
  unfold ofM
  rw [if_pos ⟨by omega, by omega, h3, by omega⟩]
  rfl
theorem takeR_snoc (l : List (List Int)) (k : Nat) (h : k < l.length) : l.take k ++ [l[k]] = l.take (k + 1) := by
  rw [List.take_add_one, List.getElem?_eq_getElem h]; rfl
theorem ofRow_row (a : List Int) {n m k : Nat} (hk : k < n) (hl : a.length + 1 = n + m) : (List.range m).map (fun j => ofRow a n k j) = (a.drop (n - 1 - k)).take m := by
  apply List.ext_getElem
  · simp; omega
  · intro j h1 h2
    simp at h1 h2
    simp only [List.getElem_map, List.getElem_range, List.getElem_take, List.getElem_drop, ofRow]
    exact getD_in (by omega)

end Go.Proofs.Ytanoojpmokbiaab

/-
  TableMerge of the model: least sums. Conditions: the tables' cells are there.
-/
namespace Go.Proofs.Ytanoojpmokbiaab
open Go.RowKit

theorem mergeTM_no {t u : List (List Int)} (h : (tableB t && tableB u && decide (colsN t = u.length)) = false) : mergeTM t u = none := by
  unfold mergeTM; rw [h]; rfl
theorem mergeTM_yes {t u : List (List Int)} (h1 : tableB t = true) (h2 : tableB u = true) (h3 : colsN t = u.length) : mergeTM t u = if tableB (mergeTL t u) then some (mergeTL t u) else none := by
  unfold mergeTM; rw [h1, h2, decide_eq_true h3]; rfl
theorem Dr.ownT {w w' : World} {base hi : Nat} {v : Value} {zss : List (List Int)} (h : OwnT w base hi v zss) (k : Dr w w') : OwnT w' base hi v zss := by
  obtain ⟨m, rfl⟩ := k; exact h.drewN m

end Go.Proofs.Ytanoojpmokbiaab

/-
  l5Cost and TableCost of the model. Conditions: the tables' cells are there.
-/
namespace Go.Proofs.Ytanoojpmokbiaab
open Go.RowKit

theorem sumN_abs {g : Nat → Int} {B : Int} : ∀ n, (∀ k, k < n → -B ≤ g k ∧ g k ≤ B) → -(B * (n : Int)) ≤ sumN g n ∧ sumN g n ≤ B * (n : Int) := by
  intro n
  induction n with
  | zero => intro _; simp [sumN]
  | succ n ih =>
    intro h
    have h1 := ih fun k hk => h k (by omega)
    have h2 := h n (by omega)
    have e : B * ((n + 1 : Nat) : Int) = B * (n : Int) + B := by rw [Int.natCast_add, Int.mul_add]; simp
    rw [e]
    unfold sumN
    omega
theorem mul_abs {x y : Int} (hx : -1000 ≤ x ∧ x ≤ 1000) (hy : -1000 ≤ y ∧ y ≤ 1000) : -1000000 ≤ x * y ∧ x * y ≤ 1000000 := by
  have h1 : (x + 1000) * (1000 - y) ≥ 0 := Int.mul_nonneg (by omega) (by omega)
  have h2 : (1000 - x) * (y + 1000) ≥ 0 := Int.mul_nonneg (by omega) (by omega)
  have h3 : (x + 1000) * (y + 1000) ≥ 0 := Int.mul_nonneg (by omega) (by omega)
  have h4 : (1000 - x) * (1000 - y) ≥ 0 := Int.mul_nonneg (by omega) (by omega)
  simp only [Int.add_mul, Int.mul_add, Int.sub_mul, Int.mul_sub] at h1 h2 h3 h4
  omega

theorem costTM_no {t l : List (List Int)} (h : (tableB t && tableB l && decide (l.length = t.length) && decide (colsN l = colsN t) && l.all fun r => r.all fun x => decide (0 ≤ x ∧ x ≤ 9)) = false) : costTM t l = none := by
  unfold costTM; rw [h]; rfl
/-- The rows of l below the i-th one are amounts. -/
def AmTo (l : List (List Int)) (m i q : Nat) : Prop := ∀ p k, k < m → (p < i ∨ p = i ∧ k < q) → inB 0 9 (ent l p k) = true
theorem amTo_all {l : List (List Int)} (hl : tableB l = true) (h : AmTo l (colsN l) l.length 0) : (l.all fun r => r.all fun x => decide (0 ≤ x ∧ x ≤ 9)) = true := by
  rw [List.all_eq_true]
  intro r hr
  obtain ⟨i, hi, rfl⟩ := List.getElem_of_mem hr
  rw [List.all_eq_true]
  intro x hx
  obtain ⟨k, hk, rfl⟩ := List.getElem_of_mem hx
  have hk2 : k < colsN l := by rw [← table_row hl hi]; exact hk
  have := h i k hk2 (.inl hi)
  rw [ent_get hi hk] at this
  rw [decide_eq_true_eq]
  exact inB_true.1 this
theorem am_bad {l : List (List Int)} (hl : tableB l = true) {i k : Nat} (hi : i < l.length) (hk : k < colsN l) (h : inB 0 9 (ent l i k) = false) : (l.all fun r => r.all fun x => decide (0 ≤ x ∧ x ≤ 9)) = false := by
  have hk2 : k < l[i].length := by rw [table_row hl hi]; exact hk
  rw [ent_get hi hk2] at h
  rw [List.all_eq_false]
  refine ⟨l[i], List.getElem_mem hi, ?_⟩
  rw [Bool.not_eq_true, List.all_eq_false]
  exact ⟨l[i][k], List.getElem_mem hk2, by rw [decide_eq_true_eq]; exact inB_false h⟩

end Go.Proofs.Ytanoojpmokbiaab

/-
  TableCost of the model. Conditions: the tables' cells are there.
-/
namespace Go.Proofs.Ytanoojpmokbiaab
open Go.RowKit

end Go.Proofs.Ytanoojpmokbiaab

/-
  l5Amounts of the model. Conditions: the cells are there.
-/
namespace Go.Proofs.Ytanoojpmokbiaab
open Go.RowKit

def am9 (a : List Int) : Bool := a.all fun x => decide (0 ≤ x ∧ x ≤ 9)
theorem am9_no {a : List Int} {i : Nat} (h : i < a.length) (hx : inB 0 9 a[i] = false) : am9 a = false := by
  unfold am9
  rw [List.all_eq_false]
  exact ⟨a[i], List.getElem_mem h, by rw [decide_eq_true_eq]; exact inB_false hx⟩
theorem am9_yes {a : List Int} (h : ∀ (i : Nat) (hi : i < a.length), inB 0 9 a[i] = true) : am9 a = true := by
  unfold am9
  rw [List.all_eq_true]
  intro x hx
  obtain ⟨i, hi, rfl⟩ := List.getElem_of_mem hx
  rw [decide_eq_true_eq]
  exact inB_true.1 (h i hi)
theorem amountsB_of (t : List (List Int)) (a b : List Int) : amountsB t a b = (tableB t && decide (a.length = t.length) && decide (b.length = colsN t) && am9 a && am9 b && decide (a.sum = b.sum)) := rfl
theorem sumTo_succ (a : List Int) (i : Nat) (h : i < a.length) : sumTo a (i + 1) = sumTo a i + a[i] := by
  unfold sumTo
  rw [sumN, getD_in h]
theorem sumTo_all (a : List Int) : sumTo a a.length = a.sum := sumN_list a

end Go.Proofs.Ytanoojpmokbiaab
