/-
  The first place where a table is not crossed: the mathematics. No program here. Conditions: none.
-/
import Derived.Test.YtanoojpmokbiaaaTmA
namespace Go.Proofs.Ytanoojpmokbiaaa
open Go.RowKit

/-- Is a table not crossed at a place? -/
def excB (n m : Nat) (f : Nat → Nat → Int) (i k : Nat) : Bool := decide (i + 1 < n ∧ k + 1 < m ∧ f i (k + 1) + f (i + 1) k < f i k + f (i + 1) (k + 1))
def exAns (n m : Nat) (f : Nat → Nat → Int) : Option (Nat × Nat) := ((List.finRange (n * m)).find? fun x => excB n m f (x.1 / m) (x.1 % m)).map fun x => (x.1 / m, x.1 % m)
theorem finRange_cut {N : Nat} (x : Fin N) : List.finRange N = (List.finRange N).take x.1 ++ x :: (List.finRange N).drop (x.1 + 1) := by
  have h : x.1 < (List.finRange N).length := by simp
  have e : (List.finRange N)[x.1] = x := by simp
  have c := (List.take_append_drop x.1 (List.finRange N)).symm
  rw [← List.getElem_cons_drop h, e] at c
  exact c
theorem ex_first {n m : Nat} {f : Nat → Nat → Int} {x : Fin (n * m)} (h : excB n m f (x.1 / m) (x.1 % m) = true) (hb : ∀ y : Fin (n * m), y.1 < x.1 → excB n m f (y.1 / m) (y.1 % m) = false) : exAns n m f = some (x.1 / m, x.1 % m) := by
  unfold exAns
  have : (List.finRange (n * m)).find? (fun x => excB n m f (x.1 / m) (x.1 % m)) = some x := by
    rw [List.find?_eq_some_iff_append]
    refine ⟨h, (List.finRange (n * m)).take x.1, (List.finRange (n * m)).drop (x.1 + 1), finRange_cut x, fun y hy => ?_⟩
    have : y.1 < x.1 := by
      obtain ⟨j, hj, e⟩ := List.getElem_of_mem hy
      rw [List.getElem_take, List.getElem_finRange] at e
      rw [List.length_take] at hj
      rw [← e]
      show j < x.1
      omega
    rw [hb y this]; rfl
  rw [this]; rfl
theorem ex_none {n m : Nat} {f : Nat → Nat → Int} (h : ∀ y : Fin (n * m), excB n m f (y.1 / m) (y.1 % m) = false) : exAns n m f = none := by
  unfold exAns
  have : (List.finRange (n * m)).find? (fun x => excB n m f (x.1 / m) (x.1 % m)) = none := by
    rw [List.find?_eq_none]
    intro y _
    rw [h y]; simp
  rw [this]; rfl
theorem excB_iff {n m : Nat} {f : Nat → Nat → Int} {i k : Nat} : excB n m f i k = true ↔ i + 1 < n ∧ k + 1 < m ∧ f i (k + 1) + f (i + 1) k < f i k + f (i + 1) (k + 1) := by
  unfold excB; rw [decide_eq_true_iff]
theorem ex_at {n m : Nat} {f : Nat → Nat → Int} {p q : Nat} (h : excB n m f p q = true) (hb : ∀ i k, k + 1 < m → (i < p ∨ i = p ∧ k < q) → excB n m f i k = false) : exAns n m f = some (p, q) := by
  obtain ⟨h1, h2, -⟩ := excB_iff.1 h
  have hm : 0 < m := by omega
  have hlt : p * m + q < n * m := by
    have := Nat.mul_le_mul_right m (show p + 1 ≤ n by omega)
    rw [Nat.add_mul, Nat.one_mul] at this; omega
  have e1 : (p * m + q) / m = p := by
    rw [Nat.add_comm, Nat.add_mul_div_right _ _ hm, Nat.div_eq_of_lt (by omega)]; omega
  have e2 : (p * m + q) % m = q := by
    rw [Nat.add_comm, Nat.add_mul_mod_self_right, Nat.mod_eq_of_lt (by omega)]
  have := ex_first (x := ⟨p * m + q, hlt⟩) (f := f) (by show excB n m f ((p * m + q) / m) ((p * m + q) % m) = true; rw [e1, e2]; exact h) (fun y hy => by
    have hy' : y.1 < p * m + q := hy
    cases c : excB n m f (y.1 / m) (y.1 % m) with
    | false => rfl
    | true =>
      obtain ⟨g1, g2, -⟩ := excB_iff.1 c
      have hdm := Nat.div_add_mod y.1 m
      have : y.1 / m < p ∨ y.1 / m = p ∧ y.1 % m < q := by
        rcases Nat.lt_trichotomy (y.1 / m) p with d | d | d
        · exact .inl d
        · right; refine ⟨d, ?_⟩
          rw [d, Nat.mul_comm] at hdm; omega
        · exfalso
          have := Nat.mul_le_mul_left m (show p + 1 ≤ y.1 / m by omega)
          rw [Nat.mul_add, Nat.mul_one, Nat.mul_comm m p] at this; omega
      rw [hb _ _ g2 this] at c; cases c)
  rw [this]
  show some ((p * m + q) / m, (p * m + q) % m) = _
  rw [e1, e2]
theorem ex_some {n m : Nat} {f : Nat → Nat → Int} {p : Nat × Nat} (h : exAns n m f = some p) : excB n m f p.1 p.2 = true := by
  unfold exAns at h
  obtain ⟨x, h1, h2⟩ := Option.map_eq_some_iff.1 h
  have := List.find?_some h1
  rw [← h2]; exact this
theorem ex_iff {n m : Nat} {f : Nat → Nat → Int} : exAns n m f = none ↔ ∀ i k, i < n → k < m → excB n m f i k = false := by
  constructor
  · intro h i k hi hk
    cases c : excB n m f i k with
    | false => rfl
    | true =>
      unfold exAns at h
      rw [Option.map_eq_none_iff, List.find?_eq_none] at h
      have hm : 0 < m := by omega
      have hlt : i * m + k < n * m := by
        have := Nat.mul_le_mul_right m (show i + 1 ≤ n by omega)
        rw [Nat.add_mul, Nat.one_mul] at this; omega
      have := h ⟨i * m + k, hlt⟩ (List.mem_finRange _)
      have e1 : (i * m + k) / m = i := by
        rw [Nat.add_comm, Nat.add_mul_div_right _ _ hm, Nat.div_eq_of_lt hk]; omega
      have e2 : (i * m + k) % m = k := by
        rw [Nat.add_comm, Nat.add_mul_mod_self_right, Nat.mod_eq_of_lt hk]
      simp only [e1, e2] at this
      exact absurd c this
  · intro h
    refine ex_none fun y => ?_
    have hm : 0 < m := by
      rcases Nat.eq_zero_or_pos m with e | e
      · subst e; exact absurd y.2 (by simp)
      · exact e
    exact h _ _ (Nat.div_lt_of_lt_mul (Nat.lt_of_lt_of_eq y.2 (Nat.mul_comm n m))) (Nat.mod_lt _ hm)
theorem ex_congr {n m : Nat} {f g : Nat → Nat → Int} (h : ∀ i k, i < n → k < m → f i k = g i k) : exAns n m f = exAns n m g := by
  have e : ∀ i k, excB n m f i k = excB n m g i k := fun i k => by
    by_cases c : i + 1 < n ∧ k + 1 < m
    · unfold excB
      rw [h i k (by omega) (by omega), h i (k + 1) (by omega) (by omega), h (i + 1) k (by omega) (by omega), h (i + 1) (k + 1) (by omega) (by omega)]
    · have p : ∀ f : Nat → Nat → Int, excB n m f i k = false := fun f => decide_eq_false fun q => c ⟨q.1, q.2.1⟩
      rw [p f, p g]
  unfold exAns
  congr 2
  funext x
  exact e _ _
/-- What ProofCrossed answers: a place, or none. -/
def pcM (t : List (List Int)) : Option (Nat × Nat) := if tableB t then exAns t.length (colsN t) (ent t) else none
def pcV (o : Option (Nat × Nat)) : Array Value := match o with
  | some p => #[.int .i64 (p.1 : Int), .int .i64 (p.2 : Int), .bool true]
  | none => #[.int .i64 0, .int .i64 0, .bool false]
def pcI (t : List (List Int)) : Int := (((pcM t).getD (0, 0)).1 : Int)
def pcK (t : List (List Int)) : Int := (((pcM t).getD (0, 0)).2 : Int)
theorem pcV_is (t : List (List Int)) : pcV (pcM t) = #[.int .i64 (pcI t), .int .i64 (pcK t), .bool (pcM t).isSome] := by
  unfold pcI pcK pcV
  cases pcM t <;> rfl
theorem pc_none {t : List (List Int)} (ht : tableB t = true) : pcM t = none ↔ crossedB t = true := by
  unfold pcM crossedB
  rw [if_pos ht, ht, Bool.true_and, ex_iff, crB_iff]
  constructor
  · intro h
    rw [← crB_iff]
    cases c : crB t t.length (colsN t) with
    | true => rfl
    | false =>
      unfold crB at c
      rw [List.all_eq_false] at c
      obtain ⟨i, hi, c⟩ := c
      rw [Bool.not_eq_true, List.all_eq_false] at c
      obtain ⟨k, hk, c⟩ := c
      rw [List.mem_range] at hi hk
      have := h i k (by omega) (by omega)
      unfold excB at this
      have n := of_decide_eq_false this
      rw [decide_eq_true_eq] at c
      exact absurd ⟨by omega, by omega, by omega⟩ n
  · intro h i k _ _
    refine decide_eq_false fun q => ?_
    have := cr_one h i k q.1 q.2.1
    omega
theorem pc_some {t : List (List Int)} {p : Nat × Nat} (h : pcM t = some p) : tableB t = true ∧ p.1 + 1 < t.length ∧ p.2 + 1 < colsN t ∧ ent t p.1 (p.2 + 1) + ent t (p.1 + 1) p.2 < ent t p.1 p.2 + ent t (p.1 + 1) (p.2 + 1) ∧ crossedB t = false := by
  have h0 := h
  unfold pcM at h
  split at h
  · rename_i ht
    obtain ⟨h1, h2, h3⟩ := excB_iff.1 (ex_some h)
    refine ⟨ht, h1, h2, h3, ?_⟩
    cases c : crossedB t with
    | false => rfl
    | true => rw [(pc_none ht).2 c] at h0; cases h0
  · cases h
end Go.Proofs.Ytanoojpmokbiaaa
