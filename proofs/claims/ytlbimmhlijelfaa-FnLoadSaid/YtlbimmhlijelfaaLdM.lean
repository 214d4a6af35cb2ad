/-
  Mathematics of loads that are made step by step: what is left of the amounts, and what has been given, when a row and a column are reached. Conditions: sums that never fall.
-/
import Derived.Test.YtlbimmhlijelfaaTmA
namespace Go.Proofs.Ytlbimmhlijelfaa
/-- Row i and column k are reached on the way. -/
def LdI (A B : Nat → Int) (i k : Nat) : Prop := B k ≤ A (i + 1) ∧ A i ≤ B (k + 1)
/-- What has been given till then. -/
def ldOut (A B : Nat → Int) (i k p q : Nat) : Int := if p < i ∨ p = i ∧ q < k then loadF A B p q else 0
/-- What is left of the amounts of rows. -/
def remA (A B : Nat → Int) (i k p : Nat) : Int := A (p + 1) - (if p < i then A (p + 1) else if p = i then max (A i) (B k) else A p)
theorem ldI_zero {A B : Nat → Int} (hA : Up A) (hB : Up B) (hA0 : A 0 = 0) (hB0 : B 0 = 0) : LdI A B 0 0 := by
  have h1 := hA 0; have h2 := hB 0
  exact ⟨by omega, by omega⟩
theorem ldI_down {A B : Nat → Int} {i k : Nat} (hA : Up A) (h : LdI A B i k) (hle : A (i + 1) ≤ B (k + 1)) : LdI A B (i + 1) k := by
  have h1 := hA (i + 1)
  exact ⟨by have := h.1; omega, hle⟩
theorem ldI_right {A B : Nat → Int} {i k : Nat} (hB : Up B) (h : LdI A B i k) (hlt : B (k + 1) < A (i + 1)) : LdI A B i (k + 1) := by
  have h1 := hB (k + 1)
  exact ⟨by omega, by have := h.2; omega⟩
theorem ld_x {A B : Nat → Int} {i k : Nat} (hA : Up A) (hB : Up B) (h : LdI A B i k) : loadF A B i k = min (remA A B i k i) (remA B A k i k) ∧ 0 ≤ loadF A B i k := by
  have h1 := hA i; have h2 := hB k; have h3 := h.1; have h4 := h.2
  unfold loadF remA
  rw [if_neg (Nat.lt_irrefl _), if_pos rfl, if_neg (Nat.lt_irrefl _), if_pos rfl]
  omega
theorem ld_used {A B : Nat → Int} {i k : Nat} (hA : Up A) (hB : Up B) (h : LdI A B i k) : (remA A B i k i - loadF A B i k = 0 ↔ A (i + 1) ≤ B (k + 1)) := by
  have h1 := hA i; have h2 := hB k; have h3 := h.1; have h4 := h.2
  unfold loadF remA
  rw [if_neg (Nat.lt_irrefl _), if_pos rfl]
  omega
theorem rem_down {A B : Nat → Int} {i k : Nat} (hA : Up A) (hB : Up B) (h : LdI A B i k) (hle : A (i + 1) ≤ B (k + 1)) (p : Nat) : remA A B (i + 1) k p = if p = i then remA A B i k i - loadF A B i k else remA A B i k p := by
  have h1 := hA i; have h2 := hB k; have h3 := h.1; have h4 := h.2; have h5 := hA (i + 1)
  unfold loadF remA
  rw [if_neg (Nat.lt_irrefl _), if_pos rfl]
  by_cases e : p = i
  · subst e
    rw [if_pos (Nat.lt_succ_self _), if_pos rfl]
    omega
  · rw [if_neg e]
    by_cases e1 : p < i
    · rw [if_pos (by omega), if_pos e1]
    · rw [if_neg (by omega), if_neg e1]
      by_cases e2 : p = i + 1
      · subst e2
        rw [if_pos rfl, if_neg (by omega)]
        omega
      · rw [if_neg e2, if_neg e]
theorem rem_stay {A B : Nat → Int} {i k : Nat} (hA : Up A) (hB : Up B) (h : LdI A B i k) (hlt : B (k + 1) ≤ A (i + 1)) (p : Nat) : remA A B i (k + 1) p = if p = i then remA A B i k i - loadF A B i k else remA A B i k p := by
  have h1 := hA i; have h2 := hB k; have h3 := h.1; have h4 := h.2
  unfold loadF remA
  rw [if_neg (Nat.lt_irrefl _), if_pos rfl]
  by_cases e : p = i
  · subst e
    rw [if_neg (Nat.lt_irrefl _), if_pos rfl, if_pos rfl]
    omega
  · by_cases e1 : p < i
    · simp only [if_neg e, if_pos e1]
    · simp only [if_neg e1, if_neg e]
theorem LdI.turn {A B : Nat → Int} {i k : Nat} (h : LdI A B i k) : LdI B A k i := ⟨h.2, h.1⟩
theorem out_down {A B : Nat → Int} {i k : Nat} (hB : Up B) (h : LdI A B i k) (hle : A (i + 1) ≤ B (k + 1)) (p q : Nat) : ldOut A B (i + 1) k p q = if p = i ∧ q = k then loadF A B i k else ldOut A B i k p q := by
  unfold ldOut
  by_cases e : p = i ∧ q = k
  · rw [if_pos e, if_pos (by omega), e.1, e.2]
  · rw [if_neg e]
    by_cases e1 : p < i ∨ p = i ∧ q < k
    · rw [if_pos e1, if_pos (by omega)]
    · rw [if_neg e1]
      by_cases e2 : p < i + 1 ∨ p = i + 1 ∧ q < k
      · rw [if_pos e2]
        have h3 := h.1
        unfold loadF
        by_cases e3 : p = i
        · subst e3
          have := hB.le (show k + 1 ≤ q by omega)
          omega
        · obtain rfl : p = i + 1 := by omega
          have := hB.le (show q + 1 ≤ k by omega)
          omega
      · rw [if_neg e2]
theorem out_right (A B : Nat → Int) (i k p q : Nat) : ldOut A B i (k + 1) p q = if p = i ∧ q = k then loadF A B i k else ldOut A B i k p q := by
  unfold ldOut
  by_cases e : p = i ∧ q = k
  · rw [if_pos e, if_pos (by omega), e.1, e.2]
  · rw [if_neg e]
    by_cases e1 : p < i ∨ p = i ∧ q < k
    · rw [if_pos e1, if_pos (by omega)]
    · rw [if_neg e1, if_neg (by omega)]
theorem out_rows {A B : Nat → Int} {n k p q : Nat} (hp : p < n) : ldOut A B n k p q = loadF A B p q := if_pos (.inl hp)
theorem out_cols {A B : Nat → Int} {i m p q : Nat} (hA : Up A) (hB : Up B) (h : LdI A B i m) (hq : q < m) : ldOut A B i m p q = loadF A B p q := by
  unfold ldOut
  by_cases e : p < i ∨ p = i ∧ q < m
  · rw [if_pos e]
  · rw [if_neg e]
    have h1 := hA.le (show i + 1 ≤ p by omega)
    have h2 := hB.le (show q + 1 ≤ m by omega)
    have h3 := h.1
    unfold loadF
    omega
theorem out_zero (A B : Nat → Int) (p q : Nat) : ldOut A B 0 0 p q = 0 := if_neg (by omega)
theorem rem_zero {A B : Nat → Int} (hA0 : A 0 = 0) (hB0 : B 0 = 0) (p : Nat) : remA A B 0 0 p = A (p + 1) - A p := by
  unfold remA
  rw [if_neg (Nat.not_lt_zero _)]
  by_cases e : p = 0
  · subst e
    rw [if_pos rfl, hA0, hB0]; rfl
  · rw [if_neg e]
/-- What is left, as a list. -/
def remL (A B : Nat → Int) (n i k : Nat) : List Int := (List.range n).map (remA A B i k)
theorem remL_len (A B : Nat → Int) (n i k : Nat) : (remL A B n i k).length = n := by simp [remL]
theorem remL_get (A B : Nat → Int) (n i k : Nat) {p : Nat} (h : p < (remL A B n i k).length) : (remL A B n i k)[p] = remA A B i k p := by simp [remL]
theorem remL_set (A B : Nat → Int) (n : Nat) {i k i' k' : Nat} {v : Int} (h : ∀ p, remA A B i' k' p = if p = i then v else remA A B i k p) : (remL A B n i k).set i v = remL A B n i' k' := by
  apply List.ext_getElem (by simp [remL])
  intro p h1 h2
  rw [remL_get, h p, List.getElem_set]
  by_cases e : i = p
  · rw [if_pos e, if_pos e.symm]
  · rw [if_neg e, if_neg (fun x => e x.symm), remL_get]
theorem remL_start {a : List Int} {B : Nat → Int} (hB0 : B 0 = 0) : remL (sumTo a) B a.length 0 0 = a := by
  apply List.ext_getElem (by simp [remL])
  intro p h1 h2
  rw [remL_get, rem_zero (by simp [sumTo, sumN]) hB0]
  unfold sumTo
  rw [sumN]
  have : a.getD p 0 = a[p] := by simp [List.getD, h2]
  omega
/-- What is given never exceeds the amounts. -/
theorem rem_bd {A B : Nat → Int} {i k : Nat} (hA : Up A) (h : LdI A B i k) (p : Nat) : 0 ≤ remA A B i k p ∧ remA A B i k p ≤ A (p + 1) - A p := by
  have h1 := hA p; have h3 := h.1
  unfold remA
  by_cases e : p < i
  · rw [if_pos e]; omega
  · rw [if_neg e]
    by_cases e1 : p = i
    · subst e1; rw [if_pos rfl]; omega
    · rw [if_neg e1]; omega
theorem loadF_bd {A B : Nat → Int} (hA : Up A) (hB : Up B) (p q : Nat) : 0 ≤ loadF A B p q ∧ loadF A B p q ≤ A (p + 1) - A p ∧ loadF A B p q ≤ B (q + 1) - B q := by
  have := hA p; have := hB q
  unfold loadF
  omega
theorem ldOut_bd {A B : Nat → Int} (hA : Up A) (hB : Up B) (i k p q : Nat) : 0 ≤ ldOut A B i k p q ∧ ldOut A B i k p q ≤ A (p + 1) - A p := by
  have h1 := loadF_bd hA hB p q; have := hA p
  unfold ldOut
  split <;> omega
theorem am9_up {a : List Int} (h : ∀ z, z ∈ a → 0 ≤ z ∧ z ≤ 9) : Up (sumTo a) ∧ ∀ p, sumTo a (p + 1) - sumTo a p ≤ 9 := by
  have : ∀ p, 0 ≤ a.getD p 0 ∧ a.getD p 0 ≤ 9 := by
    intro p
    by_cases e : p < a.length
    · have := h a[p] (List.getElem_mem e)
      rw [show a.getD p 0 = a[p] by simp [List.getD, e]]; exact this
    · rw [show a.getD p 0 = 0 by simp [List.getD, List.getElem?_eq_none (Nat.le_of_not_lt e)]]; omega
  refine ⟨fun p => ?_, fun p => ?_⟩
  all_goals
    have := this p
    unfold sumTo
    rw [sumN]
    omega
end Go.Proofs.Ytlbimmhlijelfaa
