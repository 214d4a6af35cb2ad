/-
  Rows that are bent, as lists: entries between two places, and the least entries. No program here. Conditions: none.
-/
import Derived.Test.YtpmmfngmnneekaaMath
import Derived.Test.YtpmmfngmnneekaaLeast2
namespace Go.Proofs.Ytpmmfngmnneekaa
open Go.RowKit

theorem bent_step {zs : List Int} (hb : bentB zs = true) : ∀ (b a : Nat), a ≤ b → b + 1 < zs.length → zs.getD (a + 1) 0 - zs.getD a 0 ≤ zs.getD (b + 1) 0 - zs.getD b 0 := by
  intro b
  induction b with
  | zero => intro a h1 _; obtain rfl : a = 0 := (by omega); exact Int.le_refl _
  | succ b ih =>
    intro a h1 h2
    rcases Nat.lt_or_ge b a with h3 | h3
    · obtain rfl : a = b + 1 := by omega
      exact Int.le_refl _
    · have e1 := ih a h3 (by omega)
      have e2 := (bentB_iff zs).1 hb b (by omega)
      have e3 : zs.getD (b + 1 + 1) 0 = zs.getD (b + 2) 0 := rfl
      omega
/-- An entry of a bent row is at most half of two entries as far on both sides. -/
theorem bent_half {zs : List Int} (hb : bentB zs = true) : ∀ (d i : Nat), d ≤ i → i + d < zs.length → 2 * zs.getD i 0 ≤ zs.getD (i - d) 0 + zs.getD (i + d) 0 := by
  intro d
  induction d with
  | zero => intro i _ _; simp; omega
  | succ d ih =>
    intro i h1 h2
    have e1 := ih i (by omega) (by omega)
    have e2 := bent_step hb (i + d) (i - (d + 1)) (by omega) (by omega)
    rw [show i - (d + 1) + 1 = i - d by omega] at e2
    rw [show i + (d + 1) = i + d + 1 by omega]
    omega
theorem bent_rise {zs : List Int} (hb : bentB zs = true) {j : Nat} (hj : zs.getD j 0 < zs.getD (j + 1) 0) : ∀ (m n : Nat), j ≤ n → n ≤ m → m < zs.length → zs.getD n 0 ≤ zs.getD m 0 := by
  intro m
  induction m with
  | zero => intro n _ h2 _; obtain rfl : n = 0 := (by omega); exact Int.le_refl _
  | succ m ih =>
    intro n h1 h2 h3
    rcases Nat.lt_or_ge m n with h4 | h4
    · obtain rfl : n = m + 1 := by omega
      exact Int.le_refl _
    · have e1 := ih n h1 h4 (by omega)
      have e2 := bent_step hb m j (by omega) h3
      omega
/-- Between two places with the least entry, every entry of a bent row is the least. -/
theorem bent_mid {zs : List Int} (hb : bentB zs = true) {i k : Nat} (hk : k < zs.length) (he : zs.getD k 0 = zs.getD i 0) (hm : ∀ j, j < zs.length → zs.getD i 0 ≤ zs.getD j 0) :
    ∀ n, i ≤ n → n ≤ k → zs.getD n 0 = zs.getD i 0 := by
  intro n
  induction n with
  | zero => intro h1 _; obtain rfl : i = 0 := (by omega); rfl
  | succ n ih =>
    intro h1 h2
    rcases Nat.lt_or_ge n i with h3 | h3
    · obtain rfl : i = n + 1 := by omega
      rfl
    · have e1 := ih h3 (by omega)
      have e2 := hm (n + 1) (by omega)
      by_cases h4 : zs.getD n 0 < zs.getD (n + 1) 0
      · have := bent_rise hb h4 k (n + 1) (by omega) h2 hk
        omega
      · omega

/-- What leastTo tells of the first m entries. -/
theorem leastTo_spec (zs : List Int) (m : Nat) : (leastTo zs (m + 1)).1 ≤ (leastTo zs (m + 1)).2 ∧ (leastTo zs (m + 1)).2 ≤ m ∧ zs.getD (leastTo zs (m + 1)).2 0 = zs.getD (leastTo zs (m + 1)).1 0 ∧
    ∀ j, j ≤ m → zs.getD (leastTo zs (m + 1)).1 0 ≤ zs.getD j 0 ∧ (zs.getD j 0 = zs.getD (leastTo zs (m + 1)).1 0 → (leastTo zs (m + 1)).1 ≤ j ∧ j ≤ (leastTo zs (m + 1)).2) := by
  induction m with
  | zero =>
    rw [leastTo_one]
    refine ⟨Nat.le_refl _, Nat.le_refl _, rfl, fun j hj => ?_⟩
    obtain rfl : j = 0 := by omega
    exact ⟨Int.le_refl _, fun _ => ⟨Nat.le_refl _, Nat.le_refl _⟩⟩
  | succ m ih =>
    obtain ⟨s, hs⟩ : ∃ s, leastTo zs (m + 1) = s := ⟨_, rfl⟩
    rw [hs] at ih
    obtain ⟨h1, h2, h3, h4⟩ := ih
    have e : leastTo zs (m + 1 + 1) = lstep zs s (m + 1) := by show lstep zs (leastTo zs (m + 1)) (m + 1) = _; rw [hs]
    rw [e]
    unfold lstep
    by_cases c1 : zs.getD (m + 1) 0 < zs.getD s.1 0
    · have c2 : zs.getD (m + 1) 0 ≤ zs.getD s.2 0 := by omega
      simp only [c1, c2, if_true]
      refine ⟨Nat.le_refl _, Nat.le_refl _, trivial, fun j hj => ?_⟩
      rcases Nat.lt_or_ge m j with h5 | h5
      · obtain rfl : j = m + 1 := by omega
        exact ⟨Int.le_refl _, fun _ => ⟨Nat.le_refl _, Nat.le_refl _⟩⟩
      · have := (h4 j h5).1
        exact ⟨by omega, fun h6 => by omega⟩
    · by_cases c2 : zs.getD (m + 1) 0 ≤ zs.getD s.2 0
      · simp only [c1, c2, if_true, if_false]
        refine ⟨by omega, Nat.le_refl _, by omega, fun j hj => ?_⟩
        rcases Nat.lt_or_ge m j with h5 | h5
        · obtain rfl : j = m + 1 := by omega
          exact ⟨by omega, fun _ => ⟨by omega, Nat.le_refl _⟩⟩
        · have h6 := h4 j h5
          exact ⟨h6.1, fun h7 => by have := h6.2 h7; omega⟩
      · simp only [c1, c2, if_false]
        refine ⟨h1, by omega, h3, fun j hj => ?_⟩
        rcases Nat.lt_or_ge m j with h5 | h5
        · obtain rfl : j = m + 1 := by omega
          exact ⟨by omega, fun h7 => by omega⟩
        · exact h4 j h5

/-- RowLeast of a row, told by its entries. -/
theorem least_spec {zs : List Int} (hr : rowB zs = true) : ∃ (x : Int) (i k : Nat), leastA zs = x ∧ leastB zs = (i : Int) ∧ leastC zs = (k : Int) ∧ i ≤ k ∧ k < zs.length ∧ zs.getD i 0 = x ∧ zs.getD k 0 = x ∧
    ∀ j, j < zs.length → x ≤ zs.getD j 0 ∧ (zs.getD j 0 = x → i ≤ j ∧ j ≤ k) ∧ (bentB zs = true → i ≤ j → j ≤ k → zs.getD j 0 = x) := by
  have hl := (rowB_true.1 hr).2
  obtain ⟨m, hm⟩ : ∃ m, zs.length = m + 1 := ⟨zs.length - 1, by omega⟩
  obtain ⟨h1, h2, h3, h4⟩ := leastTo_spec zs m
  rw [← hm] at h1 h2 h3 h4
  refine ⟨_, _, _, by unfold leastA; rw [if_pos hr], by unfold leastB; rw [if_pos hr], by unfold leastC; rw [if_pos hr], h1, by omega, rfl, h3, fun j hj => ⟨(h4 j (by omega)).1, (h4 j (by omega)).2, fun hb h5 h6 => ?_⟩⟩
  exact bent_mid hb (by omega) h3 (fun j hj => (h4 j (by omega)).1) j h5 h6
end Go.Proofs.Ytpmmfngmnneekaa
