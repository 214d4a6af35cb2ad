/-
  Round hills once more: counting the blocks of entries that are not 0. No program here. Conditions: none.
-/
import Derived.Test.YtpmmfngmnneekaaHillMath2
namespace Go.Proofs.Ytpmmfngmnneekaa
open Go.RowKit

/-- The entry at a place, and 0 for one that is not there. -/
def atI (zs : List Int) (j : Int) : Int := if 0 ≤ j then zs.getD j.toNat 0 else 0
theorem atI_nat (zs : List Int) (k : Nat) : atI zs (k : Int) = zs.getD k 0 := by
  unfold atI; rw [if_pos (by omega), Int.toNat_natCast]
theorem atI_neg (zs : List Int) {j : Int} (h : j < 0) : atI zs j = 0 := if_neg (by omega)
theorem atI_bd {zs : List Int} (hr : rowB zs = true) (j : Int) : -1000 ≤ atI zs j ∧ atI zs j ≤ 1000 := by
  unfold atI
  split
  · by_cases h : j.toNat < zs.length
    · exact row_getD hr _ h
    · rw [getD_out (by omega)]; omega
  · omega
/-- A block begins at the place. -/
def newB (zs : List Int) (i : Nat) : Bool := decide (zs.getD i 0 ≠ 0) && decide (atI zs ((i : Int) - 1) = 0)
def blocksTo (zs : List Int) : Nat → Nat
  | 0 => 0
  | k + 1 => blocksTo zs k + if newB zs k then 1 else 0
theorem newB_zero (zs : List Int) : newB zs 0 = decide (zs.getD 0 0 ≠ 0) := by
  unfold newB
  rw [atI_neg zs (by omega)]
  simp
theorem newB_succ (zs : List Int) (i : Nat) : newB zs (i + 1) = (decide (zs.getD (i + 1) 0 ≠ 0) && decide (zs.getD i 0 = 0)) := by
  unfold newB
  rw [show ((i + 1 : Nat) : Int) - 1 = (i : Int) by omega, atI_nat]
theorem blocks_mono (zs : List Int) (k d : Nat) : blocksTo zs k ≤ blocksTo zs (k + d) := by
  induction d with
  | zero => exact Nat.le_refl _
  | succ d ih => rw [show k + (d + 1) = k + d + 1 by omega, blocksTo]; omega
theorem blocks_le (zs : List Int) (k : Nat) : blocksTo zs k ≤ k := by
  induction k with
  | zero => exact Nat.le_refl _
  | succ k ih => rw [blocksTo]; split <;> omega
theorem blocks_pos {zs : List Int} : ∀ i, zs.getD i 0 ≠ 0 → 1 ≤ blocksTo zs (i + 1) := by
  intro i
  induction i with
  | zero => intro h; rw [blocksTo, newB_zero, decide_eq_true h]; simp
  | succ i ih =>
    intro h
    by_cases e : zs.getD i 0 = 0
    · rw [blocksTo, newB_succ, decide_eq_true h, decide_eq_true e]; simp
    · have := ih e
      have := blocks_mono zs (i + 1) 1
      omega
theorem blocks_more {zs : List Int} {j : Nat} (hj : zs.getD j 0 = 0) : ∀ d, zs.getD (j + 1 + d) 0 ≠ 0 → blocksTo zs (j + 1) + 1 ≤ blocksTo zs (j + 1 + d + 1) := by
  intro d
  induction d with
  | zero =>
    intro h
    rw [Nat.add_zero] at h ⊢
    rw [blocksTo.eq_def zs (j + 1 + 1)]
    simp only
    rw [newB_succ, decide_eq_true h, decide_eq_true hj]
    simp
  | succ d ih =>
    intro h
    by_cases e : zs.getD (j + 1 + d) 0 = 0
    · rw [show j + 1 + (d + 1) + 1 = j + 1 + d + 1 + 1 by omega, blocksTo.eq_def zs (j + 1 + d + 1 + 1)]
      simp only
      rw [newB_succ, decide_eq_true (show zs.getD (j + 1 + d + 1) 0 ≠ 0 from h), decide_eq_true e]
      have := blocks_mono zs (j + 1) (d + 1)
      rw [show j + 1 + (d + 1) = j + 1 + d + 1 by omega] at this
      simp
      omega
    · have := ih e
      have := blocks_mono zs (j + 1 + d + 1) 1
      rw [show j + 1 + (d + 1) + 1 = j + 1 + d + 1 + 1 by omega]
      omega
theorem blocks_some {zs : List Int} : ∀ k, 1 ≤ blocksTo zs k → ∃ p, p < k ∧ zs.getD p 0 ≠ 0 := by
  intro k
  induction k with
  | zero => intro h; exact absurd h (by simp [blocksTo])
  | succ k ih =>
    intro h
    by_cases e : zs.getD k 0 = 0
    · have : newB zs k = false := by unfold newB; rw [decide_eq_false (fun c : zs.getD k 0 ≠ 0 => c e)]; rfl
      rw [blocksTo, this] at h
      obtain ⟨p, h1, h2⟩ := ih (by simpa using h)
      exact ⟨p, by omega, h2⟩
    · exact ⟨k, by omega, e⟩
theorem blocks_two {zs : List Int} : ∀ k, 2 ≤ blocksTo zs k → ∃ p q, p < q ∧ q + 1 < k ∧ zs.getD p 0 ≠ 0 ∧ zs.getD q 0 = 0 ∧ zs.getD (q + 1) 0 ≠ 0 := by
  intro k
  induction k with
  | zero => intro h; exact absurd h (by simp [blocksTo])
  | succ k ih =>
    intro h
    rw [blocksTo] at h
    by_cases e : newB zs k = true
    · rw [e] at h
      simp only [if_true] at h
      obtain ⟨p, h1, h2⟩ := blocks_some (zs := zs) k (by omega)
      obtain ⟨m, rfl⟩ : ∃ m, k = m + 1 := ⟨k - 1, by omega⟩
      rw [newB_succ, Bool.and_eq_true, decide_eq_true_eq, decide_eq_true_eq] at e
      refine ⟨p, m, ?_, by omega, h2, e.2, e.1⟩
      refine Classical.byContradiction fun c => ?_
      have : p = m := by omega
      subst this
      exact h2 e.2
    · simp only [Bool.not_eq_true] at e
      rw [e] at h
      obtain ⟨p, q, g⟩ := ih (by simpa using h)
      exact ⟨p, q, g.1, by omega, g.2.2⟩
theorem round_yes {zs : List Int} (hn : nnB zs = true) (hb : blocksTo zs zs.length ≤ 1) (hs : ∀ i, i < zs.length → zs.getD i 0 ≠ 0 → atI zs ((i : Int) - 1) * atI zs ((i : Int) + 1) ≤ zs.getD i 0 * zs.getD i 0) : roundB zs = true := by
  have nn : ∀ k, 0 ≤ zs.getD k 0 := fun k => nnB_nn hn k
  rw [roundB_iff hn]
  have hz : ∀ i j k, i < j → j < k → k < zs.length → 0 < zs.getD i 0 → 0 < zs.getD k 0 → 0 < zs.getD j 0 := by
    intro i j k h1 h2 h3 h4 h5
    refine Classical.byContradiction fun c => ?_
    have := nn j
    have e : zs.getD j 0 = 0 := by omega
    have g1 := blocks_pos (zs := zs) i (by omega)
    have g2 := blocks_more e (k - (j + 1)) (by rw [show j + 1 + (k - (j + 1)) = k by omega]; omega)
    have g3 := blocks_mono zs (i + 1) (j - i)
    have g4 := blocks_mono zs (j + 1 + (k - (j + 1)) + 1) (zs.length - (k + 1))
    rw [show i + 1 + (j - i) = j + 1 by omega] at g3
    rw [show j + 1 + (k - (j + 1)) + 1 + (zs.length - (k + 1)) = zs.length by omega] at g4
    omega
  refine ⟨hz, fun k hk => ?_⟩
  by_cases e : zs.getD (k + 1) 0 = 0
  · by_cases h1 : zs.getD k 0 = 0
    · rw [h1, e]; simp
    · by_cases h2 : zs.getD (k + 2) 0 = 0
      · rw [h2, e]; simp
      · have := nn k; have := nn (k + 2)
        have := hz k (k + 1) (k + 2) (by omega) (by omega) (by omega) (by omega) (by omega)
        omega
  · have := hs (k + 1) (by omega) e
    rw [show ((k + 1 : Nat) : Int) - 1 = (k : Int) by omega, show ((k + 1 : Nat) : Int) + 1 = ((k + 2 : Nat) : Int) by omega, atI_nat, atI_nat] at this
    exact this
theorem round_no1 {zs : List Int} (hn : nnB zs = true) (hb : 2 ≤ blocksTo zs zs.length) : roundB zs = false := by
  have nn : ∀ k, 0 ≤ zs.getD k 0 := fun k => nnB_nn hn k
  rw [← Bool.not_eq_true, roundB_iff hn]
  intro h
  obtain ⟨p, q, h1, h2, h3, h4, h5⟩ := blocks_two _ hb
  have := nn p; have := nn (q + 1)
  have := h.1 p q (q + 1) h1 (by omega) h2 (by omega) (by omega)
  omega
theorem round_no2 {zs : List Int} (hn : nnB zs = true) {i : Nat} (hi : i < zs.length) (hs : zs.getD i 0 * zs.getD i 0 < atI zs ((i : Int) - 1) * atI zs ((i : Int) + 1)) : roundB zs = false := by
  have nn : ∀ k, 0 ≤ zs.getD k 0 := fun k => nnB_nn hn k
  have sq : 0 ≤ zs.getD i 0 * zs.getD i 0 := Int.mul_nonneg (nn i) (nn i)
  rw [← Bool.not_eq_true, roundB_iff hn]
  intro h
  by_cases h0 : i = 0
  · subst h0
    rw [atI_neg zs (by omega), Int.zero_mul] at hs
    omega
  · by_cases h1 : i + 1 < zs.length
    · have := h.2 (i - 1) (by omega)
      rw [show i - 1 + 2 = i + 1 by omega, show i - 1 + 1 = i by omega] at this
      rw [show (i : Int) - 1 = ((i - 1 : Nat) : Int) by omega, show (i : Int) + 1 = ((i + 1 : Nat) : Int) by omega, atI_nat, atI_nat] at hs
      omega
    · rw [show (i : Int) + 1 = ((i + 1 : Nat) : Int) by omega, atI_nat, getD_out (show zs.length ≤ i + 1 by omega), Int.mul_zero] at hs
      omega
/-- What hillB, roundB and HillRound say. -/
def hillRoundB (zs : List Int) : Bool := hillB zs && roundB zs
theorem hill_true {zs : List Int} (h : hillB zs = true) : nnB zs = true ∧ rowB zs = true := by
  unfold hillB at h; rwa [Bool.and_eq_true] at h
/-- The least entry. -/
def minTo (zs : List Int) : Nat → Int
  | 0 => zs.getD 0 0
  | k + 1 => if zs.getD (k + 1) 0 < minTo zs k then zs.getD (k + 1) 0 else minTo zs k
theorem minTo_nn {zs : List Int} : ∀ k, (0 ≤ minTo zs k) ↔ ∀ j, j ≤ k → 0 ≤ zs.getD j 0 := by
  intro k
  induction k with
  | zero =>
    exact ⟨fun h j hj => by obtain rfl : j = 0 := (by omega); exact h, fun h => h 0 (Nat.le_refl _)⟩
  | succ k ih =>
    rw [minTo]
    constructor
    · intro h j hj
      rcases Nat.eq_or_lt_of_le hj with rfl | hj
      · split at h <;> omega
      · exact ih.1 (by split at h <;> omega) j (by omega)
    · intro h
      have h1 := h (k + 1) (Nat.le_refl _)
      have h2 := ih.2 fun j hj => h j (by omega)
      split <;> omega
theorem minTo_hill {zs : List Int} (hr : rowB zs = true) : decide (0 ≤ minTo zs (zs.length - 1)) = hillB zs := by
  have h0 := (rowB_true.1 hr).2.1
  unfold hillB
  rw [hr, Bool.and_true]
  cases hn : nnB zs with
  | true => exact decide_eq_true ((minTo_nn _).2 fun j _ => nnB_nn hn j)
  | false =>
    refine decide_eq_false fun c => ?_
    rw [nnB_of fun k hk => (minTo_nn _).1 c k (by omega)] at hn
    cases hn
theorem minTo_bd {zs : List Int} (h : ∀ z, z ∈ zs → I64 z) : ∀ k, k < zs.length → I64 (minTo zs k) := by
  intro k
  induction k with
  | zero => intro h0; rw [minTo, getD_in h0]; exact h _ (List.getElem_mem h0)
  | succ k ih =>
    intro h0
    rw [minTo]
    split
    · rw [getD_in h0]; exact h _ (List.getElem_mem h0)
    · exact ih (by omega)
/-- None of the first places breaks roundness. -/
def RoundTo (zs : List Int) (k : Nat) : Prop := ∀ j, j < k → j + 1 < zs.length → ¬ (endsB zs (j + 1) = true ∧ 0 < zs.getD (j + 1) 0) ∧ (j + 2 < zs.length → ¬ zs.getD (j + 1) 0 * zs.getD (j + 1) 0 < zs.getD j 0 * zs.getD (j + 2) 0)
theorem roundTo_zero (zs : List Int) : RoundTo zs 0 := fun j hj => absurd hj (by omega)
theorem roundTo_succ {zs : List Int} {k : Nat} (h : RoundTo zs k) (h1 : ¬ (endsB zs (k + 1) = true ∧ 0 < zs.getD (k + 1) 0)) (h2 : k + 2 < zs.length → ¬ zs.getD (k + 1) 0 * zs.getD (k + 1) 0 < zs.getD k 0 * zs.getD (k + 2) 0) : RoundTo zs (k + 1) := by
  intro j hj hj2
  by_cases e : j = k
  · subst e; exact ⟨h1, h2⟩
  · exact h j (by omega) hj2
theorem roundTo_all {zs : List Int} {k : Nat} (h : RoundTo zs k) (hk : zs.length ≤ k + 1) : roundB zs = true := by
  unfold roundB
  rw [List.all_eq_true]
  intro i hi
  have hi' := List.mem_range.1 hi
  obtain ⟨h1, h2⟩ := h i (by omega) (by omega)
  rw [Bool.and_eq_true]
  constructor
  · cases e : endsB zs (i + 1) with
    | false => rfl
    | true =>
      have : ¬ 0 < zs.getD (i + 1) 0 := fun c => h1 ⟨e, c⟩
      rw [decide_eq_false this]; rfl
  · by_cases c : i + 2 < zs.length
    · rw [decide_eq_false (h2 c)]; simp
    · rw [decide_eq_false c]; rfl
theorem round_bad1 {zs : List Int} {k : Nat} (hk : k + 1 < zs.length) (h1 : endsB zs (k + 1) = true) (h2 : 0 < zs.getD (k + 1) 0) : roundB zs = false := by
  unfold roundB
  rw [List.all_eq_false]
  refine ⟨k, List.mem_range.2 (by omega), ?_⟩
  rw [h1, decide_eq_true h2]; simp
theorem round_bad2 {zs : List Int} {k : Nat} (hk : k + 2 < zs.length) (h : zs.getD (k + 1) 0 * zs.getD (k + 1) 0 < zs.getD k 0 * zs.getD (k + 2) 0) : roundB zs = false := by
  unfold roundB
  rw [List.all_eq_false]
  refine ⟨k, List.mem_range.2 (by omega), ?_⟩
  rw [decide_eq_true hk, decide_eq_true h]; simp
end Go.Proofs.Ytpmmfngmnneekaa
