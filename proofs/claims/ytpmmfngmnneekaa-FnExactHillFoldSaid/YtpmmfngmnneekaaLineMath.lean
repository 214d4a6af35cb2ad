/-
  Falls of rows and what hangs below them, as lists. No program here. Conditions: none.
-/
import Derived.Test.YtpmmfngmnneekaaMath2
namespace Go.Proofs.Ytpmmfngmnneekaa
open Go.RowKit

/-- The greatest of s times the place less the entry, over the places 0 to k. -/
def fallTo (zs : List Int) (s : Int) : Nat → Int
  | 0 => 0 - zs.getD 0 0
  | k + 1 => max (fallTo zs s k) (s * ((k : Int) + 1) - zs.getD (k + 1) 0)
def fallL (zs : List Int) (s : Int) : Int := fallTo zs s (zs.length - 1)

theorem fallTo_ge (zs : List Int) (s : Int) : ∀ (m k : Nat), k ≤ m → s * (k : Int) - zs.getD k 0 ≤ fallTo zs s m := by
  intro m
  induction m with
  | zero => intro k hk; obtain rfl : k = 0 := (by omega); simp [fallTo]
  | succ m ih =>
    intro k hk
    unfold fallTo
    rcases Nat.lt_or_ge m k with h | h
    · obtain rfl : k = m + 1 := (by omega)
      have := Int.le_max_right (fallTo zs s m) (s * ((m : Int) + 1) - zs.getD (m + 1) 0)
      simpa using this
    · exact Int.le_trans (ih k h) (Int.le_max_left _ _)
theorem fallTo_at (zs : List Int) (s : Int) : ∀ m : Nat, ∃ k, k ≤ m ∧ fallTo zs s m = s * (k : Int) - zs.getD k 0 := by
  intro m
  induction m with
  | zero => exact ⟨0, Nat.le_refl _, by simp [fallTo]⟩
  | succ m ih =>
    obtain ⟨k, h1, h2⟩ := ih
    by_cases h : fallTo zs s m ≤ s * ((m : Int) + 1) - zs.getD (m + 1) 0
    · exact ⟨m + 1, Nat.le_refl _, by unfold fallTo; rw [Int.max_eq_right h]; simp⟩
    · exact ⟨k, by omega, by unfold fallTo; rw [Int.max_eq_left (by omega), h2]⟩
theorem fall_ge (zs : List Int) (s : Int) (k : Nat) (hk : k < zs.length) : s * (k : Int) - zs.getD k 0 ≤ fallL zs s := fallTo_ge zs s _ k (by omega)
theorem fall_at (zs : List Int) (s : Int) (h0 : 0 < zs.length) : ∃ k, k < zs.length ∧ fallL zs s = s * (k : Int) - zs.getD k 0 := by
  obtain ⟨k, h1, h2⟩ := fallTo_at zs s (zs.length - 1)
  exact ⟨k, by omega, h2⟩
theorem fall_le (zs : List Int) (s v : Int) (h0 : 0 < zs.length) (h : ∀ k, k < zs.length → s * (k : Int) - zs.getD k 0 ≤ v) : fallL zs s ≤ v := by
  obtain ⟨k, h1, h2⟩ := fall_at zs s h0
  rw [h2]; exact h k h1

/-- Falls bend away: twice the one between is at most the two beside. -/
theorem fall_bent (zs : List Int) (s : Int) (h0 : 0 < zs.length) : 2 * fallL zs s ≤ fallL zs (s - 1) + fallL zs (s + 1) := by
  obtain ⟨k, h1, h2⟩ := fall_at zs s h0
  have a := fall_ge zs (s - 1) k h1
  have b := fall_ge zs (s + 1) k h1
  rw [Int.sub_mul] at a
  rw [Int.add_mul] at b
  omega
/-- One slope more: the fall grows by 0 to the last place. -/
theorem fall_step (zs : List Int) (s : Int) (h0 : 0 < zs.length) : 0 ≤ fallL zs (s + 1) - fallL zs s ∧ fallL zs (s + 1) - fallL zs s ≤ (zs.length : Int) - 1 := by
  constructor
  · obtain ⟨k, h1, h2⟩ := fall_at zs s h0
    have b := fall_ge zs (s + 1) k h1
    rw [Int.add_mul] at b
    omega
  · obtain ⟨k, h1, h2⟩ := fall_at zs (s + 1) h0
    have a := fall_ge zs s k h1
    rw [Int.add_mul] at h2
    omega
theorem row_getD {zs : List Int} (hr : rowB zs = true) (k : Nat) (hk : k < zs.length) : -1000 ≤ zs.getD k 0 ∧ zs.getD k 0 ≤ 1000 := by
  rw [getD_in hk]; exact (rowB_true.1 hr).1 _ (List.getElem_mem hk)
/-- From the slope 2000 on the last place tells the fall. -/
theorem fall_high {zs : List Int} (hr : rowB zs = true) {s : Int} (hs : 2000 ≤ s) : fallL zs s = s * ((zs.length : Int) - 1) - zs.getD (zs.length - 1) 0 := by
  have hl := (rowB_true.1 hr).2
  apply Int.le_antisymm
  · refine fall_le zs s _ (by omega) fun k hk => ?_
    have b1 := row_getD hr k hk
    have b2 := row_getD hr (zs.length - 1) (by omega)
    have e : 0 ≤ ((zs.length : Int) - 1 - (k : Int)) * (s - 2000) := Int.mul_nonneg (by omega) (by omega)
    rw [Int.mul_sub, Int.sub_mul, Int.sub_mul] at e
    rw [Int.mul_sub, Int.mul_comm s (zs.length : Int), Int.mul_comm s (k : Int), Int.mul_one]
    rw [Int.one_mul] at e
    by_cases hk2 : k = zs.length - 1
    · subst hk2; omega
    · omega
  · have := fall_ge zs s (zs.length - 1) (by omega)
    rwa [show ((zs.length - 1 : Nat) : Int) = (zs.length : Int) - 1 by omega] at this
/-- Up to the slope -2000 the first place tells the fall. -/
theorem fall_low {zs : List Int} (hr : rowB zs = true) {s : Int} (hs : s ≤ -2000) : fallL zs s = 0 - zs.getD 0 0 := by
  have hl := (rowB_true.1 hr).2
  apply Int.le_antisymm
  · refine fall_le zs s _ (by omega) fun k hk => ?_
    have b1 := row_getD hr k hk
    have b2 := row_getD hr 0 (by omega)
    have e : 0 ≤ (k : Int) * (-2000 - s) := Int.mul_nonneg (by omega) (by omega)
    rw [Int.mul_sub] at e
    rw [Int.mul_comm s (k : Int)]
    by_cases hk2 : k = 0
    · subst hk2; omega
    · omega
  · have := fall_ge zs s 0 (by omega)
    simpa using this
theorem fall_bd {zs : List Int} (hr : rowB zs = true) {s : Int} (h1 : -3000 ≤ s) (h2 : s ≤ 3000) : -1000 ≤ fallL zs s ∧ fallL zs s ≤ 34000 := by
  have hl := (rowB_true.1 hr).2
  constructor
  · have := fall_ge zs s 0 (by omega)
    have b2 := row_getD hr 0 (by omega)
    simp only [Int.natCast_zero, Int.mul_zero] at this
    omega
  · refine fall_le zs s _ (by omega) fun k hk => ?_
    have b1 := row_getD hr k hk
    have e : 0 ≤ (k : Int) * (3000 - s) := Int.mul_nonneg (by omega) (by omega)
    rw [Int.mul_sub] at e
    rw [Int.mul_comm s (k : Int)]
    omega

/-- The entry at place i of the line of slope s that meets the row. -/
def lineAt (zs : List Int) (i : Nat) (s : Int) : Int := s * (i : Int) - fallL zs s
/-- v is the greatest entry of a line at place i. -/
def IsTop (zs : List Int) (i : Nat) (v : Int) : Prop := (∀ s, lineAt zs i s ≤ v) ∧ ∃ s, -2000 ≤ s ∧ s ≤ 2000 ∧ lineAt zs i s = v
theorem IsTop.uniq {zs : List Int} {i : Nat} {u v : Int} (h : IsTop zs i u) (k : IsTop zs i v) : u = v := by
  obtain ⟨h1, s, _, _, hs⟩ := h
  obtain ⟨k1, t, _, _, ht⟩ := k
  have := h1 t
  have := k1 s
  omega

theorem line_step (zs : List Int) (i : Nat) (s : Int) (h0 : 0 < zs.length) : lineAt zs i (s + 1) - lineAt zs i s ≤ lineAt zs i s - lineAt zs i (s - 1) := by
  have := fall_bent zs s h0
  unfold lineAt
  rw [Int.add_mul, Int.sub_mul]
  omega
/-- Where one step does not rise, no later one does. -/
theorem line_falls (zs : List Int) (i : Nat) (s : Int) (h0 : 0 < zs.length) (h : lineAt zs i (s + 1) ≤ lineAt zs i s) : ∀ n : Nat, lineAt zs i (s + (n : Int) + 1) ≤ lineAt zs i (s + (n : Int)) ∧ lineAt zs i (s + (n : Int)) ≤ lineAt zs i s := by
  intro n
  induction n with
  | zero => simp; exact h
  | succ n ih =>
    have e := line_step zs i (s + (n : Int) + 1) h0
    rw [show s + (n : Int) + 1 - 1 = s + (n : Int) by omega] at e
    rw [show s + ((n + 1 : Nat) : Int) = s + (n : Int) + 1 by omega]
    omega
/-- Where one step rises, each one ahead of it does. -/
theorem line_rises (zs : List Int) (i : Nat) (s : Int) (h0 : 0 < zs.length) (h : lineAt zs i s < lineAt zs i (s + 1)) : ∀ n : Nat, lineAt zs i (s - (n : Int)) < lineAt zs i (s - (n : Int) + 1) ∧ lineAt zs i (s - (n : Int)) < lineAt zs i (s + 1) := by
  intro n
  induction n with
  | zero => simp; exact h
  | succ n ih =>
    have e := line_step zs i (s - (n : Int)) h0
    rw [show s - ((n + 1 : Nat) : Int) = s - (n : Int) - 1 by omega, show s - (n : Int) - 1 + 1 = s - (n : Int) by omega]
    omega
theorem line_after (zs : List Int) (i : Nat) (s t : Int) (h0 : 0 < zs.length) (h : lineAt zs i (s + 1) ≤ lineAt zs i s) (ht : s ≤ t) : lineAt zs i t ≤ lineAt zs i s := by
  have := (line_falls zs i s h0 h (t - s).toNat).2
  rwa [show s + (((t - s).toNat : Nat) : Int) = t by omega] at this
theorem line_ahead (zs : List Int) (i : Nat) (s t : Int) (h0 : 0 < zs.length) (h : lineAt zs i s < lineAt zs i (s + 1)) (ht : t ≤ s) : lineAt zs i t < lineAt zs i (s + 1) := by
  have := (line_rises zs i s h0 h (s - t).toNat).2
  rwa [show s - (((s - t).toNat : Nat) : Int) = t by omega] at this

/-- Between low and high lies a slope with the greatest entry. -/
def TopIn (zs : List Int) (i : Nat) (low high : Int) : Prop := low ≤ high ∧ ∃ s, low ≤ s ∧ s ≤ high ∧ ∀ t, lineAt zs i t ≤ lineAt zs i s
theorem topIn_start {zs : List Int} (hr : rowB zs = true) (i : Nat) (hi : i < zs.length) : TopIn zs i (-2000) 2000 := by
  have hl := (rowB_true.1 hr).2
  have h0 : 0 < zs.length := by omega
  -- a greatest one among the slopes -2000 .. 2000
  have key : ∀ m : Nat, ∃ s, -2000 ≤ s ∧ s ≤ -2000 + (m : Int) ∧ ∀ t, -2000 ≤ t → t ≤ -2000 + (m : Int) → lineAt zs i t ≤ lineAt zs i s := by
    intro m
    induction m with
    | zero => exact ⟨-2000, Int.le_refl _, by omega, fun t h1 h2 => by rw [show t = -2000 by omega]; exact Int.le_refl _⟩
    | succ m ih =>
      obtain ⟨s, h1, h2, h3⟩ := ih
      by_cases h : lineAt zs i s ≤ lineAt zs i (-2000 + ((m : Int) + 1))
      · refine ⟨-2000 + ((m : Int) + 1), by omega, by omega, fun t h4 h5 => ?_⟩
        by_cases h6 : t = -2000 + ((m : Int) + 1)
        · rw [h6]; exact Int.le_refl _
        · exact Int.le_trans (h3 t h4 (by omega)) h
      · refine ⟨s, h1, by omega, fun t h4 h5 => ?_⟩
        by_cases h6 : t = -2000 + ((m : Int) + 1)
        · rw [h6]; omega
        · exact h3 t h4 (by omega)
  obtain ⟨s, h1, h2, h3⟩ := key 4000
  refine ⟨by omega, s, h1, by omega, fun t => ?_⟩
  by_cases c1 : t < -2000
  · have e1 := fall_low hr (s := t) (by omega)
    have e2 := fall_low hr (s := -2000) (by omega)
    have := h3 (-2000) (by omega) (by omega)
    refine Int.le_trans ?_ this
    unfold lineAt
    rw [e1, e2]
    have e : 0 ≤ (i : Int) * (-2000 - t) := Int.mul_nonneg (by omega) (by omega)
    rw [Int.mul_sub] at e
    rw [Int.mul_comm t (i : Int)]
    omega
  · by_cases c2 : 2000 < t
    · have e1 := fall_high hr (s := t) (by omega)
      have e2 := fall_high hr (s := 2000) (by omega)
      have := h3 2000 (by omega) (by omega)
      refine Int.le_trans ?_ this
      unfold lineAt
      rw [e1, e2]
      have e : 0 ≤ ((zs.length : Int) - 1 - (i : Int)) * (t - 2000) := Int.mul_nonneg (by omega) (by omega)
      rw [Int.mul_sub, Int.sub_mul, Int.sub_mul, Int.one_mul] at e
      rw [Int.mul_comm t (i : Int), Int.mul_sub, Int.mul_one, Int.mul_comm t (zs.length : Int)]
      omega
    · exact h3 t (by omega) (by omega)
theorem topIn_up {zs : List Int} {i : Nat} {low high s : Int} (h0 : 0 < zs.length) (h : TopIn zs i low high) (_h1 : low ≤ s) (h2 : s < high) (hs : lineAt zs i s < lineAt zs i (s + 1)) : TopIn zs i (s + 1) high := by
  obtain ⟨_, t, t1, t2, t3⟩ := h
  refine ⟨by omega, ?_⟩
  by_cases c : s + 1 ≤ t
  · exact ⟨t, c, t2, t3⟩
  · refine ⟨s + 1, Int.le_refl _, by omega, fun u => Int.le_trans (t3 u) ?_⟩
    have := line_ahead zs i s t h0 hs (by omega)
    omega
theorem topIn_down {zs : List Int} {i : Nat} {low high s : Int} (h0 : 0 < zs.length) (h : TopIn zs i low high) (h1 : low ≤ s) (_h2 : s < high) (hs : ¬ lineAt zs i s < lineAt zs i (s + 1)) : TopIn zs i low s := by
  obtain ⟨_, t, t1, t2, t3⟩ := h
  refine ⟨h1, ?_⟩
  by_cases c : t ≤ s
  · exact ⟨t, t1, c, t3⟩
  · exact ⟨s, h1, Int.le_refl _, fun u => Int.le_trans (t3 u) (line_after zs i s t h0 (by omega) (by omega))⟩
theorem topIn_end {zs : List Int} {i : Nat} {low : Int} (h : TopIn zs i low low) (h1 : -2000 ≤ low) (h2 : low ≤ 2000) : IsTop zs i (lineAt zs i low) := by
  obtain ⟨_, t, t1, t2, t3⟩ := h
  obtain rfl : t = low := (by omega)
  exact ⟨t3, t, h1, h2, rfl⟩
theorem top_ex {zs : List Int} (hr : rowB zs = true) (i : Nat) (hi : i < zs.length) : ∃ v, IsTop zs i v := by
  obtain ⟨_, s, h1, h2, h3⟩ := topIn_start hr i hi
  exact ⟨_, h3, s, h1, h2, rfl⟩
end Go.Proofs.Ytpmmfngmnneekaa
