/-
  Corners, meeting places, and whole lines between two rows, as lists. No program here. Conditions: none.
-/
import Derived.Test.YtpmmfngmnneekaaLineMath2
namespace Go.Proofs.Ytpmmfngmnneekaa
open Go.RowKit

/-- The places below k where a row is what hangs below it. -/
def cornersTo (zs : List Int) : Nat → List Int
  | 0 => []
  | k + 1 => if (hangL zs).getD k 0 = zs.getD k 0 then cornersTo zs k ++ [(k : Int)] else cornersTo zs k
def cornersL (zs : List Int) : List Int := cornersTo zs zs.length
def cornersM (zs : List Int) : Option (List Int) := if rowB zs then some (cornersL zs) else none
def hangM (zs : List Int) : Option (List Int) := if rowB zs then some (hangL zs) else none

theorem corners_mem (zs : List Int) (x : Int) : ∀ k : Nat, x ∈ cornersTo zs k ↔ ∃ i : Nat, i < k ∧ x = (i : Int) ∧ (hangL zs).getD i 0 = zs.getD i 0 := by
  intro k
  induction k with
  | zero => simp [cornersTo]
  | succ k ih =>
    unfold cornersTo
    by_cases h : (hangL zs).getD k 0 = zs.getD k 0
    · rw [if_pos h, List.mem_append, ih]
      constructor
      · rintro (⟨i, h1, h2, h3⟩ | h1)
        · exact ⟨i, by omega, h2, h3⟩
        · exact ⟨k, by omega, List.mem_singleton.1 h1, h⟩
      · rintro ⟨i, h1, h2, h3⟩
        by_cases c : i = k
        · subst c; exact .inr (List.mem_singleton.2 h2)
        · exact .inl ⟨i, by omega, h2, h3⟩
    · rw [if_neg h, ih]
      constructor
      · rintro ⟨i, h1, h2, h3⟩; exact ⟨i, by omega, h2, h3⟩
      · rintro ⟨i, h1, h2, h3⟩
        by_cases c : i = k
        · subst c; exact absurd h3 h
        · exact ⟨i, by omega, h2, h3⟩
theorem corners_len (zs : List Int) : ∀ k : Nat, (cornersTo zs k).length ≤ k ∧ ((cornersTo zs k).length = k ↔ ∀ i, i < k → (hangL zs).getD i 0 = zs.getD i 0) := by
  intro k
  induction k with
  | zero => simp [cornersTo]
  | succ k ih =>
    obtain ⟨h1, h2⟩ := ih
    unfold cornersTo
    by_cases h : (hangL zs).getD k 0 = zs.getD k 0
    · rw [if_pos h]
      refine ⟨by simp; omega, ?_⟩
      rw [List.length_append, List.length_singleton, show ((cornersTo zs k).length + 1 = k + 1) ↔ (cornersTo zs k).length = k by omega, h2]
      constructor
      · intro h3 i hi
        by_cases c : i = k
        · rw [c]; exact h
        · exact h3 i (by omega)
      · intro h3 i hi; exact h3 i (by omega)
    · rw [if_neg h]
      refine ⟨by omega, ?_⟩
      constructor
      · intro h3; omega
      · intro h3; exact absurd (h3 k (by omega)) h
theorem corners_up (zs : List Int) : ∀ (k j : Nat), j + 1 < (cornersTo zs k).length → (cornersTo zs k).getD j 0 < (cornersTo zs k).getD (j + 1) 0 := by
  intro k
  induction k with
  | zero => intro j hj; simp [cornersTo] at hj
  | succ k ih =>
    intro j hj
    unfold cornersTo at hj ⊢
    by_cases h : (hangL zs).getD k 0 = zs.getD k 0
    · rw [if_pos h] at hj ⊢
      rw [List.length_append, List.length_singleton] at hj
      by_cases c : j + 1 < (cornersTo zs k).length
      · have := ih j c
        rw [getD_in (show j < (cornersTo zs k ++ [(k : Int)]).length by simp; omega), getD_in (show j + 1 < (cornersTo zs k ++ [(k : Int)]).length by simp; omega), List.getElem_append_left (by omega), List.getElem_append_left c]
        rwa [getD_in (show j < (cornersTo zs k).length by omega), getD_in c] at this
      · have e : j + 1 = (cornersTo zs k).length := by omega
        rw [getD_in (show j < (cornersTo zs k ++ [(k : Int)]).length by simp; omega), getD_in (show j + 1 < (cornersTo zs k ++ [(k : Int)]).length by simp; omega), List.getElem_append_left (by omega), List.getElem_append_right (by omega)]
        have hm := (corners_mem zs _ k).1 (List.getElem_mem (show j < (cornersTo zs k).length by omega))
        obtain ⟨i, h1, h2, _⟩ := hm
        rw [h2]
        simp
        omega
    · rw [if_neg h] at hj ⊢
      exact ih j hj
theorem corners_first {zs : List Int} (h : (hangL zs).getD 0 0 = zs.getD 0 0) : ∀ k : Nat, 0 < k → 0 < (cornersTo zs k).length ∧ (cornersTo zs k).getD 0 0 = 0 := by
  intro k
  induction k with
  | zero => intro hk; omega
  | succ k ih =>
    intro _
    by_cases hk : k = 0
    · subst hk
      unfold cornersTo
      rw [if_pos h]
      simp [cornersTo]
    · obtain ⟨h1, h2⟩ := ih (by omega)
      unfold cornersTo
      split
      · refine ⟨by simp, ?_⟩
        rw [getD_in (show 0 < (cornersTo zs k ++ [(k : Int)]).length by simp), List.getElem_append_left h1]
        rwa [getD_in h1] at h2
      · exact ⟨h1, h2⟩
theorem corners_last {zs : List Int} {n : Nat} (h : (hangL zs).getD n 0 = zs.getD n 0) : 0 < (cornersTo zs (n + 1)).length ∧ (cornersTo zs (n + 1)).getD ((cornersTo zs (n + 1)).length - 1) 0 = (n : Int) := by
  unfold cornersTo
  rw [if_pos h]
  refine ⟨by simp, ?_⟩
  rw [getD_in (by simp)]
  simp

/-- The first and the last place below k where the line of slope s meets the row; -1 and 0 if there is none. -/
def meetsTo (zs : List Int) (s : Int) : Nat → Int × Int
  | 0 => (-1, 0)
  | k + 1 => if s * (k : Int) - zs.getD k 0 = fallL zs s then (if (meetsTo zs s k).1 < 0 then (k : Int) else (meetsTo zs s k).1, (k : Int)) else meetsTo zs s k
theorem meetsTo_spec (zs : List Int) (s : Int) : ∀ k : Nat, (meetsTo zs s k = (-1, 0) ∧ ∀ j, j < k → s * (j : Int) - zs.getD j 0 ≠ fallL zs s) ∨
    ∃ i l : Nat, meetsTo zs s k = ((i : Int), (l : Int)) ∧ i ≤ l ∧ l < k ∧ s * (i : Int) - zs.getD i 0 = fallL zs s ∧ s * (l : Int) - zs.getD l 0 = fallL zs s ∧ ∀ j, j < k → s * (j : Int) - zs.getD j 0 = fallL zs s → i ≤ j ∧ j ≤ l := by
  intro k
  induction k with
  | zero => exact .inl ⟨rfl, fun j hj => by omega⟩
  | succ k ih =>
    by_cases h : s * (k : Int) - zs.getD k 0 = fallL zs s
    · right
      rcases ih with ⟨h1, h2⟩ | ⟨i, l, h1, h2, h3, h4, h5, h6⟩
      · refine ⟨k, k, ?_, Nat.le_refl _, by omega, h, h, fun j hj hm => ?_⟩
        · unfold meetsTo; rw [if_pos h, h1]; simp
        · by_cases c : j = k
          · omega
          · exact absurd hm (h2 j (by omega))
      · refine ⟨i, k, ?_, by omega, by omega, h4, h, fun j hj hm => ?_⟩
        · unfold meetsTo; rw [if_pos h, h1]
          have hi : ¬ ((i : Nat) : Int) < 0 := by omega
          simp only [hi, if_false]
        · by_cases c : j = k
          · omega
          · have := h6 j (by omega) hm; omega
    · rcases ih with ⟨h1, h2⟩ | ⟨i, l, h1, h2, h3, h4, h5, h6⟩
      · left
        refine ⟨by unfold meetsTo; rw [if_neg h]; exact h1, fun j hj => ?_⟩
        by_cases c : j = k
        · rw [c]; exact h
        · exact h2 j (by omega)
      · right
        refine ⟨i, l, by unfold meetsTo; rw [if_neg h]; exact h1, h2, by omega, h4, h5, fun j hj hm => ?_⟩
        by_cases c : j = k
        · rw [c] at hm; exact absurd hm h
        · exact h6 j (by omega) hm
theorem meets_spec (zs : List Int) (s : Int) (h0 : 0 < zs.length) : ∃ i l : Nat, meetsTo zs s zs.length = ((i : Int), (l : Int)) ∧ i ≤ l ∧ l < zs.length ∧ s * (i : Int) - zs.getD i 0 = fallL zs s ∧ s * (l : Int) - zs.getD l 0 = fallL zs s ∧ ∀ j, j < zs.length → s * (j : Int) - zs.getD j 0 = fallL zs s → i ≤ j ∧ j ≤ l := by
  rcases meetsTo_spec zs s zs.length with ⟨_, h2⟩ | h
  · obtain ⟨k, h3, h4⟩ := fall_at zs s h0
    exact absurd h4.symm (h2 k h3)
  · exact h
/-- Between two meeting places of a bent row every place is one. -/
theorem meets_mid {zs : List Int} {s : Int} (hb : bentB zs = true) {i l : Nat} (hl : l < zs.length) (hil : i ≤ l) (h1 : s * (i : Int) - zs.getD i 0 = fallL zs s) (h2 : s * (l : Int) - zs.getD l 0 = fallL zs s) :
    ∀ n, i ≤ n → n ≤ l → s * (n : Int) - zs.getD n 0 = fallL zs s := by
  intro n h3 h4
  have e : ∀ k (hk : k < zs.length), (chgL zs (tiltG zs 0 (-s))).getD k 0 = zs.getD k 0 - s * (k : Int) := fun k hk => by
    rw [chgL_getD _ _ k hk, getD_in hk]
    simp only [tiltG, Fin.getElem_fin, Int.mul_neg]
    rw [Int.mul_comm]
    omega
  have hb2 : bentB (chgL zs (tiltG zs 0 (-s))) = true := by rw [bent_tilt]; exact hb
  have := bent_mid hb2 (i := i) (k := l) (by rw [chgL_len]; exact hl) (by rw [e l hl, e i (by omega)]; omega) (fun j hj => by
    rw [chgL_len] at hj
    rw [e j hj, e i (by omega)]
    have := fall_ge zs s j hj
    omega) n h3 h4
  rw [e n (by omega), e i (by omega)] at this
  omega
/-- Lines of steeper slopes meet later. -/
theorem meets_later {zs : List Int} {s : Int} {l x : Nat} (hl : l < zs.length) (hx : x < zs.length) (h1 : s * (l : Int) - zs.getD l 0 = fallL zs s) (h2 : (s + 1) * (x : Int) - zs.getD x 0 = fallL zs (s + 1)) : l ≤ x := by
  have a := fall_ge zs s x hx
  have b := fall_ge zs (s + 1) l hl
  rw [Int.add_mul, Int.one_mul] at b h2
  omega

/-- A whole slope at a place of a bent row. -/
theorem bent_slope {zs : List Int} (hb : bentB zs = true) {i : Nat} (hi : i < zs.length) {s : Int} (h1 : i + 1 < zs.length → s ≤ zs.getD (i + 1) 0 - zs.getD i 0) (h2 : 0 < i → zs.getD i 0 - zs.getD (i - 1) 0 ≤ s) :
    ∀ k, k < zs.length → zs.getD i 0 + s * ((k : Int) - (i : Int)) ≤ zs.getD k 0 := by
  have up : ∀ k, i ≤ k → k < zs.length → zs.getD i 0 + s * ((k : Int) - (i : Int)) ≤ zs.getD k 0 := by
    intro k
    induction k with
    | zero => intro h1 _; obtain rfl : i = 0 := (by omega); simp
    | succ k ih =>
      intro h3 h4
      rcases Nat.lt_or_ge k i with h5 | h5
      · obtain rfl : i = k + 1 := (by omega)
        simp
      · have e1 := ih h5 (by omega)
        have e2 := bent_step hb k i h5 h4
        have e3 := h1 (by omega)
        rw [show (((k + 1 : Nat) : Int) - (i : Int)) = ((k : Int) - (i : Int)) + 1 by omega, Int.mul_add, Int.mul_one]
        omega
  have down : ∀ d, d ≤ i → zs.getD i 0 + s * (((i - d : Nat) : Int) - (i : Int)) ≤ zs.getD (i - d) 0 := by
    intro d
    induction d with
    | zero => intro _; simp
    | succ d ih =>
      intro h3
      have e1 := ih (by omega)
      have e2 := bent_step hb (i - 1) (i - (d + 1)) (by omega) (by omega)
      have e3 := h2 (by omega)
      rw [show i - (d + 1) + 1 = i - d by omega, show i - 1 + 1 = i by omega] at e2
      rw [show (((i - (d + 1) : Nat) : Int) - (i : Int)) = (((i - d : Nat) : Int) - (i : Int)) - 1 by omega, Int.mul_sub, Int.mul_one]
      omega
  intro k hk
  rcases Nat.lt_or_ge k i with h3 | h3
  · have := down (i - k) (by omega)
    rwa [show i - (i - k) = k by omega] at this
  · exact up k h3 hk

def turnL (zs : List Int) : List Int := zs.map fun z => 0 - z
theorem turn_len (zs : List Int) : (turnL zs).length = zs.length := by simp [turnL]
theorem turn_getD (zs : List Int) (k : Nat) (hk : k < zs.length) : (turnL zs).getD k 0 = 0 - zs.getD k 0 := by
  rw [getD_in (by rw [turn_len]; exact hk), getD_in hk]; simp [turnL]
/-- The line of slope s that begins at x lies nowhere below low and nowhere above high. -/
theorem between_iff (low high : List Int) (s x : Int) (h0 : 0 < low.length) (hl : low.length = high.length) : (fallL (turnL low) (0 - s) ≤ x ∧ x ≤ 0 - fallL high s) ↔ ∀ k, k < low.length → low.getD k 0 ≤ x + s * (k : Int) ∧ x + s * (k : Int) ≤ high.getD k 0 := by
  constructor
  · rintro ⟨h1, h2⟩ k hk
    have a := fall_ge (turnL low) (0 - s) k (by rw [turn_len]; exact hk)
    have b := fall_ge high s k (by omega)
    rw [turn_getD low k hk, Int.sub_mul, Int.zero_mul] at a
    omega
  · intro h
    constructor
    · refine fall_le _ _ _ (by rw [turn_len]; exact h0) fun k hk => ?_
      rw [turn_len] at hk
      have := (h k hk).1
      rw [turn_getD low k hk, Int.sub_mul, Int.zero_mul]
      omega
    · have : fallL high s ≤ 0 - x := fall_le _ _ _ (by omega) fun k hk => by have := (h k (by omega)).2; omega
      omega
/-- Between a row that bends down and a greater row that bends up there is a whole line, of a slope from -2000 to 2000. -/
theorem between_ex {low high : List Int} (h2 : twoB low high = true) (hle : ∀ k, k < low.length → low.getD k 0 ≤ high.getD k 0) (hh : bentB high = true) (hlo : bentB (turnL low) = true) : ∃ s, -2000 ≤ s ∧ s ≤ 2000 ∧ fallL (turnL low) (0 - s) ≤ 0 - fallL high s := by
  obtain ⟨hra, hrb, hl⟩ := twoB_true h2
  have hn := (rowB_true.1 hra).2
  -- the place with the least difference
  obtain ⟨i, hi, hmin⟩ : ∃ i, i < low.length ∧ ∀ k, k < low.length → high.getD i 0 - low.getD i 0 ≤ high.getD k 0 - low.getD k 0 := by
    obtain ⟨D, hD⟩ : ∃ D : List Int, D = (List.range low.length).map fun k => high.getD k 0 - low.getD k 0 := ⟨_, rfl⟩
    have hDl : D.length = low.length := by rw [hD]; simp
    have hDg : ∀ k, k < low.length → D.getD k 0 = high.getD k 0 - low.getD k 0 := fun k hk => by
      rw [getD_in (by omega)]; simp [hD]
    obtain ⟨i, h1, h3⟩ := fall_at D 0 (by omega)
    refine ⟨i, by omega, fun k hk => ?_⟩
    have := fall_ge D 0 k (by omega)
    rw [← hDg i (by omega), ← hDg k hk]
    simp only [Int.zero_mul] at h3 this
    omega
  have tg : ∀ k, k < low.length → (turnL low).getD k 0 = 0 - low.getD k 0 := turn_getD low
  -- a slope that serves both at this place
  have key : ∃ s, -2000 ≤ s ∧ s ≤ 2000 ∧ (i + 1 < high.length → s ≤ high.getD (i + 1) 0 - high.getD i 0) ∧ (0 < i → high.getD i 0 - high.getD (i - 1) 0 ≤ s) ∧ (i + 1 < low.length → low.getD (i + 1) 0 - low.getD i 0 ≤ s) ∧ (0 < i → s ≤ low.getD i 0 - low.getD (i - 1) 0) := by
    have r1 := row_getD hra i hi
    have r2 := row_getD hrb i (by omega)
    by_cases c1 : i + 1 < low.length
    · have r3 := row_getD hra (i + 1) c1
      have r4 := row_getD hrb (i + 1) (by omega)
      have m1 := hmin (i + 1) c1
      by_cases c2 : 0 < i
      · have r5 := row_getD hra (i - 1) (by omega)
        have r6 := row_getD hrb (i - 1) (by omega)
        have m2 := hmin (i - 1) (by omega)
        have b1 := bent_step hh i (i - 1) (by omega) (by omega)
        have b2 := bent_step hlo i (i - 1) (by omega) (by rw [turn_len]; exact c1)
        rw [show i - 1 + 1 = i by omega] at b1 b2
        rw [tg i hi, tg (i - 1) (by omega), tg (i + 1) c1] at b2
        by_cases c3 : high.getD i 0 - high.getD (i - 1) 0 ≤ low.getD (i + 1) 0 - low.getD i 0
        · exact ⟨low.getD (i + 1) 0 - low.getD i 0, by omega, by omega, fun _ => by omega, fun _ => c3, fun _ => Int.le_refl _, fun _ => by omega⟩
        · exact ⟨high.getD i 0 - high.getD (i - 1) 0, by omega, by omega, fun _ => by omega, fun _ => Int.le_refl _, fun _ => by omega, fun _ => by omega⟩
      · exact ⟨low.getD (i + 1) 0 - low.getD i 0, by omega, by omega, fun _ => by omega, fun h => absurd h c2, fun _ => Int.le_refl _, fun h => absurd h c2⟩
    · by_cases c2 : 0 < i
      · have r5 := row_getD hra (i - 1) (by omega)
        have r6 := row_getD hrb (i - 1) (by omega)
        have m2 := hmin (i - 1) (by omega)
        exact ⟨high.getD i 0 - high.getD (i - 1) 0, by omega, by omega, fun h => absurd h (by omega), fun _ => Int.le_refl _, fun h => absurd h c1, fun _ => by omega⟩
      · exact ⟨0, by omega, by omega, fun h => absurd h (by omega), fun h => absurd h c2, fun h => absurd h c1, fun h => absurd h c2⟩
  obtain ⟨s, s1, s2, k1, k2, k3, k4⟩ := key
  refine ⟨s, s1, s2, ?_⟩
  have hup := bent_slope hh (i := i) (by omega) k1 k2
  have hdn := bent_slope hlo (i := i) (by rw [turn_len]; exact hi) (s := 0 - s) (fun h => by rw [turn_len] at h; rw [tg i hi, tg (i + 1) h]; have := k3 h; omega) (fun h => by rw [tg i hi, tg (i - 1) (by omega)]; have := k4 h; omega)
  have hmid := hle i hi
  have f1 : fallL (turnL low) (0 - s) ≤ low.getD i 0 - s * (i : Int) := by
    refine fall_le _ _ _ (by rw [turn_len]; omega) fun k hk => ?_
    have := hdn k hk
    rw [turn_len] at hk
    rw [tg i hi, tg k hk, Int.sub_mul, Int.zero_mul, Int.mul_sub] at this
    rw [tg k hk, Int.sub_mul, Int.zero_mul]
    omega
  have f2 : fallL high s ≤ s * (i : Int) - high.getD i 0 := by
    refine fall_le _ _ _ (by omega) fun k hk => ?_
    have := hup k hk
    rw [Int.mul_sub] at this
    omega
  omega
end Go.Proofs.Ytpmmfngmnneekaa
