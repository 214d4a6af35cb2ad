/-
  Falls of many slopes, rows that lead back from falls, and the search for a whole line between two rows, as lists. No program here. Conditions: none.
-/
import Derived.Test.YtpmmfngmnneekaaLineMath3
namespace Go.Proofs.Ytpmmfngmnneekaa
open Go.RowKit

/-- The falls of n slopes from one on. -/
def fallsL (zs : List Int) (f : Int) (n : Nat) : List Int := (List.range n).map fun (k : Nat) => fallL zs (f + (k : Int))
theorem falls_len (zs : List Int) (f : Int) (n : Nat) : (fallsL zs f n).length = n := by simp [fallsL]
theorem falls_getD (zs : List Int) (f : Int) (n k : Nat) (hk : k < n) : (fallsL zs f n).getD k 0 = fallL zs (f + (k : Int)) := by
  rw [getD_in (by rw [falls_len]; exact hk)]; simp [fallsL]
theorem falls_snoc (zs : List Int) (f : Int) (n : Nat) : fallsL zs f (n + 1) = fallsL zs f n ++ [fallL zs (f + (n : Int))] := by
  simp [fallsL, List.range_succ]

/-- The greatest of (f + k) i less the number told for k, over the numbers 0 to m. -/
def backTo (fs : List Int) (f : Int) (i : Nat) : Nat → Int
  | 0 => f * (i : Int) - fs.getD 0 0
  | m + 1 => max (backTo fs f i m) ((f + ((m : Int) + 1)) * (i : Int) - fs.getD (m + 1) 0)
def backAt (fs : List Int) (f : Int) (i : Nat) : Int := backTo fs f i (fs.length - 1)
def backL (n : Nat) (f : Int) (fs : List Int) : List Int := (List.range n).map (backAt fs f)
def fitsF (x : Int) : Bool := inB (-100000) 100000 x
def lineBackM (n f : Int) (fs : List Int) : Option (List Int) :=
  if inB 1 12 n && inB (-100) 100 f && inB 1 201 (fs.length : Int) && fs.all fitsF then (if rowB (backL n.toNat f fs) then some (backL n.toNat f fs) else none) else none
theorem backTo_ge (fs : List Int) (f : Int) (i : Nat) : ∀ (m k : Nat), k ≤ m → (f + (k : Int)) * (i : Int) - fs.getD k 0 ≤ backTo fs f i m := by
  intro m
  induction m with
  | zero => intro k hk; obtain rfl : k = 0 := (by omega); simp [backTo]
  | succ m ih =>
    intro k hk
    unfold backTo
    rcases Nat.lt_or_ge m k with h | h
    · obtain rfl : k = m + 1 := (by omega)
      exact Int.le_max_right _ _
    · exact Int.le_trans (ih k h) (Int.le_max_left _ _)
theorem backTo_at (fs : List Int) (f : Int) (i : Nat) : ∀ m : Nat, ∃ k : Nat, k ≤ m ∧ backTo fs f i m = (f + (k : Int)) * (i : Int) - fs.getD k 0 := by
  intro m
  induction m with
  | zero => exact ⟨0, Nat.le_refl _, by simp [backTo]⟩
  | succ m ih =>
    obtain ⟨k, h1, h2⟩ := ih
    by_cases h : backTo fs f i m ≤ (f + ((m : Int) + 1)) * (i : Int) - fs.getD (m + 1) 0
    · exact ⟨m + 1, Nat.le_refl _, by unfold backTo; rw [Int.max_eq_right h]; rfl⟩
    · exact ⟨k, by omega, by unfold backTo; rw [Int.max_eq_left (by omega), h2]⟩
theorem back_ge (fs : List Int) (f : Int) (i k : Nat) (hk : k < fs.length) : (f + (k : Int)) * (i : Int) - fs.getD k 0 ≤ backAt fs f i := backTo_ge fs f i _ k (by omega)
theorem back_at (fs : List Int) (f : Int) (i : Nat) (h0 : 0 < fs.length) : ∃ k : Nat, k < fs.length ∧ backAt fs f i = (f + (k : Int)) * (i : Int) - fs.getD k 0 := by
  obtain ⟨k, h1, h2⟩ := backTo_at fs f i (fs.length - 1)
  exact ⟨k, by omega, h2⟩
theorem back_len (n : Nat) (f : Int) (fs : List Int) : (backL n f fs).length = n := by simp [backL]
theorem back_getD (n : Nat) (f : Int) (fs : List Int) (i : Nat) (hi : i < n) : (backL n f fs).getD i 0 = backAt fs f i := by
  rw [getD_in (by rw [back_len]; exact hi)]; simp [backL]
theorem back_bent (n : Nat) (f : Int) (fs : List Int) (h0 : 0 < fs.length) : bentB (backL n f fs) = true := by
  rw [bentB_iff]
  intro i hi
  rw [back_len] at hi
  rw [back_getD n f fs i (by omega), back_getD n f fs (i + 1) (by omega), back_getD n f fs (i + 2) hi]
  obtain ⟨k, h1, h2⟩ := back_at fs f (i + 1) h0
  have a := back_ge fs f i k h1
  have b := back_ge fs f (i + 2) k h1
  obtain ⟨s, hs⟩ : ∃ s, f + (k : Int) = s := ⟨_, rfl⟩
  rw [hs] at a b h2
  rw [Int.natCast_add, Int.mul_add] at b h2
  simp only [Int.natCast_one, Int.mul_one] at h2
  have e : s * ((2 : Nat) : Int) = 2 * s := by rw [Int.mul_comm]; rfl
  rw [e] at b
  omega
theorem back_fall (n : Nat) (f : Int) (fs : List Int) (hn : 0 < n) (k : Nat) (hk : k < fs.length) : fallL (backL n f fs) (f + (k : Int)) ≤ fs.getD k 0 := by
  refine fall_le _ _ _ (by rw [back_len]; exact hn) fun i hi => ?_
  rw [back_len] at hi
  rw [back_getD n f fs i hi]
  have := back_ge fs f i k hk
  omega
theorem lineBackM_some {n f : Int} {fs out : List Int} (h : lineBackM n f fs = some out) : (1 ≤ n ∧ n ≤ 12) ∧ (-100 ≤ f ∧ f ≤ 100) ∧ (1 ≤ fs.length ∧ fs.length ≤ 201) ∧ (∀ x, x ∈ fs → -100000 ≤ x ∧ x ≤ 100000) ∧ out = backL n.toNat f fs ∧ rowB out = true := by
  unfold lineBackM at h
  split at h
  · rename_i hc
    rw [Bool.and_eq_true, Bool.and_eq_true, Bool.and_eq_true] at hc
    obtain ⟨⟨⟨h1, h2⟩, h3⟩, h4⟩ := hc
    split at h
    · rename_i hr
      have e := (Option.some.inj h).symm
      refine ⟨inB_true.1 h1, inB_true.1 h2, ?_, ?_, e, by rw [e]; exact hr⟩
      · have := inB_true.1 h3; omega
      · intro x hx; exact inB_true.1 (List.all_eq_true.1 h4 x hx)
    · cases h
  · cases h

/-- Entries differ at most by steps times the greatest step. -/
theorem steps_le {zs : List Int} {B : Int} (hs : ∀ j, j + 1 < zs.length → zs.getD (j + 1) 0 - zs.getD j 0 ≤ B) : ∀ (m k : Nat), k ≤ m → m < zs.length → zs.getD m 0 - zs.getD k 0 ≤ B * ((m : Int) - (k : Int)) := by
  intro m
  induction m with
  | zero => intro k h1 _; obtain rfl : k = 0 := (by omega); simp
  | succ m ih =>
    intro k h1 h2
    rcases Nat.lt_or_ge m k with h3 | h3
    · obtain rfl : k = m + 1 := (by omega)
      simp
    · have e1 := ih k h3 (by omega)
      have e2 := hs m h2
      rw [show (((m + 1 : Nat) : Int) - (k : Int)) = ((m : Int) - (k : Int)) + 1 by omega, Int.mul_add, Int.mul_one]
      omega
theorem steps_ge {zs : List Int} {B : Int} (hs : ∀ j, j + 1 < zs.length → B ≤ zs.getD (j + 1) 0 - zs.getD j 0) : ∀ (m k : Nat), k ≤ m → m < zs.length → B * ((m : Int) - (k : Int)) ≤ zs.getD m 0 - zs.getD k 0 := by
  intro m
  induction m with
  | zero => intro k h1 _; obtain rfl : k = 0 := (by omega); simp
  | succ m ih =>
    intro k h1 h2
    rcases Nat.lt_or_ge m k with h3 | h3
    · obtain rfl : k = m + 1 := (by omega)
      simp
    · have e1 := ih k h3 (by omega)
      have e2 := hs m h2
      rw [show (((m + 1 : Nat) : Int) - (k : Int)) = ((m : Int) - (k : Int)) + 1 by omega, Int.mul_add, Int.mul_one]
      omega
theorem fall_high_of {zs : List Int} {B s : Int} (h0 : 0 < zs.length) (hs : ∀ j, j + 1 < zs.length → zs.getD (j + 1) 0 - zs.getD j 0 ≤ B) (h : B ≤ s) : fallL zs s = s * ((zs.length : Int) - 1) - zs.getD (zs.length - 1) 0 := by
  apply Int.le_antisymm
  · refine fall_le zs s _ h0 fun k hk => ?_
    have e1 := steps_le hs (zs.length - 1) k (by omega) (by omega)
    rw [show ((zs.length - 1 : Nat) : Int) = (zs.length : Int) - 1 by omega] at e1
    have e2 : 0 ≤ (s - B) * ((zs.length : Int) - 1 - (k : Int)) := Int.mul_nonneg (by omega) (by omega)
    rw [Int.sub_mul, Int.mul_sub s] at e2
    omega
  · have := fall_ge zs s (zs.length - 1) (by omega)
    rwa [show ((zs.length - 1 : Nat) : Int) = (zs.length : Int) - 1 by omega] at this
theorem fall_low_of {zs : List Int} {B s : Int} (h0 : 0 < zs.length) (hs : ∀ j, j + 1 < zs.length → B ≤ zs.getD (j + 1) 0 - zs.getD j 0) (h : s ≤ B) : fallL zs s = 0 - zs.getD 0 0 := by
  apply Int.le_antisymm
  · refine fall_le zs s _ h0 fun k hk => ?_
    have e1 := steps_ge hs k 0 (by omega) hk
    have e2 : 0 ≤ (B - s) * (k : Int) := Int.mul_nonneg (by omega) (by omega)
    rw [Int.sub_mul] at e2
    simp only [Int.natCast_zero, Int.sub_zero] at e1
    omega
  · have := fall_ge zs s 0 h0
    simpa using this
/-- Where all steps are from -B to B, the greatest entry of a line is one of a slope from -B to B. -/
theorem top_in {zs : List Int} {B : Int} (hB : 0 ≤ B) (h0 : 0 < zs.length) (h1 : ∀ j, j + 1 < zs.length → -B ≤ zs.getD (j + 1) 0 - zs.getD j 0 ∧ zs.getD (j + 1) 0 - zs.getD j 0 ≤ B) {i : Nat} (hi : i < zs.length) {v : Int} (hv : IsTop zs i v) :
    ∃ s, -B ≤ s ∧ s ≤ B ∧ lineAt zs i s = v := by
  obtain ⟨ha, s, _, _, hs⟩ := hv
  have up : ∀ {s : Int}, B ≤ s → _ := fun {s} h => fall_high_of (s := s) h0 (fun j hj => (h1 j hj).2) h
  have dn : ∀ {s : Int}, s ≤ -B → _ := fun {s} h => fall_low_of (s := s) h0 (fun j hj => (h1 j hj).1) h
  by_cases c1 : B < s
  · refine ⟨B, by omega, Int.le_refl _, Int.le_antisymm (ha B) ?_⟩
    rw [← hs]
    unfold lineAt
    rw [up (Int.le_refl B), up (Int.le_of_lt c1)]
    have e : 0 ≤ (s - B) * ((zs.length : Int) - 1 - (i : Int)) := Int.mul_nonneg (by omega) (by omega)
    rw [Int.sub_mul, Int.mul_sub s, Int.mul_sub B] at e
    omega
  · by_cases c2 : s < -B
    · refine ⟨-B, Int.le_refl _, by omega, Int.le_antisymm (ha (-B)) ?_⟩
      rw [← hs]
      unfold lineAt
      rw [dn (Int.le_refl (-B)), dn (Int.le_of_lt c2)]
      have e : 0 ≤ (-B - s) * (i : Int) := Int.mul_nonneg (by omega) (by omega)
      rw [Int.sub_mul] at e
      omega
    · exact ⟨s, by omega, by omega, hs⟩
/-- Falls of all slopes lead back to what hangs below. -/
theorem back_hang {zs : List Int} (hr : rowB zs = true) (h1 : ∀ j, j + 1 < zs.length → -100 ≤ zs.getD (j + 1) 0 - zs.getD j 0 ∧ zs.getD (j + 1) 0 - zs.getD j 0 ≤ 100) : lineBackM (zs.length : Int) (-100) (fallsL zs (-100) 201) = some (hangL zs) := by
  have hl := (rowB_true.1 hr).2
  have e : backL zs.length (-100) (fallsL zs (-100) 201) = hangL zs := by
    apply list_ext
    · rw [back_len, hang_len]
    · intro i hi
      rw [back_len] at hi
      rw [back_getD _ _ _ i hi]
      have ht := hang_is hr i hi
      apply Int.le_antisymm
      · obtain ⟨k, h2, h3⟩ := back_at (fallsL zs (-100) 201) (-100) i (by rw [falls_len]; omega)
        rw [falls_len] at h2
        rw [h3, falls_getD _ _ _ k h2]
        exact ht.1 _
      · obtain ⟨s, h2, h3, h4⟩ := top_in (B := 100) (by omega) (by omega) h1 hi ht
        have h5 := back_ge (fallsL zs (-100) 201) (-100) i (s + 100).toNat (by rw [falls_len]; omega)
        rw [falls_getD _ _ _ _ (by omega), show -100 + (((s + 100).toNat : Nat) : Int) = s by omega] at h5
        unfold lineAt at h4
        omega
  unfold lineBackM
  rw [Int.toNat_natCast, e, if_pos (hang_row hr), if_pos]
  rw [Bool.and_eq_true, Bool.and_eq_true, Bool.and_eq_true]
  refine ⟨⟨⟨inB_true.2 (by omega), by decide⟩, by rw [falls_len]; decide⟩, ?_⟩
  rw [List.all_eq_true]
  intro x hx
  obtain ⟨k, hk, rfl⟩ := List.mem_iff_getElem.1 hx
  rw [falls_len] at hk
  rw [← getD_in, falls_getD _ _ _ k hk]
  have := fall_bd hr (s := -100 + (k : Int)) (by omega) (by omega)
  exact inB_true.2 (by omega)

/-- The first of the slopes -2000 to -2000 + m - 1 with a line between, and its first entry. -/
def betweenTo (low high : List Int) : Nat → Option (Int × Int)
  | 0 => none
  | m + 1 => match betweenTo low high m with
    | some r => some r
    | none => if fallL (turnL low) (0 - (-2000 + (m : Int))) ≤ 0 - fallL high (-2000 + (m : Int)) then some (fallL (turnL low) (0 - (-2000 + (m : Int))), -2000 + (m : Int)) else none
def betweenOk (low high : List Int) : Bool := belowB low high && bentB high && bentB (turnL low)
def betweenM (low high : List Int) : Option (Int × Int) := if betweenOk low high then betweenTo low high 4001 else none
theorem betweenTo_some {low high : List Int} {r : Int × Int} : ∀ m : Nat, betweenTo low high m = some r → (-2000 ≤ r.2 ∧ r.2 < -2000 + (m : Int)) ∧ r.1 = fallL (turnL low) (0 - r.2) ∧ fallL (turnL low) (0 - r.2) ≤ 0 - fallL high r.2 := by
  intro m
  induction m with
  | zero => intro h; cases h
  | succ m ih =>
    intro h
    unfold betweenTo at h
    cases hm : betweenTo low high m with
    | some q =>
      rw [hm] at h
      have e := Option.some.inj h
      subst e
      have := ih hm
      exact ⟨⟨this.1.1, by omega⟩, this.2⟩
    | none =>
      rw [hm] at h
      simp only at h
      split at h
      · rename_i hc
        have e := (Option.some.inj h).symm
        subst e
        exact ⟨⟨by omega, by omega⟩, rfl, hc⟩
      · cases h
theorem betweenTo_none {low high : List Int} : ∀ m : Nat, betweenTo low high m = none → ∀ s, -2000 ≤ s → s < -2000 + (m : Int) → ¬ fallL (turnL low) (0 - s) ≤ 0 - fallL high s := by
  intro m
  induction m with
  | zero => intro _ s h1 h2; omega
  | succ m ih =>
    intro h s h1 h2
    unfold betweenTo at h
    cases hm : betweenTo low high m with
    | some q => rw [hm] at h; cases h
    | none =>
      rw [hm] at h
      simp only at h
      split at h
      · cases h
      · rename_i hc
        by_cases c : s = -2000 + (m : Int)
        · rw [c]; exact hc
        · exact ih hm s h1 (by omega)
theorem leB_iff {a b : List Int} : leB a b = true ↔ ∀ k, k < a.length → a.getD k 0 ≤ b.getD k 0 := by
  unfold leB
  rw [List.all_eq_true]
  constructor
  · intro h k hk; exact of_decide_eq_true (h k (List.mem_range.2 hk))
  · intro h k hk; exact decide_eq_true (h k (List.mem_range.1 hk))
theorem belowB_true {a b : List Int} : belowB a b = true ↔ twoB a b = true ∧ ∀ k, k < a.length → a.getD k 0 ≤ b.getD k 0 := by
  unfold belowB; rw [Bool.and_eq_true, leB_iff]
theorem betweenM_iff (low high : List Int) : (betweenM low high).isSome = betweenOk low high := by
  unfold betweenM
  cases h : betweenOk low high with
  | false => simp
  | true =>
    rw [if_pos rfl]
    unfold betweenOk at h
    rw [Bool.and_eq_true, Bool.and_eq_true] at h
    obtain ⟨⟨h1, h2⟩, h3⟩ := h
    obtain ⟨h4, h5⟩ := belowB_true.1 h1
    obtain ⟨s, s1, s2, s3⟩ := between_ex h4 h5 h2 h3
    cases hm : betweenTo low high 4001 with
    | some r => rfl
    | none => exact absurd s3 (betweenTo_none 4001 hm s s1 (by omega))
/-- Whole lines stand between. -/
theorem betweenM_lies {low high : List Int} {x s : Int} (h : betweenM low high = some (x, s)) : low.length = high.length ∧ 0 < low.length ∧ (-2000 ≤ s ∧ s ≤ 2000) ∧ ∀ k, k < low.length → low.getD k 0 ≤ x + s * (k : Int) ∧ x + s * (k : Int) ≤ high.getD k 0 := by
  have hs := betweenM_iff low high
  rw [h] at hs
  unfold betweenM at h
  rw [← hs] at h
  simp only [Option.isSome_some, if_true] at h
  have hok : betweenOk low high = true := by rw [← hs]; rfl
  unfold betweenOk at hok
  rw [Bool.and_eq_true, Bool.and_eq_true] at hok
  obtain ⟨hra, hrb, hl⟩ := twoB_true (belowB_true.1 hok.1.1).1
  have hn := (rowB_true.1 hra).2
  obtain ⟨⟨h1, h2⟩, h3, h4⟩ := betweenTo_some 4001 h
  simp only at h1 h2 h3 h4
  refine ⟨hl, by omega, ⟨h1, by omega⟩, (between_iff low high s x (by omega) hl).1 ⟨by rw [h3]; exact Int.le_refl _, by rw [h3]; exact h4⟩⟩
end Go.Proofs.Ytpmmfngmnneekaa
