/-
  The slopes that the program asks for: the greatest entry of a line at a place comes by one of them; the least slope of a line between two rows, as the program reckons it. No program here. Conditions: none.
-/
import Derived.Test.YtkghpmjbclnojaaMathA
namespace Go.Proofs.Ytkghpmjbclnojaa
open Go.RowKit

theorem line_le (zs : List Int) (i k : Nat) (s : Int) (hk : k < zs.length) : lineAt zs i s ≤ s * (i : Int) - s * (k : Int) + zs.getD k 0 := by
  have := fall_ge zs s k hk
  unfold lineAt; omega
theorem le_line (zs : List Int) (i : Nat) (s v : Int) (h0 : 0 < zs.length) (h : ∀ k, k < zs.length → v ≤ s * (i : Int) - s * (k : Int) + zs.getD k 0) : v ≤ lineAt zs i s := by
  obtain ⟨k, h1, h2⟩ := fall_at zs s h0
  have := h k h1
  unfold lineAt; omega
theorem crossing (P : Int → Prop) (a : Int) : ∀ n : Nat, P a → ¬ P (a + (n : Int)) → ∃ s, a ≤ s ∧ s < a + (n : Int) ∧ P s ∧ ¬ P (s + 1) := by
  intro n
  induction n with
  | zero => intro h k; simp at k; exact absurd h k
  | succ n ih =>
    intro h k
    by_cases c : P (a + (n : Int))
    · exact ⟨a + (n : Int), by omega, by omega, c, by have e : a + ((n + 1 : Nat) : Int) = a + (n : Int) + 1 := (by omega); rwa [e] at k⟩
    · obtain ⟨s, h1, h2, h3, h4⟩ := ih h c
      exact ⟨s, h1, by omega, h3, h4⟩

/-- The slope from place i to place k, no greater. -/
def flS (zs : List Int) (i k : Nat) : Int := (zs.getD k 0 - zs.getD i 0) / ((k : Int) - (i : Int))
/-- The slopes that are asked for, of the first i places. -/
def AskedTo (zs : List Int) (p : Nat → Nat → Prop) (s : Int) : Prop := s = 0 ∨ ∃ i k, p i k ∧ i < k ∧ k < zs.length ∧ (s = flS zs i k ∨ s = flS zs i k + 1)
def Asked (zs : List Int) (s : Int) : Prop := AskedTo zs (fun _ _ => True) s
theorem flS_bd {zs : List Int} (hr : rowB zs = true) {i k : Nat} (h : i < k) (hk : k < zs.length) : -2000 ≤ flS zs i k ∧ flS zs i k ≤ 2000 := by
  have h1 := row_getD hr i (by omega)
  have h2 := row_getD hr k hk
  have hp : (0 : Int) < (k : Int) - (i : Int) := by omega
  constructor
  · exact (Int.le_ediv_iff_mul_le hp).2 (by omega)
  · have : flS zs i k < 2001 := Int.ediv_lt_of_lt_mul hp (by omega)
    omega
theorem asked_bd {zs : List Int} (hr : rowB zs = true) {p : Nat → Nat → Prop} {s : Int} (h : AskedTo zs p s) : -2000 ≤ s ∧ s ≤ 2001 := by
  rcases h with rfl | ⟨i, k, _, h1, h2, e⟩
  · omega
  · have := flS_bd hr h1 h2
    omega
theorem flS_eq {zs : List Int} {i k : Nat} {s : Int} (h : i < k) (h1 : s * ((k : Int) - (i : Int)) ≤ zs.getD k 0 - zs.getD i 0) (h2 : zs.getD k 0 - zs.getD i 0 < (s + 1) * ((k : Int) - (i : Int))) : flS zs i k = s := by
  have hp : (0 : Int) < (k : Int) - (i : Int) := by omega
  have a1 : s ≤ flS zs i k := (Int.le_ediv_iff_mul_le hp).2 h1
  have a2 : flS zs i k < s + 1 := Int.ediv_lt_of_lt_mul hp h2
  omega

theorem top_asked {zs : List Int} (hr : rowB zs = true) (i : Nat) (hi : i < zs.length) : ∃ s, Asked zs s ∧ lineAt zs i s = topAt zs i := by
  have ht := topAt_is hr i hi
  have h0 : 0 < zs.length := by omega
  by_cases hn : i + 1 < zs.length
  · -- a place with another one behind it
    have hP : ∃ s, -2000 ≤ s ∧ s < -2000 + ((4001 : Nat) : Int) ∧ (∃ j, j ≤ i ∧ ∀ k, i < k → k < zs.length → s * ((k : Int) - (j : Int)) ≤ zs.getD k 0 - zs.getD j 0) ∧
        ¬ (∃ j, j ≤ i ∧ ∀ k, i < k → k < zs.length → (s + 1) * ((k : Int) - (j : Int)) ≤ zs.getD k 0 - zs.getD j 0) := by
      refine crossing (fun s => ∃ j, j ≤ i ∧ ∀ k, i < k → k < zs.length → s * ((k : Int) - (j : Int)) ≤ zs.getD k 0 - zs.getD j 0) (-2000) 4001 ?_ ?_
      · refine ⟨i, Nat.le_refl _, fun k h1 h2 => ?_⟩
        have := row_getD hr i hi
        have := row_getD hr k h2
        omega
      · rintro ⟨j, hj, h⟩
        have := h (i + 1) (by omega) hn
        have := row_getD hr j (by omega)
        have := row_getD hr (i + 1) hn
        omega
    obtain ⟨s, _, _, ⟨j, hj, hle⟩, hno⟩ := hP
    have hno' : ∀ j, j ≤ i → ∃ k, i < k ∧ k < zs.length ∧ zs.getD k 0 - zs.getD j 0 < (s + 1) * ((k : Int) - (j : Int)) := by
      intro j' hj'
      refine Classical.byContradiction fun hc => hno ⟨j', hj', fun k h1 h2 => ?_⟩
      refine Classical.byContradiction fun h3 => hc ⟨k, h1, h2, by omega⟩
    obtain ⟨k, hk1, hk2, hlt⟩ := hno' j hj
    have hfl : flS zs j k = s := flS_eq (by omega) (hle k hk1 hk2) hlt
    obtain ⟨htop, t, _, _, hat⟩ := ht
    have hfor : ∀ (t u : Int) (m : Nat), t ≤ u → m ≤ i → t * ((i : Int) - (m : Int)) ≤ u * ((i : Int) - (m : Int)) := fun t u m h1 h2 => Int.mul_le_mul_of_nonneg_right h1 (by omega)
    have hback : ∀ (t u : Int) (m : Nat), u ≤ t → i ≤ m → t * ((i : Int) - (m : Int)) ≤ u * ((i : Int) - (m : Int)) := fun t u m h1 h2 => by
      have := Int.mul_le_mul_of_nonneg_right h1 (show (0 : Int) ≤ (m : Int) - (i : Int) by omega)
      simp only [Int.mul_sub] at this ⊢
      omega
    by_cases hts : t ≤ s
    · refine ⟨s, .inr ⟨j, k, trivial, by omega, hk2, .inl hfl.symm⟩, Int.le_antisymm (htop s) ?_⟩
      rw [← hat]
      refine le_line zs i s _ h0 fun m hm => ?_
      by_cases hmi : m ≤ i
      · have a1 := line_le zs i m t hm
        have a2 := hfor t s m hts hmi
        simp only [Int.mul_sub] at a2
        omega
      · have a1 := line_le zs i j t (by omega)
        have a2 := hfor t s j hts hj
        have a3 := hle m (by omega) hm
        simp only [Int.mul_sub] at a2 a3
        omega
    · refine ⟨s + 1, .inr ⟨j, k, trivial, by omega, hk2, .inr (by rw [hfl])⟩, Int.le_antisymm (htop _) ?_⟩
      rw [← hat]
      refine le_line zs i (s + 1) _ h0 fun m hm => ?_
      by_cases hmi : i < m
      · have a1 := line_le zs i m t hm
        have a2 := hback t (s + 1) m (by omega) (by omega)
        simp only [Int.mul_sub] at a2
        omega
      · obtain ⟨k', h1, h2, h3⟩ := hno' m (by omega)
        have a1 := line_le zs i k' t h2
        have a2 := hback t (s + 1) k' (by omega) (by omega)
        simp only [Int.mul_sub] at a2 h3
        omega
  · rcases Nat.eq_zero_or_pos i with rfl | hi0
    · -- a row of one entry
      have hl : zs.length = 1 := by omega
      refine ⟨0, .inl rfl, ?_⟩
      obtain ⟨htop, t, _, _, hat⟩ := ht
      have e : ∀ s, lineAt zs 0 s = zs.getD 0 0 := fun s => by unfold lineAt fallL; rw [hl]; simp [fallTo]
      rw [← hat, e, e]
    · have hP : ∃ s, -2001 ≤ s ∧ s < -2001 + ((4002 : Nat) : Int) ∧ (∃ j, j < i ∧ s * ((i : Int) - (j : Int)) ≤ zs.getD i 0 - zs.getD j 0) ∧
          ¬ (∃ j, j < i ∧ (s + 1) * ((i : Int) - (j : Int)) ≤ zs.getD i 0 - zs.getD j 0) := by
        refine crossing (fun s => ∃ j, j < i ∧ s * ((i : Int) - (j : Int)) ≤ zs.getD i 0 - zs.getD j 0) (-2001) 4002 ?_ ?_
        · refine ⟨i - 1, by omega, ?_⟩
          have := row_getD hr i hi
          have := row_getD hr (i - 1) (by omega)
          omega
        · rintro ⟨j, hj, h⟩
          have := row_getD hr i hi
          have := row_getD hr j (by omega)
          omega
      obtain ⟨s, _, _, ⟨j, hj, hle⟩, hno⟩ := hP
      have hno' : ∀ j, j < i → zs.getD i 0 - zs.getD j 0 < (s + 1) * ((i : Int) - (j : Int)) := fun j' hj' =>
        Classical.byContradiction fun hc => hno ⟨j', hj', by omega⟩
      have hfl : flS zs j i = s := flS_eq hj hle (hno' j hj)
      refine ⟨s + 1, .inr ⟨j, i, trivial, hj, hi, .inr (by rw [hfl])⟩, Int.le_antisymm (ht.1 _) ?_⟩
      refine Int.le_trans (b := zs.getD i 0) ?_ (le_line zs i (s + 1) _ h0 fun m hm => ?_)
      · obtain ⟨_, t, _, _, hat⟩ := ht
        have := line_le zs i i t hi
        omega
      · by_cases hmi : m = i
        · subst hmi; omega
        · have := hno' m (by omega)
          simp only [Int.mul_sub] at this
          omega

/-- v is the greatest of g over T; the least int64 if T is empty. -/
def MostOf (T : Int → Prop) (g : Int → Int) (v : Int) : Prop := (∀ s, T s → g s ≤ v) ∧ ((v = -9223372036854775808 ∧ ∀ s, ¬ T s) ∨ ∃ s, T s ∧ g s = v)
theorem MostOf.none {T : Int → Prop} {g : Int → Int} (h : ∀ s, ¬ T s) : MostOf T g (-9223372036854775808) := ⟨fun s hs => absurd hs (h s), .inl ⟨rfl, h⟩⟩
theorem MostOf.more {T T' : Int → Prop} {g : Int → Int} {v x : Int} (h : MostOf T g v) (hT : ∀ s, T' s ↔ T s ∨ s = x) (hx : -9223372036854775808 ≤ g x) : MostOf T' g (if v < g x then g x else v) := by
  obtain ⟨h1, h2⟩ := h
  by_cases c : v < g x
  · rw [if_pos c]
    refine ⟨fun s hs => ?_, .inr ⟨x, (hT x).2 (.inr rfl), rfl⟩⟩
    rcases (hT s).1 hs with k | rfl
    · have := h1 s k; omega
    · exact Int.le_refl _
  · rw [if_neg c]
    refine ⟨fun s hs => ?_, ?_⟩
    · rcases (hT s).1 hs with k | rfl
      · exact h1 s k
      · omega
    · rcases h2 with ⟨k1, k2⟩ | ⟨s, k1, k2⟩
      · exact .inr ⟨x, (hT x).2 (.inr rfl), by omega⟩
      · exact .inr ⟨s, (hT s).2 (.inl k1), k2⟩
theorem MostOf.eq {T : Int → Prop} {g : Int → Int} {v u : Int} (h : MostOf T g v) (h1 : ∀ s, T s → g s ≤ u) (h2 : ∃ s, T s ∧ g s = u) : v = u := by
  obtain ⟨k1, k2⟩ := h
  obtain ⟨s, hs, e⟩ := h2
  rcases k2 with ⟨_, k⟩ | ⟨t, ht, et⟩
  · exact absurd hs (k s)
  · have := h1 t ht
    have := k1 s hs
    omega
theorem MostOf.i64 {T : Int → Prop} {g : Int → Int} {v : Int} (h : MostOf T g v) (hg : ∀ s, T s → I64 (g s)) : I64 v := by
  rcases h.2 with ⟨e, _⟩ | ⟨s, hs, e⟩
  · subst e; exact ⟨by omega, by omega⟩
  · rw [← e]; exact hg s hs
theorem most_hang {zs : List Int} (hr : rowB zs = true) {i : Nat} (hi : i < zs.length) {v : Int} (h : MostOf (Asked zs) (fun s => -(fallL zs s) + (i : Int) * s) v) : v = topAt zs i := by
  obtain ⟨s, h1, h2⟩ := top_asked hr i hi
  have ht := topAt_is hr i hi
  have e : ∀ s, -(fallL zs s) + (i : Int) * s = lineAt zs i s := fun s => by unfold lineAt; rw [Int.mul_comm]; omega
  exact h.eq (fun s _ => by rw [e]; exact ht.1 s) ⟨s, h1, by rw [e]; exact h2⟩
theorem most_back {fs : List Int} {f : Int} (h0 : 0 < fs.length) {i : Nat} {v : Int} (h : MostOf (fun s => f ≤ s ∧ s < f + (fs.length : Int)) (fun s => -(fs.getD (s - f).toNat 0) + (i : Int) * s) v) : v = backAt fs f i := by
  refine h.eq (fun s hs => ?_) ?_
  · have := back_ge fs f i (s - f).toNat (by omega)
    rw [show f + (((s - f).toNat : Nat) : Int) = s by omega, Int.mul_comm] at this
    omega
  · obtain ⟨k, h1, h2⟩ := back_at fs f i h0
    refine ⟨f + (k : Int), by omega, ?_⟩
    rw [h2, show (f + (k : Int) - f).toNat = k by omega, Int.mul_comm]
    omega
/-- A corner: one of the lines that are asked for meets the row there. -/
theorem corner_asked {zs : List Int} (hr : rowB zs = true) {i : Nat} (hi : i < zs.length) : (∃ s, Asked zs s ∧ zs.getD i 0 - (i : Int) * s = -(fallL zs s)) ↔ (hangL zs).getD i 0 = zs.getD i 0 := by
  have ht := topAt_is hr i hi
  rw [hang_get _ _ hi]
  constructor
  · rintro ⟨s, _, e⟩
    have h1 := ht.1 s
    obtain ⟨_, t, _, _, hat⟩ := ht
    have h2 := line_le zs i i t hi
    unfold lineAt at h1
    rw [Int.mul_comm] at h1
    omega
  · intro e
    obtain ⟨s, h1, h2⟩ := top_asked hr i hi
    refine ⟨s, h1, ?_⟩
    unfold lineAt at h2
    rw [Int.mul_comm] at h2
    omega

/-- How the program finds where a line meets: ahead of the first place the number of entries stands for it. -/
def metTo (zs : List Int) (s : Int) (k : Nat) : Int × Int := (if (meetsTo zs s k).1 < 0 then (zs.length : Int) else (meetsTo zs s k).1, (meetsTo zs s k).2)
theorem metTo_zero (zs : List Int) (s : Int) : metTo zs s 0 = ((zs.length : Int), 0) := by simp [metTo, meetsTo]
theorem metTo_skip {zs : List Int} {s : Int} {k : Nat} (h : ¬ s * (k : Int) - zs.getD k 0 = fallL zs s) : metTo zs s (k + 1) = metTo zs s k := by
  unfold metTo; rw [show meetsTo zs s (k + 1) = meetsTo zs s k by rw [meetsTo, if_neg h]]
theorem metTo_hit {zs : List Int} {s : Int} {k : Nat} (hk : k < zs.length) (h : s * (k : Int) - zs.getD k 0 = fallL zs s) : metTo zs s (k + 1) = (min (metTo zs s k).1 (k : Int), (k : Int)) := by
  have e : meetsTo zs s (k + 1) = (if (meetsTo zs s k).1 < 0 then (k : Int) else (meetsTo zs s k).1, (k : Int)) := by rw [meetsTo, if_pos h]
  unfold metTo; rw [e]
  rcases meetsTo_spec zs s k with ⟨h1, _⟩ | ⟨i, l, h1, h2, h3, _⟩
  · rw [h1]; simp; omega
  · rw [h1]; simp; omega
theorem metTo_end {zs : List Int} {s : Int} (h0 : 0 < zs.length) : metTo zs s zs.length = meetsTo zs s zs.length := by
  obtain ⟨i, l, h1, _⟩ := meets_spec zs s h0
  unfold metTo; rw [h1]; simp; omega
theorem metTo_bd {zs : List Int} (s : Int) {k : Nat} (hk : k ≤ zs.length) : (0 ≤ (metTo zs s k).1 ∧ (metTo zs s k).1 ≤ (zs.length : Int)) ∧ 0 ≤ (metTo zs s k).2 ∧ (metTo zs s k).2 ≤ (zs.length : Int) := by
  unfold metTo
  rcases meetsTo_spec zs s k with ⟨h1, _⟩ | ⟨i, l, h1, h2, h3, _⟩
  · rw [h1]; simp
  · rw [h1]; simp; omega
def lineMeetsM (zs : List Int) (s : Int) : Option (Int × Int) := if rowB zs && inB (-3000) 3000 s then some (meetsTo zs s zs.length) else none
def lineFallM (zs : List Int) (s : Int) : Option Int := if rowB zs && inB (-3000) 3000 s then some (fallL zs s) else none
def lineFallsM (zs : List Int) (f t : Int) : Option (List Int) := if rowB zs && inB (-100) 100 f && inB f 100 t then some (fallsL zs f (t - f + 1).toNat) else none
def wholeB (zs : List Int) : Bool := rowB zs && decide (hangL zs = zs)

/-- The bound that two places lay on the slope of a line between. -/
def bdS (low high : List Int) (i k : Nat) : Int := -((high.getD i 0 - low.getD k 0) / ((k : Int) - (i : Int)))
/-- v is the greatest of -2000 and the bounds of the places told. -/
def LeastSo (low high : List Int) (p : Nat → Nat → Prop) (v : Int) : Prop :=
  -2000 ≤ v ∧ (∀ i k, p i k → i < k → k < low.length → bdS low high i k ≤ v) ∧ (v = -2000 ∨ ∃ i k, p i k ∧ i < k ∧ k < low.length ∧ bdS low high i k = v)
theorem LeastSo.more {low high : List Int} {p p' : Nat → Nat → Prop} {v : Int} {i0 k0 : Nat} (h : LeastSo low high p v) (h1 : i0 < k0) (h2 : k0 < low.length) (hp : ∀ i k, p' i k ↔ p i k ∨ (i = i0 ∧ k = k0)) :
    LeastSo low high p' (if v < bdS low high i0 k0 then bdS low high i0 k0 else v) := by
  obtain ⟨a, b, c⟩ := h
  by_cases hc : v < bdS low high i0 k0
  · rw [if_pos hc]
    refine ⟨by omega, fun i k hh hik hk => ?_, .inr ⟨i0, k0, (hp _ _).2 (.inr ⟨rfl, rfl⟩), h1, h2, rfl⟩⟩
    rcases (hp i k).1 hh with d | ⟨rfl, rfl⟩
    · have := b i k d hik hk; omega
    · exact Int.le_refl _
  · rw [if_neg hc]
    refine ⟨a, fun i k hh hik hk => ?_, ?_⟩
    · rcases (hp i k).1 hh with d | ⟨rfl, rfl⟩
      · exact b i k d hik hk
      · omega
    · rcases c with c | ⟨i, k, d, e⟩
      · exact .inl c
      · exact .inr ⟨i, k, (hp _ _).2 (.inl d), e⟩
theorem bdS_le {low high : List Int} {i k : Nat} (h : i < k) (s : Int) : bdS low high i k ≤ s ↔ low.getD k 0 - high.getD i 0 ≤ s * ((k : Int) - (i : Int)) := by
  have hp : (0 : Int) < (k : Int) - (i : Int) := by omega
  have e := Int.le_ediv_iff_mul_le (a := -s) (b := high.getD i 0 - low.getD k 0) hp
  rw [Int.neg_mul] at e
  unfold bdS
  constructor
  · intro h'
    have := e.1 (by omega)
    omega
  · intro h'
    have := e.2 (by omega)
    omega
theorem bdS_bd {low high : List Int} (hl : rowB low = true) (hh : rowB high = true) (he : low.length = high.length) {i k : Nat} (h : i < k) (hk : k < low.length) : -2000 ≤ bdS low high i k ∧ bdS low high i k ≤ 2000 := by
  have h1 := row_getD hh i (by omega)
  have h2 := row_getD hl k hk
  constructor
  · refine Classical.byContradiction fun hc => ?_
    have := (bdS_le (low := low) (high := high) h (-2001)).1 (by omega)
    omega
  · exact (bdS_le h 2000).2 (by omega)
theorem between_cond {low high : List Int} {s : Int} (h0 : 0 < low.length) (he : low.length = high.length) : fallL (turnL low) (0 - s) ≤ 0 - fallL high s ↔ ∀ j i, j < low.length → i < low.length → low.getD j 0 - s * (j : Int) ≤ high.getD i 0 - s * (i : Int) := by
  constructor
  · intro h j i hj hi
    have a := fall_ge (turnL low) (0 - s) j (by rw [turn_len]; exact hj)
    have b := fall_ge high s i (by omega)
    rw [turn_getD _ _ hj, Int.sub_mul] at a
    omega
  · intro h
    obtain ⟨j, h1, h2⟩ := fall_at (turnL low) (0 - s) (by rw [turn_len]; exact h0)
    obtain ⟨i, h3, h4⟩ := fall_at high s (by omega)
    rw [turn_len] at h1
    rw [turn_getD _ _ h1, Int.sub_mul] at h2
    have := h j i h1 (by omega)
    omega
theorem betweenTo_first {low high : List Int} {r : Int × Int} : ∀ m : Nat, betweenTo low high m = some r → ∀ s, -2000 ≤ s → s < r.2 → ¬ fallL (turnL low) (0 - s) ≤ 0 - fallL high s := by
  intro m
  induction m with
  | zero => intro h; simp [betweenTo] at h
  | succ m ih =>
    intro h
    unfold betweenTo at h
    cases hb : betweenTo low high m with
    | some r' => rw [hb] at h; simp at h; subst h; exact ih hb
    | none =>
      rw [hb] at h
      simp at h
      obtain ⟨_, rfl⟩ := h
      intro s h1 h2
      exact betweenTo_none m hb s h1 (by simpa using h2)
theorem between_least {low high : List Int} (hok : betweenOk low high = true) {v : Int} (hv : LeastSo low high (fun _ _ => True) v) : betweenM low high = some (fallL (turnL low) (0 - v), v) ∧ -2000 ≤ v ∧ v ≤ 2000 := by
  have hok' := hok
  unfold betweenOk at hok'
  simp only [Bool.and_eq_true] at hok'
  obtain ⟨⟨hbl, hbh⟩, hbt⟩ := hok'
  obtain ⟨h2, hle⟩ := belowB_true.1 hbl
  obtain ⟨hrl, hrh, he⟩ := twoB_true h2
  have h0 : 0 < low.length := by have := (rowB_true.1 hrl).2; omega
  obtain ⟨s0, a1, a2, a3⟩ := between_ex h2 hle hbh hbt
  obtain ⟨b1, b2, b3⟩ := hv
  have key : ∀ s, -2000 ≤ s → fallL (turnL low) (0 - s) ≤ 0 - fallL high s → v ≤ s := by
    intro s hs hc
    rcases b3 with rfl | ⟨i, k, _, hik, hk, e⟩
    · exact hs
    · rw [← e]
      refine (bdS_le hik s).2 ?_
      have := (between_cond h0 he).1 hc k i hk (by omega)
      rw [Int.mul_sub]; omega
  have hv0 := key s0 a1 a3
  have hcv : fallL (turnL low) (0 - v) ≤ 0 - fallL high v := by
    refine (between_cond h0 he).2 fun j i hj hi => ?_
    by_cases hji : i < j
    · have := (bdS_le hji v).1 (b2 i j trivial hji hj)
      rw [Int.mul_sub] at this; omega
    · have c1 := (between_cond h0 he).1 a3 j i hj hi
      have c2 := Int.mul_le_mul_of_nonneg_right hv0 (show (0 : Int) ≤ (i : Int) - (j : Int) by omega)
      simp only [Int.mul_sub] at c2
      omega
  refine ⟨?_, b1, by omega⟩
  unfold betweenM
  rw [if_pos hok]
  cases hb : betweenTo low high 4001 with
  | none => exact absurd hcv (betweenTo_none 4001 hb v b1 (by omega))
  | some r =>
    obtain ⟨c1, c2, c3⟩ := betweenTo_some 4001 hb
    have d1 := key r.2 c1.1 c3
    have d2 : ¬ v < r.2 := fun h => betweenTo_first 4001 hb v b1 h hcv
    have e : r.2 = v := by omega
    rw [← e, ← c2]
end Go.Proofs.Ytkghpmjbclnojaa
