/-
  The row that hangs below a row, as a list: it is bent, has the same falls, and is the greatest bent row that is nowhere above. No program here. Conditions: none.
-/
import Derived.Test.YtpmmfngmnneekaaLineMath
namespace Go.Proofs.Ytpmmfngmnneekaa
open Go.RowKit

/-- The greatest entry at place i of the lines of the slopes -2000 to -2000 + m. -/
def topTo (zs : List Int) (i : Nat) : Nat → Int
  | 0 => lineAt zs i (-2000)
  | m + 1 => max (topTo zs i m) (lineAt zs i (-2000 + ((m : Int) + 1)))
def topAt (zs : List Int) (i : Nat) : Int := topTo zs i 4000
def hangL (zs : List Int) : List Int := (List.range zs.length).map (topAt zs)

theorem topTo_ge (zs : List Int) (i : Nat) : ∀ (m : Nat) (s : Int), -2000 ≤ s → s ≤ -2000 + (m : Int) → lineAt zs i s ≤ topTo zs i m := by
  intro m
  induction m with
  | zero => intro s h1 h2; rw [show s = -2000 by omega]; exact Int.le_refl _
  | succ m ih =>
    intro s h1 h2
    unfold topTo
    by_cases h : s = -2000 + ((m : Int) + 1)
    · rw [h]; exact Int.le_max_right _ _
    · exact Int.le_trans (ih s h1 (by omega)) (Int.le_max_left _ _)
theorem topTo_le (zs : List Int) (i : Nat) (v : Int) (h : ∀ s, lineAt zs i s ≤ v) : ∀ m : Nat, topTo zs i m ≤ v := by
  intro m
  induction m with
  | zero => exact h _
  | succ m ih => unfold topTo; exact Int.max_le.2 ⟨ih, h _⟩
theorem topAt_is {zs : List Int} (hr : rowB zs = true) (i : Nat) (hi : i < zs.length) : IsTop zs i (topAt zs i) := by
  obtain ⟨v, hv⟩ := top_ex hr i hi
  have e : topAt zs i = v := by
    apply Int.le_antisymm
    · exact topTo_le zs i v hv.1 4000
    · obtain ⟨s, h1, h2, h3⟩ := hv.2
      rw [← h3]; exact topTo_ge zs i 4000 s h1 (by omega)
  rw [e]; exact hv
theorem hang_len (zs : List Int) : (hangL zs).length = zs.length := by simp [hangL]
theorem hang_get (zs : List Int) (k : Nat) (hk : k < zs.length) : (hangL zs).getD k 0 = topAt zs k := by
  rw [getD_in (by rw [hang_len]; exact hk)]; simp [hangL]
theorem hang_is {zs : List Int} (hr : rowB zs = true) (k : Nat) (hk : k < zs.length) : IsTop zs k ((hangL zs).getD k 0) := by
  rw [hang_get zs k hk]; exact topAt_is hr k hk
theorem hang_le {zs : List Int} (hr : rowB zs = true) (k : Nat) (hk : k < zs.length) : (hangL zs).getD k 0 ≤ zs.getD k 0 := by
  obtain ⟨_, s, _, _, h⟩ := hang_is hr k hk
  have := fall_ge zs s k hk
  unfold lineAt at h
  omega
theorem hang_ge {zs : List Int} (hr : rowB zs = true) (k : Nat) (hk : k < zs.length) (s : Int) : s * (k : Int) - fallL zs s ≤ (hangL zs).getD k 0 := (hang_is hr k hk).1 s
theorem hang_row {zs : List Int} (hr : rowB zs = true) : rowB (hangL zs) = true := by
  have hl := (rowB_true.1 hr).2
  refine rowB_true.2 ⟨fun z hz => ?_, by rw [hang_len]; exact hl.1, by rw [hang_len]; exact hl.2⟩
  obtain ⟨k, hk, rfl⟩ := List.mem_iff_getElem.1 hz
  rw [hang_len] at hk
  rw [← getD_in (show k < (hangL zs).length by rw [hang_len]; exact hk)]
  have h1 := hang_le hr k hk
  have h2 := row_getD hr k hk
  have h3 := hang_ge hr k hk 0
  obtain ⟨j, hj, h4⟩ := fall_at zs 0 (by omega)
  have h5 := row_getD hr j hj
  simp only [Int.zero_mul] at h3 h4
  constructor <;> omega
theorem fall_hang {zs : List Int} (hr : rowB zs = true) (s : Int) : fallL (hangL zs) s = fallL zs s := by
  have hl := (rowB_true.1 hr).2
  apply Int.le_antisymm
  · refine fall_le _ s _ (by rw [hang_len]; omega) fun k hk => ?_
    rw [hang_len] at hk
    have := hang_ge hr k hk s
    omega
  · refine fall_le _ s _ (by omega) fun k hk => ?_
    have h1 := fall_ge (hangL zs) s k (by rw [hang_len]; exact hk)
    have h2 := hang_le hr k hk
    omega
theorem hang_hang {zs : List Int} (hr : rowB zs = true) : hangL (hangL zs) = hangL zs := by
  apply list_ext
  · rw [hang_len]
  · intro k hk
    rw [hang_len, hang_len] at hk
    have h1 := hang_is (hang_row hr) k (by rw [hang_len]; exact hk)
    have h2 := hang_is hr k hk
    have e : ∀ s, lineAt (hangL zs) k s = lineAt zs k s := fun s => by unfold lineAt; rw [fall_hang hr s]
    refine IsTop.uniq (zs := zs) (i := k) ⟨fun s => by rw [← e s]; exact h1.1 s, ?_⟩ h2
    obtain ⟨s, a, b, c⟩ := h1.2
    exact ⟨s, a, b, by rw [← e s]; exact c⟩
theorem hang_bent {zs : List Int} (hr : rowB zs = true) : bentB (hangL zs) = true := by
  rw [bentB_iff]
  intro k hk
  rw [hang_len] at hk
  obtain ⟨_, s, _, _, h⟩ := hang_is hr (k + 1) (by omega)
  have a := hang_ge hr k (by omega) s
  have b := hang_ge hr (k + 2) hk s
  unfold lineAt at h
  rw [Int.natCast_add, Int.mul_add] at h b
  simp only [Int.natCast_one, Int.mul_one] at h
  have e : s * ((2 : Nat) : Int) = 2 * s := by rw [Int.mul_comm]; rfl
  rw [e] at b
  omega

/-- Through each place of a bent row goes a line of a whole slope that is nowhere above it. -/
theorem bent_line {zs : List Int} (hb : bentB zs = true) (i : Nat) (hi : i < zs.length) : ∃ s : Int, ∀ k, k < zs.length → zs.getD i 0 + s * ((k : Int) - (i : Int)) ≤ zs.getD k 0 := by
  -- up from i by steps that are at least s
  have up : ∀ (s : Int), (∀ j, i ≤ j → j + 1 < zs.length → s ≤ zs.getD (j + 1) 0 - zs.getD j 0) → ∀ k, i ≤ k → k < zs.length → zs.getD i 0 + s * ((k : Int) - (i : Int)) ≤ zs.getD k 0 := by
    intro s hs k
    induction k with
    | zero => intro h1 _; obtain rfl : i = 0 := (by omega); simp
    | succ k ih =>
      intro h1 h2
      rcases Nat.lt_or_ge k i with h3 | h3
      · obtain rfl : i = k + 1 := (by omega)
        simp
      · have e1 := ih h3 (by omega)
        have e2 := hs k h3 h2
        rw [show (((k + 1 : Nat) : Int) - (i : Int)) = ((k : Int) - (i : Int)) + 1 by omega, Int.mul_add, Int.mul_one]
        omega
  have down : ∀ (s : Int), (∀ j, j < i → zs.getD (j + 1) 0 - zs.getD j 0 ≤ s) → ∀ d, d ≤ i → zs.getD i 0 + s * (((i - d : Nat) : Int) - (i : Int)) ≤ zs.getD (i - d) 0 := by
    intro s hs d
    induction d with
    | zero => intro _; simp
    | succ d ih =>
      intro h1
      have e1 := ih (by omega)
      have e2 := hs (i - (d + 1)) (by omega)
      rw [show i - (d + 1) + 1 = i - d by omega] at e2
      rw [show (((i - (d + 1) : Nat) : Int) - (i : Int)) = (((i - d : Nat) : Int) - (i : Int)) - 1 by omega, Int.mul_sub, Int.mul_one]
      omega
  by_cases h1 : i + 1 < zs.length
  · refine ⟨zs.getD (i + 1) 0 - zs.getD i 0, fun k hk => ?_⟩
    rcases Nat.lt_or_ge k i with h2 | h2
    · have := down (zs.getD (i + 1) 0 - zs.getD i 0) (fun j hj => bent_step hb i j (by omega) h1) (i - k) (by omega)
      rwa [show i - (i - k) = k by omega] at this
    · exact up _ (fun j h3 h4 => bent_step hb j i h3 h4) k h2 hk
  · by_cases h2 : i = 0
    · refine ⟨0, fun k hk => ?_⟩
      obtain rfl : k = i := (by omega)
      simp
    · refine ⟨zs.getD i 0 - zs.getD (i - 1) 0, fun k hk => ?_⟩
      have := down (zs.getD i 0 - zs.getD (i - 1) 0) (fun j hj => by
        have := bent_step hb (i - 1) j (by omega) (by omega)
        rwa [show i - 1 + 1 = i by omega] at this) (i - k) (by omega)
      rwa [show i - (i - k) = k by omega] at this
/-- A bent row that is nowhere above a row is nowhere above what hangs below it. -/
theorem bent_under {a b : List Int} (hb : rowB b = true) (hl : a.length = b.length) (ha : bentB a = true) (hle : ∀ k, k < a.length → a.getD k 0 ≤ b.getD k 0) : ∀ k, k < a.length → a.getD k 0 ≤ (hangL b).getD k 0 := by
  intro i hi
  obtain ⟨s, hs⟩ := bent_line ha i hi
  have h1 : fallL b s ≤ s * (i : Int) - a.getD i 0 := by
    refine fall_le b s _ (by omega) fun k hk => ?_
    have e1 := hs k (by omega)
    have e2 := hle k (by omega)
    rw [Int.mul_sub] at e1
    omega
  have h2 := hang_ge hb i (by omega) s
  omega
theorem bent_hang {zs : List Int} (hr : rowB zs = true) (hb : bentB zs = true) : hangL zs = zs := by
  apply list_ext (hang_len zs)
  intro k hk
  rw [hang_len] at hk
  exact Int.le_antisymm (hang_le hr k hk) (bent_under hr rfl hb (fun j _ => Int.le_refl _) k hk)
theorem hang_eq {zs : List Int} (hr : rowB zs = true) : hangL zs = zs ↔ bentB zs = true :=
  ⟨fun h => by rw [← h]; exact hang_bent hr, bent_hang hr⟩

/-- Rows below have falls above. -/
theorem fall_mono {a b : List Int} (h0 : 0 < b.length) (hl : a.length = b.length) (hle : ∀ k, k < a.length → a.getD k 0 ≤ b.getD k 0) (s : Int) : fallL b s ≤ fallL a s := by
  refine fall_le b s _ h0 fun k hk => ?_
  have h1 := fall_ge a s k (by omega)
  have h2 := hle k (by omega)
  omega
theorem hang_mono {a b : List Int} (ha : rowB a = true) (hb : rowB b = true) (hl : a.length = b.length) (hle : ∀ k, k < a.length → a.getD k 0 ≤ b.getD k 0) : ∀ k, k < a.length → (hangL a).getD k 0 ≤ (hangL b).getD k 0 := by
  intro k hk
  have h := bent_under hb (by rw [hang_len]; exact hl) (hang_bent ha) (fun j hj => by rw [hang_len] at hj; exact Int.le_trans (hang_le ha j hj) (hle j hj)) k (by rw [hang_len]; exact hk)
  exact h
/-- Tilted rows: the fall is shifted. -/
theorem fall_tilt {zs out : List Int} {f s : Int} (h : tiltM zs f s = some out) : fallL out s = fallL zs 0 - f := by
  obtain ⟨hr, _, _, hro, ho⟩ := tiltM_some h
  have hl := (rowB_true.1 hr).2
  have hlo : out.length = zs.length := by rw [ho, chgL_len]
  have e : ∀ k (hk : k < zs.length), out.getD k 0 = zs.getD k 0 + f + (k : Int) * s := fun k hk => by
    rw [ho, chgL_getD _ _ k hk, getD_in hk]; simp [tiltG]
  apply Int.le_antisymm
  · refine fall_le out s _ (by omega) fun k hk => ?_
    have := fall_ge zs 0 k (by omega)
    rw [e k (by omega), Int.mul_comm s (k : Int)]
    simp only [Int.zero_mul] at this
    omega
  · have h2 : fallL zs 0 ≤ fallL out s + f := by
      refine fall_le zs 0 _ (by omega) fun k hk => ?_
      have := fall_ge out s k (by omega)
      rw [e k hk, Int.mul_comm s (k : Int)] at this
      simp only [Int.zero_mul]
      omega
    omega
/-- The ends of a row are met by lines. -/
theorem hang_ends {zs : List Int} (hr : rowB zs = true) : (hangL zs).getD 0 0 = zs.getD 0 0 ∧ (hangL zs).getD (zs.length - 1) 0 = zs.getD (zs.length - 1) 0 := by
  have hl := (rowB_true.1 hr).2
  constructor
  · have h1 := hang_le hr 0 (by omega)
    have h2 := hang_ge hr 0 (by omega) (-2000)
    rw [fall_low hr (Int.le_refl _)] at h2
    simp only [Int.natCast_zero, Int.mul_zero] at h2
    omega
  · have h1 := hang_le hr (zs.length - 1) (by omega)
    have h2 := hang_ge hr (zs.length - 1) (by omega) 2000
    rw [fall_high hr (Int.le_refl _), show ((zs.length - 1 : Nat) : Int) = (zs.length : Int) - 1 by omega] at h2
    omega
/-- The least entry of a row is that of what hangs below it. -/
theorem hang_least {zs : List Int} (hr : rowB zs = true) : ∀ (x : Int), (∃ i, i < zs.length ∧ zs.getD i 0 = x) → (∀ j, j < zs.length → x ≤ zs.getD j 0) → (∀ j, j < zs.length → x ≤ (hangL zs).getD j 0) ∧ ∀ i, i < zs.length → zs.getD i 0 = x → (hangL zs).getD i 0 = x := by
  intro x hx hm
  have hl := (rowB_true.1 hr).2
  have hf : fallL zs 0 ≤ 0 - x := fall_le zs 0 _ (by omega) fun k hk => by have := hm k hk; simp only [Int.zero_mul]; omega
  have hge : ∀ j, j < zs.length → x ≤ (hangL zs).getD j 0 := fun j hj => by
    have := hang_ge hr j hj 0
    simp only [Int.zero_mul] at this
    omega
  exact ⟨hge, fun i hi h => by have h1 := hang_le hr i hi; have h2 := hge i hi; omega⟩
end Go.Proofs.Ytpmmfngmnneekaa
