/-
  Hills and rows with one valley as lists: round ones backwards, folded, raised; tops; least entries found by halving. No program here. Conditions: none.
-/
import Derived.Test.YtpmmfngmnneekaaHillMath
namespace Go.Proofs.Ytpmmfngmnneekaa
open Go.RowKit

/- One valley. -/
def riseB (zs : List Int) (i : Nat) : Bool := (List.range i).any fun j => decide (zs.getD j 0 < zs.getD (j + 1) 0)
theorem riseB_true {zs : List Int} {i : Nat} : riseB zs i = true ↔ ∃ j, j < i ∧ zs.getD j 0 < zs.getD (j + 1) 0 := by
  unfold riseB
  simp
theorem riseB_succ (zs : List Int) (i : Nat) : riseB zs (i + 1) = (riseB zs i || decide (zs.getD i 0 < zs.getD (i + 1) 0)) := by
  unfold riseB
  rw [List.range_succ, List.any_append]
  simp
def oneB (zs : List Int) : Bool := (List.range (zs.length - 1)).all fun i => !(riseB zs i && decide (zs.getD (i + 1) 0 < zs.getD i 0))
def One (zs : List Int) : Prop := ∀ j m, j ≤ m → m + 1 < zs.length → zs.getD j 0 < zs.getD (j + 1) 0 → zs.getD m 0 ≤ zs.getD (m + 1) 0
theorem oneB_iff (zs : List Int) : oneB zs = true ↔ One zs := by
  unfold oneB One
  rw [List.all_eq_true]
  constructor
  · intro h j m h1 h2 h3
    rcases Nat.eq_or_lt_of_le h1 with rfl | h1
    · omega
    · have g := h m (List.mem_range.2 (by omega))
      rw [riseB_true.2 ⟨j, h1, h3⟩] at g
      simp at g
      simpa using g
  · intro h i hi
    rw [List.mem_range] at hi
    by_cases c : riseB zs i = true
    · obtain ⟨j, h1, h2⟩ := riseB_true.1 c
      have := h j i (by omega) (by omega) h2
      rw [c, decide_eq_false (by omega)]
      rfl
    · simp only [Bool.not_eq_true] at c
      rw [c]; rfl
theorem oneB_false {zs : List Int} {i : Nat} (hi : i + 1 < zs.length) (hr : riseB zs i = true) (hf : zs.getD (i + 1) 0 < zs.getD i 0) : oneB zs = false := by
  rw [← Bool.not_eq_true, oneB_iff]
  intro h
  obtain ⟨j, h1, h2⟩ := riseB_true.1 hr
  have := h j i (by omega) hi h2
  omega
theorem one_back {zs : List Int} (h : One zs) : One zs.reverse := by
  intro j m h1 h2 h3
  rw [List.length_reverse] at h2
  rw [reverse_getD zs j (by omega), reverse_getD zs (j + 1) (by omega)] at h3
  rw [reverse_getD zs m (by omega), reverse_getD zs (m + 1) h2]
  refine Int.not_lt.1 fun c => ?_
  have g := h (zs.length - 1 - (m + 1)) (zs.length - 1 - (j + 1)) (by omega) (by omega) (by rw [show zs.length - 1 - (m + 1) + 1 = zs.length - 1 - m by omega]; exact c)
  rw [show zs.length - 1 - (j + 1) + 1 = zs.length - 1 - j by omega] at g
  omega
theorem bent_one {zs : List Int} (h : bentB zs = true) : One zs := by
  intro j m h1 h2 h3
  have := bent_step h m j h1 h2
  omega
def valleyOneB (zs : List Int) : Bool := rowB zs && oneB zs

/-- The first place of a least entry. -/
def Fl (zs : List Int) (i : Nat) : Prop := i < zs.length ∧ (∀ j, j < zs.length → zs.getD i 0 ≤ zs.getD j 0) ∧ ∀ j, j < i → zs.getD i 0 < zs.getD j 0
theorem Fl.uniq {zs : List Int} {i j : Nat} (h : Fl zs i) (h' : Fl zs j) : i = j := by
  obtain ⟨h1, h2, h3⟩ := h
  obtain ⟨g1, g2, g3⟩ := h'
  rcases Nat.lt_trichotomy i j with c | c | c
  · have := g3 i c; have := h2 j g1; omega
  · exact c
  · have := h3 j c; have := g2 i h1; omega
theorem least_fl {zs : List Int} (hr : rowB zs = true) : ∃ i : Nat, leastB zs = (i : Int) ∧ Fl zs i := by
  obtain ⟨x, i, k, -, e2, -, h1, h2, h3, -, h5⟩ := least_spec hr
  refine ⟨i, e2, by omega, fun j hj => by rw [h3]; exact (h5 j hj).1, fun j hj => ?_⟩
  have g := h5 j (by omega)
  rw [h3]
  refine Int.not_le.1 fun c => ?_
  have := (g.2.1 (by omega)).1
  omega
theorem one_fall {zs : List Int} (h : One zs) {m : Nat} (hm : m + 1 < zs.length) (c : zs.getD (m + 1) 0 < zs.getD m 0) : ∀ j, j ≤ m → zs.getD m 0 ≤ zs.getD j 0 := by
  intro j hj
  obtain ⟨d, rfl⟩ : ∃ d, m = j + d := ⟨m - j, by omega⟩
  have key : ∀ e, e ≤ d → zs.getD (j + d) 0 ≤ zs.getD (j + d - e) 0 := by
    intro e
    induction e with
    | zero => intro _; exact Int.le_refl _
    | succ e ih =>
      intro he
      have g := ih (by omega)
      refine Int.le_trans g (Int.not_lt.1 fun c' => ?_)
      have := h (j + d - (e + 1)) (j + d) (by omega) hm (by rw [show j + d - (e + 1) + 1 = j + d - e by omega]; exact c')
      omega
  have := key d (Nat.le_refl _)
  rwa [show j + d - d = j by omega] at this
theorem one_rise {zs : List Int} (h : One zs) {m : Nat} (c : zs.getD m 0 < zs.getD (m + 1) 0) : ∀ j, m + 1 ≤ j → j < zs.length → zs.getD (m + 1) 0 ≤ zs.getD j 0 := by
  intro j hj
  obtain ⟨d, rfl⟩ : ∃ d, j = m + 1 + d := ⟨j - (m + 1), by omega⟩
  clear hj
  induction d with
  | zero => intro _; exact Int.le_refl _
  | succ d ih =>
    intro hl
    have g := ih (by omega)
    have := h m (m + 1 + d) (by omega) (by omega) c
    rw [show m + 1 + d + 1 = m + 1 + (d + 1) by omega] at this
    omega
/- Halving: where the first least entry is. -/
theorem fl_stay {zs : List Int} {i m : Nat} (hi : Fl zs i) (h : ∀ j, m < j → j < zs.length → zs.getD m 0 ≤ zs.getD j 0) : i ≤ m := by
  obtain ⟨h1, h2, h3⟩ := hi
  refine Classical.byContradiction fun c => ?_
  have := h3 m (by omega)
  have := h i (by omega) h1
  omega
theorem fl_rise {zs : List Int} {i m : Nat} (ho : One zs) (hi : Fl zs i) (c : zs.getD m 0 < zs.getD (m + 1) 0) : i ≤ m :=
  fl_stay hi fun j h1 h2 => by have := one_rise ho c j (by omega) h2; omega
theorem fl_fall {zs : List Int} {i m : Nat} (ho : One zs) (hi : Fl zs i) (c : zs.getD (m + 1) 0 < zs.getD m 0) (hm : m + 1 < zs.length) : m + 1 ≤ i := by
  obtain ⟨h1, h2, h3⟩ := hi
  refine Classical.byContradiction fun c' => ?_
  have := one_fall ho hm c i (by omega)
  have := h2 (m + 1) hm
  omega
/-- Some entry further on is less: no rise up to here, and the first least entry lies further on. -/
theorem fl_less {zs : List Int} {i m n : Nat} (ho : One zs) (hi : Fl zs i) (hmn : m < n) (hn : n < zs.length) (c : zs.getD n 0 < zs.getD m 0) : m + 1 ≤ i := by
  obtain ⟨h1, h2, h3⟩ := hi
  refine Classical.byContradiction fun c' => ?_
  -- a fall between m and n
  have key : ∀ d, m + d < zs.length → zs.getD (m + d) 0 < zs.getD m 0 → ∃ k, m ≤ k ∧ k + 1 < zs.length ∧ zs.getD (k + 1) 0 < zs.getD k 0 ∧ zs.getD m 0 ≤ zs.getD k 0 := by
    intro d
    induction d with
    | zero => intro _ h; exact absurd h (Int.lt_irrefl _)
    | succ d ih =>
      intro h g
      by_cases e : zs.getD (m + d) 0 < zs.getD m 0
      · exact ih (by omega) e
      · exact ⟨m + d, by omega, by omega, by rw [show m + d + 1 = m + (d + 1) by omega]; omega, by omega⟩
  obtain ⟨k, k1, k2, k3, k4⟩ := key (n - m) (by omega) (by rw [show m + (n - m) = n by omega]; exact c)
  have := one_fall ho k2 k3 i (by omega)
  have := h2 n hn
  omega

/- Hills. -/
def negL (zs : List Int) : List Int := zs.map fun z => 0 - z
theorem neg_len (zs : List Int) : (negL zs).length = zs.length := by simp [negL]
theorem neg_getD (zs : List Int) (k : Nat) : (negL zs).getD k 0 = 0 - zs.getD k 0 := by
  by_cases h : k < zs.length
  · rw [getD_in (by rw [neg_len]; exact h), getD_in h]; simp [negL]
  · rw [List.getD_eq_getElem?_getD, List.getD_eq_getElem?_getD, List.getElem?_eq_none (by rw [neg_len]; omega), List.getElem?_eq_none (by omega)]; rfl
theorem neg_row {zs : List Int} (h : rowB zs = true) : rowB (negL zs) = true := by
  rw [rowB_true] at h ⊢
  rw [neg_len]
  refine ⟨fun z hz => ?_, h.2⟩
  unfold negL at hz
  rw [List.mem_map] at hz
  obtain ⟨y, hy, rfl⟩ := hz
  have := h.1 y hy
  omega
def nnB (zs : List Int) : Bool := zs.all fun z => decide (0 ≤ z)
def hillB (zs : List Int) : Bool := nnB zs && rowB zs
theorem nnB_nn {zs : List Int} (h : nnB zs = true) : Nn fun k => zs.getD k 0 := by
  intro k
  show 0 ≤ zs.getD k 0
  by_cases c : k < zs.length
  · rw [getD_in c]
    unfold nnB at h
    rw [List.all_eq_true] at h
    simpa using h _ (List.getElem_mem c)
  · rw [List.getD_eq_getElem?_getD, List.getElem?_eq_none (by omega)]; exact Int.le_refl _
theorem nnB_of {zs : List Int} (h : ∀ k, k < zs.length → 0 ≤ zs.getD k 0) : nnB zs = true := by
  unfold nnB
  rw [List.all_eq_true]
  intro z hz
  obtain ⟨k, hk, rfl⟩ := List.getElem_of_mem hz
  have := h k hk
  rw [getD_in hk] at this
  simpa using this
theorem nnB_false {zs : List Int} {k : Nat} (h : zs.getD k 0 < 0) : nnB zs = false := by
  rw [← Bool.not_eq_true]
  intro c
  have : 0 ≤ zs.getD k 0 := nnB_nn c k
  omega
theorem getD_out {zs : List Int} {k : Nat} (h : zs.length ≤ k) : zs.getD k 0 = 0 := by
  rw [List.getD_eq_getElem?_getD, List.getElem?_eq_none h]; rfl
/-- A 0 behind a positive entry, up to the place i. -/
def endsB (zs : List Int) (i : Nat) : Bool := (List.range i).any fun j => decide (0 < zs.getD j 0) && decide (zs.getD (j + 1) 0 = 0)
theorem endsB_true {zs : List Int} {i : Nat} : endsB zs i = true ↔ ∃ j, j < i ∧ 0 < zs.getD j 0 ∧ zs.getD (j + 1) 0 = 0 := by
  unfold endsB
  simp
theorem endsB_succ (zs : List Int) (i : Nat) : endsB zs (i + 1) = (endsB zs i || decide (0 < zs.getD i 0) && decide (zs.getD (i + 1) 0 = 0)) := by
  unfold endsB
  rw [List.range_succ, List.any_append]
  simp
def roundB (zs : List Int) : Bool := (List.range (zs.length - 1)).all fun i => !(endsB zs (i + 1) && decide (0 < zs.getD (i + 1) 0)) && !(decide (i + 2 < zs.length) && decide (zs.getD (i + 1) 0 * zs.getD (i + 1) 0 < zs.getD i 0 * zs.getD (i + 2) 0))
def Rd (zs : List Int) : Prop := (∀ i j k, i < j → j < k → k < zs.length → 0 < zs.getD i 0 → 0 < zs.getD k 0 → 0 < zs.getD j 0) ∧ ∀ k, k + 2 < zs.length → zs.getD k 0 * zs.getD (k + 2) 0 ≤ zs.getD (k + 1) 0 * zs.getD (k + 1) 0
theorem roundB_iff {zs : List Int} (hn : nnB zs = true) : roundB zs = true ↔ Rd zs := by
  have nn := nnB_nn hn
  unfold roundB
  rw [List.all_eq_true]
  constructor
  · intro h
    refine ⟨fun i j k h1 h2 h3 h4 h5 => ?_, fun k hk => ?_⟩
    · refine Classical.byContradiction fun c => ?_
      -- the first 0 behind i
      have key : ∀ d, i + d ≤ j → 0 < zs.getD (i + d) 0 ∨ ∃ p, p < i + d ∧ 0 < zs.getD p 0 ∧ zs.getD (p + 1) 0 = 0 := by
        intro d
        induction d with
        | zero => intro _; exact .inl h4
        | succ d ih =>
          intro hd
          rcases ih (by omega) with g | ⟨p, g1, g2⟩
          · by_cases e : zs.getD (i + d + 1) 0 = 0
            · exact .inr ⟨i + d, by omega, g, e⟩
            · have : 0 ≤ zs.getD (i + d + 1) 0 := nn (i + d + 1)
              exact .inl (by rw [show i + (d + 1) = i + d + 1 by omega]; omega)
          · exact .inr ⟨p, by omega, g2⟩
      rcases key (j - i) (by omega) with g | ⟨p, g1, g2⟩
      · rw [show i + (j - i) = j by omega] at g; exact c g
      · have q := h (k - 1) (List.mem_range.2 (by omega))
        rw [show k - 1 + 1 = k by omega, endsB_true.2 ⟨p, by omega, g2⟩, decide_eq_true h5] at q
        simp at q
    · have q := h k (List.mem_range.2 (by omega))
      rw [decide_eq_true hk, Bool.and_eq_true] at q
      simpa using q.2
  · rintro ⟨h1, h2⟩ i hi
    rw [List.mem_range] at hi
    rw [Bool.and_eq_true]
    constructor
    · by_cases c : endsB zs (i + 1) = true
      · obtain ⟨j, g1, g2, g3⟩ := endsB_true.1 c
        by_cases e : 0 < zs.getD (i + 1) 0
        · rcases Nat.eq_or_lt_of_le (show j + 1 ≤ i + 1 by omega) with e' | e'
          · rw [e'] at g3; omega
          · have := h1 j (j + 1) (i + 1) (by omega) e' (by omega) g2 e
            omega
        · rw [decide_eq_false e]; simp
      · simp only [Bool.not_eq_true] at c
        rw [c]; rfl
    · by_cases c : i + 2 < zs.length
      · have := h2 i c
        rw [decide_eq_false (show ¬ zs.getD (i + 1) 0 * zs.getD (i + 1) 0 < zs.getD i 0 * zs.getD (i + 2) 0 by omega)]
        simp
      · rw [decide_eq_false c]; rfl
theorem rd_pf1 {zs : List Int} (hn : nnB zs = true) : Rd zs ↔ Pf1 fun k => zs.getD k 0 := by
  have nn := nnB_nn hn
  constructor
  · rintro ⟨h1, h2⟩
    refine pf1_of nn (fun i j k p1 p2 p3 p4 => ?_) fun k => ?_
    · refine h1 i j k p1 p2 (Classical.byContradiction fun c => ?_) p3 p4
      have : zs.getD k 0 = 0 := getD_out (by omega)
      have : 0 < zs.getD k 0 := p4
      omega
    · by_cases c : k + 2 < zs.length
      · exact h2 k c
      · show zs.getD k 0 * zs.getD (k + 2) 0 ≤ zs.getD (k + 1) 0 * zs.getD (k + 1) 0
        rw [getD_out (k := k + 2) (by omega), Int.mul_zero]
        exact Int.mul_nonneg (nn (k + 1)) (nn (k + 1))
  · intro h
    exact ⟨fun i j k p1 p2 _ p4 p5 => pf1_zeros h nn p1 p2 p4 p5, fun k _ => h k k (Nat.le_refl _)⟩
theorem nn_back {zs : List Int} (hn : nnB zs = true) : nnB zs.reverse = true := by
  unfold nnB at hn ⊢
  rw [List.all_reverse]; exact hn
theorem rd_back {zs : List Int} (h : Rd zs) : Rd zs.reverse := by
  obtain ⟨h1, h2⟩ := h
  refine ⟨fun i j k p1 p2 p3 p4 p5 => ?_, fun k hk => ?_⟩
  · rw [List.length_reverse] at p3
    rw [reverse_getD zs _ (by omega)] at p4 p5 ⊢
    exact h1 (zs.length - 1 - k) (zs.length - 1 - j) (zs.length - 1 - i) (by omega) (by omega) (by omega) p5 p4
  · rw [List.length_reverse] at hk
    rw [reverse_getD zs _ (by omega), reverse_getD zs _ (by omega), reverse_getD zs _ (by omega)]
    have := h2 (zs.length - 1 - (k + 2)) (by omega)
    rw [show zs.length - 1 - (k + 2) + 2 = zs.length - 1 - k by omega, show zs.length - 1 - (k + 2) + 1 = zs.length - 1 - (k + 1) by omega] at this
    rw [Int.mul_comm]
    exact this
theorem rd_one {zs : List Int} (hn : nnB zs = true) (h : Rd zs) : One (negL zs) := by
  intro j m h1 h2 h3
  rw [neg_getD, neg_getD] at h3 ⊢
  have nn := nnB_nn hn
  have pf := pf_of ((rd_pf1 hn).1 h) nn
  refine Int.not_lt.1 fun c => ?_
  exact pf_valley pf nn h1 (show zs.getD (j + 1) 0 < zs.getD j 0 by omega) (show zs.getD m 0 < zs.getD (m + 1) 0 by omega)

/- Folding. -/
def foldHL (a b : List Int) : List Int := (List.range (a.length + b.length - 1)).map (foldF (fun k => a.getD k 0) fun k => b.getD k 0)
theorem fold_out (a b : List Int) {k : Nat} (h : a.length + b.length - 1 ≤ k) (h0 : 0 < b.length) : foldF (fun k => a.getD k 0) (fun k => b.getD k 0) k = 0 := by
  unfold foldF
  rw [sumN_congr (g := fun _ => 0) fun l hl => ?_, sumN_zero]
  unfold backF
  rw [if_pos (by omega)]
  show a.getD l 0 * b.getD (k - l) 0 = 0
  by_cases c : l < a.length
  · rw [getD_out (zs := b) (by omega), Int.mul_zero]
  · rw [getD_out (zs := a) (by omega), Int.zero_mul]
theorem fold_len (a b : List Int) : (foldHL a b).length = a.length + b.length - 1 := by simp [foldHL]
theorem fold_getD (a b : List Int) (h0 : 0 < b.length) (k : Nat) : (foldHL a b).getD k 0 = foldF (fun k => a.getD k 0) (fun k => b.getD k 0) k := by
  by_cases c : k < a.length + b.length - 1
  · rw [getD_in (by rw [fold_len]; exact c)]; simp [foldHL]
  · rw [getD_out (by rw [fold_len]; omega), fold_out a b (by omega) h0]
theorem fold_rd {a b : List Int} (h0 : 0 < b.length) (na : nnB a = true) (nb : nnB b = true) (ha : Rd a) (hb : Rd b) : nnB (foldHL a b) = true ∧ Rd (foldHL a b) := by
  have fa := nnB_nn na
  have fb := nnB_nn nb
  have h1 : nnB (foldHL a b) = true := nnB_of fun k _ => by rw [fold_getD a b h0]; exact fold_nn fa fb k
  refine ⟨h1, (rd_pf1 h1).2 fun i j hij => ?_⟩
  show (foldHL a b).getD i 0 * (foldHL a b).getD (j + 2) 0 ≤ (foldHL a b).getD (i + 1) 0 * (foldHL a b).getD (j + 1) 0
  rw [fold_getD a b h0, fold_getD a b h0, fold_getD a b h0, fold_getD a b h0]
  exact fold_step (pf_of ((rd_pf1 na).1 ha) fa) fa (pf_of ((rd_pf1 nb).1 hb) fb) fb hij
theorem sumN_back (f : Nat → Int) (n : Nat) : sumN f n = sumN (fun k => f (n - 1 - k)) n := by
  induction n with
  | zero => rfl
  | succ n ih =>
    rw [sumN_first (fun k => f (n + 1 - 1 - k)), sumN, ih]
    rw [Int.add_comm]
    congr 1
    exact sumN_congr fun k hk => by rw [show n + 1 - 1 - (k + 1) = n - 1 - k by omega]
theorem foldF_comm (a b : Nat → Int) (k : Nat) : foldF a b k = foldF b a k := by
  unfold foldF
  rw [sumN_back]
  refine sumN_congr fun l hl => ?_
  unfold backF
  rw [if_pos (by omega), if_pos (by omega), show k - (k + 1 - 1 - l) = l by omega, show k + 1 - 1 - l = k - l by omega, Int.mul_comm]
theorem foldHL_comm (a b : List Int) : foldHL a b = foldHL b a := by
  unfold foldHL
  rw [show a.length + b.length - 1 = b.length + a.length - 1 by omega]
  exact List.map_congr_left fun k _ => foldF_comm _ _ k
theorem sumN_list : ∀ zs : List Int, sumN (fun k => zs.getD k 0) zs.length = zs.sum := by
  intro zs
  induction zs with
  | nil => rfl
  | cons z zs ih =>
    rw [List.length_cons, sumN_first, List.sum_cons, ← ih]
    rfl
theorem sumN_shift {f : Nat → Int} {l : Nat} (h : ∀ k, k < l → f k = 0) (m : Nat) : sumN f (l + m) = sumN (fun k => f (l + k)) m := by
  induction m with
  | zero => rw [Nat.add_zero, sumN_congr (g := fun _ => 0) h, sumN_zero]; rfl
  | succ m ih => rw [← Nat.add_assoc, sumN, sumN, ih]
theorem fold_total (a b : List Int) (h0 : 0 < a.length) (h1 : 0 < b.length) : (foldHL a b).sum = a.sum * b.sum := by
  rw [← sumN_list, ← sumN_list, ← sumN_list, fold_len]
  rw [sumN_congr fun k _ => (fold_getD a b h1 k).trans (fold_more _ _ k (a.length + b.length - 1 + 1) (by
    rename_i h
    omega)).symm]
  rw [sumN_swap, sumN_prod]
  rw [sumN_more (n := a.length) (fun l hl => by
    rw [sumN_congr (g := fun _ => 0) fun k _ => ?_, sumN_zero]
    rw [getD_out (zs := a) hl, Int.zero_mul]) (by omega)]
  refine sumN_congr fun l hl => ?_
  rw [sumN_mul, sumN_mul]
  congr 1
  rw [show a.length + b.length - 1 = l + (a.length + b.length - 1 - l) by omega, sumN_shift fun k hk => backF_out hk]
  rw [sumN_more (n := b.length) (fun k hk => ?_) (by omega)]
  · refine sumN_congr fun k _ => ?_
    unfold backF
    rw [if_pos (by omega), show l + k - l = k by omega]
  · unfold backF
    rw [if_pos (by omega), show l + k - l = k by omega]
    exact getD_out hk

/- Raising. -/
def chooseN : Nat → Nat → Nat
  | _, 0 => 1
  | 0, _ + 1 => 0
  | n + 1, k + 1 => chooseN n k + chooseN n (k + 1)
def raiseL (a : List Int) : List Int := (List.range a.length).map fun k => (chooseN (a.length - 1) k : Int) * a.getD k 0
theorem raise_len (a : List Int) : (raiseL a).length = a.length := by simp [raiseL]
theorem raise_getD (a : List Int) (k : Nat) : (raiseL a).getD k 0 = (chooseN (a.length - 1) k : Int) * a.getD k 0 := by
  by_cases c : k < a.length
  · rw [getD_in (by rw [raise_len]; exact c)]; simp [raiseL]
  · rw [getD_out (by rw [raise_len]; omega), getD_out (by omega), Int.mul_zero]
theorem choose_out : ∀ (n k : Nat), n < k → chooseN n k = 0 := by
  intro n
  induction n with
  | zero => intro k h; obtain ⟨m, rfl⟩ : ∃ m, k = m + 1 := ⟨k - 1, by omega⟩; rfl
  | succ n ih =>
    intro k h
    obtain ⟨m, rfl⟩ : ∃ m, k = m + 1 := ⟨k - 1, by omega⟩
    rw [chooseN, ih m (by omega), ih (m + 1) (by omega)]
theorem choose_zero (n : Nat) : chooseN n 0 = 1 := by cases n <;> rfl
theorem choose_self (n : Nat) : chooseN n n = 1 := by
  induction n with
  | zero => rfl
  | succ n ih => rw [chooseN, ih, choose_out n (n + 1) (by omega)]
theorem choose_pos : ∀ (n k : Nat), k ≤ n → 0 < chooseN n k := by
  intro n
  induction n with
  | zero => intro k h; obtain rfl : k = 0 := (by omega); decide
  | succ n ih =>
    intro k h
    cases k with
    | zero => rw [choose_zero]; decide
    | succ k => rw [chooseN]; have := ih k (by omega); omega
theorem choose_round : ∀ n, n < 12 → ∀ k, k < 12 → chooseN n k * chooseN n (k + 2) ≤ chooseN n (k + 1) * chooseN n (k + 1) := by decide +kernel
theorem choose_pf {n : Nat} (h : n < 12) : Pf fun k => (chooseN n k : Int) := by
  have nn : Nn fun k => (chooseN n k : Int) := fun k => Int.natCast_nonneg _
  refine pf_of (pf1_of nn (fun i j k p1 p2 p3 p4 => ?_) fun k => ?_) nn
  · have p4' : 0 < (chooseN n k : Int) := p4
    have : k ≤ n := Classical.byContradiction fun c => by
      rw [choose_out n k (by omega)] at p4'; omega
    have := choose_pos n j (by omega)
    show 0 < (chooseN n j : Int)
    omega
  · show (chooseN n k : Int) * (chooseN n (k + 2) : Int) ≤ (chooseN n (k + 1) : Int) * (chooseN n (k + 1) : Int)
    by_cases c : k < 12
    · have := choose_round n h k c
      rw [← Int.natCast_mul, ← Int.natCast_mul]
      omega
    · rw [choose_out n (k + 2) (by omega)]
      simp
      exact Int.mul_nonneg (Int.natCast_nonneg _) (Int.natCast_nonneg _)
theorem raise_rd {a : List Int} (hr : rowB a = true) (na : nnB a = true) (ha : Rd a) : nnB (raiseL a) = true ∧ Rd (raiseL a) := by
  have hl := (rowB_true.1 hr).2
  have fa := nnB_nn na
  have nn : Nn fun k => (chooseN (a.length - 1) k : Int) := fun k => Int.natCast_nonneg _
  have h1 : nnB (raiseL a) = true := nnB_of fun k _ => by rw [raise_getD]; exact Int.mul_nonneg (nn k) (fa k)
  refine ⟨h1, (rd_pf1 h1).2 ?_⟩
  have := pf_pf1 (pf_times (choose_pf (show a.length - 1 < 12 by omega)) nn (pf_of ((rd_pf1 na).1 ha) fa) fa)
  intro i j hij
  have g := this i j hij
  show (raiseL a).getD i 0 * (raiseL a).getD (j + 2) 0 ≤ (raiseL a).getD (i + 1) 0 * (raiseL a).getD (j + 1) 0
  rw [raise_getD, raise_getD, raise_getD, raise_getD]
  exact g
/-- The greatest entries of a round hill stand beside each other. -/
theorem tops_between {a : List Int} (na : nnB a = true) (ha : Rd a) {i n k : Nat} {x : Int} (h1 : i ≤ n) (h2 : n ≤ k) (hi : a.getD i 0 = x) (hk : a.getD k 0 = x) (hk' : k < a.length) (hm : ∀ j, j < a.length → a.getD j 0 ≤ x) : a.getD n 0 = x :=
  pf_tops (pf_of ((rd_pf1 na).1 ha) (nnB_nn na)) (nnB_nn na) h1 h2 hi hk fun j hj => hm j (by omega)
end Go.Proofs.Ytpmmfngmnneekaa
