/-
  Mathematics of chapter 5: tables, matches, loads, and what its functions answer. Conditions: none.
-/
import Derived.Test.YtanoojpmokbiaabHvMath
/-
  Tables as lists of lists: crossed ones, least columns, merging, prices of rows and columns. No program here. Conditions: none.
-/
namespace Go.Proofs.Ytanoojpmokbiaab
open Go.RowKit

def ent (t : List (List Int)) (i k : Nat) : Int := (t.getD i []).getD k 0
/-- n rows of m entries. -/
def Sh (t : List (List Int)) (n m : Nat) : Prop := t.length = n ∧ ∀ r, r ∈ t → r.length = m
theorem Sh.row {t : List (List Int)} {n m i : Nat} (h : Sh t n m) (hi : i < n) : (t.getD i []).length = m := by
  have hl : i < t.length := by rw [h.1]; exact hi
  rw [List.getD_eq_getElem?_getD, List.getElem?_eq_getElem hl]
  exact h.2 _ (List.getElem_mem hl)
theorem tables_eq {t u : List (List Int)} {n m : Nat} (h : Sh t n m) (h' : Sh u n m) (he : ∀ i k, i < n → k < m → ent t i k = ent u i k) : t = u := by
  apply List.ext_getElem (h.1.trans h'.1.symm)
  intro i h1 h2
  have e1 := h.row (i := i) (by have := h.1; omega)
  have e2 := h'.row (i := i) (by have := h.1; omega)
  have g1 : t.getD i [] = t[i] := by rw [List.getD_eq_getElem?_getD, List.getElem?_eq_getElem h1]; rfl
  have g2 : u.getD i [] = u[i] := by rw [List.getD_eq_getElem?_getD, List.getElem?_eq_getElem h2]; rfl
  rw [← g1, ← g2]
  refine list_eq_getD (by omega) fun k hk => ?_
  exact he i k (by have := h.1; omega) (by omega)
/-- The table of an entry each. -/
def tabL (n m : Nat) (f : Nat → Nat → Int) : List (List Int) := (List.range n).map fun i => (List.range m).map fun k => f i k
theorem tab_sh (n m : Nat) (f : Nat → Nat → Int) : Sh (tabL n m f) n m := by
  refine ⟨by simp [tabL], fun r hr => ?_⟩
  unfold tabL at hr
  rw [List.mem_map] at hr
  obtain ⟨i, -, rfl⟩ := hr
  simp
theorem tab_ent {n m : Nat} (f : Nat → Nat → Int) {i k : Nat} (hi : i < n) (hk : k < m) : ent (tabL n m f) i k = f i k := by
  unfold ent tabL
  simp [List.getD_eq_getElem?_getD, hi, hk]
theorem tab_self {t : List (List Int)} {n m : Nat} (h : Sh t n m) : tabL n m (ent t) = t :=
  tables_eq (tab_sh n m _) h fun _ _ hi hk => tab_ent _ hi hk
def acrossL (t : List (List Int)) (n m : Nat) : List (List Int) := tabL m n fun k i => ent t i k
theorem turn_ent (t : List (List Int)) {n m i k : Nat} (hi : i < n) (hk : k < m) : ent (acrossL t n m) k i = ent t i k := tab_ent _ hk hi

/-- Rows and columns beside each other. -/
def Cr1 (f : Nat → Nat → Int) (n m : Nat) : Prop := ∀ i k, i + 1 < n → k + 1 < m → f i k + f (i + 1) (k + 1) ≤ f i (k + 1) + f (i + 1) k
def Cr (f : Nat → Nat → Int) (n m : Nat) : Prop := ∀ i j k l, i ≤ j → j < n → k ≤ l → l < m → f i k + f j l ≤ f i l + f j k
theorem cr_of {f : Nat → Nat → Int} {n m : Nat} (h : Cr1 f n m) : Cr f n m := by
  have rows : ∀ i k d, i + 1 < n → k + d < m → f i k + f (i + 1) (k + d) ≤ f i (k + d) + f (i + 1) k := by
    intro i k d hi
    induction d with
    | zero => intro _; rw [Nat.add_zero]; exact Int.le_refl _
    | succ d ih =>
      intro hd
      have := ih (by omega)
      have := h i (k + d) hi (by omega)
      rw [show k + (d + 1) = k + d + 1 by omega]
      omega
  intro i j k l hij hj hkl hl
  obtain ⟨e, rfl⟩ : ∃ e, j = i + e := ⟨j - i, by omega⟩
  clear hij
  induction e with
  | zero => rw [Nat.add_zero]; omega
  | succ e ih =>
    have := ih (by omega)
    have := rows (i + e) k (l - k) (by omega) (by omega)
    rw [show k + (l - k) = l by omega] at this
    rw [show i + (e + 1) = i + e + 1 by omega]
    omega
theorem cr_one {f : Nat → Nat → Int} {n m : Nat} (h : Cr f n m) : Cr1 f n m := fun i k hi hk => h i (i + 1) k (k + 1) (by omega) hi (by omega) hk
theorem cr_turn {f : Nat → Nat → Int} {n m : Nat} (h : Cr f n m) : Cr (fun k i => f i k) m n := fun k l i j h1 h2 h3 h4 => by
  have := h i j k l h3 h4 h1 h2
  show f i k + f j l ≤ f j k + f i l
  omega
theorem cr_congr {f g : Nat → Nat → Int} {n m : Nat} (h : Cr f n m) (he : ∀ i k, i < n → k < m → f i k = g i k) : Cr g n m := fun i j k l h1 h2 h3 h4 => by
  have := h i j k l h1 h2 h3 h4
  rw [← he i k (by omega) (by omega), ← he j l h2 h4, ← he i l (by omega) h4, ← he j k h2 (by omega)]
  exact this
def crB (t : List (List Int)) (n m : Nat) : Bool := (List.range (n - 1)).all fun i => (List.range (m - 1)).all fun k => decide (ent t i k + ent t (i + 1) (k + 1) ≤ ent t i (k + 1) + ent t (i + 1) k)
theorem crB_iff (t : List (List Int)) (n m : Nat) : crB t n m = true ↔ Cr (ent t) n m := by
  constructor
  · intro h
    refine cr_of fun i k hi hk => ?_
    unfold crB at h
    rw [List.all_eq_true] at h
    have := h i (List.mem_range.2 (by omega))
    rw [List.all_eq_true] at this
    simpa using this k (List.mem_range.2 (by omega))
  · intro h
    unfold crB
    rw [List.all_eq_true]
    intro i hi
    rw [List.all_eq_true]
    intro k hk
    rw [List.mem_range] at hi hk
    rw [decide_eq_true_iff]
    exact cr_one h i k (by omega) (by omega)

/- Tables of rows. -/
def ofRow (a : List Int) (n i k : Nat) : Int := a.getD (n - 1 - i + k) 0
theorem ofRow_cr {a : List Int} {n m : Nat} (hn : 2 ≤ n) (hm : 2 ≤ m) (hl : a.length = n + m - 1) : Cr (ofRow a n) n m ↔ bentB a = true := by
  rw [bentB_iff]
  constructor
  · intro h s hs
    -- the place s + 1 is n - 1 - (i + 1) + (k + 1)
    by_cases c : s + 2 ≤ n
    · have g := cr_one h (n - 2 - s) 0 (by omega) (by omega)
      unfold ofRow at g
      rw [show n - 1 - (n - 2 - s) + 0 = s + 1 by omega, show n - 1 - (n - 2 - s + 1) + (0 + 1) = s + 1 by omega, show n - 1 - (n - 2 - s) + (0 + 1) = s + 2 by omega, show n - 1 - (n - 2 - s + 1) + 0 = s by omega] at g
      omega
    · have g := cr_one h 0 (s + 2 - n) (by omega) (by omega)
      unfold ofRow at g
      rw [show n - 1 - 0 + (s + 2 - n) = s + 1 by omega, show n - 1 - (0 + 1) + (s + 2 - n + 1) = s + 1 by omega, show n - 1 - 0 + (s + 2 - n + 1) = s + 2 by omega, show n - 1 - (0 + 1) + (s + 2 - n) = s by omega] at g
      omega
  · intro h
    refine cr_of fun i k hi hk => ?_
    have g := h (n - 2 - i + k) (by omega)
    unfold ofRow
    rw [show n - 1 - i + k = n - 2 - i + k + 1 by omega, show n - 1 - (i + 1) + (k + 1) = n - 2 - i + k + 1 by omega, show n - 1 - i + (k + 1) = n - 2 - i + k + 2 by omega, show n - 1 - (i + 1) + k = n - 2 - i + k by omega]
    omega

/- Least columns. -/
/-- The first of the least of f over the numbers from a to b. -/
def Fst (f : Nat → Int) (a b i : Nat) : Prop := a ≤ i ∧ i ≤ b ∧ (∀ k, a ≤ k → k ≤ b → f i ≤ f k) ∧ ∀ k, a ≤ k → k < i → f i < f k
theorem Fst.uniq {f : Nat → Int} {a b i j : Nat} (h : Fst f a b i) (h' : Fst f a b j) : i = j := by
  obtain ⟨h1, h2, h3, h4⟩ := h
  obtain ⟨g1, g2, g3, g4⟩ := h'
  rcases Nat.lt_trichotomy i j with c | c | c
  · have := g4 i h1 c; have := h3 j g1 g2; omega
  · exact c
  · have := h4 j g1 c; have := g3 i h1 h2; omega
theorem Fst.part {f : Nat → Int} {a b i c d : Nat} (h : Fst f a b i) (h1 : a ≤ c) (h2 : d ≤ b) (h3 : c ≤ i) (h4 : i ≤ d) : Fst f c d i := by
  obtain ⟨g1, g2, g3, g4⟩ := h
  exact ⟨h3, h4, fun k p q => g3 k (by omega) (by omega), fun k p q => g4 k (by omega) q⟩
def fstTo (f : Nat → Int) (a : Nat) : Nat → Nat
  | 0 => a
  | n + 1 => if f (a + n + 1) < f (fstTo f a n) then a + n + 1 else fstTo f a n
theorem fstTo_is (f : Nat → Int) (a : Nat) : ∀ n, Fst f a (a + n) (fstTo f a n) := by
  intro n
  induction n with
  | zero => exact ⟨Nat.le_refl _, Nat.le_refl _, fun k h1 h2 => by obtain rfl : k = a := (by omega); exact Int.le_refl _, fun k h1 h2 => absurd h2 (by show ¬ k < a; omega)⟩
  | succ n ih =>
    obtain ⟨h1, h2, h3, h4⟩ := ih
    unfold fstTo
    by_cases c : f (a + n + 1) < f (fstTo f a n)
    · rw [if_pos c]
      refine ⟨by omega, by omega, fun k p q => ?_, fun k p q => ?_⟩
      · by_cases e : k = a + n + 1
        · rw [e]; exact Int.le_refl _
        · have := h3 k p (by omega); omega
      · have := h3 k p (by omega); omega
    · rw [if_neg c]
      refine ⟨h1, by omega, fun k p q => ?_, h4⟩
      by_cases e : k = a + n + 1
      · rw [e]; omega
      · exact h3 k p (by omega)
/-- Least columns of crossed tables never go back. -/
theorem cr_fst {f : Nat → Nat → Int} {n m : Nat} (h : Cr f n m) {i j p q : Nat} (hij : i ≤ j) (hj : j < n) (h0 : 0 < m) (hp : Fst (f i) 0 (m - 1) p) (hq : Fst (f j) 0 (m - 1) q) : p ≤ q := by
  refine Classical.byContradiction fun c => ?_
  obtain ⟨-, p2, p3, p4⟩ := hp
  obtain ⟨-, q2, q3, -⟩ := hq
  have g := h i j q p hij hj (by omega) (by omega)
  have := p4 q (by omega) (by omega)
  have := q3 p (by omega) p2
  omega

/- Merging. -/

def mergeT (f g : Nat → Nat → Int) (j i k : Nat) : Int := minN (fun l => f i l + g l k) (j - 1)
theorem mergeT_turn (f g : Nat → Nat → Int) (j i k : Nat) : mergeT (fun k l => g l k) (fun l i => f i l) j k i = mergeT f g j i k := by
  unfold mergeT
  have : (fun l => g l k + f i l) = fun l => f i l + g l k := by funext l; omega
  show minN (fun l => g l k + f i l) (j - 1) = _
  rw [this]
theorem mergeT_cr {f g : Nat → Nat → Int} {n j m : Nat} (h0 : 0 < j) (hf : Cr f n j) (hg : Cr g j m) : Cr (mergeT f g j) n m := by
  intro i i' k k' hi hi' hk hk'
  obtain ⟨p, p1, p2⟩ := minN_at (fun l => f i l + g l k') (j - 1)
  obtain ⟨q, q1, q2⟩ := minN_at (fun l => f i' l + g l k) (j - 1)
  unfold mergeT
  rw [p2, q2]
  rcases Nat.le_total p q with c | c
  · have g1 := minN_le (fun l => f i l + g l k) (j - 1) p p1
    have g2 := minN_le (fun l => f i' l + g l k') (j - 1) q q1
    have := hg p q k k' c (by omega) hk hk'
    omega
  · have g1 := minN_le (fun l => f i l + g l k) (j - 1) q q1
    have g2 := minN_le (fun l => f i' l + g l k') (j - 1) p p1
    have := hf i i' q p hi hi' c (by omega)
    omega
end Go.Proofs.Ytanoojpmokbiaab

/-
  Matches of tables, tried column by column: what is found, least costs, crossed tables along their middle. No program here. Conditions: none.
-/
namespace Go.Proofs.Ytanoojpmokbiaab
open Go.RowKit

/-- The first of the least, over the columns ahead of m that are not used. -/
def scanM (g : Nat → Int × List Nat) (c : Nat → Int) (us : List Nat) : Nat → Int × List Nat
  | 0 => (0, [])
  | m + 1 => if m ∈ us then scanM g c us m else if (scanM g c us m).2 = [] ∨ (g m).1 + c m < (scanM g c us m).1 then ((g m).1 + c m, m :: (g m).2) else scanM g c us m
/-- Matches of the last d of n rows, with columns that are not used. -/
def matchM (f : Nat → Nat → Int) (n : Nat) : Nat → List Nat → Int × List Nat
  | 0, _ => (0, [])
  | d + 1, us => scanM (fun k => matchM f n d (k :: us)) (f (n - (d + 1))) us n
/-- What the scan has found. -/
def Found (g : Nat → Int × List Nat) (c : Nat → Int) (us : List Nat) (m : Nat) (s : Int × List Nat) : Prop :=
  ∃ k, k < m ∧ ¬ k ∈ us ∧ s = ((g k).1 + c k, k :: (g k).2) ∧ (∀ j, j < m → ¬ j ∈ us → s.1 ≤ (g j).1 + c j) ∧ ∀ j, j < k → ¬ j ∈ us → s.1 < (g j).1 + c j
theorem scan_is (g : Nat → Int × List Nat) (c : Nat → Int) (us : List Nat) : ∀ m, ((∀ j, j < m → j ∈ us) ∧ scanM g c us m = (0, [])) ∨ Found g c us m (scanM g c us m) := by
  intro m
  induction m with
  | zero => exact .inl ⟨fun j hj => by omega, rfl⟩
  | succ m ih =>
    unfold scanM
    by_cases e : m ∈ us
    · rw [if_pos e]
      rcases ih with ⟨h1, h2⟩ | ⟨k, h1, h2, h3, h4, h5⟩
      · refine .inl ⟨fun j hj => ?_, h2⟩
        by_cases e' : j = m
        · rw [e']; exact e
        · exact h1 j (by omega)
      · refine .inr ⟨k, by omega, h2, h3, fun j hj hn => ?_, h5⟩
        by_cases e' : j = m
        · rw [e'] at hn; exact absurd e hn
        · exact h4 j (by omega) hn
    · rw [if_neg e]
      rcases ih with ⟨h1, h2⟩ | ⟨k, h1, h2, h3, h4, h5⟩
      · rw [h2, if_pos (.inl rfl)]
        refine .inr ⟨m, by omega, e, rfl, fun j hj hn => ?_, fun j hj hn => absurd (h1 j hj) hn⟩
        by_cases e' : j = m
        · rw [e']; exact Int.le_refl _
        · exact absurd (h1 j (by omega)) hn
      · by_cases q : (g m).1 + c m < (scanM g c us m).1
        · rw [if_pos (.inr q)]
          refine .inr ⟨m, by omega, e, rfl, fun j hj hn => ?_, fun j hj hn => ?_⟩
          · by_cases e' : j = m
            · rw [e']; exact Int.le_refl _
            · have := h4 j (by omega) hn
              show (g m).1 + c m ≤ _
              omega
          · have := h4 j hj hn
            show (g m).1 + c m < _
            omega
        · rw [if_neg (by rw [h3]; rintro (h | h); cases h; rw [← h3] at h; exact q h)]
          refine .inr ⟨k, by omega, h2, h3, fun j hj hn => ?_, h5⟩
          by_cases e' : j = m
          · rw [e']; omega
          · exact h4 j (by omega) hn
theorem Found.uniq {g : Nat → Int × List Nat} {c : Nat → Int} {us : List Nat} {m k : Nat} {s : Int × List Nat} (h : Found g c us m s) (hk : k < m) (hu : ¬ k ∈ us) (hm : ∀ j, j < m → ¬ j ∈ us → (g k).1 + c k ≤ (g j).1 + c j) (hl : ∀ j, j < k → ¬ j ∈ us → (g k).1 + c k < (g j).1 + c j) : s = ((g k).1 + c k, k :: (g k).2) := by
  obtain ⟨k', h1, h2, h3, h4, h5⟩ := h
  have e : k' = k := by
    rcases Nat.lt_trichotomy k' k with q | q | q
    · have a := hl k' q h2
      have b := h4 k hk hu
      rw [h3] at b
      simp only at b
      omega
    · exact q
    · have a := h5 k q hu
      have b := hm k' h1 h2
      rw [h3] at a
      simp only at a
      omega
  rw [h3, e]
theorem scan_congr {g g' : Nat → Int × List Nat} {c c' : Nat → Int} {us : List Nat} (hg : ∀ k, g k = g' k) (hc : ∀ k, c k = c' k) (m : Nat) : scanM g c us m = scanM g' c' us m := by
  rw [show g = g' from funext hg, show c = c' from funext hc]

/- Sums over columns that are not used. -/
def leftN (v : Nat → Int) (us : List Nat) (n : Nat) : Int := sumN (fun k => if k ∈ us then 0 else v k) n
theorem left_take (v : Nat → Int) (us : List Nat) (k : Nat) (hu : ¬ k ∈ us) : ∀ n, leftN v us n = (if k < n then v k else 0) + leftN v (k :: us) n := by
  intro n
  induction n with
  | zero => simp [leftN, sumN]
  | succ n ih =>
    unfold leftN at ih ⊢
    rw [sumN, sumN, ih]
    by_cases e : n = k
    · subst e
      rw [if_neg (Nat.lt_irrefl _), if_pos (Nat.lt_succ_self _), if_neg hu, if_pos (List.mem_cons_self ..)]
      omega
    · have e1 : (n ∈ k :: us) = (n ∈ us) := by simp [e]
      simp only [e1]
      by_cases c : k < n
      · rw [if_pos c, if_pos (show k < n + 1 by omega)]; omega
      · rw [if_neg c, if_neg (show ¬ k < n + 1 by omega)]; omega
/-- Columns that are used: no two the same, all of the table, as many as rows are done. -/
def Used (n d : Nat) (us : List Nat) : Prop := us.Nodup ∧ (∀ k, k ∈ us → k < n) ∧ us.length + d = n
theorem used_cons {n d k : Nat} {us : List Nat} (h : Used n (d + 1) us) (hk : k < n) (hu : ¬ k ∈ us) : Used n d (k :: us) := by
  obtain ⟨h1, h2, h3⟩ := h
  refine ⟨List.nodup_cons.2 ⟨hu, h1⟩, fun j hj => ?_, by rw [List.length_cons]; omega⟩
  rcases List.mem_cons.1 hj with rfl | hj
  · exact hk
  · exact h2 j hj
theorem nodup_len {n : Nat} : ∀ {us : List Nat}, us.Nodup → (∀ k, k ∈ us → k < n) → us.length ≤ n := by
  induction n with
  | zero =>
    intro us _ h
    cases us with
    | nil => exact Nat.le_refl _
    | cons k us => exact absurd (h k (List.mem_cons_self ..)) (by omega)
  | succ n ih =>
    intro us h1 h2
    by_cases e : n ∈ us
    · have := ih (us := us.erase n) (h1.erase n) fun k hk => by
        have g := (h1.mem_erase_iff).1 hk
        have := h2 k g.2
        have := g.1
        omega
      rw [List.length_erase_of_mem e] at this
      omega
    · have := ih h1 fun k hk => by
        have := h2 k hk
        have : k ≠ n := fun q => e (q ▸ hk)
        omega
      omega
theorem sub_len : ∀ {l us : List Nat}, l.Nodup → (∀ k, k ∈ l → k ∈ us) → l.length ≤ us.length := by
  intro l
  induction l with
  | nil => intro us _ _; exact Nat.zero_le _
  | cons k l ih =>
    intro us h1 h2
    have hk := h2 k (List.mem_cons_self ..)
    have g := ih (us := us.erase k) (List.nodup_cons.1 h1).2 fun j hj => by
      have : j ≠ k := fun e => (List.nodup_cons.1 h1).1 (e ▸ hj)
      exact (List.mem_erase_of_ne this).2 (h2 j (List.mem_cons_of_mem _ hj))
    rw [List.length_erase_of_mem hk] at g
    have : 0 < us.length := List.length_pos_of_mem hk
    rw [List.length_cons]
    omega
theorem used_some {n d : Nat} {us : List Nat} (h : Used n (d + 1) us) : ∃ k, k < n ∧ ¬ k ∈ us := by
  refine Classical.byContradiction fun c => ?_
  have all : ∀ k, k < n → k ∈ us := fun k hk => Classical.byContradiction fun q => c ⟨k, hk, q⟩
  obtain ⟨h1, h2, h3⟩ := h
  have : (List.range n).length ≤ us.length := by
    exact sub_len List.nodup_range fun k hk => all k (List.mem_range.1 hk)
  rw [List.length_range] at this
  omega
theorem match_found (f : Nat → Nat → Int) {n d : Nat} {us : List Nat} (h : Used n (d + 1) us) : Found (fun k => matchM f n d (k :: us)) (f (n - (d + 1))) us n (matchM f n (d + 1) us) := by
  rcases scan_is (fun k => matchM f n d (k :: us)) (f (n - (d + 1))) us n with ⟨h1, -⟩ | g
  · obtain ⟨k, h2, h3⟩ := used_some h
    exact absurd (h1 k h2) h3
  · exact g
/-- The cost of a list of columns, from a row on. -/
def costOf (f : Nat → Nat → Int) : Nat → List Nat → Int
  | _, [] => 0
  | i, k :: l => f i k + costOf f (i + 1) l
/-- The match that is found is one, and its cost is told. -/
theorem match_is (f : Nat → Nat → Int) (n : Nat) : ∀ d us, Used n d us → (matchM f n d us).2.length = d ∧ ((matchM f n d us).2 ++ us).Nodup ∧ (∀ k, k ∈ (matchM f n d us).2 → k < n) ∧ costOf f (n - d) (matchM f n d us).2 = (matchM f n d us).1 := by
  intro d
  induction d with
  | zero => intro us h; exact ⟨rfl, h.1, (fun k hk => by cases hk), rfl⟩
  | succ d ih =>
    intro us h
    obtain ⟨k, h1, h2, h3, -, -⟩ := match_found f h
    obtain ⟨g1, g2, g3, g4⟩ := ih (k :: us) (used_cons h h1 h2)
    rw [h3]
    have hd : n - (d + 1) + 1 = n - d := by have := h.2.2; omega
    refine ⟨by rw [List.length_cons, g1], ?_, fun j hj => ?_, ?_⟩
    · show (k :: ((matchM f n d (k :: us)).2 ++ us)).Nodup
      exact (List.perm_middle (a := k) (l₁ := (matchM f n d (k :: us)).2) (l₂ := us)).nodup_iff.1 g2
    · rcases List.mem_cons.1 hj with rfl | hj
      · exact h1
      · exact g3 j hj
    · show f (n - (d + 1)) k + costOf f (n - (d + 1) + 1) (matchM f n d (k :: us)).2 = (matchM f n d (k :: us)).1 + f (n - (d + 1)) k
      rw [hd, g4]
      omega
/-- Prices of rows and columns bound all costs. -/
theorem match_price {f : Nat → Nat → Int} {n : Nat} (u v : Nat → Int) (hp : ∀ i k, i < n → k < n → u i + v k ≤ f i k) : ∀ d us, Used n d us → sumN (fun j => u (n - 1 - j)) d + leftN v us n ≤ (matchM f n d us).1 := by
  intro d
  induction d with
  | zero =>
    intro us h
    have : leftN v us n = 0 := by
      unfold leftN
      rw [sumN_congr (g := fun _ => 0) fun k hk => ?_, sumN_zero]
      rw [if_pos]
      refine Classical.byContradiction fun c => ?_
      have := nodup_len (n := n) (us := k :: us) (List.nodup_cons.2 ⟨c, h.1⟩) fun j hj => by
        rcases List.mem_cons.1 hj with rfl | hj
        · exact hk
        · exact h.2.1 j hj
      rw [List.length_cons] at this
      have := h.2.2
      omega
    rw [this]
    exact Int.le_refl _
  | succ d ih =>
    intro us h
    obtain ⟨k, h1, h2, h3, -, -⟩ := match_found f h
    have g := ih (k :: us) (used_cons h h1 h2)
    have t := left_take v us k h2 n
    rw [if_pos h1] at t
    have hd : d < n := by have := h.2.2; omega
    have p := hp (n - 1 - d) k (by omega) h1
    rw [h3, t, sumN]
    show _ ≤ (matchM f n d (k :: us)).1 + f (n - (d + 1)) k
    rw [show n - (d + 1) = n - 1 - d by omega]
    omega
/- Crossed tables. -/
def priceV (f : Nat → Nat → Int) (k : Nat) : Int := sumN (fun j => f j (j + 1) - f j j) k
def priceU (f : Nat → Nat → Int) (i : Nat) : Int := f i i - priceV f i
theorem price_cr {f : Nat → Nat → Int} {n : Nat} (h : Cr f n n) {i k : Nat} (hi : i < n) (hk : k < n) : priceU f i + priceV f k ≤ f i k := by
  unfold priceU
  rcases Nat.le_total i k with c | c
  · obtain ⟨d, rfl⟩ : ∃ d, k = i + d := ⟨k - i, by omega⟩
    have : ∀ d, i + d < n → priceV f (i + d) - priceV f i ≤ f i (i + d) - f i i := by
      intro d
      induction d with
      | zero => intro _; simp
      | succ d ih =>
        intro hd
        have a := ih (by omega)
        have b := h i (i + d) (i + d) (i + d + 1) (by omega) (by omega) (by omega) (by omega)
        have e : priceV f (i + (d + 1)) = priceV f (i + d) + (f (i + d) (i + d + 1) - f (i + d) (i + d)) := rfl
        rw [e, show i + (d + 1) = i + d + 1 by omega]
        omega
    have := this d hk
    omega
  · obtain ⟨d, rfl⟩ : ∃ d, i = k + d := ⟨i - k, by omega⟩
    have : ∀ e, e ≤ d → f (k + d) (k + e) - f (k + d) k ≤ priceV f (k + e) - priceV f k := by
      intro e
      induction e with
      | zero => intro _; simp
      | succ e ih =>
        intro he
        have a := ih (by omega)
        have b := h (k + e) (k + d) (k + e) (k + e + 1) (by omega) (by omega) (by omega) (by omega)
        have q : priceV f (k + (e + 1)) = priceV f (k + e) + (f (k + e) (k + e + 1) - f (k + e) (k + e)) := rfl
        rw [q, show k + (e + 1) = k + e + 1 by omega]
        omega
    have := this d (Nat.le_refl _)
    omega
theorem sumN_left (v : Nat → Int) (i n : Nat) (us : List Nat) (hu : ∀ k, k < n → (k ∈ us ↔ k < i)) (hi : i ≤ n) : leftN v us n = sumN (fun j => v (n - 1 - j)) (n - i) := by
  unfold leftN
  rw [sumN_back]
  obtain ⟨d, rfl⟩ : ∃ d, n = i + d := ⟨n - i, by omega⟩
  rw [show i + d - i = d by omega]
  have z : sumN (fun k => if i + d - 1 - k ∈ us then 0 else v (i + d - 1 - k)) (i + d) = sumN (fun k => if k < d then (if i + d - 1 - k ∈ us then 0 else v (i + d - 1 - k)) else 0) (i + d) := by
    refine sumN_congr fun k hk => ?_
    by_cases c : k < d
    · rw [if_pos c]
    · rw [if_neg c, if_pos ((hu _ (by omega)).2 (by omega))]
  rw [z, sumN_more (n := d) (fun k hk => if_neg (by omega)) (by omega)]
  refine sumN_congr fun k hk => ?_
  rw [if_pos hk, if_neg fun c => ?_]
  have := (hu _ (by omega)).1 c
  omega
/-- Crossed tables are matched along their middle. -/
theorem match_middle {f : Nat → Nat → Int} {n : Nat} (h : Cr f n n) : ∀ d us, Used n d us → (∀ k, k < n → (k ∈ us ↔ k < n - d)) → (matchM f n d us).2 = (List.range d).map (fun j => n - d + j) ∧ (matchM f n d us).1 = sumN (fun j => f (n - 1 - j) (n - 1 - j)) d := by
  intro d
  induction d with
  | zero => intro us _ _; exact ⟨rfl, rfl⟩
  | succ d ih =>
    intro us hu hk
    have hd : d < n := by have := hu.2.2; omega
    have hn : ¬ n - (d + 1) ∈ us := fun c => by have := (hk _ (by omega)).1 c; omega
    have hu' := used_cons hu (show n - (d + 1) < n by omega) hn
    have hk' : ∀ k, k < n → (k ∈ (n - (d + 1)) :: us ↔ k < n - d) := fun k q => by
      rw [List.mem_cons, hk k q]; omega
    obtain ⟨g1, g2⟩ := ih _ hu' hk'
    have bound := match_price (priceU f) (priceV f) (fun i k hi hk => price_cr h hi hk) (d + 1) us hu
    rw [sumN_left (priceV f) (n - (d + 1)) n us hk (by omega), show n - (n - (d + 1)) = d + 1 by omega, ← sumN_add] at bound
    have pr : sumN (fun j => priceU f (n - 1 - j) + priceV f (n - 1 - j)) (d + 1) = sumN (fun j => f (n - 1 - j) (n - 1 - j)) (d + 1) := sumN_congr fun j _ => by unfold priceU; omega
    rw [pr] at bound
    have val : (matchM f n d ((n - (d + 1)) :: us)).1 + f (n - (d + 1)) (n - (d + 1)) = sumN (fun j => f (n - 1 - j) (n - 1 - j)) (d + 1) := by
      rw [g2, sumN, show n - (d + 1) = n - 1 - d by omega]
    have fd := match_found f hu
    have e := fd.uniq (k := n - (d + 1)) (by omega) hn (fun j hj hjn => ?_) fun j hj hjn => absurd ((hk j (by omega)).2 hj) hjn
    · rw [e]
      refine ⟨?_, val⟩
      show (n - (d + 1)) :: (matchM f n d ((n - (d + 1)) :: us)).2 = _
      rw [g1, List.range_succ_eq_map, List.map_cons, List.map_map]
      congr 1
      refine List.map_congr_left fun j _ => ?_
      show n - d + j = n - (d + 1) + (j + 1)
      omega
    · obtain ⟨k', -, -, h3, h4, -⟩ := fd
      have q : (matchM f n (d + 1) us).1 ≤ (matchM f n d (j :: us)).1 + f (n - (d + 1)) j := h4 j hj hjn
      show (matchM f n d ((n - (d + 1)) :: us)).1 + f (n - (d + 1)) (n - (d + 1)) ≤ (matchM f n d (j :: us)).1 + f (n - (d + 1)) j
      rw [val]
      omega
/-- Other rows ahead change nothing. -/
theorem match_rows {f f' : Nat → Nat → Int} {n : Nat} : ∀ d us, (∀ i k, n - d ≤ i → f i k = f' i k) → matchM f n d us = matchM f' n d us := by
  intro d
  induction d with
  | zero => intro us _; rfl
  | succ d ih =>
    intro us h
    exact scan_congr (fun k => ih (k :: us) fun i k hi => h i k (by omega)) (fun k => h _ k (Nat.le_refl _)) n
theorem scan_part {g g' : Nat → Int × List Nat} {c c' : Nat → Int} {us : List Nat} : ∀ m, (∀ k, k < m → g k = g' k) → (∀ k, k < m → c k = c' k) → scanM g c us m = scanM g' c' us m := by
  intro m
  induction m with
  | zero => intro _ _; rfl
  | succ m ih =>
    intro hg hc
    unfold scanM
    rw [ih (fun k hk => hg k (by omega)) fun k hk => hc k (by omega), hg m (by omega), hc m (by omega)]
/-- Only the entries of the table count. -/
theorem match_congr {f f' : Nat → Nat → Int} {n : Nat} (h : ∀ i k, i < n → k < n → f i k = f' i k) : ∀ d us, d ≤ n → matchM f n d us = matchM f' n d us := by
  intro d
  induction d with
  | zero => intro us _; rfl
  | succ d ih => intro us hd; exact scan_part n (fun k _ => ih (k :: us) (by omega)) fun k hk => h _ k (by omega) hk
theorem scan_skip {g : Nat → Int × List Nat} {c : Nat → Int} {us : List Nat} {m : Nat} (e : m ∈ us) : scanM g c us (m + 1) = scanM g c us m := if_pos e
theorem scan_new {g : Nat → Int × List Nat} {c : Nat → Int} {us : List Nat} {m : Nat} (e : ¬ m ∈ us) (q : (scanM g c us m).2 = [] ∨ (g m).1 + c m < (scanM g c us m).1) : scanM g c us (m + 1) = ((g m).1 + c m, m :: (g m).2) := (if_neg e).trans (if_pos q)
theorem scan_old {g : Nat → Int × List Nat} {c : Nat → Int} {us : List Nat} {m : Nat} (e : ¬ m ∈ us) (q : ¬ ((scanM g c us m).2 = [] ∨ (g m).1 + c m < (scanM g c us m).1)) : scanM g c us (m + 1) = scanM g c us m := (if_neg e).trans (if_neg q)
theorem scan_tilt (g : Nat → Int × List Nat) (c : Nat → Int) (us : List Nat) : ∀ m, ((scanM g c us m).2 = [] → scanM g (fun k => c k + 1) us m = (0, [])) ∧ ((scanM g c us m).2 ≠ [] → scanM g (fun k => c k + 1) us m = ((scanM g c us m).1 + 1, (scanM g c us m).2)) := by
  intro m
  induction m with
  | zero => exact ⟨fun _ => rfl, fun h => absurd rfl h⟩
  | succ m ih =>
    obtain ⟨h1, h2⟩ := ih
    by_cases e : m ∈ us
    · rw [scan_skip e, scan_skip e]; exact ⟨h1, h2⟩
    · by_cases q : (scanM g c us m).2 = []
      · rw [scan_new e (.inl q), scan_new e (.inl (by rw [h1 q]))]
        refine ⟨fun h => by simp at h, fun _ => ?_⟩
        show ((g m).1 + (c m + 1), m :: (g m).2) = ((g m).1 + c m + 1, m :: (g m).2)
        rw [Int.add_assoc]
      · have t := h2 q
        by_cases p : (g m).1 + c m < (scanM g c us m).1
        · rw [scan_new e (.inr p), scan_new e (.inr (by rw [t]; show (g m).1 + (c m + 1) < (scanM g c us m).1 + 1; omega))]
          refine ⟨fun h => by simp at h, fun _ => ?_⟩
          show ((g m).1 + (c m + 1), m :: (g m).2) = ((g m).1 + c m + 1, m :: (g m).2)
          rw [Int.add_assoc]
        · have n1 : ¬ ((scanM g c us m).2 = [] ∨ (g m).1 + c m < (scanM g c us m).1) := fun h => h.elim q p
          have n2 : ¬ ((scanM g (fun k => c k + 1) us m).2 = [] ∨ (g m).1 + (c m + 1) < (scanM g (fun k => c k + 1) us m).1) := by
            rw [t]
            intro h
            rcases h with h | h
            · exact q h
            · have h' : (g m).1 + (c m + 1) < (scanM g c us m).1 + 1 := h
              omega
          rw [scan_old e n1, scan_old e n2]
          exact ⟨h1, h2⟩
/-- The first row 1 greater: the same match, costing 1 more. -/
theorem match_tilt {f : Nat → Nat → Int} {n : Nat} (h : 0 < n) : matchM (fun i k => if i = 0 then f i k + 1 else f i k) n n [] = ((matchM f n n []).1 + 1, (matchM f n n []).2) := by
  obtain ⟨d, rfl⟩ : ∃ d, n = d + 1 := ⟨n - 1, by omega⟩
  have e : matchM (fun i k => if i = 0 then f i k + 1 else f i k) (d + 1) (d + 1) [] = scanM (fun k => matchM f (d + 1) d [k]) (fun k => f (d + 1 - (d + 1)) k + 1) [] (d + 1) :=
    scan_congr (fun k => match_rows d [k] fun i k hi => if_neg (by omega)) (fun k => if_pos (by omega)) (d + 1)
  rw [e]
  refine (scan_tilt _ _ [] (d + 1)).2 ?_
  · have u : Used (d + 1) (d + 1) [] := ⟨List.nodup_nil, (fun k hk => by cases hk), by simp⟩
    obtain ⟨k, -, -, h3, -, -⟩ := match_found f u
    have : (matchM f (d + 1) (d + 1) []).2 ≠ [] := by rw [h3]; simp
    exact this
end Go.Proofs.Ytanoojpmokbiaab

/-
  Loads of tables: the one that gives as much as is left, its sums, its cost in crossed tables. No program here. Conditions: none.
-/
namespace Go.Proofs.Ytanoojpmokbiaab
open Go.RowKit

/-- What row i gives to column k, a and b told by their sums A and B. -/
def loadF (A B : Nat → Int) (i k : Nat) : Int := max 0 (min (A (i + 1)) (B (k + 1)) - max (A i) (B k))
def Up (A : Nat → Int) : Prop := ∀ i, A i ≤ A (i + 1)
theorem Up.le {A : Nat → Int} (h : Up A) {i j : Nat} (hij : i ≤ j) : A i ≤ A j := by
  obtain ⟨d, rfl⟩ : ∃ d, j = i + d := ⟨j - i, by omega⟩
  clear hij
  induction d with
  | zero => exact Int.le_refl _
  | succ d ih => have := h (i + d); rw [← Nat.add_assoc]; omega
theorem up_sum {a : Nat → Int} (h : Nn a) : Up (sumN a) := fun i => by have := h i; rw [sumN]; omega
theorem load_nonneg (A B : Nat → Int) (i k : Nat) : 0 ≤ loadF A B i k := by unfold loadF; omega
theorem load_turn (A B : Nat → Int) (i k : Nat) : loadF A B i k = loadF B A k i := by unfold loadF; omega
theorem load_row {A B : Nat → Int} (hA : Up A) (hB : Up B) (h0 : B 0 ≤ A 0) (i : Nat) : ∀ m, sumN (fun k => loadF A B i k) m = max (A i) (min (A (i + 1)) (B m)) - A i := by
  intro m
  induction m with
  | zero => have := hA.le (Nat.zero_le i); have := hA i; simp only [sumN]; omega
  | succ m ih =>
    rw [sumN, ih]
    have := hA i
    have := hB m
    unfold loadF
    omega
theorem load_rows {A B : Nat → Int} (hA : Up A) (hB : Up B) (h0 : B 0 ≤ A 0) {i m : Nat} (hm : A (i + 1) ≤ B m) : sumN (fun k => loadF A B i k) m = A (i + 1) - A i := by
  rw [load_row hA hB h0]
  have := hA i
  omega
/-- What the first rows give to the first columns: as much as there may be. -/
theorem load_part {A B : Nat → Int} (hA : Up A) (hB : Up B) (hA0 : A 0 = 0) (hB0 : B 0 = 0) (k : Nat) : ∀ i, sumN (fun p => sumN (fun q => loadF A B p q) k) i = min (A i) (B k) := by
  intro i
  induction i with
  | zero => have := hB.le (Nat.zero_le k); simp only [sumN]; omega
  | succ i ih =>
    rw [sumN, ih, load_row hA hB (by omega)]
    have := hA i
    have := hA.le (Nat.zero_le i)
    have := hB.le (Nat.zero_le k)
    omega

/- Costs of loads. -/
def costF (f x : Nat → Nat → Int) (n m : Nat) : Int := sumN (fun i => sumN (fun k => f i k * x i k) m) n
def partF (x : Nat → Nat → Int) (i k : Nat) : Int := sumN (fun p => sumN (fun q => x p q) k) i
theorem costF_turn (f x : Nat → Nat → Int) (n m : Nat) : costF (fun k i => f i k) (fun k i => x i k) m n = costF f x n m := sumN_swap _ _ _
/-- How much two rows and columns beside each other are crossed. -/
def gapF (f : Nat → Nat → Int) (p q : Nat) : Int := f p (q + 1) + f (p + 1) q - f p q - f (p + 1) (q + 1)
theorem gap_row (f : Nat → Nat → Int) (p k : Nat) : ∀ d, sumN (fun q => gapF f p (k + q)) d = f p (k + d) - f p k - f (p + 1) (k + d) + f (p + 1) k := by
  intro d
  induction d with
  | zero => simp only [sumN, Nat.add_zero]; omega
  | succ d ih => rw [sumN, ih, ← Nat.add_assoc]; unfold gapF; omega
theorem gap_all (f : Nat → Nat → Int) (i k d : Nat) : ∀ e, sumN (fun p => sumN (fun q => gapF f (i + p) (k + q)) d) e = f i (k + d) - f i k - f (i + e) (k + d) + f (i + e) k := by
  intro e
  induction e with
  | zero => simp only [sumN, Nat.add_zero]; omega
  | succ e ih => rw [sumN, ih, gap_row, ← Nat.add_assoc]; omega
/-- An entry out of the last row, the last column, and what is crossed between. -/
theorem gap_entry (f : Nat → Nat → Int) {n m i k : Nat} (hi : i ≤ n) (hk : k ≤ m) : f i k = f i m + f n k - f n m - sumN (fun p => sumN (fun q => if i ≤ p ∧ k ≤ q then gapF f p q else 0) m) n := by
  have inner : ∀ p, i ≤ p → sumN (fun q => if i ≤ p ∧ k ≤ q then gapF f p q else 0) m = sumN (fun q => gapF f p (k + q)) (m - k) := by
    intro p hp
    obtain ⟨d, rfl⟩ : ∃ d, m = k + d := ⟨m - k, by omega⟩
    rw [sumN_shift fun q hq => if_neg (by omega), show k + d - k = d by omega]
    exact sumN_congr fun q _ => if_pos ⟨hp, by omega⟩
  have outer : sumN (fun p => sumN (fun q => if i ≤ p ∧ k ≤ q then gapF f p q else 0) m) n = sumN (fun p => sumN (fun q => gapF f (i + p) (k + q)) (m - k)) (n - i) := by
    obtain ⟨e, rfl⟩ : ∃ e, n = i + e := ⟨n - i, by omega⟩
    rw [sumN_shift fun p hp => by
      rw [sumN_congr (g := fun _ => 0) fun q _ => if_neg (by omega), sumN_zero], show i + e - i = e by omega]
    exact sumN_congr fun p _ => inner (i + p) (by omega)
  rw [outer, gap_all, show k + (m - k) = m by omega, show i + (n - i) = n by omega]
  omega
theorem sumN_mulR (c : Int) (f : Nat → Int) (n : Nat) : sumN (fun k => f k * c) n = sumN f n * c := by
  rw [sumN_congr fun k _ => Int.mul_comm (f k) c, sumN_mul, Int.mul_comm]
theorem sumN_if {P : Nat → Prop} [DecidablePred P] (f : Nat → Int) (n j : Nat) (h : ∀ k, k < n → (P k ↔ k < j)) (hj : j ≤ n) : sumN (fun k => if P k then f k else 0) n = sumN f j := by
  rw [sumN_congr (g := fun k => if k < j then f k else 0) fun k hk => ?_, sumN_more (n := j) (fun k hk => if_neg (by omega)) hj]
  · exact sumN_congr fun k hk => if_pos hk
  · by_cases c : k < j
    · rw [if_pos c, if_pos ((h k hk).2 c)]
    · rw [if_neg c, if_neg fun q => c ((h k hk).1 q)]
/-- Costs out of sums of rows, sums of columns, and what is crossed. -/
theorem cost_gap (f x : Nat → Nat → Int) (n m : Nat) : costF f x (n + 1) (m + 1) =
    sumN (fun i => f i m * sumN (fun k => x i k) (m + 1)) (n + 1) + sumN (fun k => f n k * sumN (fun i => x i k) (n + 1)) (m + 1) - f n m * partF x (n + 1) (m + 1) - sumN (fun p => sumN (fun q => gapF f p q * partF x (p + 1) (q + 1)) m) n := by
  have step : costF f x (n + 1) (m + 1) = sumN (fun i => sumN (fun k => f i m * x i k + f n k * x i k - f n m * x i k - sumN (fun p => sumN (fun q => if i ≤ p ∧ k ≤ q then gapF f p q * x i k else 0) m) n) (m + 1)) (n + 1) := by
    unfold costF
    refine sumN_congr fun i hi => sumN_congr fun k hk => ?_
    have e := gap_entry f (n := n) (m := m) (i := i) (k := k) (by omega) (by omega)
    have s : sumN (fun p => sumN (fun q => if i ≤ p ∧ k ≤ q then gapF f p q * x i k else 0) m) n = sumN (fun p => sumN (fun q => if i ≤ p ∧ k ≤ q then gapF f p q else 0) m) n * x i k := by
      rw [← sumN_mulR]
      refine sumN_congr fun p _ => ?_
      rw [← sumN_mulR]
      refine sumN_congr fun q _ => ?_
      by_cases c : i ≤ p ∧ k ≤ q
      · rw [if_pos c, if_pos c]
      · rw [if_neg c, if_neg c, Int.zero_mul]
    rw [s, ← Int.add_mul, ← Int.sub_mul, ← Int.sub_mul, ← e]
  rw [step]
  simp only [sumN_sub, sumN_add]
  have p1 : sumN (fun i => sumN (fun k => f i m * x i k) (m + 1)) (n + 1) = sumN (fun i => f i m * sumN (fun k => x i k) (m + 1)) (n + 1) := sumN_congr fun i _ => sumN_mul _ _ _
  have p2 : sumN (fun i => sumN (fun k => f n k * x i k) (m + 1)) (n + 1) = sumN (fun k => f n k * sumN (fun i => x i k) (n + 1)) (m + 1) := by
    rw [sumN_swap]
    exact sumN_congr fun k _ => sumN_mul _ _ _
  have p3 : sumN (fun i => sumN (fun k => f n m * x i k) (m + 1)) (n + 1) = f n m * partF x (n + 1) (m + 1) := by
    unfold partF
    rw [← sumN_mul]
    exact sumN_congr fun i _ => sumN_mul _ _ _
  have p4 : sumN (fun i => sumN (fun k => sumN (fun p => sumN (fun q => if i ≤ p ∧ k ≤ q then gapF f p q * x i k else 0) m) n) (m + 1)) (n + 1) = sumN (fun p => sumN (fun q => gapF f p q * partF x (p + 1) (q + 1)) m) n := by
    have t1 : ∀ i, sumN (fun k => sumN (fun p => sumN (fun q => if i ≤ p ∧ k ≤ q then gapF f p q * x i k else 0) m) n) (m + 1) = sumN (fun p => sumN (fun q => if i ≤ p then gapF f p q * sumN (fun k => x i k) (q + 1) else 0) m) n := by
      intro i
      rw [sumN_swap]
      refine sumN_congr fun p _ => ?_
      rw [sumN_swap]
      refine sumN_congr fun q hq => ?_
      by_cases c : i ≤ p
      · rw [if_pos c, ← sumN_mul, ← sumN_if (P := fun k => i ≤ p ∧ k ≤ q) (fun k => gapF f p q * x i k) (m + 1) (q + 1) (fun k _ => ⟨fun h => by omega, fun h => ⟨c, by omega⟩⟩) (by omega)]
      · rw [if_neg c, sumN_congr (g := fun _ => 0) fun k _ => if_neg fun h => c h.1, sumN_zero]
    rw [sumN_congr fun i _ => t1 i, sumN_swap]
    refine sumN_congr fun p hp => ?_
    rw [sumN_swap]
    refine sumN_congr fun q _ => ?_
    unfold partF
    rw [← sumN_mul, ← sumN_if (P := fun i => i ≤ p) (fun i => gapF f p q * sumN (fun k => x i k) (q + 1)) (n + 1) (p + 1) (fun i _ => by omega) (by omega)]
  rw [p1, p2, p3, p4]
/-- Loads of crossed tables: more to the first rows and columns, no greater cost. -/
theorem cost_better {f x y : Nat → Nat → Int} {n m : Nat} (hf : Cr f (n + 1) (m + 1)) (hr : ∀ i, i < n + 1 → sumN (fun k => x i k) (m + 1) = sumN (fun k => y i k) (m + 1)) (hc : ∀ k, k < m + 1 → sumN (fun i => x i k) (n + 1) = sumN (fun i => y i k) (n + 1))
    (hp : ∀ i k, i ≤ n → k ≤ m → partF y i k ≤ partF x i k) : costF f x (n + 1) (m + 1) ≤ costF f y (n + 1) (m + 1) := by
  rw [cost_gap, cost_gap]
  rw [sumN_congr (f := fun i => f i m * sumN (fun k => x i k) (m + 1)) (g := fun i => f i m * sumN (fun k => y i k) (m + 1)) fun i hi => by rw [hr i hi]]
  rw [sumN_congr (f := fun k => f n k * sumN (fun i => x i k) (n + 1)) (g := fun k => f n k * sumN (fun i => y i k) (n + 1)) fun k hk => by rw [hc k hk]]
  have e : partF x (n + 1) (m + 1) = partF y (n + 1) (m + 1) := sumN_congr fun i hi => hr i hi
  rw [e]
  have g : 0 ≤ sumN (fun p => sumN (fun q => gapF f p q * (partF x (p + 1) (q + 1) - partF y (p + 1) (q + 1))) m) n := by
    refine sumN_nonneg fun p hp' => sumN_nonneg fun q hq => Int.mul_nonneg ?_ ?_
    · have := hf p (p + 1) q (q + 1) (by omega) (by omega) (by omega) (by omega)
      unfold gapF
      omega
    · have := hp (p + 1) (q + 1) (by omega) (by omega)
      omega
  have d : sumN (fun p => sumN (fun q => gapF f p q * (partF x (p + 1) (q + 1) - partF y (p + 1) (q + 1))) m) n = sumN (fun p => sumN (fun q => gapF f p q * partF x (p + 1) (q + 1)) m) n - sumN (fun p => sumN (fun q => gapF f p q * partF y (p + 1) (q + 1)) m) n := by
    rw [← sumN_sub]
    refine sumN_congr fun p _ => ?_
    rw [← sumN_sub]
    exact sumN_congr fun q _ => Int.mul_sub _ _ _
  omega
/-- No load gives more to the first rows and columns than both have. -/
theorem part_least {x : Nat → Nat → Int} (hx : ∀ i k, 0 ≤ x i k) {i k n m : Nat} (hi : i ≤ n) (hk : k ≤ m) : partF x i k ≤ sumN (fun p => sumN (fun q => x p q) m) i ∧ partF x i k ≤ sumN (fun q => sumN (fun p => x p q) n) k := by
  have mono : ∀ (g : Nat → Int) (j l : Nat), (∀ r, 0 ≤ g r) → j ≤ l → sumN g j ≤ sumN g l := fun g j l h hjl => (up_sum h).le hjl
  have le : ∀ (g h : Nat → Int) (j : Nat), (∀ r, g r ≤ h r) → sumN g j ≤ sumN h j := by
    intro g h j hgh
    induction j with
    | zero => exact Int.le_refl _
    | succ j ih => rw [sumN, sumN]; have := hgh j; omega
  constructor
  · exact le _ _ _ fun p => mono _ _ _ (fun q => hx p q) hk
  · unfold partF
    rw [sumN_swap]
    exact le _ _ _ fun q => mono _ _ _ (fun p => hx p q) hi
end Go.Proofs.Ytanoojpmokbiaab

/-
  What the functions of chapter 5 answer, as Lean functions of lists of lists. Conditions: none.
-/
namespace Go.Proofs.Ytanoojpmokbiaab

/-- A row of a table: 1 to 6 entries, as many as the first row has, each from -1000 to 1000. -/
def rowOkB (t : List (List Int)) (i : Nat) : Bool :=
  decide (1 ≤ (t.getD i []).length ∧ (t.getD i []).length ≤ 6) && decide ((t.getD i []).length = (t.getD 0 []).length) && (t.getD i []).all fun x => decide (-1000 ≤ x ∧ x ≤ 1000)
def tableB (t : List (List Int)) : Bool := (List.range t.length).all (rowOkB t) && decide (1 ≤ t.length ∧ t.length ≤ 6)
/-- How many columns. -/
def colsN (t : List (List Int)) : Nat := (t.getD 0 []).length

theorem rowOk_true {t : List (List Int)} {i : Nat} : rowOkB t i = true ↔ (1 ≤ (t.getD i []).length ∧ (t.getD i []).length ≤ 6) ∧ (t.getD i []).length = (t.getD 0 []).length ∧ ∀ x, x ∈ t.getD i [] → -1000 ≤ x ∧ x ≤ 1000 := by
  simp only [rowOkB, Bool.and_eq_true, decide_eq_true_eq, List.all_eq_true, and_assoc]
theorem tableB_true {t : List (List Int)} : tableB t = true ↔ (∀ i, i < t.length → rowOkB t i = true) ∧ 1 ≤ t.length ∧ t.length ≤ 6 := by
  simp only [tableB, Bool.and_eq_true, decide_eq_true_eq, List.all_eq_true, List.mem_range]
theorem table_bad {t : List (List Int)} {i : Nat} (hi : i < t.length) (h : rowOkB t i = false) : tableB t = false := by
  cases e : tableB t with
  | false => rfl
  | true => have := (tableB_true.1 e).1 i hi; rw [h] at this; cases this
theorem row_bad {t : List (List Int)} {i k : Nat} (hk : k < (t.getD i []).length) (h : ¬ (-1000 ≤ (t.getD i []).getD k 0 ∧ (t.getD i []).getD k 0 ≤ 1000)) : rowOkB t i = false := by
  cases e : rowOkB t i with
  | false => rfl
  | true =>
    have := (rowOk_true.1 e).2.2 _ (List.getElem_mem hk)
    rw [getD_in hk] at h
    exact absurd this h
theorem table_sh {t : List (List Int)} (h : tableB t = true) : Sh t t.length (colsN t) ∧ (1 ≤ t.length ∧ t.length ≤ 6) ∧ (1 ≤ colsN t ∧ colsN t ≤ 6) ∧ ∀ i k, i < t.length → k < colsN t → -1000 ≤ ent t i k ∧ ent t i k ≤ 1000 := by
  obtain ⟨h1, h2⟩ := tableB_true.1 h
  refine ⟨⟨rfl, fun r hr => ?_⟩, h2, (rowOk_true.1 (h1 0 (by omega))).1, fun i k hi hk => ?_⟩
  · obtain ⟨i, hi, rfl⟩ := List.getElem_of_mem hr
    have := (rowOk_true.1 (h1 i hi)).2.1
    rw [show t.getD i [] = t[i] by simp [List.getD, hi]] at this
    exact this
  · obtain ⟨-, g2, g3⟩ := rowOk_true.1 (h1 i hi)
    have hk2 : k < (t.getD i []).length := by rw [g2]; exact hk
    unfold ent
    rw [getD_in hk2]
    exact g3 _ (List.getElem_mem hk2)
theorem tab_table {n m : Nat} {f : Nat → Nat → Int} (hn : 1 ≤ n ∧ n ≤ 6) (hm : 1 ≤ m ∧ m ≤ 6) (hf : ∀ i k, i < n → k < m → -1000 ≤ f i k ∧ f i k ≤ 1000) : tableB (tabL n m f) = true := by
  have hl : (tabL n m f).length = n := (tab_sh n m f).1
  rw [tableB_true, hl]
  refine ⟨fun i hi => ?_, hn⟩
  rw [rowOk_true, (tab_sh n m f).row hi, (tab_sh n m f).row (i := 0) (by omega)]
  refine ⟨hm, rfl, fun x hx => ?_⟩
  obtain ⟨k, hk, rfl⟩ := List.getElem_of_mem hx
  have hk2 : k < m := by rw [(tab_sh n m f).row hi] at hk; exact hk
  have e := tab_ent f hi hk2
  unfold ent at e
  rw [getD_in hk] at e
  rw [e]
  exact hf i k hi hk2

def crossedB (t : List (List Int)) : Bool := tableB t && crB t t.length (colsN t)
theorem crossed_true {t : List (List Int)} (h : crossedB t = true) : tableB t = true ∧ Cr (ent t) t.length (colsN t) := by
  unfold crossedB at h
  rw [Bool.and_eq_true] at h
  exact ⟨h.1, (crB_iff t _ _).1 h.2⟩
/-- Rows i - 1 and i at columns k - 1 and k. -/
theorem crB_bad {t : List (List Int)} {n m i k : Nat} (hi : i + 1 < n) (hk : k + 1 < m) (h : ent t i (k + 1) + ent t (i + 1) k < ent t i k + ent t (i + 1) (k + 1)) : crB t n m = false := by
  cases e : crB t n m with
  | false => rfl
  | true =>
    have := cr_one ((crB_iff t n m).1 e) i k hi hk
    omega
/-- The rows below the i-th one, and of it the columns below the k-th one, are crossed with those ahead. -/
def CrTo (t : List (List Int)) (m i k : Nat) : Prop := ∀ p q, q + 1 < m → (p + 1 < i ∨ p + 1 = i ∧ q + 1 < k) → ent t p q + ent t (p + 1) (q + 1) ≤ ent t p (q + 1) + ent t (p + 1) q
theorem crTo_start (t : List (List Int)) (m : Nat) : CrTo t m 1 1 := fun p q _ h => by rcases h with h | h <;> omega
theorem crTo_step {t : List (List Int)} {m i k : Nat} (h : CrTo t m (i + 1) (k + 1)) (hc : ent t i k + ent t (i + 1) (k + 1) ≤ ent t i (k + 1) + ent t (i + 1) k) : CrTo t m (i + 1) (k + 2) := fun p q hq hp => by
  by_cases e : p = i ∧ q = k
  · obtain ⟨rfl, rfl⟩ := e; exact hc
  · exact h p q hq (by rcases hp with hp | ⟨hp, hp2⟩ <;> omega)
theorem crTo_next {t : List (List Int)} {m i : Nat} (h : CrTo t m (i + 1) m) : CrTo t m (i + 2) 1 := fun p q hq hp => h p q hq (by omega)
theorem crTo_all {t : List (List Int)} {n m : Nat} (h : CrTo t m n 1) : crB t n m = true := by
  rw [crB_iff]
  exact cr_of fun i k hi hk => h i k hk (by omega)

/-- The table of a row. -/
def ofM (n m : Int) (a : List Int) : Option (List (List Int)) :=
  if (1 ≤ n ∧ n ≤ 6) ∧ (1 ≤ m ∧ m ≤ 6) ∧ rowB a = true ∧ (a.length : Int) = n + m - 1 then some (tabL n.toNat m.toNat (ofRow a n.toNat)) else none
/-- The first column of the least entry. -/
def firstOf (r : List Int) : Nat := fstTo (fun k => r.getD k 0) 0 (r.length - 1)
def leastCM (t : List (List Int)) : Option (List Int) := if tableB t then some (t.map fun r => (firstOf r : Int)) else none
def quickM (t : List (List Int)) : Option (List Int) := if crossedB t then some (t.map fun r => (firstOf r : Int)) else none
def mergeTL (t u : List (List Int)) : List (List Int) := tabL t.length (colsN u) (mergeT (ent t) (ent u) u.length)
def mergeTM (t u : List (List Int)) : Option (List (List Int)) :=
  if (tableB t && tableB u && decide (colsN t = u.length)) = true then (if tableB (mergeTL t u) then some (mergeTL t u) else none) else none
def matchI (t : List (List Int)) : Option (Int × List Int) :=
  if (tableB t && decide (t.length = colsN t)) = true then some ((matchM (ent t) t.length t.length []).1, (matchM (ent t) t.length t.length []).2.map fun k : Nat => (k : Int)) else none
/-- Amounts of one sum for a table. -/
def amountsB (t : List (List Int)) (a b : List Int) : Bool :=
  tableB t && decide (a.length = t.length) && decide (b.length = colsN t) && a.all (fun x => decide (0 ≤ x ∧ x ≤ 9)) && b.all (fun x => decide (0 ≤ x ∧ x ≤ 9)) && decide (a.sum = b.sum)
def sumTo (a : List Int) (i : Nat) : Int := sumN (fun k => a.getD k 0) i
def loadL (a b : List Int) : List (List Int) := tabL a.length b.length (loadF (sumTo a) (sumTo b))
def loadM (t : List (List Int)) (a b : List Int) : Option (List (List Int)) := if amountsB t a b then some (loadL a b) else none
def costTM (t l : List (List Int)) : Option Int :=
  if (tableB t && tableB l && decide (l.length = t.length) && decide (colsN l = colsN t) && l.all fun r => r.all fun x => decide (0 ≤ x ∧ x ≤ 9)) = true then some (costF (ent t) (ent l) t.length (colsN t)) else none
end Go.Proofs.Ytanoojpmokbiaab
