/-
  Splitting a row into parts, second part: widths and squares of sums, greatest sums of parts, what the functions answer. No program here. Conditions: none.
-/
import Derived.Test.YtfkmnlhmldjieaaSplitMath
import Derived.Test.YtfkmnlhmldjieaaEvM
import Derived.Test.YtfkmnlhmldjieaaHvMath
namespace Go.Proofs.Ytfkmnlhmldjieaa
open Go.RowKit

/- Costs of parts: d more entries behind the place i. -/
def loTo (a : List Int) (i : Nat) : Nat → Int
  | 0 => a.getD i 0
  | d + 1 => min (loTo a i d) (a.getD (i + d + 1) 0)
def hiTo (a : List Int) (i : Nat) : Nat → Int
  | 0 => a.getD i 0
  | d + 1 => max (hiTo a i d) (a.getD (i + d + 1) 0)
def smTo (a : List Int) (i d : Nat) : Int := sumN (fun t => a.getD (i + t) 0) (d + 1)
theorem loTo_le (a : List Int) (i : Nat) : ∀ d t, t ≤ d → loTo a i d ≤ a.getD (i + t) 0
  | 0, t, h => by rw [show t = 0 by omega]; exact Int.le_refl _
  | d + 1, t, h => by
    by_cases e : t = d + 1
    · subst e; simp only [loTo]; rw [show i + (d + 1) = i + d + 1 by omega]; omega
    · have := loTo_le a i d t (by omega); simp only [loTo]; omega
theorem loTo_at (a : List Int) (i : Nat) : ∀ d, ∃ t, t ≤ d ∧ loTo a i d = a.getD (i + t) 0
  | 0 => ⟨0, Nat.le_refl _, rfl⟩
  | d + 1 => by
    obtain ⟨t, h1, h2⟩ := loTo_at a i d
    by_cases c : loTo a i d ≤ a.getD (i + d + 1) 0
    · exact ⟨t, by omega, by simp only [loTo]; omega⟩
    · exact ⟨d + 1, Nat.le_refl _, by simp only [loTo]; rw [show i + (d + 1) = i + d + 1 by omega]; omega⟩
theorem hiTo_ge (a : List Int) (i : Nat) : ∀ d t, t ≤ d → a.getD (i + t) 0 ≤ hiTo a i d
  | 0, t, h => by rw [show t = 0 by omega]; exact Int.le_refl _
  | d + 1, t, h => by
    by_cases e : t = d + 1
    · subst e; simp only [hiTo]; rw [show i + (d + 1) = i + d + 1 by omega]; omega
    · have := hiTo_ge a i d t (by omega); simp only [hiTo]; omega
theorem hiTo_at (a : List Int) (i : Nat) : ∀ d, ∃ t, t ≤ d ∧ hiTo a i d = a.getD (i + t) 0
  | 0 => ⟨0, Nat.le_refl _, rfl⟩
  | d + 1 => by
    obtain ⟨t, h1, h2⟩ := hiTo_at a i d
    by_cases c : a.getD (i + d + 1) 0 ≤ hiTo a i d
    · exact ⟨t, by omega, by simp only [hiTo]; omega⟩
    · exact ⟨d + 1, Nat.le_refl _, by simp only [hiTo]; rw [show i + (d + 1) = i + d + 1 by omega]; omega⟩
/-- The cost of a part: the square of its sum, or its width. -/
def partV (a : List Int) (sq : Bool) (i j : Int) : Int :=
  if sq then smTo a i.toNat (j - i).toNat * smTo a i.toNat (j - i).toNat else hiTo a i.toNat (j - i).toNat - loTo a i.toNat (j - i).toNat
theorem sqr_nonneg (x : Int) : 0 ≤ x * x := by
  rcases Int.le_total 0 x with h | h
  · exact Int.mul_nonneg h h
  · have := Int.mul_nonneg (show 0 ≤ -x by omega) (show 0 ≤ -x by omega)
    rwa [Int.neg_mul_neg] at this
theorem part_nonneg (a : List Int) (sq : Bool) (i j : Int) : 0 ≤ partV a sq i j := by
  unfold partV
  split
  · exact sqr_nonneg _
  · have := loTo_le a i.toNat (j - i).toNat 0 (by omega)
    have := hiTo_ge a i.toNat (j - i).toNat 0 (by omega)
    omega
theorem part_one (a : List Int) (i : Int) : partV a false i i = 0 := by
  unfold partV
  rw [Int.sub_self]
  simp [hiTo, loTo]
theorem smTo_first (a : List Int) (i d : Nat) : smTo a i (d + 1) = a.getD i 0 + smTo a (i + 1) d := by
  unfold smTo
  rw [sumN_first]
  refine congrArg (a.getD i 0 + ·) (sumN_congr fun t _ => ?_)
  rw [show i + (t + 1) = i + 1 + t by omega]
theorem smTo_cut (a : List Int) (i d : Nat) : ∀ e, smTo a i (d + e + 1) = smTo a i d + smTo a (i + d + 1) e
  | 0 => by
    show sumN _ (d + 1) + a.getD (i + (d + 1)) 0 = _
    rw [show i + (d + 1) = i + d + 1 by omega]
    simp [smTo, sumN]
  | e + 1 => by
    have := smTo_cut a i d e
    show sumN _ (d + e + 1 + 1) + a.getD (i + (d + e + 1 + 1)) 0 = smTo a i d + (sumN _ (e + 1) + a.getD (i + d + 1 + (e + 1)) 0)
    unfold smTo at this ⊢
    rw [this, show i + (d + e + 1 + 1) = i + d + 1 + (e + 1) by omega]; omega
theorem smTo_nonneg {a : List Int} (h : ∀ x, x ∈ a → 0 ≤ x) (i d : Nat) : 0 ≤ smTo a i d := sumN_nonneg fun t _ => by
  by_cases c : i + t < a.length
  · rw [getD_in c]; exact h _ (List.getElem_mem c)
  · rw [List.getD_eq_getElem?_getD, List.getElem?_eq_none (by omega)]; exact Int.le_refl _
theorem part_more {a : List Int} {sq : Bool} (h : sq = true → ∀ x, x ∈ a → 0 ≤ x) : ∀ i j : Int, 0 ≤ i → i < j → j < (a.length : Int) → partV a sq i i + partV a sq (i + 1) j ≤ partV a sq i j := by
  intro i j h0 h1 _
  have e1 : (j - i).toNat = (j - (i + 1)).toNat + 1 := by omega
  have e2 : (i + 1).toNat = i.toNat + 1 := by omega
  cases sq with
  | false =>
    rw [part_one]
    unfold partV
    simp only [Bool.false_eq_true, if_false]
    rw [e1, e2]
    generalize (j - (i + 1)).toNat = d
    obtain ⟨t, t1, t2⟩ := hiTo_at a (i.toNat + 1) d
    obtain ⟨u, u1, u2⟩ := loTo_at a (i.toNat + 1) d
    have p := hiTo_ge a i.toNat (d + 1) (t + 1) (by omega)
    have q := loTo_le a i.toNat (d + 1) (u + 1) (by omega)
    rw [show i.toNat + (t + 1) = i.toNat + 1 + t by omega] at p
    rw [show i.toNat + (u + 1) = i.toNat + 1 + u by omega] at q
    omega
  | true =>
    have hn := h rfl
    unfold partV
    simp only [if_true]
    rw [Int.sub_self, e1, e2, smTo_first a i.toNat]
    have s0 : smTo a i.toNat (0 : Int).toNat = a.getD i.toNat 0 := by simp [smTo, sumN]
    rw [s0]
    have x0 : 0 ≤ a.getD i.toNat 0 := by rw [← s0]; exact smTo_nonneg hn _ _
    have y0 := smTo_nonneg hn (i.toNat + 1) (j - (i + 1)).toNat
    generalize smTo a (i.toNat + 1) (j - (i + 1)).toNat = y at y0
    generalize a.getD i.toNat 0 = x at x0
    have p := Int.mul_nonneg x0 y0
    have e : (x + y) * (x + y) = x * x + y * y + 2 * (x * y) := by rw [Int.add_mul, Int.mul_add, Int.mul_add, Int.mul_comm y x]; omega
    omega
theorem part_cross {a : List Int} (h : ∀ x, x ∈ a → 0 ≤ x) : ∀ p b y x : Int, 0 ≤ p → p ≤ b → b ≤ y → y ≤ x → x < (a.length : Int) → partV a true b x + partV a true p y ≤ partV a true p x + partV a true b y := by
  intro p b y x h0 h1 h2 h3 _
  -- A ahead of b, B from b to y, C behind y
  have main : ∀ A B C : Int, 0 ≤ A → 0 ≤ C → (B + C) * (B + C) + (A + B) * (A + B) ≤ (A + B + C) * (A + B + C) + B * B := by
    intro A B C hA hC
    have q := Int.mul_nonneg hA hC
    have e1 : (B + C) * (B + C) = B * B + C * C + 2 * (B * C) := by rw [Int.add_mul, Int.mul_add, Int.mul_add, Int.mul_comm C B]; omega
    have e2 : (A + B) * (A + B) = A * A + B * B + 2 * (A * B) := by rw [Int.add_mul, Int.mul_add, Int.mul_add, Int.mul_comm B A]; omega
    have e3 : (A + B + C) * (A + B + C) = A * A + B * B + C * C + 2 * (A * B) + 2 * (A * C) + 2 * (B * C) := by
      have e4 : (A + B + C) * (A + B + C) = (A + B) * (A + B) + 2 * ((A + B) * C) + C * C := by rw [Int.add_mul (A + B) C, Int.mul_add (A + B), Int.mul_add C, Int.mul_comm C (A + B)]; omega
      rw [e4, e2, Int.add_mul A B C]; omega
    omega
  -- sums from p or b on, up to y or x
  have cutL : ∀ z : Int, b ≤ z → ∃ A, 0 ≤ A ∧ smTo a p.toNat (z - p).toNat = A + smTo a b.toNat (z - b).toNat ∧ (p = b → A = 0) ∧ (p < b → A = smTo a p.toNat (b - p - 1).toNat) := by
    intro z hz
    by_cases e : p = b
    · subst e; exact ⟨0, Int.le_refl _, by omega, fun _ => rfl, fun hh => by omega⟩
    · refine ⟨smTo a p.toNat (b - p - 1).toNat, smTo_nonneg h _ _, ?_, fun hh => absurd hh e, fun _ => rfl⟩
      have := smTo_cut a p.toNat (b - p - 1).toNat (z - b).toNat
      rw [show (b - p - 1).toNat + (z - b).toNat + 1 = (z - p).toNat by omega, show p.toNat + (b - p - 1).toNat + 1 = b.toNat by omega] at this
      exact this
  have cutR : ∃ C, 0 ≤ C ∧ smTo a b.toNat (x - b).toNat = smTo a b.toNat (y - b).toNat + C := by
    by_cases e : y = x
    · subst e; exact ⟨0, Int.le_refl _, by omega⟩
    · refine ⟨smTo a (y + 1).toNat (x - y - 1).toNat, smTo_nonneg h _ _, ?_⟩
      have := smTo_cut a b.toNat (y - b).toNat (x - y - 1).toNat
      rw [show (y - b).toNat + (x - y - 1).toNat + 1 = (x - b).toNat by omega, show b.toNat + (y - b).toNat + 1 = (y + 1).toNat by omega] at this
      exact this
  obtain ⟨A, hA, a1, a2, a3⟩ := cutL y h2
  obtain ⟨A', -, b1, b2, b3⟩ := cutL x (by omega)
  obtain ⟨C, hC, c1⟩ := cutR
  have eA : A' = A := by
    by_cases e : p = b
    · rw [a2 e, b2 e]
    · rw [a3 (by omega), b3 (by omega)]
  subst eA
  unfold partV
  simp only [if_true]
  rw [b1, a1, c1]
  have := main A' (smTo a b.toNat (y - b).toNat) C hA hC
  rw [show A' + (smTo a b.toNat (y - b).toNat + C) = A' + smTo a b.toNat (y - b).toNat + C by omega]
  exact this

/- Backwards. -/
theorem sumN_turn (f : Nat → Int) : ∀ d, sumN (fun t => f (d - t)) (d + 1) = sumN f (d + 1)
  | 0 => rfl
  | d + 1 => by
    rw [sumN_first]
    have := sumN_turn f d
    rw [sumN_congr (g := fun t => f (d - t)) fun t _ => by rw [show d + 1 - (t + 1) = d - t by omega], this]
    show f (d + 1 - 0) + sumN f (d + 1) = sumN f (d + 1) + f (d + 1)
    rw [Nat.sub_zero]; omega
theorem part_turn {a : List Int} {sq : Bool} {i j : Int} (h0 : 0 ≤ i) (h1 : i ≤ j) (h2 : j < (a.length : Int)) : partV a.reverse sq i j = turnW (partV a sq) (a.length : Int) i j := by
  have g : ∀ t, t ≤ (j - i).toNat → a.reverse.getD (i.toNat + t) 0 = a.getD (((a.length : Int) - 1 - j).toNat + ((j - i).toNat - t)) 0 := fun t ht => by
    rw [List.getD_eq_getElem?_getD, List.getElem?_reverse (by omega), ← List.getD_eq_getElem?_getD, show a.length - 1 - (i.toNat + t) = ((a.length : Int) - 1 - j).toNat + ((j - i).toNat - t) by omega]
  unfold turnW partV
  rw [show (a.length : Int) - 1 - i - ((a.length : Int) - 1 - j) = j - i by omega]
  generalize (j - i).toNat = d at g
  generalize ((a.length : Int) - 1 - j).toNat = u at g
  generalize i.toNat = v at g
  have es : smTo a.reverse v d = smTo a u d := by
    unfold smTo
    rw [sumN_congr (g := fun t => a.getD (u + (d - t)) 0) fun t ht => g t (by omega)]
    exact sumN_turn (fun t => a.getD (u + t) 0) d
  have eh : hiTo a.reverse v d = hiTo a u d := by
    obtain ⟨t, t1, t2⟩ := hiTo_at a.reverse v d
    obtain ⟨s, s1, s2⟩ := hiTo_at a u d
    have p := hiTo_ge a u d (d - t) (by omega)
    have q := hiTo_ge a.reverse v d (d - s) (by omega)
    rw [g t t1] at t2
    rw [g (d - s) (by omega), show d - (d - s) = s by omega] at q
    omega
  have el : loTo a.reverse v d = loTo a u d := by
    obtain ⟨t, t1, t2⟩ := loTo_at a.reverse v d
    obtain ⟨s, s1, s2⟩ := loTo_at a u d
    have p := loTo_le a u d (d - t) (by omega)
    have q := loTo_le a.reverse v d (d - s) (by omega)
    rw [g t t1] at t2
    rw [g (d - s) (by omega), show d - (d - s) = s by omega] at q
    omega
  rw [es, eh, el]

/- What the functions answer, with the letter told as sq. -/
def splitLeast (a : List Int) (sq : Bool) (k : Nat) : Int := leastP (partV a sq) (a.length : Int) k
def splitFirst (a : List Int) (sq : Bool) (k : Nat) : List Int := firstP (partV a sq) (a.length : Int) k
def segOk : Int → List Int → Int → Bool
  | f, [], m => decide (f = m)
  | f, x :: l, m => decide (f ≤ x) && segOk (x + 1) l m
theorem segOk_true : ∀ {l : List Int} {f m : Int}, segOk f l m = true ↔ Seg f l m
  | [], f, m => by simp [segOk, Seg]
  | x :: l, f, m => by unfold segOk Seg; rw [Bool.and_eq_true, decide_eq_true_iff, segOk_true]
def splitCost (a : List Int) (sq : Bool) (l : List Int) : Int := segC (partV a sq) 0 l
/-- P70. -/
theorem split_cost_law {a l : List Int} {sq : Bool} (h0 : 0 < a.length) (h : Seg 0 l (a.length : Int)) : 1 ≤ l.length ∧ l.length ≤ a.length ∧ splitLeast a sq l.length ≤ splitCost a sq l := by
  have hl := h.le
  have h1 : 1 ≤ l.length := by
    cases l with
    | nil => have : (0 : Int) = (a.length : Int) := h; omega
    | cons x l => simp
  obtain ⟨-, -, p, -⟩ := least_is (W := partV a sq) (n := (a.length : Int)) h1 (by omega)
  exact ⟨h1, by omega, p l ⟨h, rfl⟩⟩
/-- P71. -/
theorem split_least_law {a : List Int} {sq : Bool} {k : Nat} (h1 : 1 ≤ k) (h2 : k ≤ a.length) : splitLeast a.reverse sq k = splitLeast a sq k ∧ 0 ≤ splitLeast a sq k ∧ (sq = false → k = a.length → splitLeast a sq k = 0) := by
  obtain ⟨p1, p2, p3, -⟩ := least_is (W := partV a sq) (n := (a.length : Int)) h1 (by omega)
  dsimp only at p1 p2 p3
  refine ⟨?_, ?_, fun e e2 => ?_⟩
  · unfold splitLeast
    rw [List.length_reverse, ← least_turn (W := partV a sq) h1 (by omega)]
    exact least_congr h1 (by omega) fun i j h3 h4 h5 => part_turn h3 h4 h5
  · unfold splitLeast; rw [← p2]; exact seg_nonneg (part_nonneg a sq) _ _
  · subst e
    have nn : 0 ≤ splitLeast a false k := by unfold splitLeast; rw [← p2]; exact seg_nonneg (part_nonneg a false) _ _
    have singles : ∀ (d : Nat) (f : Int), ∃ l, Seg f l (f + (d : Int)) ∧ l.length = d ∧ segC (partV a false) f l = 0 := by
      intro d
      induction d with
      | zero => intro f; exact ⟨[], by show f = f + ((0 : Nat) : Int); omega, rfl, rfl⟩
      | succ d ih =>
        intro f
        obtain ⟨l, q1, q2, q3⟩ := ih (f + 1)
        refine ⟨f :: l, ⟨Int.le_refl _, by rw [show f + ((d + 1 : Nat) : Int) = f + 1 + (d : Int) by omega]; exact q1⟩, by rw [List.length_cons, q2], ?_⟩
        simp only [segC]; rw [part_one, q3]; rfl
    obtain ⟨l, q1, q2, q3⟩ := singles a.length 0
    have := p3 l ⟨by rw [Int.zero_add] at q1; exact q1, by omega⟩
    unfold splitLeast at nn ⊢
    omega
/-- P72. -/
theorem split_first_law {a : List Int} {sq : Bool} {k : Nat} (h1 : 1 ≤ k) (h2 : k ≤ a.length) : Seg 0 (splitFirst a sq k) (a.length : Int) ∧ splitCost a sq (splitFirst a sq k) = splitLeast a sq k ∧ (splitFirst a sq k).length = k ∧ ∀ i, i + 1 < (splitFirst a sq k).length → (splitFirst a sq k).getD i 0 < (splitFirst a sq k).getD (i + 1) 0 := by
  obtain ⟨p1, p2, -, -⟩ := least_is (W := partV a sq) (n := (a.length : Int)) h1 (by omega)
  exact ⟨p1.1, p2, p1.2, split_asc p1.1⟩
/-- P73. -/
theorem split_costs_law {a : List Int} {sq : Bool} (h : sq = true → ∀ x, x ∈ a → 0 ≤ x) {k : Nat} (h1 : 1 ≤ k) (h2 : k < a.length) : splitLeast a sq (k + 1) ≤ splitLeast a sq k := least_falls (part_more h) h1 (by omega)
theorem split_bent_law {a : List Int} (h : ∀ x, x ∈ a → 0 ≤ x) {k : Nat} (h1 : 1 ≤ k) (h2 : k + 2 ≤ a.length) : splitLeast a true (k + 1) - splitLeast a true k ≤ splitLeast a true (k + 2) - splitLeast a true (k + 1) := by
  have := least_bent (part_cross h) h1 (by omega : ((k + 2 : Nat) : Int) ≤ (a.length : Int))
  unfold splitLeast; omega
def splitAny (a : List Int) (sq : Bool) (p : Int) : Int × Int := anyL (partV a sq) p a.length
/-- P75. -/
theorem split_many_law {n k : Nat} (h1 : 1 < k) (h2 : k < n) : chooseN (n - 1) (k - 1) = chooseN (n - 2) (k - 2) + chooseN (n - 2) (k - 1) := by
  obtain ⟨m, rfl⟩ : ∃ m, n = m + 2 := ⟨n - 2, by omega⟩
  obtain ⟨j, rfl⟩ : ∃ j, k = j + 2 := ⟨k - 2, by omega⟩
  rfl

/- The greatest sum of a part. -/
/-- How many parts are taken, and the sum of the last one, as it goes on. -/
def fitTo (a : List Int) (m : Int) : Nat → Int × Int
  | 0 => (1, 0)
  | i + 1 => if m < (fitTo a m i).2 + a.getD i 0 then ((fitTo a m i).1 + 1, a.getD i 0) else ((fitTo a m i).1, (fitTo a m i).2 + a.getD i 0)
def fitsB (a : List Int) (m : Int) (k : Nat) : Bool := a.all (fun x => decide (x ≤ m)) && decide ((fitTo a m a.length).1 ≤ (k : Int))
theorem fits_true {a : List Int} {m : Int} {k : Nat} : fitsB a m k = true ↔ (∀ x, x ∈ a → x ≤ m) ∧ (fitTo a m a.length).1 ≤ (k : Int) := by
  unfold fitsB
  rw [Bool.and_eq_true, List.all_eq_true, decide_eq_true_iff]
  constructor
  · rintro ⟨h1, h2⟩; exact ⟨fun x hx => by simpa using h1 x hx, h2⟩
  · rintro ⟨h1, h2⟩; exact ⟨fun x hx => by simpa using h1 x hx, h2⟩
theorem getD_nn {a : List Int} (h : ∀ x, x ∈ a → 0 ≤ x) (i : Nat) : 0 ≤ a.getD i 0 := by
  by_cases c : i < a.length
  · rw [getD_in c]; exact h _ (List.getElem_mem c)
  · rw [List.getD_eq_getElem?_getD, List.getElem?_eq_none (by omega)]; exact Int.le_refl _
theorem getD_le {a : List Int} {m : Int} (h0 : 0 ≤ m) (h : ∀ x, x ∈ a → x ≤ m) (i : Nat) : a.getD i 0 ≤ m := by
  by_cases c : i < a.length
  · rw [getD_in c]; exact h _ (List.getElem_mem c)
  · rw [List.getD_eq_getElem?_getD, List.getElem?_eq_none (by omega)]; exact h0
theorem fitTo_bd {a : List Int} {m : Int} (hn : ∀ x, x ∈ a → 0 ≤ x) (h0 : 0 ≤ m) (h : ∀ x, x ∈ a → x ≤ m) : ∀ i, 1 ≤ (fitTo a m i).1 ∧ 0 ≤ (fitTo a m i).2 ∧ (fitTo a m i).2 ≤ m ∧ sumN (fun j => a.getD j 0) i ≤ ((fitTo a m i).1 - 1) * m + (fitTo a m i).2
  | 0 => by simp [fitTo, sumN]; exact h0
  | i + 1 => by
    obtain ⟨h1, h2, h3, h4⟩ := fitTo_bd hn h0 h i
    have p := getD_nn hn i
    have q := getD_le h0 h i
    unfold fitTo
    show _ ∧ _ ∧ _ ∧ sumN (fun j => a.getD j 0) i + a.getD i 0 ≤ _
    split
    · refine ⟨by dsimp only; omega, p, q, ?_⟩
      dsimp only
      have e : ((fitTo a m i).1 + 1 - 1) * m = ((fitTo a m i).1 - 1) * m + m := by rw [show (fitTo a m i).1 + 1 - 1 = (fitTo a m i).1 - 1 + 1 by omega, Int.add_mul]; omega
      omega
    · exact ⟨h1, by dsimp only; omega, by dsimp only; omega, by dsimp only; omega⟩
/-- With a greater number no more parts are taken. -/
theorem fitTo_mono {a : List Int} {m m' : Int} (hn : ∀ x, x ∈ a → 0 ≤ x) (h0 : 0 ≤ m) (h : ∀ x, x ∈ a → x ≤ m) (hm : m ≤ m') : ∀ i, (fitTo a m' i).1 < (fitTo a m i).1 ∨ ((fitTo a m' i).1 = (fitTo a m i).1 ∧ (fitTo a m' i).2 ≤ (fitTo a m i).2)
  | 0 => .inr ⟨rfl, Int.le_refl _⟩
  | i + 1 => by
    have ih := fitTo_mono hn h0 h hm i
    have b := fitTo_bd hn h0 h i
    have p := getD_nn hn i
    unfold fitTo
    split
    · split
      · rcases ih with ih | ⟨e, ih⟩
        · by_cases c : (fitTo a m' i).1 + 1 < (fitTo a m i).1 + 1
          · exact .inl c
          · omega
        · exact .inr ⟨by dsimp only; omega, Int.le_refl _⟩
      · rcases ih with ih | ⟨e, ih⟩
        · by_cases c : (fitTo a m' i).1 + 1 < (fitTo a m i).1
          · exact .inl c
          · exact .inr ⟨by dsimp only; omega, by dsimp only; omega⟩
        · omega
    · split
      · rcases ih with ih | ⟨e, ih⟩
        · exact .inl (by dsimp only; omega)
        · exact .inl (by dsimp only; omega)
      · rcases ih with ih | ⟨e, ih⟩
        · exact .inl ih
        · exact .inr ⟨e, by dsimp only; omega⟩
theorem fits_mono {a : List Int} {m m' : Int} {k : Nat} (hn : ∀ x, x ∈ a → 0 ≤ x) (h0 : 0 ≤ m) (hm : m ≤ m') (h : fitsB a m k = true) : fitsB a m' k = true := by
  obtain ⟨h1, h2⟩ := fits_true.1 h
  refine fits_true.2 ⟨fun x hx => Int.le_trans (h1 x hx) hm, ?_⟩
  have := fitTo_mono hn h0 h1 hm a.length
  omega
theorem fits_more {a : List Int} {m : Int} {k : Nat} (h : fitsB a m k = true) : fitsB a m (k + 1) = true := by
  obtain ⟨h1, h2⟩ := fits_true.1 h
  exact fits_true.2 ⟨h1, by omega⟩
theorem sum_mem {a : List Int} (hn : ∀ x, x ∈ a → 0 ≤ x) : ∀ x, x ∈ a → x ≤ sumL a := by
  induction a with
  | nil => intro x hx; cases hx
  | cons y a ih =>
    have hs : 0 ≤ sumL a := by
      clear ih
      have : ∀ b : List Int, (∀ x, x ∈ b → 0 ≤ x) → 0 ≤ sumL b := by
        intro b
        induction b with
        | nil => intro _; exact Int.le_refl _
        | cons z b ih => intro h; have := h z (by simp); have := ih fun x hx => h x (by simp [hx]); simp only [sumL]; omega
      exact this a fun x hx => hn x (by simp [hx])
    intro x hx
    have hy := hn y (by simp)
    simp only [sumL]
    rcases List.mem_cons.1 hx with rfl | hx
    · omega
    · have := ih (fun z hz => hn z (by simp [hz])) x hx; omega
theorem sum_nn {a : List Int} (hn : ∀ x, x ∈ a → 0 ≤ x) : 0 ≤ sumL a := by
  rw [sumL_sum]; exact sumN_nonneg fun i _ => getD_nn hn i
/-- All in one part. -/
theorem fits_all {a : List Int} {k : Nat} (hn : ∀ x, x ∈ a → 0 ≤ x) (hk : 1 ≤ k) : fitsB a (sumL a) k = true := by
  have key : ∀ i, i ≤ a.length → (fitTo a (sumL a) i).1 = 1 ∧ (fitTo a (sumL a) i).2 = sumN (fun j => a.getD j 0) i := by
    intro i
    induction i with
    | zero => intro _; exact ⟨rfl, rfl⟩
    | succ i ih =>
      intro hi
      obtain ⟨h1, h2⟩ := ih (by omega)
      have le : sumN (fun j => a.getD j 0) (i + 1) ≤ sumL a := by
        rw [sumL_sum]
        have : ∀ d, sumN (fun j => a.getD j 0) (i + 1) ≤ sumN (fun j => a.getD j 0) (i + 1 + d) := by
          intro d
          induction d with
          | zero => exact Int.le_refl _
          | succ d ihd => have := getD_nn hn (i + 1 + d); show _ ≤ sumN (fun j => a.getD j 0) (i + 1 + d) + a.getD (i + 1 + d) 0; omega
        have := this (a.length - (i + 1))
        rwa [show i + 1 + (a.length - (i + 1)) = a.length by omega] at this
      have le' : sumN (fun j => a.getD j 0) i + a.getD i 0 ≤ sumL a := le
      unfold fitTo
      rw [if_neg (by rw [h2]; omega)]
      exact ⟨h1, by show (fitTo a (sumL a) i).2 + a.getD i 0 = sumN _ i + a.getD i 0; rw [h2]⟩
  exact fits_true.2 ⟨sum_mem hn, by rw [(key a.length (Nat.le_refl _)).1]; omega⟩
/-- The least number from m on that fits, among so many. -/
def evenFrom (a : List Int) (k : Nat) : Nat → Int → Int
  | 0, m => m
  | f + 1, m => if fitsB a m k then m else evenFrom a k f (m + 1)
def splitEven (a : List Int) (k : Nat) : Int := evenFrom a k (sumL a).toNat 0
theorem evenFrom_is {a : List Int} {k : Nat} : ∀ (f : Nat) (m : Int), fitsB a (m + (f : Int)) k = true → fitsB a (evenFrom a k f m) k = true ∧ m ≤ evenFrom a k f m ∧ evenFrom a k f m ≤ m + (f : Int) ∧ ∀ j, m ≤ j → j < evenFrom a k f m → fitsB a j k = false
  | 0, m, h => ⟨by have : evenFrom a k 0 m = m := rfl; rw [this]; simpa using h, Int.le_refl _, by simp [evenFrom], fun j h1 h2 => by have : evenFrom a k 0 m = m := rfl; omega⟩
  | f + 1, m, h => by
    unfold evenFrom
    split
    · rename_i c; exact ⟨c, Int.le_refl _, by omega, fun j h1 h2 => by omega⟩
    · rename_i c
      obtain ⟨h1, h2, h3, h4⟩ := evenFrom_is (a := a) (k := k) f (m + 1) (by rw [show m + 1 + (f : Int) = m + ((f + 1 : Nat) : Int) by omega]; exact h)
      refine ⟨h1, by omega, by omega, fun j h5 h6 => ?_⟩
      by_cases e : j = m
      · subst e; simpa using c
      · exact h4 j (by omega) h6
theorem splitEven_is {a : List Int} {k : Nat} (hn : ∀ x, x ∈ a → 0 ≤ x) (hk : 1 ≤ k) : fitsB a (splitEven a k) k = true ∧ 0 ≤ splitEven a k ∧ splitEven a k ≤ sumL a ∧ ∀ m, 0 ≤ m → (fitsB a m k = true ↔ splitEven a k ≤ m) := by
  have s := sum_nn hn
  obtain ⟨h1, h2, h3, h4⟩ := evenFrom_is (a := a) (k := k) (sumL a).toNat 0 (by rw [show (0 : Int) + ((sumL a).toNat : Int) = sumL a by omega]; exact fits_all hn hk)
  refine ⟨h1, h2, by unfold splitEven; omega, fun m hm => ⟨fun hf => ?_, fun hle => fits_mono hn h2 hle h1⟩⟩
  rcases Int.lt_or_le m (splitEven a k) with c | c
  · have := h4 m hm c; rw [hf] at this; cases this
  · exact c
/-- P76. -/
theorem split_even_law {a : List Int} {k : Nat} (hn : ∀ x, x ∈ a → 0 ≤ x) (hk : 1 ≤ k) : sumL a ≤ (k : Int) * splitEven a k ∧ (∀ x, x ∈ a → x ≤ splitEven a k) ∧ (k = 1 → splitEven a k = sumL a) ∧ splitEven a (k + 1) ≤ splitEven a k := by
  obtain ⟨h1, h2, h3, h4⟩ := splitEven_is hn hk
  obtain ⟨f1, f2⟩ := fits_true.1 h1
  obtain ⟨b1, b2, b3, b4⟩ := fitTo_bd hn h2 f1 a.length
  rw [← sumL_sum] at b4
  have le : sumL a ≤ (k : Int) * splitEven a k := by
    have m1 : ((fitTo a (splitEven a k) a.length).1 - 1) * splitEven a k ≤ ((k : Int) - 1) * splitEven a k := Int.mul_le_mul_of_nonneg_right (by omega) h2
    have m2 : (k : Int) * splitEven a k = ((k : Int) - 1) * splitEven a k + splitEven a k := by
      have : (k : Int) * splitEven a k = ((k : Int) - 1 + 1) * splitEven a k := by rw [show (k : Int) - 1 + 1 = (k : Int) by omega]
      rw [this, Int.add_mul]; omega
    omega
  refine ⟨le, f1, fun e => ?_, ?_⟩
  · subst e; simp at le; omega
  · obtain ⟨-, -, -, g4⟩ := splitEven_is (k := k + 1) hn (by omega)
    exact (g4 _ h2).1 (fits_more h1)
end Go.Proofs.Ytfkmnlhmldjieaa
