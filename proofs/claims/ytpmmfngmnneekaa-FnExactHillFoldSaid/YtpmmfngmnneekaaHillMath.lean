/-
  Hills as lists: round ones, products of entries far from each other, folding, raising. No program here. Conditions: none.
-/
import Derived.Test.YtpmmfngmnneekaaMergeMath3
namespace Go.Proofs.Ytpmmfngmnneekaa
open Go.RowKit

/- Sums over numbers. -/
def sumN (f : Nat → Int) : Nat → Int
  | 0 => 0
  | n + 1 => sumN f n + f n
theorem sumN_congr {f g : Nat → Int} {n : Nat} (h : ∀ k, k < n → f k = g k) : sumN f n = sumN g n := by
  induction n with
  | zero => rfl
  | succ n ih => unfold sumN; rw [ih fun k hk => h k (by omega), h n (by omega)]
theorem sumN_add (f g : Nat → Int) (n : Nat) : sumN (fun k => f k + g k) n = sumN f n + sumN g n := by
  induction n with
  | zero => rfl
  | succ n ih => unfold sumN; rw [ih]; omega
theorem sumN_sub (f g : Nat → Int) (n : Nat) : sumN (fun k => f k - g k) n = sumN f n - sumN g n := by
  induction n with
  | zero => rfl
  | succ n ih => unfold sumN; rw [ih]; omega
theorem sumN_mul (c : Int) (f : Nat → Int) (n : Nat) : sumN (fun k => c * f k) n = c * sumN f n := by
  induction n with
  | zero => simp [sumN]
  | succ n ih => unfold sumN; rw [ih, Int.mul_add]
theorem sumN_nonneg {f : Nat → Int} {n : Nat} (h : ∀ k, k < n → 0 ≤ f k) : 0 ≤ sumN f n := by
  induction n with
  | zero => exact Int.le_refl _
  | succ n ih => unfold sumN; have := ih fun k hk => h k (by omega); have := h n (by omega); omega
theorem sumN_zero (n : Nat) : sumN (fun _ => 0) n = 0 := by
  induction n with
  | zero => rfl
  | succ n ih => unfold sumN; rw [ih]; rfl
theorem sumN_swap (f : Nat → Nat → Int) (n m : Nat) : sumN (fun i => sumN (fun j => f i j) m) n = sumN (fun j => sumN (fun i => f i j) n) m := by
  induction n with
  | zero => simp only [sumN]; rw [sumN_zero]
  | succ n ih => simp only [sumN]; rw [ih, sumN_add]
theorem sumN_prod (f g : Nat → Int) (n m : Nat) : sumN f n * sumN g m = sumN (fun i => sumN (fun j => f i * g j) m) n := by
  induction n with
  | zero => simp [sumN]
  | succ n ih => simp only [sumN]; rw [← ih, Int.add_mul, sumN_mul]
theorem sumN_first (f : Nat → Int) (n : Nat) : sumN f (n + 1) = f 0 + sumN (fun k => f (k + 1)) n := by
  induction n with
  | zero => simp [sumN]
  | succ n ih => rw [sumN, ih]; simp only [sumN]; omega
theorem sumN_more {f : Nat → Int} {n m : Nat} (h : ∀ k, n ≤ k → f k = 0) (hm : n ≤ m) : sumN f m = sumN f n := by
  induction m with
  | zero => obtain rfl : n = 0 := (by omega); rfl
  | succ m ih =>
    rcases Nat.lt_or_ge m n with c | c
    · obtain rfl : n = m + 1 := (by omega)
      rfl
    · rw [sumN, ih c, h m c]; omega

/-- Entries nearer to each other: no lesser product. -/
def Pf (f : Nat → Int) : Prop := ∀ p d e, f p * f (p + d + e) ≤ f (p + d) * f (p + e)
def Nn (f : Nat → Int) : Prop := ∀ p, 0 ≤ f p
/-- Two minors of one sign: Cauchy and Binet's sum of them is no less than 0. -/
theorem binet (A A' B B' : Nat → Int) (n : Nat) (h : ∀ l m, 0 ≤ (A l * A' m - A m * A' l) * (B l * B' m - B' l * B m)) :
    sumN (fun l => A l * B' l) n * sumN (fun l => A' l * B l) n ≤ sumN (fun l => A l * B l) n * sumN (fun l => A' l * B' l) n := by
  have e1 : sumN (fun l => sumN (fun m => (A l * A' m - A m * A' l) * (B l * B' m - B' l * B m)) n) n
      = 2 * (sumN (fun l => A l * B l) n * sumN (fun l => A' l * B' l) n - sumN (fun l => A l * B' l) n * sumN (fun l => A' l * B l) n) := by
    have s1 : sumN (fun l => sumN (fun m => (A l * A' m) * (B l * B' m - B' l * B m)) n) n = sumN (fun l => A l * B l) n * sumN (fun l => A' l * B' l) n - sumN (fun l => A l * B' l) n * sumN (fun l => A' l * B l) n := by
      rw [sumN_prod, sumN_prod, ← sumN_sub]
      refine sumN_congr fun l _ => ?_
      rw [← sumN_sub]
      refine sumN_congr fun m _ => ?_
      rw [Int.mul_sub]
      congr 1 <;> ac_rfl
    have s2 : sumN (fun l => sumN (fun m => (A m * A' l) * (B' l * B m - B l * B' m)) n) n = sumN (fun l => A l * B l) n * sumN (fun l => A' l * B' l) n - sumN (fun l => A l * B' l) n * sumN (fun l => A' l * B l) n := by
      rw [sumN_swap, ← s1]
      refine sumN_congr fun l _ => sumN_congr fun m _ => ?_
      congr 1
      rw [Int.mul_comm (B' m) (B l), Int.mul_comm (B m) (B' l)]
    rw [show (2 : Int) * (sumN (fun l => A l * B l) n * sumN (fun l => A' l * B' l) n - sumN (fun l => A l * B' l) n * sumN (fun l => A' l * B l) n) = sumN (fun l => sumN (fun m => (A l * A' m) * (B l * B' m - B' l * B m)) n) n + sumN (fun l => sumN (fun m => (A m * A' l) * (B' l * B m - B l * B' m)) n) n by rw [s1, s2]; omega]
    rw [← sumN_add]
    refine sumN_congr fun l _ => ?_
    rw [← sumN_add]
    refine sumN_congr fun m _ => ?_
    rw [Int.sub_mul, Int.sub_eq_add_neg, ← Int.mul_neg]
    congr 2
    omega
  have e2 : 0 ≤ sumN (fun l => sumN (fun m => (A l * A' m - A m * A' l) * (B l * B' m - B' l * B m)) n) n := sumN_nonneg fun l _ => sumN_nonneg fun m _ => h l m
  omega

/-- b at k - l, 0 standing for one that is not there; a at l - 1 likewise. -/
def backF (b : Nat → Int) (k l : Nat) : Int := if l ≤ k then b (k - l) else 0
def lagF (a : Nat → Int) (l : Nat) : Int := if l = 0 then 0 else a (l - 1)
def foldF (a b : Nat → Int) (k : Nat) : Int := sumN (fun l => a l * backF b k l) (k + 1)
theorem backF_out {b : Nat → Int} {k l : Nat} (h : k < l) : backF b k l = 0 := if_neg (by omega)
theorem backF_succ (b : Nat → Int) (k l : Nat) : backF b (k + 1) (l + 1) = backF b k l := by
  unfold backF
  by_cases h : l ≤ k
  · rw [if_pos h, if_pos (by omega), show k + 1 - (l + 1) = k - l by omega]
  · rw [if_neg h, if_neg (by omega)]
theorem fold_more (a b : Nat → Int) (k n : Nat) (h : k + 1 ≤ n) : sumN (fun l => a l * backF b k l) n = foldF a b k :=
  sumN_more (fun l hl => by rw [backF_out (by omega), Int.mul_zero]) h
theorem fold_lag (a b : Nat → Int) (k n : Nat) (h : k + 2 ≤ n) : sumN (fun l => lagF a l * backF b (k + 1) l) n = foldF a b k := by
  obtain ⟨m, rfl⟩ : ∃ m, n = m + 1 := ⟨n - 1, by omega⟩
  rw [sumN_first, show lagF a 0 = 0 from rfl, Int.zero_mul, Int.zero_add, ← fold_more a b k m (by omega)]
  refine sumN_congr fun l _ => ?_
  rw [backF_succ]
  rfl
theorem lag_minor {a : Nat → Int} (ha : Pf a) (hn : Nn a) {l m : Nat} (h : l ≤ m) : 0 ≤ a l * lagF a m - a m * lagF a l := by
  rcases Nat.eq_or_lt_of_le h with rfl | h
  · omega
  · unfold lagF
    rw [if_neg (by omega)]
    by_cases e : l = 0
    · rw [if_pos e, Int.mul_zero]
      have := Int.mul_nonneg (hn l) (hn (m - 1))
      omega
    · rw [if_neg e]
      have := ha (l - 1) 1 (m - l)
      rw [show l - 1 + 1 + (m - l) = m by omega, show l - 1 + 1 = l by omega, show l - 1 + (m - l) = m - 1 by omega] at this
      rw [Int.mul_comm (a m)]
      omega
theorem back_minor {b : Nat → Int} (hb : Pf b) (hn : Nn b) {k j l m : Nat} (hkj : k ≤ j) (h : l ≤ m) : 0 ≤ backF b k l * backF b j m - backF b j l * backF b k m := by
  by_cases c : m ≤ k
  · unfold backF
    rw [if_pos (by omega), if_pos (by omega), if_pos (by omega), if_pos c]
    have := hb (k - m) (m - l) (j - k)
    rw [show k - m + (m - l) + (j - k) = j - l by omega, show k - m + (m - l) = k - l by omega, show k - m + (j - k) = j - m by omega] at this
    rw [Int.mul_comm (b (j - l))]
    omega
  · rw [backF_out (k := k) (l := m) (by omega), Int.mul_zero]
    have p : ∀ k l, 0 ≤ backF b k l := fun k l => by
      unfold backF
      by_cases c : l ≤ k
      · rw [if_pos c]; exact hn _
      · rw [if_neg c]; exact Int.le_refl _
    have := Int.mul_nonneg (p k l) (p j m)
    omega
/-- Folding keeps what is round. -/
theorem fold_step {a b : Nat → Int} (ha : Pf a) (na : Nn a) (hb : Pf b) (nb : Nn b) {i j : Nat} (h : i ≤ j) : foldF a b i * foldF a b (j + 2) ≤ foldF a b (i + 1) * foldF a b (j + 1) := by
  have := binet a (lagF a) (backF b (i + 1)) (backF b (j + 2)) (j + 3) fun l m => by
    rcases Nat.le_total l m with c | c
    · exact Int.mul_nonneg (lag_minor ha na c) (back_minor hb nb (by omega) c)
    · have h1 := lag_minor ha na c
      have h2 := back_minor hb nb (k := i + 1) (j := j + 2) (by omega) c
      have h3 := Int.mul_nonneg h1 h2
      rw [← Int.neg_mul_neg]
      have e1 : -(a l * lagF a m - a m * lagF a l) = a m * lagF a l - a l * lagF a m := by omega
      have e2 : -(backF b (i + 1) l * backF b (j + 2) m - backF b (j + 2) l * backF b (i + 1) m) = backF b (i + 1) m * backF b (j + 2) l - backF b (j + 2) m * backF b (i + 1) l := by
        rw [Int.mul_comm (backF b (i + 1) l), Int.mul_comm (backF b (j + 2) l)]; omega
      rw [e1, e2]
      exact h3
  rw [fold_more a b (j + 2) _ (by omega), fold_lag a b i _ (by omega), fold_more a b (i + 1) _ (by omega), fold_lag a b (j + 1) _ (by omega)] at this
  rw [Int.mul_comm]
  exact this
theorem fold_nn {a b : Nat → Int} (na : Nn a) (nb : Nn b) : Nn (foldF a b) := fun k => sumN_nonneg fun l _ => by
  unfold backF
  by_cases c : l ≤ k
  · rw [if_pos c]; exact Int.mul_nonneg (na _) (nb _)
  · rw [if_neg c]; simp

/-- Nearer by one each: enough for all. -/
def Pf1 (f : Nat → Int) : Prop := ∀ i j, i ≤ j → f i * f (j + 2) ≤ f (i + 1) * f (j + 1)
theorem pf1_pos {f : Nat → Int} (h : Pf1 f) (hn : Nn f) : ∀ d p, 0 < f p → 0 < f (p + d) → ∀ q, p ≤ q → q ≤ p + d → 0 < f q := by
  intro d
  induction d using Nat.strongRecOn with
  | ind d ih =>
    intro p h1 h2 q hq hq'
    by_cases e : q = p
    · rw [e]; exact h1
    by_cases e' : q = p + d
    · rw [e']; exact h2
    obtain ⟨m, rfl⟩ : ∃ m, d = m + 2 := ⟨d - 2, by omega⟩
    have g := h p (p + m) (by omega)
    have g2 : 0 < f p * f (p + m + 2) := Int.mul_pos h1 h2
    have g3 : 0 < f (p + 1) := by
      rcases Int.lt_or_eq_of_le (hn (p + 1)) with c | c
      · exact c
      · rw [← c, Int.zero_mul] at g; omega
    have g4 : 0 < f (p + m + 1) := by
      rcases Int.lt_or_eq_of_le (hn (p + m + 1)) with c | c
      · exact c
      · rw [← c, Int.mul_zero] at g; omega
    exact ih m (by omega) (p + 1) g3 (by rw [show p + 1 + m = p + m + 1 by omega]; exact g4) q (by omega) (by omega)
theorem pf_of {f : Nat → Int} (h : Pf1 f) (hn : Nn f) : Pf f := by
  intro p d
  induction d generalizing p with
  | zero => intro e; exact Int.le_refl _
  | succ d ih =>
    intro e
    by_cases z : f p * f (p + (d + 1) + e) = 0
    · rw [z]; exact Int.mul_nonneg (hn _) (hn _)
    have z1 : 0 < f p := by
      rcases Int.lt_or_eq_of_le (hn p) with c | c
      · exact c
      · rw [← c, Int.zero_mul] at z; exact absurd rfl z
    have z2 : 0 < f (p + (d + 1) + e) := by
      rcases Int.lt_or_eq_of_le (hn (p + (d + 1) + e)) with c | c
      · exact c
      · rw [← c, Int.mul_zero] at z; exact absurd rfl z
    have pos := pf1_pos h hn (d + 1 + e) p z1 (by rw [← Nat.add_assoc]; exact z2)
    by_cases e0 : e = 0
    · subst e0; exact Int.le_of_eq (Int.mul_comm _ _)
    obtain ⟨m, rfl⟩ : ∃ m, e = m + 1 := ⟨e - 1, by omega⟩
    have g1 := h p (p + d + m) (by omega)
    have g2 := ih (p + 1) m
    rw [show p + (d + 1) + (m + 1) = p + d + m + 2 by omega, show p + (d + 1) = p + 1 + d by omega, show p + (m + 1) = p + 1 + m by omega]
    rw [show p + d + m + 1 = p + 1 + d + m by omega] at g1
    exact Int.le_trans g1 g2
/-- Squares, and nothing 0 inside: enough. -/
theorem pf1_of {f : Nat → Int} (hn : Nn f) (hz : ∀ i j k, i < j → j < k → 0 < f i → 0 < f k → 0 < f j) (hs : ∀ k, f k * f (k + 2) ≤ f (k + 1) * f (k + 1)) : Pf1 f := by
  intro i j h
  obtain ⟨d, rfl⟩ : ∃ d, j = i + d := ⟨j - i, by omega⟩
  clear h
  induction d with
  | zero => exact hs i
  | succ d ih =>
    by_cases z : f i * f (i + (d + 1) + 2) = 0
    · rw [z]; exact Int.mul_nonneg (hn _) (hn _)
    have z1 : 0 < f i := by
      rcases Int.lt_or_eq_of_le (hn i) with c | c
      · exact c
      · rw [← c, Int.zero_mul] at z; exact absurd rfl z
    have z2 : 0 < f (i + (d + 1) + 2) := by
      rcases Int.lt_or_eq_of_le (hn (i + (d + 1) + 2)) with c | c
      · exact c
      · rw [← c, Int.mul_zero] at z; exact absurd rfl z
    have g1 := hs (i + d + 1)
    have p1 := hz i (i + d + 1) (i + (d + 1) + 2) (by omega) (by omega) z1 z2
    have p2 := hz i (i + d + 2) (i + (d + 1) + 2) (by omega) (by omega) z1 z2
    rw [show i + (d + 1) + 2 = i + d + 3 by omega, show i + (d + 1) + 1 = i + d + 2 by omega]
    rw [show i + d + 1 + 2 = i + d + 3 by omega, show i + d + 1 + 1 = i + d + 2 by omega] at g1
    -- x y ≤ u v, v w ≤ y y: x w ≤ u y
    have m1 := Int.mul_le_mul_of_nonneg_left g1 (Int.le_of_lt z1)
    have m2 := Int.mul_le_mul_of_nonneg_right ih (Int.le_of_lt p2)
    have m3 : f (i + d + 1) * (f i * f (i + d + 3)) ≤ f (i + d + 1) * (f (i + 1) * f (i + d + 2)) := by
      have q1 : f (i + d + 1) * (f i * f (i + d + 3)) = f i * (f (i + d + 1) * f (i + d + 3)) := by ac_rfl
      have q2 : f i * (f (i + d + 2) * f (i + d + 2)) = f i * f (i + d + 2) * f (i + d + 2) := by ac_rfl
      have q3 : f (i + 1) * f (i + d + 1) * f (i + d + 2) = f (i + d + 1) * (f (i + 1) * f (i + d + 2)) := by ac_rfl
      omega
    exact Int.le_of_mul_le_mul_left m3 p1
theorem pf1_zeros {f : Nat → Int} (h : Pf1 f) (hn : Nn f) {i j k : Nat} (h1 : i < j) (h2 : j < k) (hi : 0 < f i) (hk : 0 < f k) : 0 < f j := by
  have := pf1_pos h hn (k - i) i hi (by rw [show i + (k - i) = k by omega]; exact hk) j (by omega) (by omega)
  exact this
/-- No rise behind a fall. -/
theorem pf_valley {f : Nat → Int} (h : Pf f) (hn : Nn f) {j m : Nat} (hjm : j ≤ m) (h1 : f (j + 1) < f j) (h2 : f m < f (m + 1)) : False := by
  have g := h j 1 (m - j)
  rw [show j + 1 + (m - j) = m + 1 by omega, show j + (m - j) = m by omega] at g
  have n1 := hn (j + 1)
  have n2 := hn m
  have m1 : f (j + 1) * f m ≤ f (j + 1) * f (m + 1) := Int.mul_le_mul_of_nonneg_left (by omega) n1
  have m2 : f (j + 1) * f (m + 1) < f j * f (m + 1) := Int.mul_lt_mul_of_pos_right h1 (by omega)
  omega
/-- Between two greatest entries all are the same. -/
theorem pf_tops {f : Nat → Int} (h : Pf f) (hn : Nn f) {i n k : Nat} {x : Int} (h1 : i ≤ n) (h2 : n ≤ k) (hi : f i = x) (hk : f k = x) (hm : ∀ j, j ≤ k → f j ≤ x) : f n = x := by
  have g := h i (n - i) (k - n)
  rw [show i + (n - i) + (k - n) = k by omega, show i + (n - i) = n by omega, hi, hk] at g
  have n1 := hn n
  have m1 := hm n h2
  have m2 := hm (i + (k - n)) (by omega)
  rcases Int.lt_or_eq_of_le m1 with c | c
  · exfalso
    have q1 : f n * f (i + (k - n)) ≤ f n * x := Int.mul_le_mul_of_nonneg_left m2 n1
    have q2 : f n * x < x * x := Int.mul_lt_mul_of_pos_right c (by omega)
    omega
  · exact c
theorem pf_times {f g : Nat → Int} (hf : Pf f) (nf : Nn f) (hg : Pf g) (ng : Nn g) : Pf fun k => f k * g k := by
  intro p d e
  have h1 := hf p d e
  have h2 := hg p d e
  have m1 := Int.mul_le_mul_of_nonneg_right h1 (Int.mul_nonneg (ng p) (ng (p + d + e)))
  have m2 := Int.mul_le_mul_of_nonneg_left h2 (Int.mul_nonneg (nf (p + d)) (nf (p + e)))
  have q1 : f p * g p * (f (p + d + e) * g (p + d + e)) = f p * f (p + d + e) * (g p * g (p + d + e)) := by ac_rfl
  have q2 : f (p + d) * g (p + d) * (f (p + e) * g (p + e)) = f (p + d) * f (p + e) * (g (p + d) * g (p + e)) := by ac_rfl
  show f p * g p * (f (p + d + e) * g (p + d + e)) ≤ f (p + d) * g (p + d) * (f (p + e) * g (p + e))
  omega
theorem pf_pf1 {f : Nat → Int} (h : Pf f) : Pf1 f := by
  intro i j hij
  have := h i 1 (j + 1 - i)
  rw [show i + 1 + (j + 1 - i) = j + 2 by omega, show i + (j + 1 - i) = j + 1 by omega] at this
  exact this
end Go.Proofs.Ytpmmfngmnneekaa
