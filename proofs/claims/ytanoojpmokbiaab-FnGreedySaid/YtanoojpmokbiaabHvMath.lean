/-
  Mathematics of chapter 4: hills, valleys, folding, costs, as lists. Conditions: none.
-/
import Derived.Test.YtanoojpmokbiaabMathA
/-
  Hills as lists: round ones, products of entries far from each other, folding, raising. No program here. Conditions: none.
-/
namespace Go.Proofs.Ytanoojpmokbiaab
open Go.RowKit

/- Sums over numbers. -/
def sumN (f : Nat → Int) : Nat → Int
  | 0 => 0
  | n + 1 => sumN f n + f n
theorem sumN_congr {f g : Nat → Int} {n : Nat} (h : ∀ k, k < n → f k = g k) : sumN f n = sumN g n := by
  induction n with
  | zero => rfl
  | succ n ih => unfold sumN; rw [ih fun k hk => h k (by omega), h n (by omega)]
theorem sumN_add (f g : Nat → Int) (n : Nat) : sumN (fun k => f k + g k) n = sumN f n + sumN g n := by
  induction n with
  | zero => rfl
  | succ n ih => unfold sumN; rw [ih]; omega
theorem sumN_sub (f g : Nat → Int) (n : Nat) : sumN (fun k => f k - g k) n = sumN f n - sumN g n := by
  induction n with
  | zero => rfl
  | succ n ih => unfold sumN; rw [ih]; omega
theorem sumN_mul (c : Int) (f : Nat → Int) (n : Nat) : sumN (fun k => c * f k) n = c * sumN f n := by
  induction n with
  | zero => simp [sumN]
  | succ n ih => unfold sumN; rw [ih, Int.mul_add]
theorem sumN_nonneg {f : Nat → Int} {n : Nat} (h : ∀ k, k < n → 0 ≤ f k) : 0 ≤ sumN f n := by
  induction n with
  | zero => exact Int.le_refl _
  | succ n ih => unfold sumN; have := ih fun k hk => h k (by omega); have := h n (by omega); omega
theorem sumN_zero (n : Nat) : sumN (fun _ => 0) n = 0 := by
  induction n with
  | zero => rfl
  | succ n ih => unfold sumN; rw [ih]; rfl
theorem sumN_swap (f : Nat → Nat → Int) (n m : Nat) : sumN (fun i => sumN (fun j => f i j) m) n = sumN (fun j => sumN (fun i => f i j) n) m := by
  induction n with
  | zero => simp only [sumN]; rw [sumN_zero]
  | succ n ih => simp only [sumN]; rw [ih, sumN_add]
theorem sumN_prod (f g : Nat → Int) (n m : Nat) : sumN f n * sumN g m = sumN (fun i => sumN (fun j => f i * g j) m) n := by
  induction n with
  | zero => simp [sumN]
  | succ n ih => simp only [sumN]; rw [← ih, Int.add_mul, sumN_mul]
theorem sumN_first (f : Nat → Int) (n : Nat) : sumN f (n + 1) = f 0 + sumN (fun k => f (k + 1)) n := by
  induction n with
  | zero => simp [sumN]
  | succ n ih => rw [sumN, ih]; simp only [sumN]; omega
theorem sumN_more {f : Nat → Int} {n m : Nat} (h : ∀ k, n ≤ k → f k = 0) (hm : n ≤ m) : sumN f m = sumN f n := by
  induction m with
  | zero => obtain rfl : n = 0 := (by omega); rfl
  | succ m ih =>
    rcases Nat.lt_or_ge m n with c | c
    · obtain rfl : n = m + 1 := (by omega)
      rfl
    · rw [sumN, ih c, h m c]; omega

/-- Entries nearer to each other: no lesser product. -/
def Pf (f : Nat → Int) : Prop := ∀ p d e, f p * f (p + d + e) ≤ f (p + d) * f (p + e)
def Nn (f : Nat → Int) : Prop := ∀ p, 0 ≤ f p
/-- Two minors of one sign: Cauchy and Binet's sum of them is no less than 0. -/
theorem binet (A A' B B' : Nat → Int) (n : Nat) (h : ∀ l m, 0 ≤ (A l * A' m - A m * A' l) * (B l * B' m - B' l * B m)) :
    sumN (fun l => A l * B' l) n * sumN (fun l => A' l * B l) n ≤ sumN (fun l => A l * B l) n * sumN (fun l => A' l * B' l) n := by
  have e1 : sumN (fun l => sumN (fun m => (A l * A' m - A m * A' l) * (B l * B' m - B' l * B m)) n) n
      = 2 * (sumN (fun l => A l * B l) n * sumN (fun l => A' l * B' l) n - sumN (fun l => A l * B' l) n * sumN (fun l => A' l * B l) n) := by
    have s1 : sumN (fun l => sumN (fun m => (A l * A' m) * (B l * B' m - B' l * B m)) n) n = sumN (fun l => A l * B l) n * sumN (fun l => A' l * B' l) n - sumN (fun l => A l * B' l) n * sumN (fun l => A' l * B l) n := by
      rw [sumN_prod, sumN_prod, ← sumN_sub]
      refine sumN_congr fun l _ => ?_
      rw [← sumN_sub]
      refine sumN_congr fun m _ => ?_
      rw [Int.mul_sub]
      congr 1 <;> ac_rfl
    have s2 : sumN (fun l => sumN (fun m => (A m * A' l) * (B' l * B m - B l * B' m)) n) n = sumN (fun l => A l * B l) n * sumN (fun l => A' l * B' l) n - sumN (fun l => A l * B' l) n * sumN (fun l => A' l * B l) n := by
      rw [sumN_swap, ← s1]
      refine sumN_congr fun l _ => sumN_congr fun m _ => ?_
      congr 1
      rw [Int.mul_comm (B' m) (B l), Int.mul_comm (B m) (B' l)]
    rw [show (2 : Int) * (sumN (fun l => A l * B l) n * sumN (fun l => A' l * B' l) n - sumN (fun l => A l * B' l) n * sumN (fun l => A' l * B l) n) = sumN (fun l => sumN (fun m => (A l * A' m) * (B l * B' m - B' l * B m)) n) n + sumN (fun l => sumN (fun m => (A m * A' l) * (B' l * B m - B l * B' m)) n) n by rw [s1, s2]; omega]
    rw [← sumN_add]
    refine sumN_congr fun l _ => ?_
    rw [← sumN_add]
    refine sumN_congr fun m _ => ?_
    rw [Int.sub_mul, Int.sub_eq_add_neg, ← Int.mul_neg]
    congr 2
    omega
  have e2 : 0 ≤ sumN (fun l => sumN (fun m => (A l * A' m - A m * A' l) * (B l * B' m - B' l * B m)) n) n := sumN_nonneg fun l _ => sumN_nonneg fun m _ => h l m
  omega

/-- b at k - l, 0 standing for one that is not there; a at l - 1 likewise. -/
def backF (b : Nat → Int) (k l : Nat) : Int := if l ≤ k then b (k - l) else 0
def lagF (a : Nat → Int) (l : Nat) : Int := if l = 0 then 0 else a (l - 1)
def foldF (a b : Nat → Int) (k : Nat) : Int := sumN (fun l => a l * backF b k l) (k + 1)
theorem backF_out {b : Nat → Int} {k l : Nat} (h : k < l) : backF b k l = 0 := if_neg (by omega)
theorem backF_succ (b : Nat → Int) (k l : Nat) : backF b (k + 1) (l + 1) = backF b k l := by
  unfold backF
  by_cases h : l ≤ k
  · rw [if_pos h, if_pos (by omega), show k + 1 - (l + 1) = k - l by omega]
  · rw [if_neg h, if_neg (by omega)]
theorem fold_more (a b : Nat → Int) (k n : Nat) (h : k + 1 ≤ n) : sumN (fun l => a l * backF b k l) n = foldF a b k :=
  sumN_more (fun l hl => by rw [backF_out (by omega), Int.mul_zero]) h
theorem fold_lag (a b : Nat → Int) (k n : Nat) (h : k + 2 ≤ n) : sumN (fun l => lagF a l * backF b (k + 1) l) n = foldF a b k := by
  obtain ⟨m, rfl⟩ : ∃ m, n = m + 1 := ⟨n - 1, by omega⟩
  rw [sumN_first, show lagF a 0 = 0 from rfl, Int.zero_mul, Int.zero_add, ← fold_more a b k m (by omega)]
  refine sumN_congr fun l _ => ?_
  rw [backF_succ]
  rfl
theorem lag_minor {a : Nat → Int} (ha : Pf a) (hn : Nn a) {l m : Nat} (h : l ≤ m) : 0 ≤ a l * lagF a m - a m * lagF a l := by
  rcases Nat.eq_or_lt_of_le h with rfl | h
  · omega
  · unfold lagF
    rw [if_neg (by omega)]
    by_cases e : l = 0
    · rw [if_pos e, Int.mul_zero]
      have := Int.mul_nonneg (hn l) (hn (m - 1))
      omega
    · rw [if_neg e]
      have := ha (l - 1) 1 (m - l)
      rw [show l - 1 + 1 + (m - l) = m by omega, show l - 1 + 1 = l by omega, show l - 1 + (m - l) = m - 1 by omega] at this
      rw [Int.mul_comm (a m)]
      omega
theorem back_minor {b : Nat → Int} (hb : Pf b) (hn : Nn b) {k j l m : Nat} (hkj : k ≤ j) (h : l ≤ m) : 0 ≤ backF b k l * backF b j m - backF b j l * backF b k m := by
  by_cases c : m ≤ k
  · unfold backF
    rw [if_pos (by omega), if_pos (by omega), if_pos (by omega), if_pos c]
    have := hb (k - m) (m - l) (j - k)
    rw [show k - m + (m - l) + (j - k) = j - l by omega, show k - m + (m - l) = k - l by omega, show k - m + (j - k) = j - m by omega] at this
    rw [Int.mul_comm (b (j - l))]
    omega
  · rw [backF_out (k := k) (l := m) (by omega), Int.mul_zero]
    have p : ∀ k l, 0 ≤ backF b k l := fun k l => by
      unfold backF
      by_cases c : l ≤ k
      · rw [if_pos c]; exact hn _
      · rw [if_neg c]; exact Int.le_refl _
    have := Int.mul_nonneg (p k l) (p j m)
    omega
/-- Folding keeps what is round. -/
theorem fold_step {a b : Nat → Int} (ha : Pf a) (na : Nn a) (hb : Pf b) (nb : Nn b) {i j : Nat} (h : i ≤ j) : foldF a b i * foldF a b (j + 2) ≤ foldF a b (i + 1) * foldF a b (j + 1) := by
  have := binet a (lagF a) (backF b (i + 1)) (backF b (j + 2)) (j + 3) fun l m => by
    rcases Nat.le_total l m with c | c
    · exact Int.mul_nonneg (lag_minor ha na c) (back_minor hb nb (by omega) c)
    · have h1 := lag_minor ha na c
      have h2 := back_minor hb nb (k := i + 1) (j := j + 2) (by omega) c
      have h3 := Int.mul_nonneg h1 h2
      rw [← Int.neg_mul_neg]
      have e1 : -(a l * lagF a m - a m * lagF a l) = a m * lagF a l - a l * lagF a m := by omega
      have e2 : -(backF b (i + 1) l * backF b (j + 2) m - backF b (j + 2) l * backF b (i + 1) m) = backF b (i + 1) m * backF b (j + 2) l - backF b (j + 2) m * backF b (i + 1) l := by
        rw [Int.mul_comm (backF b (i + 1) l), Int.mul_comm (backF b (j + 2) l)]; omega
      rw [e1, e2]
      exact h3
  rw [fold_more a b (j + 2) _ (by omega), fold_lag a b i _ (by omega), fold_more a b (i + 1) _ (by omega), fold_lag a b (j + 1) _ (by omega)] at this
  rw [Int.mul_comm]
  exact this
theorem fold_nn {a b : Nat → Int} (na : Nn a) (nb : Nn b) : Nn (foldF a b) := fun k => sumN_nonneg fun l _ => by
  unfold backF
  by_cases c : l ≤ k
  · rw [if_pos c]; exact Int.mul_nonneg (na _) (nb _)
  · rw [if_neg c]; simp

/-- Nearer by one each: enough for all. -/
def Pf1 (f : Nat → Int) : Prop := ∀ i j, i ≤ j → f i * f (j + 2) ≤ f (i + 1) * f (j + 1)
theorem pf1_pos {f : Nat → Int} (h : Pf1 f) (hn : Nn f) : ∀ d p, 0 < f p → 0 < f (p + d) → ∀ q, p ≤ q → q ≤ p + d → 0 < f q := by
  intro d
  induction d using Nat.strongRecOn with
  | ind d ih =>
    intro p h1 h2 q hq hq'
    by_cases e : q = p
    · rw [e]; exact h1
    by_cases e' : q = p + d
    · rw [e']; exact h2
    obtain ⟨m, rfl⟩ : ∃ m, d = m + 2 := ⟨d - 2, by omega⟩
    have g := h p (p + m) (by omega)
    have g2 : 0 < f p * f (p + m + 2) := Int.mul_pos h1 h2
    have g3 : 0 < f (p + 1) := by
      rcases Int.lt_or_eq_of_le (hn (p + 1)) with c | c
      · exact c
      · rw [← c, Int.zero_mul] at g; omega
    have g4 : 0 < f (p + m + 1) := by
      rcases Int.lt_or_eq_of_le (hn (p + m + 1)) with c | c
      · exact c
      · rw [← c, Int.mul_zero] at g; omega
    exact ih m (by omega) (p + 1) g3 (by rw [show p + 1 + m = p + m + 1 by omega]; exact g4) q (by omega) (by omega)
theorem pf_of {f : Nat → Int} (h : Pf1 f) (hn : Nn f) : Pf f := by
  intro p d
  induction d generalizing p with
  | zero => intro e; exact Int.le_refl _
  | succ d ih =>
    intro e
    by_cases z : f p * f (p + (d + 1) + e) = 0
    · rw [z]; exact Int.mul_nonneg (hn _) (hn _)
    have z1 : 0 < f p := by
      rcases Int.lt_or_eq_of_le (hn p) with c | c
      · exact c
      · rw [← c, Int.zero_mul] at z; exact absurd rfl z
    have z2 : 0 < f (p + (d + 1) + e) := by
      rcases Int.lt_or_eq_of_le (hn (p + (d + 1) + e)) with c | c
      · exact c
      · rw [← c, Int.mul_zero] at z; exact absurd rfl z
    have pos := pf1_pos h hn (d + 1 + e) p z1 (by rw [← Nat.add_assoc]; exact z2)
    by_cases e0 : e = 0
    · subst e0; exact Int.le_of_eq (Int.mul_comm _ _)
    obtain ⟨m, rfl⟩ : ∃ m, e = m + 1 := ⟨e - 1, by omega⟩
    have g1 := h p (p + d + m) (by omega)
    have g2 := ih (p + 1) m
    rw [show p + (d + 1) + (m + 1) = p + d + m + 2 by omega, show p + (d + 1) = p + 1 + d by omega, show p + (m + 1) = p + 1 + m by omega]
    rw [show p + d + m + 1 = p + 1 + d + m by omega] at g1
    exact Int.le_trans g1 g2
/-- Squares, and nothing 0 inside: enough. -/
theorem pf1_of {f : Nat → Int} (hn : Nn f) (hz : ∀ i j k, i < j → j < k → 0 < f i → 0 < f k → 0 < f j) (hs : ∀ k, f k * f (k + 2) ≤ f (k + 1) * f (k + 1)) : Pf1 f := by
  intro i j h
  obtain ⟨d, rfl⟩ : ∃ d, j = i + d := ⟨j - i, by omega⟩
  clear h
  induction d with
  | zero => exact hs i
  | succ d ih =>
    by_cases z : f i * f (i + (d + 1) + 2) = 0
    · rw [z]; exact Int.mul_nonneg (hn _) (hn _)
    have z1 : 0 < f i := by
      rcases Int.lt_or_eq_of_le (hn i) with c | c
      · exact c
      · rw [← c, Int.zero_mul] at z; exact absurd rfl z
    have z2 : 0 < f (i + (d + 1) + 2) := by
      rcases Int.lt_or_eq_of_le (hn (i + (d + 1) + 2)) with c | c
      · exact c
      · rw [← c, Int.mul_zero] at z; exact absurd rfl z
    have g1 := hs (i + d + 1)
    have p1 := hz i (i + d + 1) (i + (d + 1) + 2) (by omega) (by omega) z1 z2
    have p2 := hz i (i + d + 2) (i + (d + 1) + 2) (by omega) (by omega) z1 z2
    rw [show i + (d + 1) + 2 = i + d + 3 by omega, show i + (d + 1) + 1 = i + d + 2 by omega]
    rw [show i + d + 1 + 2 = i + d + 3 by omega, show i + d + 1 + 1 = i + d + 2 by omega] at g1
    -- x y ≤ u v, v w ≤ y y: x w ≤ u y
    have m1 := Int.mul_le_mul_of_nonneg_left g1 (Int.le_of_lt z1)
    have m2 := Int.mul_le_mul_of_nonneg_right ih (Int.le_of_lt p2)
    have m3 : f (i + d + 1) * (f i * f (i + d + 3)) ≤ f (i + d + 1) * (f (i + 1) * f (i + d + 2)) := by
      have q1 : f (i + d + 1) * (f i * f (i + d + 3)) = f i * (f (i + d + 1) * f (i + d + 3)) := by ac_rfl
      have q2 : f i * (f (i + d + 2) * f (i + d + 2)) = f i * f (i + d + 2) * f (i + d + 2) := by ac_rfl
      have q3 : f (i + 1) * f (i + d + 1) * f (i + d + 2) = f (i + d + 1) * (f (i + 1) * f (i + d + 2)) := by ac_rfl
      omega
    exact Int.le_of_mul_le_mul_left m3 p1
theorem pf1_zeros {f : Nat → Int} (h : Pf1 f) (hn : Nn f) {i j k : Nat} (h1 : i < j) (h2 : j < k) (hi : 0 < f i) (hk : 0 < f k) : 0 < f j := by
  have := pf1_pos h hn (k - i) i hi (by rw [show i + (k - i) = k by omega]; exact hk) j (by omega) (by omega)
  exact this
/-- No rise behind a fall. -/
theorem pf_valley {f : Nat → Int} (h : Pf f) (hn : Nn f) {j m : Nat} (hjm : j ≤ m) (h1 : f (j + 1) < f j) (h2 : f m < f (m + 1)) : False := by
  have g := h j 1 (m - j)
  rw [show j + 1 + (m - j) = m + 1 by omega, show j + (m - j) = m by omega] at g
  have n1 := hn (j + 1)
  have n2 := hn m
  have m1 : f (j + 1) * f m ≤ f (j + 1) * f (m + 1) := Int.mul_le_mul_of_nonneg_left (by omega) n1
  have m2 : f (j + 1) * f (m + 1) < f j * f (m + 1) := Int.mul_lt_mul_of_pos_right h1 (by omega)
  omega
/-- Between two greatest entries all are the same. -/
theorem pf_tops {f : Nat → Int} (h : Pf f) (hn : Nn f) {i n k : Nat} {x : Int} (h1 : i ≤ n) (h2 : n ≤ k) (hi : f i = x) (hk : f k = x) (hm : ∀ j, j ≤ k → f j ≤ x) : f n = x := by
  have g := h i (n - i) (k - n)
  rw [show i + (n - i) + (k - n) = k by omega, show i + (n - i) = n by omega, hi, hk] at g
  have n1 := hn n
  have m1 := hm n h2
  have m2 := hm (i + (k - n)) (by omega)
  rcases Int.lt_or_eq_of_le m1 with c | c
  · exfalso
    have q1 : f n * f (i + (k - n)) ≤ f n * x := Int.mul_le_mul_of_nonneg_left m2 n1
    have q2 : f n * x < x * x := Int.mul_lt_mul_of_pos_right c (by omega)
    omega
  · exact c
theorem pf_times {f g : Nat → Int} (hf : Pf f) (nf : Nn f) (hg : Pf g) (ng : Nn g) : Pf fun k => f k * g k := by
  intro p d e
  have h1 := hf p d e
  have h2 := hg p d e
  have m1 := Int.mul_le_mul_of_nonneg_right h1 (Int.mul_nonneg (ng p) (ng (p + d + e)))
  have m2 := Int.mul_le_mul_of_nonneg_left h2 (Int.mul_nonneg (nf (p + d)) (nf (p + e)))
  have q1 : f p * g p * (f (p + d + e) * g (p + d + e)) = f p * f (p + d + e) * (g p * g (p + d + e)) := by ac_rfl
  have q2 : f (p + d) * g (p + d) * (f (p + e) * g (p + e)) = f (p + d) * f (p + e) * (g (p + d) * g (p + e)) := by ac_rfl
  show f p * g p * (f (p + d + e) * g (p + d + e)) ≤ f (p + d) * g (p + d) * (f (p + e) * g (p + e))
  omega
theorem pf_pf1 {f : Nat → Int} (h : Pf f) : Pf1 f := by
  intro i j hij
  have := h i 1 (j + 1 - i)
  rw [show i + 1 + (j + 1 - i) = j + 2 by omega, show i + (j + 1 - i) = j + 1 by omega] at this
  exact this
end Go.Proofs.Ytanoojpmokbiaab

/-
  Hills and rows with one valley as lists: round ones backwards, folded, raised; tops; least entries found by halving. No program here. Conditions: none.
-/
namespace Go.Proofs.Ytanoojpmokbiaab
open Go.RowKit

/- One valley. -/
def riseB (zs : List Int) (i : Nat) : Bool := (List.range i).any fun j => decide (zs.getD j 0 < zs.getD (j + 1) 0)
theorem riseB_true {zs : List Int} {i : Nat} : riseB zs i = true ↔ ∃ j, j < i ∧ zs.getD j 0 < zs.getD (j + 1) 0 := by
  unfold riseB
  simp
theorem riseB_succ (zs : List Int) (i : Nat) : riseB zs (i + 1) = (riseB zs i || decide (zs.getD i 0 < zs.getD (i + 1) 0)) := by
  unfold riseB
  rw [List.range_succ, List.any_append]
  simp
def oneB (zs : List Int) : Bool := (List.range (zs.length - 1)).all fun i => !(riseB zs i && decide (zs.getD (i + 1) 0 < zs.getD i 0))
def One (zs : List Int) : Prop := ∀ j m, j ≤ m → m + 1 < zs.length → zs.getD j 0 < zs.getD (j + 1) 0 → zs.getD m 0 ≤ zs.getD (m + 1) 0
theorem oneB_iff (zs : List Int) : oneB zs = true ↔ One zs := by
  unfold oneB One
  rw [List.all_eq_true]
  constructor
  · intro h j m h1 h2 h3
    rcases Nat.eq_or_lt_of_le h1 with rfl | h1
    · omega
    · have g := h m (List.mem_range.2 (by omega))
      rw [riseB_true.2 ⟨j, h1, h3⟩] at g
      simp at g
      simpa using g
  · intro h i hi
    rw [List.mem_range] at hi
    by_cases c : riseB zs i = true
    · obtain ⟨j, h1, h2⟩ := riseB_true.1 c
      have := h j i (by omega) (by omega) h2
      rw [c, decide_eq_false (by omega)]
      rfl
    · simp only [Bool.not_eq_true] at c
      rw [c]; rfl
theorem oneB_false {zs : List Int} {i : Nat} (hi : i + 1 < zs.length) (hr : riseB zs i = true) (hf : zs.getD (i + 1) 0 < zs.getD i 0) : oneB zs = false := by
  rw [← Bool.not_eq_true, oneB_iff]
  intro h
  obtain ⟨j, h1, h2⟩ := riseB_true.1 hr
  have := h j i (by omega) hi h2
  omega
theorem one_back {zs : List Int} (h : One zs) : One zs.reverse := by
  intro j m h1 h2 h3
  rw [List.length_reverse] at h2
  rw [reverse_getD zs j (by omega), reverse_getD zs (j + 1) (by omega)] at h3
  rw [reverse_getD zs m (by omega), reverse_getD zs (m + 1) h2]
  refine Int.not_lt.1 fun c => ?_
  have g := h (zs.length - 1 - (m + 1)) (zs.length - 1 - (j + 1)) (by omega) (by omega) (by rw [show zs.length - 1 - (m + 1) + 1 = zs.length - 1 - m by omega]; exact c)
  rw [show zs.length - 1 - (j + 1) + 1 = zs.length - 1 - j by omega] at g
  omega
theorem bent_one {zs : List Int} (h : bentB zs = true) : One zs := by
  intro j m h1 h2 h3
  have := bent_step h m j h1 h2
  omega
def valleyOneB (zs : List Int) : Bool := rowB zs && oneB zs

/-- The first place of a least entry. -/
def Fl (zs : List Int) (i : Nat) : Prop := i < zs.length ∧ (∀ j, j < zs.length → zs.getD i 0 ≤ zs.getD j 0) ∧ ∀ j, j < i → zs.getD i 0 < zs.getD j 0
theorem Fl.uniq {zs : List Int} {i j : Nat} (h : Fl zs i) (h' : Fl zs j) : i = j := by
  obtain ⟨h1, h2, h3⟩ := h
  obtain ⟨g1, g2, g3⟩ := h'
  rcases Nat.lt_trichotomy i j with c | c | c
  · have := g3 i c; have := h2 j g1; omega
  · exact c
  · have := h3 j c; have := g2 i h1; omega
theorem least_fl {zs : List Int} (hr : rowB zs = true) : ∃ i : Nat, leastB zs = (i : Int) ∧ Fl zs i := by
  obtain ⟨x, i, k, -, e2, -, h1, h2, h3, -, h5⟩ := least_spec hr
  refine ⟨i, e2, by omega, fun j hj => by rw [h3]; exact (h5 j hj).1, fun j hj => ?_⟩
  have g := h5 j (by omega)
  rw [h3]
  refine Int.not_le.1 fun c => ?_
  have := (g.2.1 (by omega)).1
  omega
theorem one_fall {zs : List Int} (h : One zs) {m : Nat} (hm : m + 1 < zs.length) (c : zs.getD (m + 1) 0 < zs.getD m 0) : ∀ j, j ≤ m → zs.getD m 0 ≤ zs.getD j 0 := by
  intro j hj
  obtain ⟨d, rfl⟩ : ∃ d, m = j + d := ⟨m - j, by omega⟩
  have key : ∀ e, e ≤ d → zs.getD (j + d) 0 ≤ zs.getD (j + d - e) 0 := by
    intro e
    induction e with
    | zero => intro _; exact Int.le_refl _
    | succ e ih =>
      intro he
      have g := ih (by omega)
      refine Int.le_trans g (Int.not_lt.1 fun c' => ?_)
      have := h (j + d - (e + 1)) (j + d) (by omega) hm (by rw [show j + d - (e + 1) + 1 = j + d - e by omega]; exact c')
      omega
  have := key d (Nat.le_refl _)
  rwa [show j + d - d = j by omega] at this
theorem one_rise {zs : List Int} (h : One zs) {m : Nat} (c : zs.getD m 0 < zs.getD (m + 1) 0) : ∀ j, m + 1 ≤ j → j < zs.length → zs.getD (m + 1) 0 ≤ zs.getD j 0 := by
  intro j hj
  obtain ⟨d, rfl⟩ : ∃ d, j = m + 1 + d := ⟨j - (m + 1), by omega⟩
  clear hj
  induction d with
  | zero => intro _; exact Int.le_refl _
  | succ d ih =>
    intro hl
    have g := ih (by omega)
    have := h m (m + 1 + d) (by omega) (by omega) c
    rw [show m + 1 + d + 1 = m + 1 + (d + 1) by omega] at this
    omega
/- Halving: where the first least entry is. -/
theorem fl_stay {zs : List Int} {i m : Nat} (hi : Fl zs i) (h : ∀ j, m < j → j < zs.length → zs.getD m 0 ≤ zs.getD j 0) : i ≤ m := by
  obtain ⟨h1, h2, h3⟩ := hi
  refine Classical.byContradiction fun c => ?_
  have := h3 m (by omega)
  have := h i (by omega) h1
  omega
theorem fl_rise {zs : List Int} {i m : Nat} (ho : One zs) (hi : Fl zs i) (c : zs.getD m 0 < zs.getD (m + 1) 0) : i ≤ m :=
  fl_stay hi fun j h1 h2 => by have := one_rise ho c j (by omega) h2; omega
theorem fl_fall {zs : List Int} {i m : Nat} (ho : One zs) (hi : Fl zs i) (c : zs.getD (m + 1) 0 < zs.getD m 0) (hm : m + 1 < zs.length) : m + 1 ≤ i := by
  obtain ⟨h1, h2, h3⟩ := hi
  refine Classical.byContradiction fun c' => ?_
  have := one_fall ho hm c i (by omega)
  have := h2 (m + 1) hm
  omega
/-- Some entry further on is less: no rise up to here, and the first least entry lies further on. -/
theorem fl_less {zs : List Int} {i m n : Nat} (ho : One zs) (hi : Fl zs i) (hmn : m < n) (hn : n < zs.length) (c : zs.getD n 0 < zs.getD m 0) : m + 1 ≤ i := by
  obtain ⟨h1, h2, h3⟩ := hi
  refine Classical.byContradiction fun c' => ?_
  -- a fall between m and n
  have key : ∀ d, m + d < zs.length → zs.getD (m + d) 0 < zs.getD m 0 → ∃ k, m ≤ k ∧ k + 1 < zs.length ∧ zs.getD (k + 1) 0 < zs.getD k 0 ∧ zs.getD m 0 ≤ zs.getD k 0 := by
    intro d
    induction d with
    | zero => intro _ h; exact absurd h (Int.lt_irrefl _)
    | succ d ih =>
      intro h g
      by_cases e : zs.getD (m + d) 0 < zs.getD m 0
      · exact ih (by omega) e
      · exact ⟨m + d, by omega, by omega, by rw [show m + d + 1 = m + (d + 1) by omega]; omega, by omega⟩
  obtain ⟨k, k1, k2, k3, k4⟩ := key (n - m) (by omega) (by rw [show m + (n - m) = n by omega]; exact c)
  have := one_fall ho k2 k3 i (by omega)
  have := h2 n hn
  omega

/- Hills. -/
def negL (zs : List Int) : List Int := zs.map fun z => 0 - z
theorem neg_len (zs : List Int) : (negL zs).length = zs.length := by simp [negL]
theorem neg_getD (zs : List Int) (k : Nat) : (negL zs).getD k 0 = 0 - zs.getD k 0 := by
  by_cases h : k < zs.length
  · rw [getD_in (by rw [neg_len]; exact h), getD_in h]; simp [negL]
  · rw [List.getD_eq_getElem?_getD, List.getD_eq_getElem?_getD, List.getElem?_eq_none (by rw [neg_len]; omega), List.getElem?_eq_none (by omega)]; rfl
theorem neg_row {zs : List Int} (h : rowB zs = true) : rowB (negL zs) = true := by
  rw [rowB_true] at h ⊢
  rw [neg_len]
  refine ⟨fun z hz => ?_, h.2⟩
  unfold negL at hz
  rw [List.mem_map] at hz
  obtain ⟨y, hy, rfl⟩ := hz
  have := h.1 y hy
  omega
def nnB (zs : List Int) : Bool := zs.all fun z => decide (0 ≤ z)
def hillB (zs : List Int) : Bool := nnB zs && rowB zs
theorem nnB_nn {zs : List Int} (h : nnB zs = true) : Nn fun k => zs.getD k 0 := by
  intro k
  show 0 ≤ zs.getD k 0
  by_cases c : k < zs.length
  · rw [getD_in c]
    unfold nnB at h
    rw [List.all_eq_true] at h
    simpa using h _ (List.getElem_mem c)
  · rw [List.getD_eq_getElem?_getD, List.getElem?_eq_none (by omega)]; exact Int.le_refl _
theorem nnB_of {zs : List Int} (h : ∀ k, k < zs.length → 0 ≤ zs.getD k 0) : nnB zs = true := by
  unfold nnB
  rw [List.all_eq_true]
  intro z hz
  obtain ⟨k, hk, rfl⟩ := List.getElem_of_mem hz
  have := h k hk
  rw [getD_in hk] at this
  simpa using this
theorem nnB_false {zs : List Int} {k : Nat} (h : zs.getD k 0 < 0) : nnB zs = false := by
  rw [← Bool.not_eq_true]
  intro c
  have : 0 ≤ zs.getD k 0 := nnB_nn c k
  omega
theorem getD_out {zs : List Int} {k : Nat} (h : zs.length ≤ k) : zs.getD k 0 = 0 := by
  rw [List.getD_eq_getElem?_getD, List.getElem?_eq_none h]; rfl
/-- A 0 behind a positive entry, up to the place i. -/
def endsB (zs : List Int) (i : Nat) : Bool := (List.range i).any fun j => decide (0 < zs.getD j 0) && decide (zs.getD (j + 1) 0 = 0)
theorem endsB_true {zs : List Int} {i : Nat} : endsB zs i = true ↔ ∃ j, j < i ∧ 0 < zs.getD j 0 ∧ zs.getD (j + 1) 0 = 0 := by
  unfold endsB
  simp
theorem endsB_succ (zs : List Int) (i : Nat) : endsB zs (i + 1) = (endsB zs i || decide (0 < zs.getD i 0) && decide (zs.getD (i + 1) 0 = 0)) := by
  unfold endsB
  rw [List.range_succ, List.any_append]
  simp
def roundB (zs : List Int) : Bool := (List.range (zs.length - 1)).all fun i => !(endsB zs (i + 1) && decide (0 < zs.getD (i + 1) 0)) && !(decide (i + 2 < zs.length) && decide (zs.getD (i + 1) 0 * zs.getD (i + 1) 0 < zs.getD i 0 * zs.getD (i + 2) 0))
def RdH (zs : List Int) : Prop := (∀ i j k, i < j → j < k → k < zs.length → 0 < zs.getD i 0 → 0 < zs.getD k 0 → 0 < zs.getD j 0) ∧ ∀ k, k + 2 < zs.length → zs.getD k 0 * zs.getD (k + 2) 0 ≤ zs.getD (k + 1) 0 * zs.getD (k + 1) 0
theorem roundB_iff {zs : List Int} (hn : nnB zs = true) : roundB zs = true ↔ RdH zs := by
  have nn := nnB_nn hn
  unfold roundB
  rw [List.all_eq_true]
  constructor
  · intro h
    refine ⟨fun i j k h1 h2 h3 h4 h5 => ?_, fun k hk => ?_⟩
    · refine Classical.byContradiction fun c => ?_
      -- the first 0 behind i
      have key : ∀ d, i + d ≤ j → 0 < zs.getD (i + d) 0 ∨ ∃ p, p < i + d ∧ 0 < zs.getD p 0 ∧ zs.getD (p + 1) 0 = 0 := by
        intro d
        induction d with
        | zero => intro _; exact .inl h4
        | succ d ih =>
          intro hd
          rcases ih (by omega) with g | ⟨p, g1, g2⟩
          · by_cases e : zs.getD (i + d + 1) 0 = 0
            · exact .inr ⟨i + d, by omega, g, e⟩
            · have : 0 ≤ zs.getD (i + d + 1) 0 := nn (i + d + 1)
              exact .inl (by rw [show i + (d + 1) = i + d + 1 by omega]; omega)
          · exact .inr ⟨p, by omega, g2⟩
      rcases key (j - i) (by omega) with g | ⟨p, g1, g2⟩
      · rw [show i + (j - i) = j by omega] at g; exact c g
      · have q := h (k - 1) (List.mem_range.2 (by omega))
        rw [show k - 1 + 1 = k by omega, endsB_true.2 ⟨p, by omega, g2⟩, decide_eq_true h5] at q
        simp at q
    · have q := h k (List.mem_range.2 (by omega))
      rw [decide_eq_true hk, Bool.and_eq_true] at q
      simpa using q.2
  · rintro ⟨h1, h2⟩ i hi
    rw [List.mem_range] at hi
    rw [Bool.and_eq_true]
    constructor
    · by_cases c : endsB zs (i + 1) = true
      · obtain ⟨j, g1, g2, g3⟩ := endsB_true.1 c
        by_cases e : 0 < zs.getD (i + 1) 0
        · rcases Nat.eq_or_lt_of_le (show j + 1 ≤ i + 1 by omega) with e' | e'
          · rw [e'] at g3; omega
          · have := h1 j (j + 1) (i + 1) (by omega) e' (by omega) g2 e
            omega
        · rw [decide_eq_false e]; simp
      · simp only [Bool.not_eq_true] at c
        rw [c]; rfl
    · by_cases c : i + 2 < zs.length
      · have := h2 i c
        rw [decide_eq_false (show ¬ zs.getD (i + 1) 0 * zs.getD (i + 1) 0 < zs.getD i 0 * zs.getD (i + 2) 0 by omega)]
        simp
      · rw [decide_eq_false c]; rfl
theorem rd_pf1 {zs : List Int} (hn : nnB zs = true) : RdH zs ↔ Pf1 fun k => zs.getD k 0 := by
  have nn := nnB_nn hn
  constructor
  · rintro ⟨h1, h2⟩
    refine pf1_of nn (fun i j k p1 p2 p3 p4 => ?_) fun k => ?_
    · refine h1 i j k p1 p2 (Classical.byContradiction fun c => ?_) p3 p4
      have : zs.getD k 0 = 0 := getD_out (by omega)
      have : 0 < zs.getD k 0 := p4
      omega
    · by_cases c : k + 2 < zs.length
      · exact h2 k c
      · show zs.getD k 0 * zs.getD (k + 2) 0 ≤ zs.getD (k + 1) 0 * zs.getD (k + 1) 0
        rw [getD_out (k := k + 2) (by omega), Int.mul_zero]
        exact Int.mul_nonneg (nn (k + 1)) (nn (k + 1))
  · intro h
    exact ⟨fun i j k p1 p2 _ p4 p5 => pf1_zeros h nn p1 p2 p4 p5, fun k _ => h k k (Nat.le_refl _)⟩
theorem nn_back {zs : List Int} (hn : nnB zs = true) : nnB zs.reverse = true := by
  unfold nnB at hn ⊢
  rw [List.all_reverse]; exact hn
theorem rd_back {zs : List Int} (h : RdH zs) : RdH zs.reverse := by
  obtain ⟨h1, h2⟩ := h
  refine ⟨fun i j k p1 p2 p3 p4 p5 => ?_, fun k hk => ?_⟩
  · rw [List.length_reverse] at p3
    rw [reverse_getD zs _ (by omega)] at p4 p5 ⊢
    exact h1 (zs.length - 1 - k) (zs.length - 1 - j) (zs.length - 1 - i) (by omega) (by omega) (by omega) p5 p4
  · rw [List.length_reverse] at hk
    rw [reverse_getD zs _ (by omega), reverse_getD zs _ (by omega), reverse_getD zs _ (by omega)]
    have := h2 (zs.length - 1 - (k + 2)) (by omega)
    rw [show zs.length - 1 - (k + 2) + 2 = zs.length - 1 - k by omega, show zs.length - 1 - (k + 2) + 1 = zs.length - 1 - (k + 1) by omega] at this
    rw [Int.mul_comm]
    exact this
theorem rd_one {zs : List Int} (hn : nnB zs = true) (h : RdH zs) : One (negL zs) := by
  intro j m h1 h2 h3
  rw [neg_getD, neg_getD] at h3 ⊢
  have nn := nnB_nn hn
  have pf := pf_of ((rd_pf1 hn).1 h) nn
  refine Int.not_lt.1 fun c => ?_
  exact pf_valley pf nn h1 (show zs.getD (j + 1) 0 < zs.getD j 0 by omega) (show zs.getD m 0 < zs.getD (m + 1) 0 by omega)

/- Folding. -/
def foldHL (a b : List Int) : List Int := (List.range (a.length + b.length - 1)).map (foldF (fun k => a.getD k 0) fun k => b.getD k 0)
theorem fold_out (a b : List Int) {k : Nat} (h : a.length + b.length - 1 ≤ k) (h0 : 0 < b.length) : foldF (fun k => a.getD k 0) (fun k => b.getD k 0) k = 0 := by
  unfold foldF
  rw [sumN_congr (g := fun _ => 0) fun l hl => ?_, sumN_zero]
  unfold backF
  rw [if_pos (by omega)]
  show a.getD l 0 * b.getD (k - l) 0 = 0
  by_cases c : l < a.length
  · rw [getD_out (zs := b) (by omega), Int.mul_zero]
  · rw [getD_out (zs := a) (by omega), Int.zero_mul]
theorem fold_len (a b : List Int) : (foldHL a b).length = a.length + b.length - 1 := by simp [foldHL]
theorem fold_getD (a b : List Int) (h0 : 0 < b.length) (k : Nat) : (foldHL a b).getD k 0 = foldF (fun k => a.getD k 0) (fun k => b.getD k 0) k := by
  by_cases c : k < a.length + b.length - 1
  · rw [getD_in (by rw [fold_len]; exact c)]; simp [foldHL]
  · rw [getD_out (by rw [fold_len]; omega), fold_out a b (by omega) h0]
theorem fold_rd {a b : List Int} (h0 : 0 < b.length) (na : nnB a = true) (nb : nnB b = true) (ha : RdH a) (hb : RdH b) : nnB (foldHL a b) = true ∧ RdH (foldHL a b) := by
  have fa := nnB_nn na
  have fb := nnB_nn nb
  have h1 : nnB (foldHL a b) = true := nnB_of fun k _ => by rw [fold_getD a b h0]; exact fold_nn fa fb k
  refine ⟨h1, (rd_pf1 h1).2 fun i j hij => ?_⟩
  show (foldHL a b).getD i 0 * (foldHL a b).getD (j + 2) 0 ≤ (foldHL a b).getD (i + 1) 0 * (foldHL a b).getD (j + 1) 0
  rw [fold_getD a b h0, fold_getD a b h0, fold_getD a b h0, fold_getD a b h0]
  exact fold_step (pf_of ((rd_pf1 na).1 ha) fa) fa (pf_of ((rd_pf1 nb).1 hb) fb) fb hij
theorem sumN_back (f : Nat → Int) (n : Nat) : sumN f n = sumN (fun k => f (n - 1 - k)) n := by
  induction n with
  | zero => rfl
  | succ n ih =>
    rw [sumN_first (fun k => f (n + 1 - 1 - k)), sumN, ih]
    rw [Int.add_comm]
    congr 1
    exact sumN_congr fun k hk => by rw [show n + 1 - 1 - (k + 1) = n - 1 - k by omega]
theorem foldF_comm (a b : Nat → Int) (k : Nat) : foldF a b k = foldF b a k := by
  unfold foldF
  rw [sumN_back]
  refine sumN_congr fun l hl => ?_
  unfold backF
  rw [if_pos (by omega), if_pos (by omega), show k - (k + 1 - 1 - l) = l by omega, show k + 1 - 1 - l = k - l by omega, Int.mul_comm]
theorem foldHL_comm (a b : List Int) : foldHL a b = foldHL b a := by
  unfold foldHL
  rw [show a.length + b.length - 1 = b.length + a.length - 1 by omega]
  exact List.map_congr_left fun k _ => foldF_comm _ _ k
theorem sumN_list : ∀ zs : List Int, sumN (fun k => zs.getD k 0) zs.length = zs.sum := by
  intro zs
  induction zs with
  | nil => rfl
  | cons z zs ih =>
    rw [List.length_cons, sumN_first, List.sum_cons, ← ih]
    rfl
theorem sumN_shift {f : Nat → Int} {l : Nat} (h : ∀ k, k < l → f k = 0) (m : Nat) : sumN f (l + m) = sumN (fun k => f (l + k)) m := by
  induction m with
  | zero => rw [Nat.add_zero, sumN_congr (g := fun _ => 0) h, sumN_zero]; rfl
  | succ m ih => rw [← Nat.add_assoc, sumN, sumN, ih]
theorem fold_total (a b : List Int) (h0 : 0 < a.length) (h1 : 0 < b.length) : (foldHL a b).sum = a.sum * b.sum := by
  rw [← sumN_list, ← sumN_list, ← sumN_list, fold_len]
  rw [sumN_congr fun k _ => (fold_getD a b h1 k).trans (fold_more _ _ k (a.length + b.length - 1 + 1) (by
    rename_i h
    omega)).symm]
  rw [sumN_swap, sumN_prod]
  rw [sumN_more (n := a.length) (fun l hl => by
    rw [sumN_congr (g := fun _ => 0) fun k _ => ?_, sumN_zero]
    rw [getD_out (zs := a) hl, Int.zero_mul]) (by omega)]
  refine sumN_congr fun l hl => ?_
  rw [sumN_mul, sumN_mul]
  congr 1
  rw [show a.length + b.length - 1 = l + (a.length + b.length - 1 - l) by omega, sumN_shift fun k hk => backF_out hk]
  rw [sumN_more (n := b.length) (fun k hk => ?_) (by omega)]
  · refine sumN_congr fun k _ => ?_
    unfold backF
    rw [if_pos (by omega), show l + k - l = k by omega]
  · unfold backF
    rw [if_pos (by omega), show l + k - l = k by omega]
    exact getD_out hk

/- Raising. -/
def chooseN : Nat → Nat → Nat
  | _, 0 => 1
  | 0, _ + 1 => 0
  | n + 1, k + 1 => chooseN n k + chooseN n (k + 1)
def raiseL (a : List Int) : List Int := (List.range a.length).map fun k => (chooseN (a.length - 1) k : Int) * a.getD k 0
theorem raise_len (a : List Int) : (raiseL a).length = a.length := by simp [raiseL]
theorem raise_getD (a : List Int) (k : Nat) : (raiseL a).getD k 0 = (chooseN (a.length - 1) k : Int) * a.getD k 0 := by
  by_cases c : k < a.length
  · rw [getD_in (by rw [raise_len]; exact c)]; simp [raiseL]
  · rw [getD_out (by rw [raise_len]; omega), getD_out (by omega), Int.mul_zero]
theorem choose_out : ∀ (n k : Nat), n < k → chooseN n k = 0 := by
  intro n
  induction n with
  | zero => intro k h; obtain ⟨m, rfl⟩ : ∃ m, k = m + 1 := ⟨k - 1, by omega⟩; rfl
  | succ n ih =>
    intro k h
    obtain ⟨m, rfl⟩ : ∃ m, k = m + 1 := ⟨k - 1, by omega⟩
    rw [chooseN, ih m (by omega), ih (m + 1) (by omega)]
theorem choose_zero (n : Nat) : chooseN n 0 = 1 := by cases n <;> rfl
theorem choose_self (n : Nat) : chooseN n n = 1 := by
  induction n with
  | zero => rfl
  | succ n ih => rw [chooseN, ih, choose_out n (n + 1) (by omega)]
theorem choose_pos : ∀ (n k : Nat), k ≤ n → 0 < chooseN n k := by
  intro n
  induction n with
  | zero => intro k h; obtain rfl : k = 0 := (by omega); decide
  | succ n ih =>
    intro k h
    cases k with
    | zero => rw [choose_zero]; decide
    | succ k => rw [chooseN]; have := ih k (by omega); omega
theorem choose_round : ∀ n, n < 12 → ∀ k, k < 12 → chooseN n k * chooseN n (k + 2) ≤ chooseN n (k + 1) * chooseN n (k + 1) := by decide +kernel
theorem choose_pf {n : Nat} (h : n < 12) : Pf fun k => (chooseN n k : Int) := by
  have nn : Nn fun k => (chooseN n k : Int) := fun k => Int.natCast_nonneg _
  refine pf_of (pf1_of nn (fun i j k p1 p2 p3 p4 => ?_) fun k => ?_) nn
  · have p4' : 0 < (chooseN n k : Int) := p4
    have : k ≤ n := Classical.byContradiction fun c => by
      rw [choose_out n k (by omega)] at p4'; omega
    have := choose_pos n j (by omega)
    show 0 < (chooseN n j : Int)
    omega
  · show (chooseN n k : Int) * (chooseN n (k + 2) : Int) ≤ (chooseN n (k + 1) : Int) * (chooseN n (k + 1) : Int)
    by_cases c : k < 12
    · have := choose_round n h k c
      rw [← Int.natCast_mul, ← Int.natCast_mul]
      omega
    · rw [choose_out n (k + 2) (by omega)]
      simp
      exact Int.mul_nonneg (Int.natCast_nonneg _) (Int.natCast_nonneg _)
theorem raise_rd {a : List Int} (hr : rowB a = true) (na : nnB a = true) (ha : RdH a) : nnB (raiseL a) = true ∧ RdH (raiseL a) := by
  have hl := (rowB_true.1 hr).2
  have fa := nnB_nn na
  have nn : Nn fun k => (chooseN (a.length - 1) k : Int) := fun k => Int.natCast_nonneg _
  have h1 : nnB (raiseL a) = true := nnB_of fun k _ => by rw [raise_getD]; exact Int.mul_nonneg (nn k) (fa k)
  refine ⟨h1, (rd_pf1 h1).2 ?_⟩
  have := pf_pf1 (pf_times (choose_pf (show a.length - 1 < 12 by omega)) nn (pf_of ((rd_pf1 na).1 ha) fa) fa)
  intro i j hij
  have g := this i j hij
  show (raiseL a).getD i 0 * (raiseL a).getD (j + 2) 0 ≤ (raiseL a).getD (i + 1) 0 * (raiseL a).getD (j + 1) 0
  rw [raise_getD, raise_getD, raise_getD, raise_getD]
  exact g
/-- The greatest entries of a round hill stand beside each other. -/
theorem tops_between {a : List Int} (na : nnB a = true) (ha : RdH a) {i n k : Nat} {x : Int} (h1 : i ≤ n) (h2 : n ≤ k) (hi : a.getD i 0 = x) (hk : a.getD k 0 = x) (hk' : k < a.length) (hm : ∀ j, j < a.length → a.getD j 0 ≤ x) : a.getD n 0 = x :=
  pf_tops (pf_of ((rd_pf1 na).1 ha) (nnB_nn na)) (nnB_nn na) h1 h2 hi hk fun j hj => hm j (by omega)
end Go.Proofs.Ytanoojpmokbiaab

/-
  Hills folded step by step: what lies in the cells after some products. No program here. Conditions: none.
-/
namespace Go.Proofs.Ytanoojpmokbiaab
open Go.RowKit

/-- The sum at a place when all entries ahead of i have been taken, and i with the first k of the other. -/
def accF (a b : Nat → Int) (i k j : Nat) : Int := sumN (fun l => a l * backF b j l) i + if i ≤ j ∧ j < i + k then a i * b (j - i) else 0
theorem accF_none (a b : Nat → Int) (i j : Nat) : accF a b i 0 j = sumN (fun l => a l * backF b j l) i := by
  unfold accF
  rw [if_neg (by omega), Int.add_zero]
theorem accF_step (a b : Nat → Int) (i k j : Nat) : accF a b i (k + 1) j = if j = i + k then accF a b i k j + a i * b k else accF a b i k j := by
  unfold accF
  by_cases e : j = i + k
  · subst e
    rw [if_pos rfl, if_pos (by omega), if_neg (by omega), Int.add_zero, Nat.add_sub_cancel_left]
  · rw [if_neg e]
    by_cases c : i ≤ j ∧ j < i + k
    · rw [if_pos c, if_pos (by omega)]
    · rw [if_neg c, if_neg (by omega)]
theorem accF_next (a b : Nat → Int) (i n j : Nat) (hb : ∀ t, n ≤ t → b t = 0) : accF a b i n j = accF a b (i + 1) 0 j := by
  rw [accF_none, sumN]
  unfold accF backF
  by_cases c : i ≤ j
  · by_cases d : j < i + n
    · rw [if_pos ⟨c, d⟩, if_pos c]
    · rw [if_neg (by omega), if_pos c, hb (j - i) (by omega), Int.mul_zero]
  · rw [if_neg (by omega), if_neg c, Int.mul_zero]
theorem accF_all (a b : Nat → Int) (n j : Nat) (ha : ∀ t, n ≤ t → a t = 0) : accF a b n 0 j = foldF a b j := by
  rw [accF_none]
  rcases Nat.le_total (j + 1) n with c | c
  · exact fold_more a b j n c
  · rw [foldF]
    exact (sumN_more (fun k hk => by rw [ha k hk, Int.zero_mul]) c).symm
theorem accF_bd {a b : Nat → Int} (ha : ∀ t, 0 ≤ a t ∧ a t ≤ 1000) (hb : ∀ t, 0 ≤ b t ∧ b t ≤ 1000) (i k j : Nat) : 0 ≤ accF a b i k j ∧ accF a b i k j ≤ 1000000 * ((i : Int) + 1) := by
  have pr : ∀ x y : Int, 0 ≤ x ∧ x ≤ 1000 → 0 ≤ y ∧ y ≤ 1000 → 0 ≤ x * y ∧ x * y ≤ 1000000 := fun x y hx hy =>
    ⟨Int.mul_nonneg hx.1 hy.1, by have := Int.mul_le_mul hx.2 hy.2 hy.1 (by omega : (0 : Int) ≤ 1000); omega⟩
  have bk : ∀ l, 0 ≤ backF b j l ∧ backF b j l ≤ 1000 := fun l => by
    unfold backF
    split
    · exact hb _
    · omega
  have key : ∀ i : Nat, 0 ≤ sumN (fun l => a l * backF b j l) i ∧ sumN (fun l => a l * backF b j l) i ≤ 1000000 * (i : Int) := by
    intro i
    induction i with
    | zero => exact ⟨Int.le_refl _, Int.le_refl _⟩
    | succ i ih =>
      have := pr _ _ (ha i) (bk i)
      rw [sumN]
      omega
  have h1 := key i
  have h2 := pr _ _ (ha i) (hb (j - i))
  unfold accF
  split <;> omega
def accL (zs ys : List Int) (i k : Nat) : List Int := (List.range (zs.length + ys.length - 1)).map (accF (fun k => zs.getD k 0) (fun k => ys.getD k 0) i k)
theorem accL_len (zs ys : List Int) (i k : Nat) : (accL zs ys i k).length = zs.length + ys.length - 1 := by simp [accL]
theorem accL_get (zs ys : List Int) (i k j : Nat) (h : j < (accL zs ys i k).length) : (accL zs ys i k)[j] = accF (fun k => zs.getD k 0) (fun k => ys.getD k 0) i k j := by simp [accL]
theorem accL_zero (zs ys : List Int) : accL zs ys 0 0 = List.replicate (zs.length + ys.length - 1) 0 := by
  apply List.ext_getElem
  · rw [accL_len, List.length_replicate]
  · intro j h1 h2
    rw [accL_get, accF_none, List.getElem_replicate]; rfl
theorem accL_set (zs ys : List Int) {i k : Nat} (hj : i + k < (accL zs ys i k).length) : (accL zs ys i k).set (i + k) ((accL zs ys i k)[i + k] + zs.getD i 0 * ys.getD k 0) = accL zs ys i (k + 1) := by
  apply List.ext_getElem
  · rw [List.length_set, accL_len, accL_len]
  · intro j h1 h2
    rw [List.getElem_set, accL_get zs ys i (k + 1) j h2, accF_step]
    by_cases e : i + k = j
    · subst e
      rw [if_pos rfl, if_pos rfl, accL_get]
    · rw [if_neg e, if_neg (fun h => e h.symm), accL_get]
theorem accL_next (zs ys : List Int) (i : Nat) : accL zs ys i ys.length = accL zs ys (i + 1) 0 := by
  unfold accL
  congr 1
  funext j
  exact accF_next _ _ _ _ _ fun t ht => getD_out ht
theorem accL_all (zs ys : List Int) : accL zs ys zs.length 0 = foldHL zs ys := by
  unfold accL foldHL
  congr 1
  funext j
  exact accF_all _ _ _ _ fun t ht => getD_out ht
theorem hill_bd {zs : List Int} (h : hillB zs = true) (t : Nat) : 0 ≤ zs.getD t 0 ∧ zs.getD t 0 ≤ 1000 := by
  have h1 : nnB zs = true ∧ rowB zs = true := by simpa [hillB] using h
  refine ⟨nnB_nn h1.1 t, ?_⟩
  rcases Nat.lt_or_ge t zs.length with c | c
  · exact (row_getD h1.2 t c).2
  · rw [getD_out c]; decide
theorem accL_bd {zs ys : List Int} (h0 : hillB zs = true) (h1 : hillB ys = true) {i k j : Nat} (hi : i ≤ 12) (h : j < (accL zs ys i k).length) : 0 ≤ (accL zs ys i k)[j] ∧ (accL zs ys i k)[j] ≤ 13000000 := by
  rw [accL_get]
  have := accF_bd (hill_bd h0) (hill_bd h1) i k j
  omega
theorem accL_i64 {zs ys : List Int} (h0 : hillB zs = true) (h1 : hillB ys = true) {i k : Nat} (hi : i ≤ 12) : ∀ z, z ∈ accL zs ys i k → I64 z := by
  intro z hz
  obtain ⟨j, hj, rfl⟩ := List.getElem_of_mem hz
  have := accL_bd h0 h1 hi hj
  exact ⟨by omega, by omega⟩

/-! ### The same, place by place, whatever places come -/
def addAt (xs : List Int) (j : Nat) (v : Int) : List Int := xs.set j (xs.getD j 0 + v)
theorem addAt_len (xs : List Int) (j : Nat) (v : Int) : (addAt xs j v).length = xs.length := by simp [addAt]
def rowP (zs ys : List Int) (x : Nat) (pre : List (Fin ys.length)) (xs : List Int) : List Int := pre.foldl (fun (xs : List Int) (y : Fin ys.length) => addAt xs (x + y.1) (zs.getD x 0 * ys.getD y.1 0)) xs
theorem rowP_snoc (zs ys : List Int) (x : Nat) (pre : List (Fin ys.length)) (y : Fin ys.length) (xs : List Int) : rowP zs ys x (pre ++ [y]) xs = addAt (rowP zs ys x pre xs) (x + y.1) (zs.getD x 0 * ys.getD y.1 0) := by simp [rowP]
theorem rowP_len (zs ys : List Int) (x : Nat) (pre : List (Fin ys.length)) : ∀ xs : List Int, (rowP zs ys x pre xs).length = xs.length := by
  induction pre with
  | nil => intro xs; rfl
  | cons y pre ih => intro xs; exact (ih _).trans (addAt_len _ _ _)
def foldP (zs ys : List Int) (pre : List (Fin zs.length)) : List Int := pre.foldl (fun (xs : List Int) (x : Fin zs.length) => rowP zs ys x.1 (List.finRange ys.length) xs) (List.replicate (zs.length + ys.length - 1) 0)
theorem foldP_snoc (zs ys : List Int) (pre : List (Fin zs.length)) (x : Fin zs.length) : foldP zs ys (pre ++ [x]) = rowP zs ys x.1 (List.finRange ys.length) (foldP zs ys pre) := by simp [foldP]
theorem foldP_len (zs ys : List Int) (pre : List (Fin zs.length)) : (foldP zs ys pre).length = zs.length + ys.length - 1 := by
  unfold foldP
  suffices h : ∀ xs : List Int, (pre.foldl (fun (xs : List Int) (x : Fin zs.length) => rowP zs ys x.1 (List.finRange ys.length) xs) xs).length = xs.length by
    rw [h, List.length_replicate]
  induction pre with
  | nil => intro xs; rfl
  | cons y pre ih => intro xs; exact (ih _).trans (rowP_len _ _ _ _ _)
theorem finRange_next {n k : Nat} (h : k < n) : (List.finRange n).take k ++ [⟨k, h⟩] = (List.finRange n).take (k + 1) := by
  rw [List.take_add_one, List.getElem?_eq_getElem (by simpa using h)]
  simp
theorem rowP_acc (zs ys : List Int) {i : Nat} (hi : i < zs.length) : ∀ k, k ≤ ys.length → rowP zs ys i ((List.finRange ys.length).take k) (accL zs ys i 0) = accL zs ys i k := by
  intro k
  induction k with
  | zero => intro _; rfl
  | succ k ih =>
    intro hk
    have hj : i + k < (accL zs ys i k).length := by rw [accL_len]; omega
    rw [← finRange_next (show k < ys.length by omega), rowP_snoc, ih (by omega), ← accL_set zs ys hj]
    unfold addAt
    rw [getD_in hj]
theorem foldP_acc (zs ys : List Int) : ∀ k, k ≤ zs.length → foldP zs ys ((List.finRange zs.length).take k) = accL zs ys k 0 := by
  intro k
  induction k with
  | zero => intro _; exact (accL_zero zs ys).symm
  | succ k ih =>
    intro hk
    rw [← finRange_next (show k < zs.length by omega), foldP_snoc, ih (by omega)]
    have := rowP_acc zs ys (i := k) (by omega) ys.length (Nat.le_refl _)
    rw [List.take_of_length_le (by simp)] at this
    show rowP zs ys k _ _ = _
    rw [this, accL_next]
theorem foldP_all (zs ys : List Int) : foldP zs ys (List.finRange zs.length) = foldHL zs ys := by
  have := foldP_acc zs ys zs.length (Nat.le_refl _)
  rw [List.take_of_length_le (by simp)] at this
  rw [this, accL_all]
def BdM (xs : List Int) (M : Int) : Prop := ∀ z, z ∈ xs → 0 ≤ z ∧ z ≤ M
theorem BdM.get {xs : List Int} {M : Int} (h : BdM xs M) (h0 : 0 ≤ M) (j : Nat) : 0 ≤ xs.getD j 0 ∧ xs.getD j 0 ≤ M := by
  rcases Nat.lt_or_ge j xs.length with c | c
  · rw [getD_in c]; exact h _ (List.getElem_mem c)
  · rw [getD_out c]; exact ⟨by omega, h0⟩
theorem BdM.add {xs : List Int} {M v : Int} (h : BdM xs M) (h0 : 0 ≤ M) (hv : 0 ≤ v ∧ v ≤ 1000000) (j : Nat) : BdM (addAt xs j v) (M + 1000000) := by
  intro z hz
  rcases List.mem_or_eq_of_mem_set hz with hz | rfl
  · have := h z hz; omega
  · have := h.get h0 j; omega
theorem fold_mul {x y : Int} (hx : 0 ≤ x ∧ x ≤ 1000) (hy : 0 ≤ y ∧ y ≤ 1000) : 0 ≤ x * y ∧ x * y ≤ 1000000 :=
  ⟨Int.mul_nonneg hx.1 hy.1, by have := Int.mul_le_mul hx.2 hy.2 hy.1 (by omega : (0 : Int) ≤ 1000); omega⟩
theorem rowP_bd {zs ys : List Int} (h0 : hillB zs = true) (h1 : hillB ys = true) (x : Nat) (pre : List (Fin ys.length)) : ∀ {xs : List Int} {M : Int}, BdM xs M → 0 ≤ M → BdM (rowP zs ys x pre xs) (M + 1000000 * (pre.length : Int)) := by
  induction pre with
  | nil => intro xs M h _ z hz; have := h z hz; simpa using this
  | cons y pre ih =>
    intro xs M h hM
    have := ih (h.add hM (fold_mul (hill_bd h0 x) (hill_bd h1 y.1)) (x + y.1)) (by omega)
    intro z hz
    have := this z hz
    rw [List.length_cons]
    omega
theorem foldP_bd {zs ys : List Int} (h0 : hillB zs = true) (h1 : hillB ys = true) (pre : List (Fin zs.length)) : BdM (foldP zs ys pre) (1000000 * ((ys.length : Int) * (pre.length : Int))) := by
  unfold foldP
  suffices h : ∀ (xs : List Int) (M : Int), BdM xs M → 0 ≤ M → BdM (pre.foldl (fun (xs : List Int) (x : Fin zs.length) => rowP zs ys x.1 (List.finRange ys.length) xs) xs) (M + 1000000 * ((ys.length : Int) * (pre.length : Int))) by
    intro z hz
    have := h _ 0 (fun z hz => by rw [(List.mem_replicate.1 hz).2]; omega) (Int.le_refl _) z hz
    omega
  induction pre with
  | nil => intro xs M h _ z hz; have := h z hz; simpa using this
  | cons x pre ih =>
    intro xs M h hM
    have g := rowP_bd h0 h1 x.1 (List.finRange ys.length) h hM
    rw [List.length_finRange] at g
    have := ih _ _ g (by omega)
    intro z hz
    have := this z hz
    rw [List.length_cons, Int.natCast_add, Int.mul_add]
    omega
end Go.Proofs.Ytanoojpmokbiaab

/-
  Least sums of differences to rows with one valley, as lists. No program here. Conditions: none.
-/
namespace Go.Proofs.Ytanoojpmokbiaab
open Go.RowKit

def absd (x y : Int) : Int := max (x - y) (y - x)
theorem absd_comm (x y : Int) : absd x y = absd y x := by unfold absd; omega
/-- The least of f over v to v + n. -/
def minOn (f : Int → Int) (v : Int) : Nat → Int
  | 0 => f v
  | n + 1 => min (minOn f v n) (f (v + ((n : Int) + 1)))
theorem minOn_le (f : Int → Int) (v : Int) : ∀ (n : Nat) (u : Int), v ≤ u → u ≤ v + (n : Int) → minOn f v n ≤ f u := by
  intro n
  induction n with
  | zero => intro u h1 h2; obtain rfl : u = v := (by omega); exact Int.le_refl _
  | succ n ih =>
    intro u h1 h2
    unfold minOn
    by_cases c : u ≤ v + (n : Int)
    · exact Int.le_trans (Int.min_le_left _ _) (ih u h1 c)
    · obtain rfl : u = v + ((n : Int) + 1) := (by omega)
      exact Int.min_le_right _ _
theorem minOn_at (f : Int → Int) (v : Int) : ∀ n : Nat, ∃ u, v ≤ u ∧ u ≤ v + (n : Int) ∧ minOn f v n = f u := by
  intro n
  induction n with
  | zero => exact ⟨v, Int.le_refl _, by omega, rfl⟩
  | succ n ih =>
    obtain ⟨u, h1, h2, h3⟩ := ih
    unfold minOn
    by_cases c : minOn f v n ≤ f (v + ((n : Int) + 1))
    · exact ⟨u, h1, by omega, by rw [Int.min_eq_left c, h3]⟩
    · exact ⟨v + ((n : Int) + 1), by omega, by omega, by rw [Int.min_eq_right (by omega)]⟩
/-- The least sum of differences of the first i entries and numbers that never rise, none less than v. -/
def gF (zs : List Int) : Nat → Int → Int
  | 0, _ => 0
  | i + 1, v => minOn (fun u => absd (zs.getD i 0) u + gF zs i u) v (zs.getD i 0 - v).toNat
/-- The same, the last number being u. -/
def fF (zs : List Int) (i : Nat) (u : Int) : Int := absd (zs.getD i 0) u + gF zs i u
theorem gF_at (zs : List Int) (i : Nat) (v : Int) : ∃ u, v ≤ u ∧ gF zs (i + 1) v = fF zs i u := by
  obtain ⟨u, h1, -, h3⟩ := minOn_at (fun u => absd (zs.getD i 0) u + gF zs i u) v (zs.getD i 0 - v).toNat
  exact ⟨u, h1, h3⟩
theorem gF_both (zs : List Int) : ∀ i, (∀ v w, v ≤ w → gF zs i v ≤ gF zs i w) ∧ ∀ v u, v ≤ u → gF zs (i + 1) v ≤ fF zs i u := by
  intro i
  induction i with
  | zero =>
    refine ⟨fun v w _ => Int.le_refl _, fun v u h => ?_⟩
    by_cases c : u ≤ max v (zs.getD 0 0)
    · exact minOn_le (fun u => absd (zs.getD 0 0) u + gF zs 0 u) v (zs.getD 0 0 - v).toNat u h (by omega)
    · have := minOn_le (fun u => absd (zs.getD 0 0) u + gF zs 0 u) v (zs.getD 0 0 - v).toNat (max v (zs.getD 0 0)) (by omega) (by omega)
      refine Int.le_trans this ?_
      simp only [fF, gF, absd]
      omega
  | succ i ih =>
    have mono : ∀ v w, v ≤ w → gF zs (i + 1) v ≤ gF zs (i + 1) w := by
      intro v w h
      obtain ⟨u, h1, h2⟩ := gF_at zs i w
      rw [h2]
      exact ih.2 v u (by omega)
    refine ⟨mono, fun v u h => ?_⟩
    by_cases c : u ≤ max v (zs.getD (i + 1) 0)
    · exact minOn_le (fun u => absd (zs.getD (i + 1) 0) u + gF zs (i + 1) u) v _ u h (by omega)
    · have := minOn_le (fun u => absd (zs.getD (i + 1) 0) u + gF zs (i + 1) u) v (zs.getD (i + 1) 0 - v).toNat (max v (zs.getD (i + 1) 0)) (by omega) (by omega)
      refine Int.le_trans this ?_
      have := mono (max v (zs.getD (i + 1) 0)) u (by omega)
      simp only [fF, absd]
      omega
theorem gF_mono (zs : List Int) (i : Nat) {v w : Int} (h : v ≤ w) : gF zs i v ≤ gF zs i w := (gF_both zs i).1 v w h
theorem gF_le (zs : List Int) (i : Nat) {v u : Int} (h : v ≤ u) : gF zs (i + 1) v ≤ fF zs i u := (gF_both zs i).2 v u h
theorem gF_nonneg (zs : List Int) : ∀ i v, 0 ≤ gF zs i v := by
  intro i
  induction i with
  | zero => intro v; exact Int.le_refl _
  | succ i ih =>
    intro v
    obtain ⟨u, -, h⟩ := gF_at zs i v
    have := ih u
    rw [h]
    simp only [fF, absd]
    omega
/-- Other entries: no more than what they differ. -/
theorem gF_change (a b : List Int) : ∀ i v, gF b i v ≤ gF a i v + sumN (fun j => absd (a.getD j 0) (b.getD j 0)) i := by
  intro i
  induction i with
  | zero => intro v; exact Int.le_refl _
  | succ i ih =>
    intro v
    obtain ⟨u, h1, h2⟩ := gF_at a i v
    have := gF_le b i h1
    have := ih u
    rw [h2, sumN]
    simp only [fF, absd] at *
    omega
/-- Below all entries nothing changes. -/
theorem gF_low (zs : List Int) : ∀ i v, (∀ j, j < i → v + 1 ≤ zs.getD j 0) → gF zs i v = gF zs i (v + 1) := by
  intro i
  induction i with
  | zero => intro v _; rfl
  | succ i ih =>
    intro v h
    apply Int.le_antisymm (gF_mono zs _ (by omega))
    obtain ⟨u, h1, h2⟩ := gF_at zs i v
    rw [h2]
    by_cases c : u = v
    · subst c
      have g := ih u fun j hj => h j (by omega)
      have g2 := gF_le zs i (v := u + 1) (Int.le_refl _)
      have := h i (by omega)
      refine Int.le_trans g2 ?_
      simp only [fF, absd]
      omega
    · exact gF_le zs i (by omega)
theorem gF_lower (zs : List Int) (i : Nat) {v w : Int} (h : v ≤ w) (hz : ∀ j, j < i → w ≤ zs.getD j 0) : gF zs i v = gF zs i w := by
  obtain ⟨d, rfl⟩ : ∃ d : Nat, w = v + (d : Int) := ⟨(w - v).toNat, by omega⟩
  clear h
  induction d with
  | zero => rw [show v + ((0 : Nat) : Int) = v by omega]
  | succ d ih =>
    rw [ih fun j hj => by have := hz j hj; omega, gF_low zs i (v + (d : Int)) fun j hj => by have := hz j hj; omega]
    congr 1
    omega
/-- Off the entries nothing bends upwards. -/
theorem gF_off (zs vs : List Int) : ∀ i, (∀ j, j < i → zs.getD j 0 ∈ vs) → ∀ v, ¬ v ∈ vs → gF zs i (v - 1) + gF zs i (v + 1) ≤ 2 * gF zs i v := by
  intro i
  induction i with
  | zero => intro _ v _; exact Int.le_refl _
  | succ i ih =>
    intro h v hv
    have off : fF zs i (v - 1) + fF zs i (v + 1) ≤ 2 * fF zs i v := by
      have g := ih (fun j hj => h j (by omega)) v hv
      have : zs.getD i 0 ≠ v := fun e => hv (e ▸ h i (by omega))
      simp only [fF, absd]
      omega
    obtain ⟨u, h1, h2⟩ := gF_at zs i v
    have m1 := gF_mono zs (i + 1) (show v - 1 ≤ v by omega)
    by_cases c : u = v
    · subst c
      have q1 := gF_le zs i (Int.le_refl (u - 1))
      have q2 := gF_le zs i (Int.le_refl (u + 1))
      omega
    · have q := gF_le zs i (show v + 1 ≤ u by omega)
      omega
theorem fF_off (zs vs : List Int) (i : Nat) (h : ∀ j, j < i + 1 → zs.getD j 0 ∈ vs) (v : Int) (hv : ¬ v ∈ vs) : fF zs i (v - 1) + fF zs i (v + 1) ≤ 2 * fF zs i v := by
  have g := gF_off zs vs i (fun j hj => h j (by omega)) v hv
  have : zs.getD i 0 ≠ v := fun e => hv (e ▸ h i (by omega))
  simp only [fF, absd]
  omega
/-- The least sum comes for a last number that is an entry. -/
theorem gF_in (zs vs : List Int) (i : Nat) (h : ∀ j, j < i + 1 → zs.getD j 0 ∈ vs) (v : Int) (hv : v ∈ vs) : ∃ u, u ∈ vs ∧ v ≤ u ∧ gF zs (i + 1) v = fF zs i u := by
  obtain ⟨u, h1, h2⟩ := gF_at zs i v
  obtain ⟨d, rfl⟩ : ∃ d : Nat, u = v + (d : Int) := ⟨(u - v).toNat, by omega⟩
  clear h1
  induction d using Nat.strongRecOn with
  | ind d ih =>
    by_cases c : v + (d : Int) ∈ vs
    · exact ⟨_, c, by omega, h2⟩
    · have hd : d ≠ 0 := fun e => c (by rw [e]; simpa using hv)
      have off := fF_off zs vs i h _ c
      have q1 := gF_le zs i (show v ≤ v + (d : Int) - 1 by omega)
      have q2 := gF_le zs i (show v ≤ v + (d : Int) + 1 by omega)
      refine ih (d - 1) (by omega) ?_
      rw [show v + ((d - 1 : Nat) : Int) = v + (d : Int) - 1 by omega]
      omega
/-- What trying the entries in order finds. -/
theorem gF_try (zs vs : List Int) (i k : Nat) (x : Int) (h : ∀ j, j < i + 1 → zs.getD j 0 ∈ vs) (hs : ∀ j j', j ≤ j' → j' < vs.length → vs.getD j 0 ≤ vs.getD j' 0) (hk : k < vs.length)
    (h1 : ∀ j, k ≤ j → j < vs.length → x ≤ fF zs i (vs.getD j 0)) (h2 : ∃ j, k ≤ j ∧ j < vs.length ∧ x = fF zs i (vs.getD j 0)) : x = gF zs (i + 1) (vs.getD k 0) := by
  apply Int.le_antisymm
  · obtain ⟨u, p1, p2, p3⟩ := gF_in zs vs i h (vs.getD k 0) (by rw [getD_in hk]; exact List.getElem_mem hk)
    rw [p3]
    obtain ⟨j, hj, rfl⟩ := List.getElem_of_mem p1
    rw [← getD_in hj] at p2 ⊢
    rcases Nat.lt_or_ge j k with c | c
    · have := hs j k (by omega) hk
      rw [show vs.getD j 0 = vs.getD k 0 by omega]
      exact h1 k (Nat.le_refl _) hk
    · exact h1 j c hj
  · obtain ⟨j, p1, p2, p3⟩ := h2
    rw [p3]
    exact gF_le zs i (hs k j p1 p2)

/-- The least sums for beginnings. -/
def downF (zs : List Int) (i : Nat) : Int := gF zs i (-1000)
theorem downF_nonneg (zs : List Int) (i : Nat) : 0 ≤ downF zs i := gF_nonneg zs i _
theorem downF_le (zs : List Int) (i : Nat) {u : Int} (h : -1000 ≤ u) : downF zs (i + 1) ≤ fF zs i u := gF_le zs i h
theorem gF_zero (zs : List Int) (i : Nat) (v : Int) : gF zs (i + 1) v = 0 ↔ v ≤ zs.getD i 0 ∧ gF zs i (zs.getD i 0) = 0 := by
  constructor
  · intro h
    obtain ⟨u, h1, h2⟩ := gF_at zs i v
    have := gF_nonneg zs i u
    rw [h] at h2
    simp only [fF, absd] at h2
    obtain rfl : u = zs.getD i 0 := (by omega)
    exact ⟨h1, by omega⟩
  · rintro ⟨h1, h2⟩
    have := gF_le zs i h1
    have := gF_nonneg zs (i + 1) v
    simp only [fF, absd] at *
    omega
theorem downF_zero {zs : List Int} (hr : ∀ k, k < zs.length → -1000 ≤ zs.getD k 0) : ∀ i, i ≤ zs.length → (downF zs i = 0 ↔ ∀ j, j + 1 < i → zs.getD (j + 1) 0 ≤ zs.getD j 0) := by
  have key : ∀ i, i < zs.length → (gF zs i (zs.getD i 0) = 0 ↔ ∀ j, j < i → zs.getD (j + 1) 0 ≤ zs.getD j 0) := by
    intro i
    induction i with
    | zero => intro _; exact ⟨fun _ j hj => by omega, fun _ => rfl⟩
    | succ i ih =>
      intro h
      rw [gF_zero, ih (by omega)]
      constructor
      · rintro ⟨h1, h2⟩ j hj
        by_cases e : j = i
        · rw [e]; exact h1
        · exact h2 j (by omega)
      · intro g
        exact ⟨g i (by omega), fun j hj => g j (by omega)⟩
  intro i hi
  cases i with
  | zero => exact ⟨fun _ j hj => by omega, fun _ => rfl⟩
  | succ i =>
    unfold downF
    rw [gF_zero, key i (by omega)]
    constructor
    · rintro ⟨-, h2⟩ j hj
      exact h2 j (by omega)
    · intro g
      exact ⟨hr i (by omega), fun j hj => g j (by omega)⟩

/- The least over numbers 0 to n. -/
def minN (f : Nat → Int) : Nat → Int
  | 0 => f 0
  | n + 1 => min (minN f n) (f (n + 1))
theorem minN_le (f : Nat → Int) : ∀ n i, i ≤ n → minN f n ≤ f i := by
  intro n
  induction n with
  | zero => intro i h; obtain rfl : i = 0 := (by omega); exact Int.le_refl _
  | succ n ih =>
    intro i h
    unfold minN
    by_cases c : i = n + 1
    · rw [c]; exact Int.min_le_right _ _
    · exact Int.le_trans (Int.min_le_left _ _) (ih i (by omega))
theorem minN_at (f : Nat → Int) : ∀ n, ∃ i, i ≤ n ∧ minN f n = f i := by
  intro n
  induction n with
  | zero => exact ⟨0, Nat.le_refl _, rfl⟩
  | succ n ih =>
    obtain ⟨i, h1, h2⟩ := ih
    unfold minN
    by_cases c : minN f n ≤ f (n + 1)
    · exact ⟨i, by omega, by rw [Int.min_eq_left c, h2]⟩
    · exact ⟨n + 1, Nat.le_refl _, Int.min_eq_right (by omega)⟩
def costAt (zs : List Int) (i : Nat) : Int := downF zs i + downF zs.reverse (zs.length - i)
def costL (zs : List Int) : Int := minN (costAt zs) zs.length
theorem cost_nonneg (zs : List Int) : 0 ≤ costL zs := by
  obtain ⟨i, -, h⟩ := minN_at (costAt zs) zs.length
  unfold costL
  rw [h]
  have := downF_nonneg zs i
  have := downF_nonneg zs.reverse (zs.length - i)
  unfold costAt
  omega
theorem cost_back (zs : List Int) : costL zs.reverse = costL zs := by
  have key : ∀ zs : List Int, costL zs.reverse ≤ costL zs := by
    intro zs
    obtain ⟨i, h1, h2⟩ := minN_at (costAt zs) zs.length
    unfold costL
    rw [h2, List.length_reverse]
    refine Int.le_trans (minN_le _ _ (zs.length - i) (by omega)) ?_
    unfold costAt
    rw [List.reverse_reverse, List.length_reverse, show zs.length - (zs.length - i) = i by omega]
    omega
  refine Int.le_antisymm (key zs) ?_
  have := key zs.reverse
  rwa [List.reverse_reverse] at this
theorem cost_zero {zs : List Int} (hr : rowB zs = true) : costL zs = 0 ↔ One zs := by
  have lo : ∀ k, k < zs.length → -1000 ≤ zs.getD k 0 := fun k hk => (row_getD hr k hk).1
  have lo' : ∀ k, k < zs.reverse.length → -1000 ≤ zs.reverse.getD k 0 := fun k hk => by
    rw [List.length_reverse] at hk
    rw [reverse_getD zs k hk]; exact lo _ (by omega)
  have back : ∀ i, i ≤ zs.length → ((∀ j, j + 1 < zs.length - i → zs.reverse.getD (j + 1) 0 ≤ zs.reverse.getD j 0) ↔ ∀ m, i ≤ m → m + 1 < zs.length → zs.getD m 0 ≤ zs.getD (m + 1) 0) := by
    intro i hi
    constructor
    · intro h m h1 h2
      have g := h (zs.length - 1 - (m + 1)) (by omega)
      rw [reverse_getD zs _ (by omega), reverse_getD zs _ (by omega)] at g
      rw [show zs.length - 1 - (zs.length - 1 - (m + 1) + 1) = m by omega, show zs.length - 1 - (zs.length - 1 - (m + 1)) = m + 1 by omega] at g
      exact g
    · intro h j hj
      rw [reverse_getD zs _ (by omega), reverse_getD zs _ (by omega)]
      have g := h (zs.length - 1 - (j + 1)) (by omega) (by omega)
      rw [show zs.length - 1 - (j + 1) + 1 = zs.length - 1 - j by omega] at g
      exact g
  constructor
  · intro h
    obtain ⟨i, h1, h2⟩ := minN_at (costAt zs) zs.length
    unfold costL at h
    rw [h2] at h
    have p := downF_nonneg zs i
    have q := downF_nonneg zs.reverse (zs.length - i)
    unfold costAt at h
    have e1 := (downF_zero lo i h1).1 (by omega)
    have e2 := (back i h1).1 ((downF_zero lo' (zs.length - i) (by rw [List.length_reverse]; omega)).1 (by omega))
    intro j m g1 g2 g3
    by_cases c : m < i
    · by_cases c' : j + 1 < i
      · have := e1 j c'; omega
      · obtain rfl : m = j := (by omega)
        omega
    · exact e2 m (by omega) g2
  · intro h
    have : ∃ i, i ≤ zs.length ∧ costAt zs i = 0 := by
      -- the first rise
      have key : ∀ n, n + 1 ≤ zs.length → (∀ j, j < n → zs.getD (j + 1) 0 ≤ zs.getD j 0) ∨ ∃ r, r < n ∧ (∀ j, j < r → zs.getD (j + 1) 0 ≤ zs.getD j 0) ∧ zs.getD r 0 < zs.getD (r + 1) 0 := by
        intro n
        induction n with
        | zero => intro _; exact .inl fun j hj => by omega
        | succ n ih =>
          intro hn
          rcases ih (by omega) with g | ⟨r, g1, g2⟩
          · by_cases e : zs.getD n 0 < zs.getD (n + 1) 0
            · exact .inr ⟨n, by omega, g, e⟩
            · refine .inl fun j hj => ?_
              by_cases e' : j = n
              · rw [e']; omega
              · exact g j (by omega)
          · exact .inr ⟨r, by omega, g2⟩
      have h0 := row_pos hr
      rcases key (zs.length - 1) (by omega) with g | ⟨r, g1, g2, g3⟩
      · refine ⟨zs.length, Nat.le_refl _, ?_⟩
        unfold costAt
        rw [(downF_zero lo zs.length (Nat.le_refl _)).2 fun j hj => g j (by omega), Nat.sub_self]
        rfl
      · refine ⟨r + 1, by omega, ?_⟩
        unfold costAt
        rw [(downF_zero lo (r + 1) (by omega)).2 fun j hj => g2 j (by omega), (downF_zero lo' (zs.length - (r + 1)) (by rw [List.length_reverse]; omega)).2 ((back (r + 1) (by omega)).2 fun m p1 p2 => h r m (by omega) p2 g3)]
        rfl
    obtain ⟨i, h1, h2⟩ := this
    have := minN_le (costAt zs) zs.length i h1
    have := cost_nonneg zs
    unfold costL at *
    omega
/-- Rows that differ: their costs by no more. -/
theorem cost_change (a b : List Int) (hl : a.length = b.length) : costL b ≤ costL a + sumN (fun j => absd (a.getD j 0) (b.getD j 0)) a.length := by
  obtain ⟨i, h1, h2⟩ := minN_at (costAt a) a.length
  have e := minN_le (costAt b) b.length i (by omega)
  unfold costL
  rw [h2]
  refine Int.le_trans e ?_
  unfold costAt downF
  have p := gF_change a b i (-1000)
  have q := gF_change a.reverse b.reverse (a.length - i) (-1000)
  have s : sumN (fun j => absd (a.reverse.getD j 0) (b.reverse.getD j 0)) (a.length - i) = sumN (fun j => absd (a.getD (i + j) 0) (b.getD (i + j) 0)) (a.length - i) := by
    rw [sumN_back]
    refine sumN_congr fun k hk => ?_
    rw [reverse_getD a _ (by omega), reverse_getD b _ (by omega)]
    rw [show a.length - 1 - (a.length - i - 1 - k) = i + k by omega, show b.length - 1 - (a.length - i - 1 - k) = i + k by omega]
  have t : ∀ m, sumN (fun j => absd (a.getD j 0) (b.getD j 0)) (i + m) = sumN (fun j => absd (a.getD j 0) (b.getD j 0)) i + sumN (fun j => absd (a.getD (i + j) 0) (b.getD (i + j) 0)) m := by
    intro m
    induction m with
    | zero => simp [sumN]
    | succ m ih => rw [← Nat.add_assoc, sumN, ih, sumN]; omega
  have t' := t (a.length - i)
  rw [show i + (a.length - i) = a.length by omega] at t'
  rw [t', ← hl]
  rw [s] at q
  omega
/-- The first entry 1 greater. -/
theorem cost_first (a : List Int) (h0 : 0 < a.length) : costL (a.set 0 (a.getD 0 0 + 1)) ≤ costL a + 1 ∧ costL a - 1 ≤ costL (a.set 0 (a.getD 0 0 + 1)) := by
  have hs : ∀ j, j + 1 < a.length + 1 → (a.set 0 (a.getD 0 0 + 1)).getD (j + 1) 0 = a.getD (j + 1) 0 := fun j _ => by
    simp [List.getD_eq_getElem?_getD]
  have h1 : (a.set 0 (a.getD 0 0 + 1)).getD 0 0 = a.getD 0 0 + 1 := by
    rw [getD_in (by rw [List.length_set]; exact h0)]; simp
  have d1 : sumN (fun j => absd (a.getD j 0) ((a.set 0 (a.getD 0 0 + 1)).getD j 0)) a.length = 1 := by
    obtain ⟨m, hm⟩ : ∃ m, a.length = m + 1 := ⟨a.length - 1, by omega⟩
    rw [hm, sumN_first, h1, sumN_congr (g := fun _ => 0) fun k hk => ?_, sumN_zero]
    · unfold absd; omega
    · rw [hs k (by omega)]; unfold absd; omega
  have e1 := cost_change a (a.set 0 (a.getD 0 0 + 1)) (by rw [List.length_set])
  have e2 := cost_change (a.set 0 (a.getD 0 0 + 1)) a (by rw [List.length_set])
  rw [List.length_set, sumN_congr fun k _ => absd_comm _ _] at e2
  omega
end Go.Proofs.Ytanoojpmokbiaab

/-
  Least sums of differences to rows with one valley: the sums by sequences, backwards and with signs turned, and what trying levels in order finds. No program here. Conditions: none.
-/
namespace Go.Proofs.Ytanoojpmokbiaab
open Go.RowKit

theorem anti_le {us : Nat → Int} {i : Nat} (h : ∀ j, j + 1 < i → us (j + 1) ≤ us j) : ∀ d j, j + d < i → us (j + d) ≤ us j := by
  intro d
  induction d with
  | zero => intro j _; exact Int.le_refl _
  | succ d ih =>
    intro j hj
    have := h (j + d) (by omega)
    have := ih j (by omega)
    rw [show j + (d + 1) = j + d + 1 by omega]
    omega
theorem gF_seq (zs : List Int) : ∀ (i : Nat) (v : Int) (us : Nat → Int), (∀ j, j + 1 < i → us (j + 1) ≤ us j) → (∀ j, j < i → v ≤ us j) → gF zs i v ≤ sumN (fun j => absd (zs.getD j 0) (us j)) i := by
  intro i
  induction i with
  | zero => intro v us _ _; exact Int.le_refl _
  | succ i ih =>
    intro v us h1 h2
    have g := gF_le zs i (h2 i (by omega))
    have e := ih (us i) us (fun j hj => h1 j (by omega)) fun j hj => by
      have := anti_le h1 (i - j) j (by omega)
      rwa [show j + (i - j) = i by omega] at this
    rw [sumN]
    simp only [fF] at g
    omega
theorem gF_best (zs : List Int) : ∀ (i : Nat) (v : Int), ∃ us : Nat → Int, (∀ j, j + 1 < i → us (j + 1) ≤ us j) ∧ (∀ j, j < i → v ≤ us j) ∧ gF zs i v = sumN (fun j => absd (zs.getD j 0) (us j)) i := by
  intro i
  induction i with
  | zero => intro v; exact ⟨fun _ => 0, fun j hj => by omega, fun j hj => by omega, rfl⟩
  | succ i ih =>
    intro v
    obtain ⟨u, h1, h2⟩ := gF_at zs i v
    obtain ⟨us, g1, g2, g3⟩ := ih u
    refine ⟨fun j => if j < i then us j else u, fun j hj => ?_, fun j hj => ?_, ?_⟩
    · show (if j + 1 < i then us (j + 1) else u) ≤ if j < i then us j else u
      rw [if_pos (show j < i by omega)]
      split
      · exact g1 j (by omega)
      · exact g2 j (by omega)
    · show v ≤ if j < i then us j else u
      split
      · have := g2 j (by omega); omega
      · exact h1
    · rw [h2, sumN]
      show fF zs i u = _ + absd (zs.getD i 0) (if i < i then us i else u)
      rw [if_neg (by omega)]
      have e : sumN (fun j => absd (zs.getD j 0) (if j < i then us j else u)) i = sumN (fun j => absd (zs.getD j 0) (us j)) i := sumN_congr fun j hj => by
        show absd _ (if j < i then us j else u) = _
        rw [if_pos hj]
      show fF zs i u = sumN (fun j => absd (zs.getD j 0) (if j < i then us j else u)) i + _
      rw [e, ← g3]
      unfold fF
      omega
theorem sumN_mono {f g : Nat → Int} : ∀ {n : Nat}, (∀ j, j < n → f j ≤ g j) → sumN f n ≤ sumN g n := by
  intro n
  induction n with
  | zero => intro _; exact Int.le_refl _
  | succ n ih =>
    intro h
    have := ih fun j hj => h j (by omega)
    have := h n (by omega)
    rw [sumN, sumN]
    omega
theorem downF_seq {zs : List Int} {i : Nat} (hr : ∀ k, k < i → -1000 ≤ zs.getD k 0) (us : Nat → Int) (h : ∀ j, j + 1 < i → us (j + 1) ≤ us j) : downF zs i ≤ sumN (fun j => absd (zs.getD j 0) (us j)) i := by
  refine Int.le_trans (gF_seq zs i (-1000) (fun j => max (us j) (-1000)) (fun j hj => ?_) fun j hj => Int.le_max_right _ _) (sumN_mono fun j hj => ?_)
  · have := h j hj
    show max (us (j + 1)) (-1000) ≤ max (us j) (-1000)
    omega
  · have := hr j hj
    show absd (zs.getD j 0) (max (us j) (-1000)) ≤ absd (zs.getD j 0) (us j)
    unfold absd
    omega
theorem gF_congr {a b : List Int} : ∀ (i : Nat), (∀ j, j < i → a.getD j 0 = b.getD j 0) → ∀ v, gF a i v = gF b i v := by
  intro i
  induction i with
  | zero => intro _ v; rfl
  | succ i ih =>
    intro h v
    unfold gF
    rw [h i (by omega)]
    congr 1
    funext u
    rw [ih (fun j hj => h j (by omega)) u]
theorem downF_congr {a b : List Int} (i : Nat) (h : ∀ j, j < i → a.getD j 0 = b.getD j 0) : downF a i = downF b i := gF_congr i h _
/-- Read backwards is the same as with signs turned. -/
theorem turn_le (a b : List Int) (n : Nat) (hb : ∀ k, k < n → -1000 ≤ b.getD k 0) (h : ∀ j, j < n → b.getD j 0 = 0 - a.getD (n - 1 - j) 0) : downF b n ≤ downF a n := by
  obtain ⟨us, h1, h2, h3⟩ := gF_best a n (-1000)
  unfold downF at *
  rw [h3]
  refine Int.le_trans (downF_seq hb (fun j => 0 - us (n - 1 - j)) fun j hj => ?_) ?_
  · show 0 - us (n - 1 - (j + 1)) ≤ 0 - us (n - 1 - j)
    have := h1 (n - 1 - (j + 1)) (by omega)
    rw [show n - 1 - (j + 1) + 1 = n - 1 - j by omega] at this
    omega
  · rw [sumN_back (fun j => absd (a.getD j 0) (us j)) n]
    refine Int.le_of_eq (sumN_congr fun j hj => ?_)
    show absd (b.getD j 0) (0 - us (n - 1 - j)) = absd (a.getD (n - 1 - j) 0) (us (n - 1 - j))
    rw [h j hj]
    unfold absd
    omega
theorem rise_rev {zs : List Int} (h : ∀ k, k < zs.length → -1000 ≤ zs.getD k 0 ∧ zs.getD k 0 ≤ 1000) : downF (negL zs) zs.length = downF zs.reverse zs.length := by
  apply Int.le_antisymm
  · refine turn_le _ _ _ (fun k hk => ?_) fun j hj => ?_
    · rw [neg_getD]; have := h k hk; omega
    · rw [neg_getD, reverse_getD zs _ (by omega), show zs.length - 1 - (zs.length - 1 - j) = j by omega]
  · refine turn_le _ _ _ (fun k hk => ?_) fun j hj => ?_
    · rw [reverse_getD zs k hk]; exact (h _ (by omega)).1
    · rw [neg_getD, reverse_getD zs j hj]
      omega
theorem drop_getD (zs : List Int) (i j : Nat) : (zs.drop i).getD j 0 = zs.getD (i + j) 0 := by simp [List.getD]
/-- What the end that begins at a place costs at least, without a fall. -/
theorem rise_end {zs : List Int} (h : ∀ k, k < zs.length → -1000 ≤ zs.getD k 0 ∧ zs.getD k 0 ≤ 1000) {i : Nat} (hi : i ≤ zs.length) : downF (negL (zs.drop i)) (zs.length - i) = downF zs.reverse (zs.length - i) := by
  have e : (zs.drop i).length = zs.length - i := List.length_drop
  have g := rise_rev (zs := zs.drop i) fun k hk => by
    rw [drop_getD]; exact h _ (by omega)
  rw [e] at g
  rw [g]
  refine downF_congr _ fun j hj => ?_
  rw [reverse_getD _ j (by rw [e]; exact hj), reverse_getD zs j (by omega), drop_getD, e]
  congr 1
  omega
/-- What the beginning up to a place costs at least, without a rise: its end read backwards. -/
theorem rise_beg {zs : List Int} (h : ∀ k, k < zs.length → -1000 ≤ zs.getD k 0 ∧ zs.getD k 0 ≤ 1000) {i : Nat} (hi : i < zs.length) : downF (negL (zs.reverse.drop (zs.length - 1 - i))) (i + 1) = downF zs (i + 1) := by
  have h' : ∀ k, k < zs.reverse.length → -1000 ≤ zs.reverse.getD k 0 ∧ zs.reverse.getD k 0 ≤ 1000 := fun k hk => by
    rw [List.length_reverse] at hk
    rw [reverse_getD zs k hk]; exact h _ (by omega)
  have g := rise_end h' (i := zs.length - 1 - i) (by rw [List.length_reverse]; omega)
  rw [List.length_reverse, List.reverse_reverse, show zs.length - (zs.length - 1 - i) = i + 1 by omega] at g
  exact g
theorem downF_up (zs : List Int) (i : Nat) : downF zs i ≤ downF zs (i + 1) := by
  unfold downF
  obtain ⟨u, h1, h2⟩ := gF_at zs i (-1000)
  rw [h2]
  have := gF_mono zs i h1
  simp only [fF, absd]
  omega
theorem downF_cap {zs : List Int} {i : Nat} (hr : ∀ k, k < i → -1000 ≤ zs.getD k 0 ∧ zs.getD k 0 ≤ 1000) : downF zs i ≤ 1000 * (i : Int) := by
  refine Int.le_trans (downF_seq (fun k hk => (hr k hk).1) (fun _ => 0) fun _ _ => Int.le_refl _) ?_
  have : ∀ i : Nat, (∀ k, k < i → -1000 ≤ zs.getD k 0 ∧ zs.getD k 0 ≤ 1000) → sumN (fun j => absd (zs.getD j 0) 0) i ≤ 1000 * (i : Int) := by
    intro i
    induction i with
    | zero => intro _; exact Int.le_refl _
    | succ i ih =>
      intro h
      have := ih fun k hk => h k (by omega)
      have := h i (by omega)
      rw [sumN]
      simp only [absd] at *
      omega
  exact this i hr
/-- The least of the sums for beginnings of one entry and more, no greater than what int holds. -/
def minI (zs : List Int) : Nat → Int
  | 0 => 9223372036854775807
  | k + 1 => min (minI zs k) (costAt zs (k + 1))
theorem row_lo {zs : List Int} (hr : rowB zs = true) : ∀ k, k < zs.length → -1000 ≤ zs.getD k 0 ∧ zs.getD k 0 ≤ 1000 := fun k hk => row_getD hr k hk
theorem rev_lo {zs : List Int} (h : ∀ k, k < zs.length → -1000 ≤ zs.getD k 0 ∧ zs.getD k 0 ≤ 1000) : ∀ k, k < zs.reverse.length → -1000 ≤ zs.reverse.getD k 0 ∧ zs.reverse.getD k 0 ≤ 1000 := fun k hk => by
  rw [List.length_reverse] at hk
  rw [reverse_getD zs k hk]; exact h _ (by omega)
theorem costAt_cap {zs : List Int} (h : ∀ k, k < zs.length → -1000 ≤ zs.getD k 0 ∧ zs.getD k 0 ≤ 1000) {i : Nat} (hi : i ≤ zs.length) : costAt zs i ≤ 1000 * (zs.length : Int) := by
  unfold costAt
  have := downF_cap (zs := zs) (i := i) fun k hk => h k (by omega)
  have := downF_cap (zs := zs.reverse) (i := zs.length - i) fun k hk => rev_lo h k (by rw [List.length_reverse]; omega)
  omega
theorem costAt_nn (zs : List Int) (i : Nat) : 0 ≤ costAt zs i := by
  have := downF_nonneg zs i
  have := downF_nonneg zs.reverse (zs.length - i)
  unfold costAt
  omega
theorem costAt_one {zs : List Int} (h : ∀ k, k < zs.length → -1000 ≤ zs.getD k 0 ∧ zs.getD k 0 ≤ 1000) (h0 : 0 < zs.length) : costAt zs 1 ≤ costAt zs 0 := by
  unfold costAt
  have e1 : downF zs 1 ≤ _ := downF_le zs 0 (h 0 h0).1
  have e2 := downF_nonneg zs 0
  have e3 := downF_up zs.reverse (zs.length - 1)
  rw [show zs.length - 1 + 1 = zs.length by omega] at e3
  rw [Nat.sub_zero]
  have e4 : fF zs 0 (zs.getD 0 0) = 0 := by simp only [fF, gF, absd]; omega
  rw [e4] at e1
  omega
theorem minI_le (zs : List Int) : ∀ n k, k < n → minI zs n ≤ costAt zs (k + 1) := by
  intro n
  induction n with
  | zero => intro k h; omega
  | succ n ih =>
    intro k h
    unfold minI
    by_cases e : k = n
    · rw [e]; exact Int.min_le_right _ _
    · exact Int.le_trans (Int.min_le_left _ _) (ih k (by omega))
theorem minI_at {zs : List Int} {n : Nat} (hn : 0 < n) (h : ∀ k, k < n → costAt zs (k + 1) ≤ 9223372036854775807) : ∃ k, k < n ∧ minI zs n = costAt zs (k + 1) := by
  induction n with
  | zero => omega
  | succ n ih =>
    unfold minI
    have hb := h n (by omega)
    rcases Nat.eq_zero_or_pos n with e | e
    · subst e
      exact ⟨0, by omega, by show min (9223372036854775807 : Int) _ = _; omega⟩
    · obtain ⟨k, h1, h2⟩ := ih e fun k hk => h k (by omega)
      by_cases c : minI zs n ≤ costAt zs (n + 1)
      · exact ⟨k, by omega, by rw [Int.min_eq_left c, h2]⟩
      · exact ⟨n, by omega, Int.min_eq_right (by omega)⟩
theorem minI_all {zs : List Int} (hr : rowB zs = true) : minI zs zs.length = costL zs := by
  have lo := row_lo hr
  have hl := (rowB_true.1 hr).2
  have h0 := row_pos hr
  apply Int.le_antisymm
  · obtain ⟨i, h1, h2⟩ := minN_at (costAt zs) zs.length
    unfold costL
    rw [h2]
    cases i with
    | zero =>
      have e1 : minI zs zs.length ≤ costAt zs 1 := minI_le zs zs.length 0 h0
      have e2 := costAt_one lo h0
      omega
    | succ i => exact minI_le zs _ i (by omega)
  · obtain ⟨k, h1, h2⟩ := minI_at (zs := zs) h0 fun k hk => by
      have := costAt_cap lo (i := k + 1) (by omega)
      omega
    rw [h2]
    exact minN_le _ _ (k + 1) (by omega)
theorem minI_bd {zs : List Int} (n : Nat) : 0 ≤ minI zs n ∧ minI zs n ≤ 9223372036854775807 := by
  induction n with
  | zero => exact ⟨(by decide : (0 : Int) ≤ 9223372036854775807), Int.le_refl _⟩
  | succ n ih =>
    unfold minI
    have := costAt_nn zs (n + 1)
    omega
/-- The model's walk: the whole beginning first. -/
def bestC (zs : List Int) : Nat → Int
  | 0 => downF zs zs.length
  | k + 1 => min (bestC zs k) (costAt zs k)
theorem bestC_all (zs : List Int) : bestC zs (zs.length + 1) = costL zs := by
  have e : costAt zs zs.length = downF zs zs.length := by
    unfold costAt
    rw [Nat.sub_self, show downF zs.reverse 0 = 0 from rfl, Int.add_zero]
  have : ∀ n, bestC zs (n + 1) = min (downF zs zs.length) (minN (costAt zs) n) := by
    intro n
    induction n with
    | zero => rfl
    | succ n ih =>
      rw [bestC, ih]
      show min (min _ _) _ = min _ (min (minN (costAt zs) n) (costAt zs (n + 1)))
      omega
  rw [this]
  have h := minN_le (costAt zs) zs.length zs.length (Nat.le_refl _)
  unfold costL
  rw [e] at h
  omega

/-- The model's costs before an entry is taken. -/
def cF (zs vs : List Int) : Nat → Nat → Int
  | 0, _ => 0
  | i + 1, k => fF zs i (vs.getD k 0)
theorem cF_nn (zs vs : List Int) (i k : Nat) : 0 ≤ cF zs vs i k := by
  cases i with
  | zero => exact Int.le_refl _
  | succ i =>
    show 0 ≤ fF zs i _
    have := gF_nonneg zs i (vs.getD k 0)
    simp only [fF, absd]
    omega
theorem fallC_last {zs vs : List Int} {i : Nat} (h : ∀ j, j < i → zs.getD j 0 ∈ vs) (hs : ∀ j j', j ≤ j' → j' < vs.length → vs.getD j 0 ≤ vs.getD j' 0) {k : Nat} (hk : k + 1 = vs.length) : cF zs vs i k = gF zs i (vs.getD k 0) := by
  cases i with
  | zero => rfl
  | succ i =>
    refine gF_try zs vs i k _ h hs (by omega) (fun j h1 h2 => ?_) ⟨k, Nat.le_refl _, by omega, rfl⟩
    obtain rfl : j = k := by omega
    exact Int.le_refl _
theorem fallC_step {zs vs : List Int} {i : Nat} (h : ∀ j, j < i → zs.getD j 0 ∈ vs) (hs : ∀ j j', j ≤ j' → j' < vs.length → vs.getD j 0 ≤ vs.getD j' 0) {k : Nat} (hk : k + 1 < vs.length) :
    gF zs i (vs.getD k 0) = if cF zs vs i k < gF zs i (vs.getD (k + 1) 0) then cF zs vs i k else gF zs i (vs.getD (k + 1) 0) := by
  cases i with
  | zero =>
    show (0 : Int) = if (0 : Int) < 0 then 0 else 0
    rfl
  | succ i =>
    have hle := hs k (k + 1) (by omega) hk
    have e1 := gF_mono zs (i + 1) hle
    have e2 : gF zs (i + 1) (vs.getD k 0) ≤ cF zs vs (i + 1) k := gF_le zs i (Int.le_refl _)
    obtain ⟨u, p1, p2, p3⟩ := gF_in zs vs i h (vs.getD k 0) (by rw [getD_in (show k < vs.length by omega)]; exact List.getElem_mem _)
    obtain ⟨j, hj, rfl⟩ := List.getElem_of_mem p1
    rw [← getD_in hj] at p2 p3
    have e3 : cF zs vs (i + 1) k = gF zs (i + 1) (vs.getD k 0) ∨ gF zs (i + 1) (vs.getD (k + 1) 0) = gF zs (i + 1) (vs.getD k 0) := by
      rcases Nat.lt_or_ge k j with c | c
      · right
        have := gF_le zs i (hs (k + 1) j (by omega) hj)
        omega
      · left
        have := hs j k c (by omega)
        rw [p3, show vs.getD j 0 = vs.getD k 0 by omega]
        rfl
    split <;> omega
theorem fallC_least {zs vs : List Int} {i : Nat} (h : ∀ j, j < i + 1 → zs.getD j 0 ∈ vs) (hs : ∀ j j', j ≤ j' → j' < vs.length → vs.getD j 0 ≤ vs.getD j' 0) (hlo : ∀ j, j < vs.length → -1000 ≤ vs.getD j 0) (h0 : 0 < vs.length) :
    minN (fun k => cF zs vs (i + 1) k) (vs.length - 1) = downF zs (i + 1) := by
  have hz : ∀ j, j < i + 1 → vs.getD 0 0 ≤ zs.getD j 0 := fun j hj => by
    obtain ⟨m, hm, e⟩ := List.getElem_of_mem (h j hj)
    rw [← getD_in hm] at e
    rw [← e]; exact hs 0 m (by omega) hm
  unfold downF
  rw [gF_lower zs (i + 1) (hlo 0 h0) hz]
  obtain ⟨k, h1, h2⟩ := minN_at (fun k => cF zs vs (i + 1) k) (vs.length - 1)
  refine gF_try zs vs i 0 _ h hs h0 (fun j _ h2 => minN_le (fun k => cF zs vs (i + 1) k) _ j (by omega)) ⟨k, Nat.zero_le _, by omega, h2⟩
/-- The least sums for all beginnings. -/
def downs (zs : List Int) (i : Nat) : List Int := (List.range (i + 1)).map (downF zs)
theorem downs_len (zs : List Int) (i : Nat) : (downs zs i).length = i + 1 := by simp [downs]
theorem downs_getD (zs : List Int) (i j : Nat) (h : j ≤ i) : (downs zs i).getD j 0 = downF zs j := by
  rw [getD_in (by rw [downs_len]; omega)]; simp [downs]
theorem downs_snoc (zs : List Int) (i : Nat) : downs zs i ++ [downF zs (i + 1)] = downs zs (i + 1) := by
  unfold downs
  rw [List.range_succ (n := i + 1), List.map_append]; rfl

/-- The program's costs: with signs turned. -/
def rC (zs vs : List Int) (i k : Nat) : Int := gF (negL zs) i (0 - vs.getD k 0)
theorem rC_nn (zs vs : List Int) (i k : Nat) : 0 ≤ rC zs vs i k := gF_nonneg _ _ _
/-- What comes by adding what the entry differs from the level. -/
def rN (zs vs : List Int) (i k : Nat) : Int := rC zs vs i k + max (zs.getD i 0 - vs.getD k 0) (vs.getD k 0 - zs.getD i 0)
theorem rN_f (zs vs : List Int) (i k : Nat) : rN zs vs i k = fF (negL zs) i (0 - vs.getD k 0) := by
  unfold rN rC fF absd
  rw [neg_getD]
  omega
theorem neg_mem {zs vs : List Int} {i : Nat} (h : ∀ j, j < i → zs.getD j 0 ∈ vs) : ∀ j, j < i → (negL zs).getD j 0 ∈ negL vs := fun j hj => by
  rw [neg_getD]
  exact List.mem_map.2 ⟨_, h j hj, rfl⟩
theorem riseC_in {zs vs : List Int} {i : Nat} (h : ∀ j, j < i + 1 → zs.getD j 0 ∈ vs) {k : Nat} (hk : k < vs.length) : ∃ j, j < vs.length ∧ vs.getD j 0 ≤ vs.getD k 0 ∧ rC zs vs (i + 1) k = rN zs vs i j := by
  obtain ⟨u, p1, p2, p3⟩ := gF_in (negL zs) (negL vs) i (neg_mem h) (0 - vs.getD k 0) (by rw [← neg_getD, getD_in (by rw [neg_len]; exact hk)]; exact List.getElem_mem _)
  obtain ⟨x, hx, rfl⟩ := List.mem_map.1 p1
  obtain ⟨j, hj, rfl⟩ := List.getElem_of_mem hx
  rw [← getD_in hj] at p2 p3
  exact ⟨j, hj, by omega, by rw [rN_f]; exact p3⟩
theorem riseC_first {zs vs : List Int} {i : Nat} (h : ∀ j, j < i + 1 → zs.getD j 0 ∈ vs) (hs : ∀ j j', j ≤ j' → j' < vs.length → vs.getD j 0 ≤ vs.getD j' 0) (h0 : 0 < vs.length) : rN zs vs i 0 = rC zs vs (i + 1) 0 := by
  obtain ⟨j, h1, h2, h3⟩ := riseC_in h h0
  have := hs 0 j (by omega) h1
  rw [h3, rN_f, rN_f, show vs.getD j 0 = vs.getD 0 0 by omega]
theorem riseC_step {zs vs : List Int} {i : Nat} (h : ∀ j, j < i + 1 → zs.getD j 0 ∈ vs) (hs : ∀ j j', j ≤ j' → j' < vs.length → vs.getD j 0 ≤ vs.getD j' 0) {k : Nat} (hk : k + 1 < vs.length) :
    min (rN zs vs i (k + 1)) (rC zs vs (i + 1) k) = rC zs vs (i + 1) (k + 1) := by
  obtain ⟨j, h1, h2, h3⟩ := riseC_in h hk
  have hle := hs k (k + 1) (by omega) hk
  have e1 : rC zs vs (i + 1) (k + 1) ≤ rC zs vs (i + 1) k := gF_mono _ _ (by omega)
  have e2 : rC zs vs (i + 1) (k + 1) ≤ rN zs vs i (k + 1) := by rw [rN_f]; exact gF_le _ i (Int.le_refl _)
  rcases Nat.lt_or_ge k j with c | c
  · have := hs (k + 1) j (by omega) h1
    have e3 : rN zs vs i j = rN zs vs i (k + 1) := by rw [rN_f, rN_f, show vs.getD j 0 = vs.getD (k + 1) 0 by omega]
    omega
  · have e3 : rC zs vs (i + 1) k ≤ rN zs vs i j := by
      rw [rN_f]; exact gF_le _ i (by have := hs j k c (by omega); omega)
    omega
theorem riseC_all {zs vs : List Int} (h : ∀ j, j < zs.length → zs.getD j 0 ∈ vs) (hs : ∀ j j', j ≤ j' → j' < vs.length → vs.getD j 0 ≤ vs.getD j' 0) (hlo : ∀ j, j < vs.length → vs.getD j 0 ≤ 1000) (h0 : 0 < vs.length) :
    rC zs vs zs.length (vs.length - 1) = downF (negL zs) zs.length := by
  unfold rC downF
  refine (gF_lower _ _ ?_ fun j hj => ?_).symm
  · have := hlo (vs.length - 1) (by omega)
    omega
  · rw [neg_getD]
    obtain ⟨m, hm, e⟩ := List.getElem_of_mem (h j hj)
    rw [← getD_in hm] at e
    have := hs m (vs.length - 1) (by omega) (by omega)
    omega
theorem rC_cap {zs vs : List Int} (i k : Nat) (hz : ∀ j, j < i → -1000 ≤ zs.getD j 0 ∧ zs.getD j 0 ≤ 1000) (hv : -1000 ≤ vs.getD k 0 ∧ vs.getD k 0 ≤ 1000) : rC zs vs i k ≤ 2000 * (i : Int) := by
  refine Int.le_trans (gF_seq (negL zs) i _ (fun _ => 0 - vs.getD k 0) (fun _ _ => Int.le_refl _) fun _ _ => Int.le_refl _) ?_
  have : ∀ i : Nat, (∀ k, k < i → -1000 ≤ zs.getD k 0 ∧ zs.getD k 0 ≤ 1000) → sumN (fun j => absd ((negL zs).getD j 0) (0 - vs.getD k 0)) i ≤ 2000 * (i : Int) := by
    intro i
    induction i with
    | zero => intro _; exact Int.le_refl _
    | succ i ih =>
      intro h
      have := ih fun k hk => h k (by omega)
      have := h i (by omega)
      rw [sumN]
      simp only [absd, neg_getD] at *
      omega
  exact this i hz
theorem cF_cap {zs vs : List Int} (i k : Nat) (hz : ∀ j, j < i → -1000 ≤ zs.getD j 0 ∧ zs.getD j 0 ≤ 1000) (hv : -1000 ≤ vs.getD k 0 ∧ vs.getD k 0 ≤ 1000) : cF zs vs i k ≤ 2000 * (i : Int) := by
  cases i with
  | zero => exact Int.le_refl _
  | succ i =>
    show fF zs i _ ≤ _
    have g := gF_seq zs i (vs.getD k 0) (fun _ => vs.getD k 0) (fun _ _ => Int.le_refl _) fun _ _ => Int.le_refl _
    have : ∀ i : Nat, (∀ k, k < i → -1000 ≤ zs.getD k 0 ∧ zs.getD k 0 ≤ 1000) → sumN (fun j => absd (zs.getD j 0) (vs.getD k 0)) i ≤ 2000 * (i : Int) := by
      intro i
      induction i with
      | zero => intro _; exact Int.le_refl _
      | succ i ih =>
        intro h
        have := ih fun k hk => h k (by omega)
        have := h i (by omega)
        rw [sumN]
        simp only [absd] at *
        omega
    have t := this i fun k hk => hz k (by omega)
    have := hz i (by omega)
    simp only [fF, absd] at *
    omega
theorem gF_cap {zs : List Int} (i : Nat) {v : Int} (hz : ∀ j, j < i → -1000 ≤ zs.getD j 0 ∧ zs.getD j 0 ≤ 1000) (hv : -1000 ≤ v ∧ v ≤ 1000) : gF zs i v ≤ 2000 * (i : Int) := by
  refine Int.le_trans (gF_seq zs i v (fun _ => v) (fun _ _ => Int.le_refl _) fun _ _ => Int.le_refl _) ?_
  have : ∀ i : Nat, (∀ k, k < i → -1000 ≤ zs.getD k 0 ∧ zs.getD k 0 ≤ 1000) → sumN (fun j => absd (zs.getD j 0) v) i ≤ 2000 * (i : Int) := by
    intro i
    induction i with
    | zero => intro _; exact Int.le_refl _
    | succ i ih =>
      intro h
      have := ih fun k hk => h k (by omega)
      have := h i (by omega)
      rw [sumN]
      simp only [absd] at *
      omega
  exact this i hz
theorem minN_bd {f : Nat → Int} {M : Int} {n : Nat} (h : ∀ k, k ≤ n → 0 ≤ f k ∧ f k ≤ M) : 0 ≤ minN f n ∧ minN f n ≤ M := by
  obtain ⟨k, h1, h2⟩ := minN_at f n
  rw [h2]; exact h k h1
end Go.Proofs.Ytanoojpmokbiaab

/-
  Round hills once more: counting the blocks of entries that are not 0. No program here. Conditions: none.
-/
namespace Go.Proofs.Ytanoojpmokbiaab
open Go.RowKit

/-- The entry at a place, and 0 for one that is not there. -/
def atI (zs : List Int) (j : Int) : Int := if 0 ≤ j then zs.getD j.toNat 0 else 0
theorem atI_nat (zs : List Int) (k : Nat) : atI zs (k : Int) = zs.getD k 0 := by
  unfold atI; rw [if_pos (by omega), Int.toNat_natCast]
theorem atI_neg (zs : List Int) {j : Int} (h : j < 0) : atI zs j = 0 := if_neg (by omega)
theorem atI_bd {zs : List Int} (hr : rowB zs = true) (j : Int) : -1000 ≤ atI zs j ∧ atI zs j ≤ 1000 := by
  unfold atI
  split
  · by_cases h : j.toNat < zs.length
    · exact row_getD hr _ h
    · rw [getD_out (by omega)]; omega
  · omega
/-- A block begins at the place. -/
def newB (zs : List Int) (i : Nat) : Bool := decide (zs.getD i 0 ≠ 0) && decide (atI zs ((i : Int) - 1) = 0)
def blocksTo (zs : List Int) : Nat → Nat
  | 0 => 0
  | k + 1 => blocksTo zs k + if newB zs k then 1 else 0
theorem newB_zero (zs : List Int) : newB zs 0 = decide (zs.getD 0 0 ≠ 0) := by
  unfold newB
  rw [atI_neg zs (by omega)]
  simp
theorem newB_succ (zs : List Int) (i : Nat) : newB zs (i + 1) = (decide (zs.getD (i + 1) 0 ≠ 0) && decide (zs.getD i 0 = 0)) := by
  unfold newB
  rw [show ((i + 1 : Nat) : Int) - 1 = (i : Int) by omega, atI_nat]
theorem blocks_mono (zs : List Int) (k d : Nat) : blocksTo zs k ≤ blocksTo zs (k + d) := by
  induction d with
  | zero => exact Nat.le_refl _
  | succ d ih => rw [show k + (d + 1) = k + d + 1 by omega, blocksTo]; omega
theorem blocks_le (zs : List Int) (k : Nat) : blocksTo zs k ≤ k := by
  induction k with
  | zero => exact Nat.le_refl _
  | succ k ih => rw [blocksTo]; split <;> omega
theorem blocks_pos {zs : List Int} : ∀ i, zs.getD i 0 ≠ 0 → 1 ≤ blocksTo zs (i + 1) := by
  intro i
  induction i with
  | zero => intro h; rw [blocksTo, newB_zero, decide_eq_true h]; simp
  | succ i ih =>
    intro h
    by_cases e : zs.getD i 0 = 0
    · rw [blocksTo, newB_succ, decide_eq_true h, decide_eq_true e]; simp
    · have := ih e
      have := blocks_mono zs (i + 1) 1
      omega
theorem blocks_more {zs : List Int} {j : Nat} (hj : zs.getD j 0 = 0) : ∀ d, zs.getD (j + 1 + d) 0 ≠ 0 → blocksTo zs (j + 1) + 1 ≤ blocksTo zs (j + 1 + d + 1) := by
  intro d
  induction d with
  | zero =>
    intro h
    rw [Nat.add_zero] at h ⊢
    rw [blocksTo.eq_def zs (j + 1 + 1)]
    simp only
    rw [newB_succ, decide_eq_true h, decide_eq_true hj]
    simp
  | succ d ih =>
    intro h
    by_cases e : zs.getD (j + 1 + d) 0 = 0
    · rw [show j + 1 + (d + 1) + 1 = j + 1 + d + 1 + 1 by omega, blocksTo.eq_def zs (j + 1 + d + 1 + 1)]
      simp only
      rw [newB_succ, decide_eq_true (show zs.getD (j + 1 + d + 1) 0 ≠ 0 from h), decide_eq_true e]
      have := blocks_mono zs (j + 1) (d + 1)
      rw [show j + 1 + (d + 1) = j + 1 + d + 1 by omega] at this
      simp
      omega
    · have := ih e
      have := blocks_mono zs (j + 1 + d + 1) 1
      rw [show j + 1 + (d + 1) + 1 = j + 1 + d + 1 + 1 by omega]
      omega
theorem blocks_some {zs : List Int} : ∀ k, 1 ≤ blocksTo zs k → ∃ p, p < k ∧ zs.getD p 0 ≠ 0 := by
  intro k
  induction k with
  | zero => intro h; exact absurd h (by simp [blocksTo])
  | succ k ih =>
    intro h
    by_cases e : zs.getD k 0 = 0
    · have : newB zs k = false := by unfold newB; rw [decide_eq_false (fun c : zs.getD k 0 ≠ 0 => c e)]; rfl
      rw [blocksTo, this] at h
      obtain ⟨p, h1, h2⟩ := ih (by simpa using h)
      exact ⟨p, by omega, h2⟩
    · exact ⟨k, by omega, e⟩
theorem blocks_two {zs : List Int} : ∀ k, 2 ≤ blocksTo zs k → ∃ p q, p < q ∧ q + 1 < k ∧ zs.getD p 0 ≠ 0 ∧ zs.getD q 0 = 0 ∧ zs.getD (q + 1) 0 ≠ 0 := by
  intro k
  induction k with
  | zero => intro h; exact absurd h (by simp [blocksTo])
  | succ k ih =>
    intro h
    rw [blocksTo] at h
    by_cases e : newB zs k = true
    · rw [e] at h
      simp only [if_true] at h
      obtain ⟨p, h1, h2⟩ := blocks_some (zs := zs) k (by omega)
      obtain ⟨m, rfl⟩ : ∃ m, k = m + 1 := ⟨k - 1, by omega⟩
      rw [newB_succ, Bool.and_eq_true, decide_eq_true_eq, decide_eq_true_eq] at e
      refine ⟨p, m, ?_, by omega, h2, e.2, e.1⟩
      refine Classical.byContradiction fun c => ?_
      have : p = m := by omega
      subst this
      exact h2 e.2
    · simp only [Bool.not_eq_true] at e
      rw [e] at h
      obtain ⟨p, q, g⟩ := ih (by simpa using h)
      exact ⟨p, q, g.1, by omega, g.2.2⟩
theorem round_yes {zs : List Int} (hn : nnB zs = true) (hb : blocksTo zs zs.length ≤ 1) (hs : ∀ i, i < zs.length → zs.getD i 0 ≠ 0 → atI zs ((i : Int) - 1) * atI zs ((i : Int) + 1) ≤ zs.getD i 0 * zs.getD i 0) : roundB zs = true := by
  have nn : ∀ k, 0 ≤ zs.getD k 0 := fun k => nnB_nn hn k
  rw [roundB_iff hn]
  have hz : ∀ i j k, i < j → j < k → k < zs.length → 0 < zs.getD i 0 → 0 < zs.getD k 0 → 0 < zs.getD j 0 := by
    intro i j k h1 h2 h3 h4 h5
    refine Classical.byContradiction fun c => ?_
    have := nn j
    have e : zs.getD j 0 = 0 := by omega
    have g1 := blocks_pos (zs := zs) i (by omega)
    have g2 := blocks_more e (k - (j + 1)) (by rw [show j + 1 + (k - (j + 1)) = k by omega]; omega)
    have g3 := blocks_mono zs (i + 1) (j - i)
    have g4 := blocks_mono zs (j + 1 + (k - (j + 1)) + 1) (zs.length - (k + 1))
    rw [show i + 1 + (j - i) = j + 1 by omega] at g3
    rw [show j + 1 + (k - (j + 1)) + 1 + (zs.length - (k + 1)) = zs.length by omega] at g4
    omega
  refine ⟨hz, fun k hk => ?_⟩
  by_cases e : zs.getD (k + 1) 0 = 0
  · by_cases h1 : zs.getD k 0 = 0
    · rw [h1, e]; simp
    · by_cases h2 : zs.getD (k + 2) 0 = 0
      · rw [h2, e]; simp
      · have := nn k; have := nn (k + 2)
        have := hz k (k + 1) (k + 2) (by omega) (by omega) (by omega) (by omega) (by omega)
        omega
  · have := hs (k + 1) (by omega) e
    rw [show ((k + 1 : Nat) : Int) - 1 = (k : Int) by omega, show ((k + 1 : Nat) : Int) + 1 = ((k + 2 : Nat) : Int) by omega, atI_nat, atI_nat] at this
    exact this
theorem round_no1 {zs : List Int} (hn : nnB zs = true) (hb : 2 ≤ blocksTo zs zs.length) : roundB zs = false := by
  have nn : ∀ k, 0 ≤ zs.getD k 0 := fun k => nnB_nn hn k
  rw [← Bool.not_eq_true, roundB_iff hn]
  intro h
  obtain ⟨p, q, h1, h2, h3, h4, h5⟩ := blocks_two _ hb
  have := nn p; have := nn (q + 1)
  have := h.1 p q (q + 1) h1 (by omega) h2 (by omega) (by omega)
  omega
theorem round_no2 {zs : List Int} (hn : nnB zs = true) {i : Nat} (hi : i < zs.length) (hs : zs.getD i 0 * zs.getD i 0 < atI zs ((i : Int) - 1) * atI zs ((i : Int) + 1)) : roundB zs = false := by
  have nn : ∀ k, 0 ≤ zs.getD k 0 := fun k => nnB_nn hn k
  have sq : 0 ≤ zs.getD i 0 * zs.getD i 0 := Int.mul_nonneg (nn i) (nn i)
  rw [← Bool.not_eq_true, roundB_iff hn]
  intro h
  by_cases h0 : i = 0
  · subst h0
    rw [atI_neg zs (by omega), Int.zero_mul] at hs
    omega
  · by_cases h1 : i + 1 < zs.length
    · have := h.2 (i - 1) (by omega)
      rw [show i - 1 + 2 = i + 1 by omega, show i - 1 + 1 = i by omega] at this
      rw [show (i : Int) - 1 = ((i - 1 : Nat) : Int) by omega, show (i : Int) + 1 = ((i + 1 : Nat) : Int) by omega, atI_nat, atI_nat] at hs
      omega
    · rw [show (i : Int) + 1 = ((i + 1 : Nat) : Int) by omega, atI_nat, getD_out (show zs.length ≤ i + 1 by omega), Int.mul_zero] at hs
      omega
/-- What hillB, roundB and HillRound say. -/
def hillRoundB (zs : List Int) : Bool := hillB zs && roundB zs
theorem hill_true {zs : List Int} (h : hillB zs = true) : nnB zs = true ∧ rowB zs = true := by
  unfold hillB at h; rwa [Bool.and_eq_true] at h
/-- The least entry. -/
def minTo (zs : List Int) : Nat → Int
  | 0 => zs.getD 0 0
  | k + 1 => if zs.getD (k + 1) 0 < minTo zs k then zs.getD (k + 1) 0 else minTo zs k
theorem minTo_nn {zs : List Int} : ∀ k, (0 ≤ minTo zs k) ↔ ∀ j, j ≤ k → 0 ≤ zs.getD j 0 := by
  intro k
  induction k with
  | zero =>
    exact ⟨fun h j hj => by obtain rfl : j = 0 := (by omega); exact h, fun h => h 0 (Nat.le_refl _)⟩
  | succ k ih =>
    rw [minTo]
    constructor
    · intro h j hj
      rcases Nat.eq_or_lt_of_le hj with rfl | hj
      · split at h <;> omega
      · exact ih.1 (by split at h <;> omega) j (by omega)
    · intro h
      have h1 := h (k + 1) (Nat.le_refl _)
      have h2 := ih.2 fun j hj => h j (by omega)
      split <;> omega
theorem minTo_hill {zs : List Int} (hr : rowB zs = true) : decide (0 ≤ minTo zs (zs.length - 1)) = hillB zs := by
  have h0 := (rowB_true.1 hr).2.1
  unfold hillB
  rw [hr, Bool.and_true]
  cases hn : nnB zs with
  | true => exact decide_eq_true ((minTo_nn _).2 fun j _ => nnB_nn hn j)
  | false =>
    refine decide_eq_false fun c => ?_
    rw [nnB_of fun k hk => (minTo_nn _).1 c k (by omega)] at hn
    cases hn
theorem minTo_bd {zs : List Int} (h : ∀ z, z ∈ zs → I64 z) : ∀ k, k < zs.length → I64 (minTo zs k) := by
  intro k
  induction k with
  | zero => intro h0; rw [minTo, getD_in h0]; exact h _ (List.getElem_mem h0)
  | succ k ih =>
    intro h0
    rw [minTo]
    split
    · rw [getD_in h0]; exact h _ (List.getElem_mem h0)
    · exact ih (by omega)
/-- None of the first places breaks roundness. -/
def RoundTo (zs : List Int) (k : Nat) : Prop := ∀ j, j < k → j + 1 < zs.length → ¬ (endsB zs (j + 1) = true ∧ 0 < zs.getD (j + 1) 0) ∧ (j + 2 < zs.length → ¬ zs.getD (j + 1) 0 * zs.getD (j + 1) 0 < zs.getD j 0 * zs.getD (j + 2) 0)
theorem roundTo_zero (zs : List Int) : RoundTo zs 0 := fun j hj => absurd hj (by omega)
theorem roundTo_succ {zs : List Int} {k : Nat} (h : RoundTo zs k) (h1 : ¬ (endsB zs (k + 1) = true ∧ 0 < zs.getD (k + 1) 0)) (h2 : k + 2 < zs.length → ¬ zs.getD (k + 1) 0 * zs.getD (k + 1) 0 < zs.getD k 0 * zs.getD (k + 2) 0) : RoundTo zs (k + 1) := by
  intro j hj hj2
  by_cases e : j = k
  · subst e; exact ⟨h1, h2⟩
  · exact h j (by omega) hj2
theorem roundTo_all {zs : List Int} {k : Nat} (h : RoundTo zs k) (hk : zs.length ≤ k + 1) : roundB zs = true := by
  unfold roundB
  rw [List.all_eq_true]
  intro i hi
  have hi' := List.mem_range.1 hi
  obtain ⟨h1, h2⟩ := h i (by omega) (by omega)
  rw [Bool.and_eq_true]
  constructor
  · cases e : endsB zs (i + 1) with
    | false => rfl
    | true =>
      have : ¬ 0 < zs.getD (i + 1) 0 := fun c => h1 ⟨e, c⟩
      rw [decide_eq_false this]; rfl
  · by_cases c : i + 2 < zs.length
    · rw [decide_eq_false (h2 c)]; simp
    · rw [decide_eq_false c]; rfl
theorem round_bad1 {zs : List Int} {k : Nat} (hk : k + 1 < zs.length) (h1 : endsB zs (k + 1) = true) (h2 : 0 < zs.getD (k + 1) 0) : roundB zs = false := by
  unfold roundB
  rw [List.all_eq_false]
  refine ⟨k, List.mem_range.2 (by omega), ?_⟩
  rw [h1, decide_eq_true h2]; simp
theorem round_bad2 {zs : List Int} {k : Nat} (hk : k + 2 < zs.length) (h : zs.getD (k + 1) 0 * zs.getD (k + 1) 0 < zs.getD k 0 * zs.getD (k + 2) 0) : roundB zs = false := by
  unfold roundB
  rw [List.all_eq_false]
  refine ⟨k, List.mem_range.2 (by omega), ?_⟩
  rw [decide_eq_true hk, decide_eq_true h]; simp
end Go.Proofs.Ytanoojpmokbiaab
