/-
  Rows that are more even: sums of greatest entries, what is above a number, levelling, the most even row, steps, meets, sums of bent rows. No program here. Conditions: none.
-/
import Derived.Test.YtfiojdiogjpakaaMathA
import Derived.Test.YtfiojdiogjpakaaHvMath
namespace Go.Proofs.Ytfiojdiogjpakaa
open Go.RowKit

/-- None greater than the one ahead of it. -/
def Dn : List Int → Prop
  | [] => True
  | x :: l => (∀ y, y ∈ l → y ≤ x) ∧ Dn l
def sumL : List Int → Int
  | [] => 0
  | x :: l => x + sumL l
theorem sumL_append : ∀ l m : List Int, sumL (l ++ m) = sumL l + sumL m
  | [], m => by simp [sumL]
  | x :: l, m => by simp only [List.cons_append, sumL]; rw [sumL_append l m]; omega
theorem sumL_perm {l m : List Int} (h : l.Perm m) : sumL l = sumL m := by
  induction h with
  | nil => rfl
  | cons x _ ih => simp only [sumL]; rw [ih]
  | swap x y l => simp only [sumL]; omega
  | trans _ _ ih1 ih2 => rw [ih1, ih2]
/-- What lies above c, added up. -/
def abvL (c : Int) : List Int → Int
  | [] => 0
  | x :: l => max 0 (x - c) + abvL c l
theorem abv_perm (c : Int) {l m : List Int} (h : l.Perm m) : abvL c l = abvL c m := by
  induction h with
  | nil => rfl
  | cons x _ ih => simp only [abvL]; rw [ih]
  | swap x y l => simp only [abvL]; omega
  | trans _ _ ih1 ih2 => rw [ih1, ih2]
theorem abv_nonneg (c : Int) : ∀ l : List Int, 0 ≤ abvL c l
  | [] => Int.le_refl _
  | x :: l => by have := abv_nonneg c l; simp only [abvL]; omega
theorem abv_ge (c : Int) : ∀ l : List Int, sumL l - c * (l.length : Int) ≤ abvL c l
  | [] => by simp [sumL, abvL]
  | x :: l => by
    have := abv_ge c l
    have e : c * ((x :: l).length : Int) = c * (l.length : Int) + c := by rw [List.length_cons, Int.natCast_add]; simp [Int.mul_add]
    rw [e]; simp only [abvL, sumL]; omega
theorem abv_high {c : Int} : ∀ {l : List Int}, (∀ x, x ∈ l → x ≤ c) → abvL c l = 0
  | [], _ => rfl
  | x :: l, h => by
    have a := h x (by simp)
    have b := abv_high (c := c) (l := l) fun y hy => h y (by simp [hy])
    simp only [abvL]; omega
theorem abv_low {c : Int} : ∀ {l : List Int}, (∀ x, x ∈ l → c ≤ x) → abvL c l = sumL l - c * (l.length : Int)
  | [], _ => by simp [sumL, abvL]
  | x :: l, h => by
    have a := h x (by simp)
    have b := abv_low (c := c) (l := l) fun y hy => h y (by simp [hy])
    have e : c * ((x :: l).length : Int) = c * (l.length : Int) + c := by rw [List.length_cons, Int.natCast_add]; simp [Int.mul_add]
    rw [e]; simp only [abvL, sumL]; omega

/- Sums of the greatest entries, and what is above: each is told by the other. -/
theorem top_le (c : Int) : ∀ (l : List Int) (k : Nat), k ≤ l.length → sumL (l.take k) ≤ c * (k : Int) + abvL c l
  | l, 0, _ => by have := abv_nonneg c l; simp [sumL]; omega
  | [], k + 1, h => by simp at h
  | x :: l, k + 1, h => by
    have := top_le c l k (by simpa using h)
    have e : c * ((k + 1 : Nat) : Int) = c * (k : Int) + c := by rw [Int.natCast_add]; simp [Int.mul_add]
    rw [e]; simp only [List.take_succ_cons, sumL, abvL]; omega
theorem top_at (c : Int) : ∀ l : List Int, Dn l → ∃ k, k ≤ l.length ∧ sumL (l.take k) - c * (k : Int) = abvL c l
  | [], _ => ⟨0, Nat.le_refl _, by simp [sumL, abvL]⟩
  | x :: l, h => by
    by_cases hx : c < x
    · obtain ⟨k, h1, h2⟩ := top_at c l h.2
      refine ⟨k + 1, by simpa using h1, ?_⟩
      have e : c * ((k + 1 : Nat) : Int) = c * (k : Int) + c := by rw [Int.natCast_add]; simp [Int.mul_add]
      rw [e]; simp only [List.take_succ_cons, sumL, abvL]; omega
    · refine ⟨0, by omega, ?_⟩
      rw [abv_high fun y hy => ?_]
      · simp [sumL]
      · rcases List.mem_cons.1 hy with rfl | hy
        · omega
        · have := h.1 y hy; omega
theorem top_of : ∀ (l : List Int) (u : Int) (k : Nat), Dn l → (∀ y, y ∈ l → y ≤ u) → k ≤ l.length → ∃ c, c ≤ u ∧ sumL (l.take k) = c * (k : Int) + abvL c l
  | l, u, 0, _, hu, _ => ⟨u, Int.le_refl _, by rw [abv_high hu]; simp [sumL]⟩
  | [], _, k + 1, _, _, h => by simp at h
  | x :: l, u, k + 1, hd, hu, h => by
    obtain ⟨c, h1, h2⟩ := top_of l x k hd.2 hd.1 (by simpa using h)
    refine ⟨c, Int.le_trans h1 (hu x (by simp)), ?_⟩
    have e : c * ((k + 1 : Nat) : Int) = c * (k : Int) + c := by rw [Int.natCast_add]; simp [Int.mul_add]
    rw [e]; simp only [List.take_succ_cons, sumL, abvL]; omega
theorem dn_bound : ∀ l : List Int, ∃ u, ∀ y, y ∈ l → y ≤ u
  | [] => ⟨0, fun y hy => by cases hy⟩
  | x :: l => by
    obtain ⟨u, h⟩ := dn_bound l
    refine ⟨max x u, fun y hy => ?_⟩
    rcases List.mem_cons.1 hy with rfl | hy
    · omega
    · have := h y hy; omega
theorem tops_iff {x y : List Int} (hx : Dn x) (hy : Dn y) (hl : x.length = y.length) : (∀ k, k ≤ x.length → sumL (x.take k) ≤ sumL (y.take k)) ↔ ∀ c, abvL c x ≤ abvL c y := by
  constructor
  · intro h c
    obtain ⟨k, h1, h2⟩ := top_at c x hx
    have a := h k h1
    have b := top_le c y k (by omega)
    omega
  · intro h k hk
    obtain ⟨u, hu⟩ := dn_bound y
    obtain ⟨c, -, h2⟩ := top_of y u k hy hu (by omega)
    have a := h c
    have b := top_le c x k hk
    omega
theorem dn_eq {x y : List Int} (hl : x.length = y.length) (h : ∀ k, k ≤ x.length → sumL (x.take k) = sumL (y.take k)) : x = y := by
  refine list_eq_getD hl fun k hk => ?_
  have a := h k (by omega)
  have b := h (k + 1) (by omega)
  have t : ∀ (l : List Int) (hk : k < l.length), sumL (l.take (k + 1)) = sumL (l.take k) + l.getD k 0 := fun l hk => by
    rw [← take_snoc l k hk, sumL_append, getD_in hk]; simp [sumL]
  rw [t x hk, t y (by omega)] at b
  omega

/- In order, the greatest ahead. -/
def ascL (a : List Int) : List Int := a.mergeSort fun x y => decide (x ≤ y)
def downL (a : List Int) : List Int := (ascL a).reverse
theorem asc_perm (a : List Int) : (ascL a).Perm a := List.mergeSort_perm _ _
theorem down_perm (a : List Int) : (downL a).Perm a := (List.reverse_perm _).trans (asc_perm a)
theorem down_len (a : List Int) : (downL a).length = a.length := (down_perm a).length_eq
theorem asc_pairs (a : List Int) : (ascL a).Pairwise (fun x y => x ≤ y) := by
  have p := List.pairwise_mergeSort (le := fun x y : Int => decide (x ≤ y)) (by intro a b c; simp; omega) (by intro a b; simp; omega) a
  exact p.imp fun h => by simpa using h
theorem dn_pairs : ∀ {l : List Int}, Dn l ↔ l.Pairwise (fun x y => y ≤ x)
  | [] => by simp [Dn]
  | x :: l => by rw [List.pairwise_cons, Dn, dn_pairs]
theorem down_dn (a : List Int) : Dn (downL a) := by
  rw [dn_pairs, downL, List.pairwise_reverse]
  exact asc_pairs a
theorem dn_uniq {x y : List Int} (hx : Dn x) (hy : Dn y) (h : x.Perm y) : x = y := by
  refine dn_eq h.length_eq fun k hk => ?_
  have a := (tops_iff hx hy h.length_eq).2 (fun c => by rw [abv_perm c h]; exact Int.le_refl _) k hk
  have b := (tops_iff hy hx h.length_eq.symm).2 (fun c => by rw [abv_perm c h]; exact Int.le_refl _) k (by have := h.length_eq; omega)
  omega
theorem down_of {a x : List Int} (h : x.Perm a) (hx : Dn x) : downL a = x := dn_uniq (down_dn a) hx ((down_perm a).trans h.symm)
theorem down_self {x : List Int} (hx : Dn x) : downL x = x := down_of (List.Perm.refl _) hx
theorem down_same {a b : List Int} (h : a.Perm b) : downL a = downL b := (down_of ((down_perm b).trans h.symm) (down_dn b))
theorem asc_rev (a : List Int) : ascL a = (downL a).reverse := by simp [downL]
theorem down_iff {a b : List Int} : downL a = downL b ↔ a.Perm b := ⟨fun h => (down_perm a).symm.trans (h ▸ down_perm b), down_same⟩

/- More even. -/
def Ev (a b : List Int) : Prop := a.length = b.length ∧ sumL a = sumL b ∧ ∀ c, abvL c a ≤ abvL c b
theorem Ev.refl (a : List Int) : Ev a a := ⟨rfl, rfl, fun _ => Int.le_refl _⟩
theorem ev_tops {a b : List Int} (hl : a.length = b.length) : Ev a b ↔ sumL a = sumL b ∧ ∀ k, k ≤ a.length → sumL ((downL a).take k) ≤ sumL ((downL b).take k) := by
  have t := tops_iff (down_dn a) (down_dn b) (by rw [down_len, down_len, hl])
  rw [down_len] at t
  constructor
  · rintro ⟨-, h2, h3⟩
    exact ⟨h2, t.2 fun c => by rw [abv_perm c (down_perm a), abv_perm c (down_perm b)]; exact h3 c⟩
  · rintro ⟨h2, h3⟩
    refine ⟨hl, h2, fun c => ?_⟩
    have := t.1 h3 c
    rwa [abv_perm c (down_perm a), abv_perm c (down_perm b)] at this
theorem Ev.anti {a b : List Int} (h : Ev a b) (h' : Ev b a) : downL a = downL b := by
  obtain ⟨h1, h2, h3⟩ := h
  refine dn_eq (by rw [down_len, down_len, h1]) fun k hk => ?_
  rw [down_len] at hk
  have p := ((ev_tops h1).1 ⟨h1, h2, h3⟩).2 k hk
  have q := ((ev_tops h1.symm).1 h').2 k (by omega)
  omega
theorem ev_perm {a b : List Int} (h : a.Perm b) : Ev a b := ⟨h.length_eq, sumL_perm h, fun c => by rw [abv_perm c h]; exact Int.le_refl _⟩
theorem Ev.both {a b : List Int} (h : Ev a b) : Ev b a ↔ downL a = downL b :=
  ⟨fun h' => h.anti h', fun e => ev_perm (down_iff.1 e).symm⟩

/- The most even row. -/
def mostQ (a : List Int) : Int := sumL a / (a.length : Int)
def mostR (a : List Int) : Int := sumL a - mostQ a * (a.length : Int)
def evenL (n : Nat) (q r : Int) : List Int := (List.range n).map fun i : Nat => if (i : Int) < r then q + 1 else q
def mostEv (a : List Int) : List Int := evenL a.length (mostQ a) (mostR a)
theorem evenL_len (n : Nat) (q r : Int) : (evenL n q r).length = n := by simp [evenL]
theorem evenL_getD {n : Nat} {q r : Int} {i : Nat} (hi : i < n) : (evenL n q r).getD i 0 = if (i : Int) < r then q + 1 else q := by
  simp [evenL, List.getD, hi]
theorem evenL_mem {n : Nat} {q r x : Int} (h : x ∈ evenL n q r) : q ≤ x ∧ x ≤ q + 1 := by
  unfold evenL at h
  obtain ⟨i, -, rfl⟩ := List.mem_map.1 h
  split <;> omega
theorem most_r {a : List Int} (h : 0 < a.length) : 0 ≤ mostR a ∧ mostR a < (a.length : Int) := by
  unfold mostR mostQ
  have e := Int.emod_def (sumL a) (a.length : Int)
  have p := Int.emod_nonneg (sumL a) (b := (a.length : Int)) (by omega)
  have q := Int.emod_lt_of_pos (sumL a) (b := (a.length : Int)) (by omega)
  rw [Int.mul_comm]
  omega
theorem evenL_sum (q r : Int) : ∀ n : Nat, 0 ≤ r → sumL (evenL n q r) = q * (n : Int) + min r (n : Int)
  | 0, h => by simp [evenL, sumL]; omega
  | n + 1, h => by
    have e : evenL (n + 1) q r = evenL n q r ++ [if (n : Int) < r then q + 1 else q] := by simp [evenL, List.range_succ]
    rw [e, sumL_append, evenL_sum q r n h]
    have e2 : q * ((n + 1 : Nat) : Int) = q * (n : Int) + q := by rw [Int.natCast_add]; simp [Int.mul_add]
    rw [e2]
    simp only [sumL]
    split <;> omega
theorem most_sum {a : List Int} (h : 0 < a.length) : sumL (mostEv a) = sumL a := by
  have := most_r h
  unfold mostEv
  rw [evenL_sum _ _ _ this.1, Int.min_eq_left (by omega)]
  unfold mostR; omega
theorem evenL_dn (n : Nat) (q r : Int) : Dn (evenL n q r) := by
  rw [dn_pairs, List.pairwise_iff_getElem]
  intro i j hi hj hij
  rw [evenL_len] at hi hj
  have a := evenL_getD (q := q) (r := r) hi
  have b := evenL_getD (q := q) (r := r) hj
  rw [getD_in (by rw [evenL_len]; exact hi)] at a
  rw [getD_in (by rw [evenL_len]; exact hj)] at b
  rw [a, b]
  split <;> split <;> omega
theorem most_len (a : List Int) : (mostEv a).length = a.length := evenL_len _ _ _
theorem most_dn (a : List Int) : Dn (mostEv a) := evenL_dn _ _ _
theorem most_ev {a : List Int} (h : 0 < a.length) : Ev (mostEv a) a := by
  refine ⟨most_len a, most_sum h, fun c => ?_⟩
  by_cases hc : mostQ a + 1 ≤ c
  · rw [abv_high fun x hx => by have := evenL_mem hx; omega]; exact abv_nonneg c a
  · rw [abv_low fun x hx => by have := evenL_mem hx; omega, most_sum h, most_len]; exact abv_ge c a
theorem most_same {a b : List Int} (hl : a.length = b.length) (hs : sumL a = sumL b) : mostEv a = mostEv b := by
  unfold mostEv mostR mostQ; rw [hl, hs]
theorem most_most {a : List Int} (h : 0 < a.length) : mostEv (mostEv a) = mostEv a := most_same (most_len a) (most_sum h)
theorem most_ends {a : List Int} (h : 0 < a.length) : (mostEv a).getD 0 0 - (mostEv a).getD (a.length - 1) 0 ≤ 1 := by
  unfold mostEv
  rw [evenL_getD h, evenL_getD (by omega)]
  split <;> split <;> omega

/- Steps. -/
def stepsL (a : List Int) : Int := sumN (fun i => max 0 ((downL a).getD i 0 - (mostEv a).getD i 0)) a.length
theorem abv_sum (c : Int) : ∀ l : List Int, abvL c l = sumN (fun i => max 0 (l.getD i 0 - c)) l.length
  | [] => rfl
  | x :: l => by rw [List.length_cons, sumN_first]; simp only [abvL]; rw [abv_sum c l]; rfl
theorem sumN_le' {f g : Nat → Int} {n : Nat} (h : ∀ k, k < n → f k ≤ g k) : sumN f n ≤ sumN g n := by
  induction n with
  | zero => exact Int.le_refl _
  | succ n ih =>
    have p := ih fun k hk => h k (by omega)
    have q := h n (by omega)
    show sumN f n + f n ≤ sumN g n + g n
    omega
/-- Steps are told by what is above the two numbers of the most even row. -/
theorem steps_is {a : List Int} (h : 0 < a.length) : stepsL a = max (abvL (mostQ a + 1) a) (abvL (mostQ a) a - mostR a) := by
  obtain ⟨r0, r1⟩ := most_r h
  have hd := down_dn a
  have hl := down_len a
  rw [abv_perm _ (down_perm a).symm, abv_perm (mostQ a) (down_perm a).symm]
  unfold stepsL mostEv
  rw [abv_sum, abv_sum, hl]
  generalize mostQ a = q
  generalize mostR a = r at r0 r1
  generalize downL a = x at hd hl
  generalize a.length = n at hl r1 h
  have p := dn_pairs.1 hd
  rw [List.pairwise_iff_getElem] at p
  have ord : ∀ i j, i < j → j < n → x.getD j 0 ≤ x.getD i 0 := fun i j hij hj => by
    rw [getD_in (by omega), getD_in (by omega)]; exact p i j (by omega) (by omega) hij
  have ones : ∀ m : Nat, (r ≤ (m : Int)) → sumN (fun i => if (i : Int) < r then (1 : Int) else 0) m = r := by
    intro m
    induction m with
    | zero => intro hm; simp only [sumN]; omega
    | succ m ih =>
      intro hm
      show sumN _ m + (if (m : Int) < r then (1 : Int) else 0) = r
      by_cases e : r ≤ (m : Int)
      · rw [ih e, if_neg (by omega)]; omega
      · have hr : r = (m : Int) + 1 := by omega
        rw [if_pos (by omega), sumN_congr (g := fun _ => 1) fun k hk => if_pos (by omega)]
        have all : ∀ j : Nat, sumN (fun _ => (1 : Int)) j = (j : Int) := fun j => by
          induction j with
          | zero => rfl
          | succ j ih => simp only [sumN]; rw [ih]; omega
        rw [all, hr]
  have ev : ∀ i, i < n → (evenL n q r).getD i 0 = if (i : Int) < r then q + 1 else q := fun i hi => evenL_getD hi
  have hr : r.toNat < n := by omega
  by_cases c : x.getD r.toNat 0 ≤ q
  · have tail : ∀ i, i < n → ¬ (i : Int) < r → x.getD i 0 ≤ q := fun i hi hir => by
      by_cases e : i = r.toNat
      · rw [e]; exact c
      · have := ord r.toNat i (by omega) hi; omega
    have e1 : sumN (fun i => max 0 (x.getD i 0 - (evenL n q r).getD i 0)) n = sumN (fun i => max 0 (x.getD i 0 - (q + 1))) n := sumN_congr fun i hi => by
      rw [ev i hi]
      split
      · rfl
      · rename_i h1; have := tail i hi h1; omega
    have e2 : sumN (fun i => max 0 (x.getD i 0 - q) - max 0 (x.getD i 0 - (q + 1))) n ≤ sumN (fun i => if (i : Int) < r then (1 : Int) else 0) n := sumN_le' fun i hi => by
      split
      · omega
      · rename_i h1; have := tail i hi h1; omega
    rw [sumN_sub, ones n (by omega)] at e2
    rw [e1]; omega
  · have head : ∀ i, i < n → (i : Int) < r → q + 1 ≤ x.getD i 0 := fun i hi hir => by
      have := ord i r.toNat (by omega) hr; omega
    have e1 : sumN (fun i => max 0 (x.getD i 0 - (evenL n q r).getD i 0)) n = sumN (fun i => max 0 (x.getD i 0 - q) - if (i : Int) < r then (1 : Int) else 0) n := sumN_congr fun i hi => by
      rw [ev i hi]
      split
      · rename_i h1; have := head i hi h1; omega
      · omega
    have e2 : sumN (fun i => max 0 (x.getD i 0 - (q + 1))) n ≤ sumN (fun i => max 0 (x.getD i 0 - q) - if (i : Int) < r then (1 : Int) else 0) n := sumN_le' fun i hi => by
      split
      · rename_i h1; have := head i hi h1; omega
      · omega
    rw [sumN_sub, ones n (by omega)] at e1 e2
    rw [e1]; omega
theorem steps_mono {a b : List Int} (h : 0 < a.length) (he : Ev a b) : stepsL a ≤ stepsL b := by
  rw [steps_is h, steps_is (by rw [← he.1]; exact h)]
  have e1 : mostQ a = mostQ b := by unfold mostQ; rw [he.1, he.2.1]
  have e2 : mostR a = mostR b := by unfold mostR; rw [he.1, he.2.1, e1]
  rw [e1, e2]
  have := he.2.2 (mostQ b + 1)
  have := he.2.2 (mostQ b)
  omega
theorem steps_nonneg (a : List Int) : 0 ≤ stepsL a := sumN_nonneg fun i _ => by omega

/- Levelling. -/
def levelL (a : List Int) (i k : Nat) : List Int := (a.set i (a.getD i 0 - 1)).set k (a.getD k 0 + 1)
theorem set_getD_at (l : List Int) (i : Nat) (v : Int) (j : Nat) (hi : i < l.length) : (l.set i v).getD j 0 = if j = i then v else l.getD j 0 := by
  by_cases e : j = i
  · subst e; simp [List.getD, hi]
  · simp [List.getD, e, Ne.symm e]
theorem level_len (a : List Int) (i k : Nat) : (levelL a i k).length = a.length := by simp [levelL]
theorem level_getD {a : List Int} {i k : Nat} (hi : i < a.length) (hk : k < a.length) (j : Nat) : (levelL a i k).getD j 0 = if j = k then a.getD k 0 + 1 else if j = i then a.getD i 0 - 1 else a.getD j 0 := by
  unfold levelL
  rw [set_getD_at _ _ _ _ (by simpa using hk)]
  split
  · rfl
  · rw [set_getD_at _ _ _ _ hi]
theorem sumL_sum : ∀ l : List Int, sumL l = sumN (fun i => l.getD i 0) l.length
  | [] => rfl
  | x :: l => by rw [List.length_cons, sumN_first]; simp only [sumL]; rw [sumL_sum l]; rfl
theorem sumN_but {f g : Nat → Int} {n i : Nat} (hi : i < n) (h : ∀ k, k < n → k ≠ i → g k = f k) : sumN g n = sumN f n + (g i - f i) := by
  induction n with
  | zero => omega
  | succ n ih =>
    show sumN g n + g n = sumN f n + f n + (g i - f i)
    by_cases e : i = n
    · subst e; rw [sumN_congr fun k hk => h k (by omega) (by omega)]; omega
    · rw [ih (by omega) fun k hk => h k (by omega), h n (by omega) (Ne.symm e)]; omega
theorem sumN_two {f g : Nat → Int} {n i k : Nat} (hi : i < n) (hk : k < n) (hik : i ≠ k) (h : ∀ m, m < n → m ≠ i → m ≠ k → g m = f m) : sumN g n = sumN f n + (g i - f i) + (g k - f k) := by
  have e1 : sumN (fun m => if m = i then g i else f m) n = sumN f n + (g i - f i) := by
    rw [sumN_but (f := f) hi fun m _ hm => by rw [if_neg hm], if_pos rfl]
  have e2 := sumN_but (f := fun m => if m = i then g i else f m) (g := g) hk fun m h1 h2 => by
    show g m = if m = i then g i else f m
    by_cases e : m = i
    · rw [if_pos e, e]
    · rw [if_neg e]; exact h m h1 e h2
  rw [e2, e1]
  show _ + (g k - if k = i then g i else f k) = _
  rw [if_neg (Ne.symm hik)]
theorem level_sum {a : List Int} {i k : Nat} (hi : i < a.length) (hk : k < a.length) (hik : i ≠ k) : sumL (levelL a i k) = sumL a := by
  have g := level_getD hi hk
  rw [sumL_sum, sumL_sum, level_len]
  rw [sumN_two (f := fun j => a.getD j 0) (g := fun j => (levelL a i k).getD j 0) hi hk hik fun m _ h3 h4 => by rw [g m, if_neg h4, if_neg h3]]
  have gi := g i
  rw [if_neg hik, if_pos rfl] at gi
  have gk := g k
  rw [if_pos rfl] at gk
  rw [gi, gk]; omega
theorem level_abv (c : Int) {a : List Int} {i k : Nat} (hi : i < a.length) (hk : k < a.length) (hik : i ≠ k) : abvL c (levelL a i k) = abvL c a + (max 0 (a.getD i 0 - 1 - c) - max 0 (a.getD i 0 - c)) + (max 0 (a.getD k 0 + 1 - c) - max 0 (a.getD k 0 - c)) := by
  have g := level_getD hi hk
  rw [abv_sum, abv_sum, level_len]
  rw [sumN_two (f := fun j => max 0 (a.getD j 0 - c)) (g := fun j => max 0 ((levelL a i k).getD j 0 - c)) hi hk hik fun m _ h3 h4 => by rw [g m, if_neg h4, if_neg h3]]
  have gi := g i
  rw [if_neg hik, if_pos rfl] at gi
  have gk := g k
  rw [if_pos rfl] at gk
  rw [gi, gk]
theorem level_ne {a : List Int} {i k : Nat} (h : a.getD k 0 + 2 ≤ a.getD i 0) : i ≠ k := fun e => by rw [e] at h; omega
theorem level_ev {a : List Int} {i k : Nat} (hi : i < a.length) (hk : k < a.length) (h : a.getD k 0 + 2 ≤ a.getD i 0) : Ev (levelL a i k) a :=
  ⟨level_len a i k, level_sum hi hk (level_ne h), fun c => by rw [level_abv c hi hk (level_ne h)]; omega⟩
theorem level_not {a : List Int} {i k : Nat} (hi : i < a.length) (hk : k < a.length) (h : a.getD k 0 + 2 ≤ a.getD i 0) : ¬ Ev a (levelL a i k) := fun he => by
  have := he.2.2 (a.getD i 0 - 1)
  rw [level_abv _ hi hk (level_ne h)] at this
  omega
theorem level_steps {a : List Int} {i k : Nat} (hi : i < a.length) (hk : k < a.length) (h : a.getD k 0 + 2 ≤ a.getD i 0) : stepsL a ≤ stepsL (levelL a i k) + 1 := by
  have h0 : 0 < a.length := by omega
  rw [steps_is h0, steps_is (by rw [level_len]; exact h0)]
  have e1 : mostQ (levelL a i k) = mostQ a := by unfold mostQ; rw [level_len, level_sum hi hk (level_ne h)]
  have e2 : mostR (levelL a i k) = mostR a := by unfold mostR; rw [level_len, level_sum hi hk (level_ne h), e1]
  rw [e1, e2, level_abv _ hi hk (level_ne h), level_abv _ hi hk (level_ne h)]
  omega
/-- There is a pair that may be levelled, or the row is the most even one. -/
theorem level_none {a : List Int} (h0 : 0 < a.length) : (∀ i k, i < a.length → k < a.length → a.getD i 0 < a.getD k 0 + 2) ↔ downL a = mostEv a := by
  constructor
  · intro h
    refine (most_ev h0 |>.anti ?_).symm.trans (down_self (most_dn a)) |> fun e => e
    refine ⟨(most_len a).symm, (most_sum h0).symm, fun c => ?_⟩
    -- all entries lie between m and m + 1
    obtain ⟨r0, r1⟩ := most_r h0
    by_cases hc : ∃ i, i < a.length ∧ c < a.getD i 0
    · by_cases hc2 : ∃ i, i < a.length ∧ a.getD i 0 < c
      · obtain ⟨i, h1, h2⟩ := hc; obtain ⟨k, h3, h4⟩ := hc2
        have := h i k h1 h3; omega
      · rw [abv_low fun x hx => ?_]
        · have := abv_ge c (mostEv a); rw [most_sum h0, most_len] at this; exact this
        · obtain ⟨i, hi, rfl⟩ := List.getElem_of_mem hx
          rw [← getD_in hi]
          rcases Int.lt_or_le (a.getD i 0) c with e | e
          · exact absurd ⟨i, hi, e⟩ hc2
          · exact e
    · rw [abv_high fun x hx => ?_]
      · exact abv_nonneg c _
      · obtain ⟨i, hi, rfl⟩ := List.getElem_of_mem hx
        rw [← getD_in hi]
        rcases Int.lt_or_le c (a.getD i 0) with e | e
        · exact absurd ⟨i, hi, e⟩ hc
        · exact e
  · intro e i k hi hk
    have mi : a.getD i 0 ∈ mostEv a := by rw [← e, (down_perm a).mem_iff, getD_in hi]; exact List.getElem_mem hi
    have mk : a.getD k 0 ∈ mostEv a := by rw [← e, (down_perm a).mem_iff, getD_in hk]; exact List.getElem_mem hk
    have := evenL_mem mi; have := evenL_mem mk; omega
theorem abv_one (q : Int) {a : List Int} {k : Nat} (hk : k < a.length) (h : a.getD k 0 ≤ q) : sumL a - q * (a.length : Int) + (q - a.getD k 0) ≤ abvL q a := by
  rw [abv_sum, sumL_sum]
  have e : sumN (fun j => a.getD j 0 - q + if j = k then q - a.getD k 0 else 0) a.length ≤ sumN (fun j => max 0 (a.getD j 0 - q)) a.length := sumN_le' fun j _ => by
    split
    · rename_i e; subst e; omega
    · omega
  rw [sumN_add, sumN_sub] at e
  have all : ∀ j : Nat, sumN (fun _ => q) j = q * (j : Int) := fun j => by
    induction j with
    | zero => simp [sumN]
    | succ j ih => simp only [sumN]; rw [ih, Int.natCast_add]; simp [Int.mul_add]
  have one : sumN (fun j => if j = k then q - a.getD k 0 else 0) a.length = q - a.getD k 0 := by
    rw [sumN_but (f := fun _ => 0) hk fun m _ hm => if_neg hm, sumN_zero, if_pos rfl]; omega
  rw [all, one] at e
  exact e
theorem abv_mem (c : Int) : ∀ {l : List Int} {x : Int}, x ∈ l → max 0 (x - c) ≤ abvL c l
  | y :: l, x, h => by
    have nn := abv_nonneg c l
    simp only [abvL]
    rcases List.mem_cons.1 h with rfl | h
    · omega
    · have := abv_mem c h; omega
theorem max_at : ∀ {l : List Int}, 0 < l.length → ∃ i, i < l.length ∧ ∀ j, j < l.length → l.getD j 0 ≤ l.getD i 0 := by
  intro l h
  have : ∀ n : Nat, 0 < n → n ≤ l.length → ∃ i, i < n ∧ ∀ j, j < n → l.getD j 0 ≤ l.getD i 0 := by
    intro n
    induction n with
    | zero => intro h; omega
    | succ n ih =>
      intro _ hn
      by_cases e : n = 0
      · subst e; exact ⟨0, by omega, fun j hj => by rw [show j = 0 by omega]; exact Int.le_refl _⟩
      · obtain ⟨i, h1, h2⟩ := ih (by omega) (by omega)
        by_cases c : l.getD n 0 ≤ l.getD i 0
        · refine ⟨i, by omega, fun j hj => ?_⟩
          by_cases e2 : j = n
          · subst e2; exact c
          · exact h2 j (by omega)
        · refine ⟨n, by omega, fun j hj => ?_⟩
          by_cases e2 : j = n
          · subst e2; exact Int.le_refl _
          · have := h2 j (by omega); omega
  exact this l.length h (Nat.le_refl _)
theorem min_at {l : List Int} (h : 0 < l.length) : ∃ i, i < l.length ∧ ∀ j, j < l.length → l.getD i 0 ≤ l.getD j 0 := by
  obtain ⟨i, h1, h2⟩ := max_at (l := l.map fun x => -x) (by simpa using h)
  have g : ∀ j, j < l.length → (l.map fun x => -x).getD j 0 = -l.getD j 0 := fun j hj => by simp [List.getD, hj]
  rw [List.length_map] at h1 h2
  exact ⟨i, h1, fun j hj => by have := h2 j hj; rw [g j hj, g i h1] at this; omega⟩
/-- Levelling a greatest and a least entry takes a step. -/
theorem level_best {a : List Int} (h0 : 0 < a.length) (hne : downL a ≠ mostEv a) : ∃ i k, i < a.length ∧ k < a.length ∧ a.getD k 0 + 2 ≤ a.getD i 0 ∧ stepsL a = stepsL (levelL a i k) + 1 := by
  obtain ⟨i, h1, h2⟩ := max_at h0
  obtain ⟨k, h3, h4⟩ := min_at h0
  have hik : a.getD k 0 + 2 ≤ a.getD i 0 := by
    rcases Int.lt_or_le (a.getD i 0) (a.getD k 0 + 2) with c | c
    · refine absurd ((level_none h0).1 fun i' k' hi' hk' => ?_) hne
      have := h2 i' hi'; have := h4 k' hk'; omega
    · exact c
  refine ⟨i, k, h1, h3, hik, ?_⟩
  have up := level_steps h1 h3 hik
  suffices stepsL (levelL a i k) + 1 ≤ stepsL a by omega
  obtain ⟨r0, r1⟩ := most_r h0
  rw [steps_is h0, steps_is (by rw [level_len]; exact h0)]
  have e1 : mostQ (levelL a i k) = mostQ a := by unfold mostQ; rw [level_len, level_sum h1 h3 (level_ne hik)]
  have e2 : mostR (levelL a i k) = mostR a := by unfold mostR; rw [level_len, level_sum h1 h3 (level_ne hik), e1]
  rw [e1, e2, level_abv _ h1 h3 (level_ne hik), level_abv _ h1 h3 (level_ne hik)]
  have hs : sumL a = mostQ a * (a.length : Int) + mostR a := by unfold mostR; omega
  generalize mostQ a = q at hs
  generalize mostR a = r at hs r0 r1
  -- the greatest entry is above q, the least one below q + 1
  have lowq : a.getD k 0 ≤ q := by
    rcases Int.lt_or_le q (a.getD k 0) with c | c
    · have := abv_low (c := q + 1) (l := a) fun x hx => by
        obtain ⟨j, hj, rfl⟩ := List.getElem_of_mem hx
        rw [← getD_in hj]; have := h4 j hj; omega
      have nn := abv_nonneg (q + 1) a
      have e : (q + 1) * (a.length : Int) = q * (a.length : Int) + (a.length : Int) := by rw [Int.add_mul]; omega
      rw [e] at this; omega
    · exact c
  have highq : q + 1 ≤ a.getD i 0 := by
    rcases Int.lt_or_le (a.getD i 0) (q + 1) with c | c
    · have := abv_one (a.getD i 0) h3 (h2 k h3)
      have z := abv_high (c := a.getD i 0) (l := a) fun x hx => by
        obtain ⟨j, hj, rfl⟩ := List.getElem_of_mem hx
        rw [← getD_in hj]; exact h2 j hj
      have m1 : a.getD i 0 * (a.length : Int) ≤ q * (a.length : Int) := Int.mul_le_mul_of_nonneg_right (by omega) (by omega)
      omega
    · exact c
  have f1 := abv_one q h3 lowq
  have f2 := abv_mem (q + 1) (l := a) (x := a.getD i 0) (by rw [getD_in h1]; exact List.getElem_mem h1)
  have f3 : a.getD k 0 = q → abvL q a = sumL a - q * (a.length : Int) := fun e => abv_low fun x hx => by
    obtain ⟨j, hj, rfl⟩ := List.getElem_of_mem hx
    rw [← getD_in hj]; have := h4 j hj; omega
  have f4 : a.getD i 0 = q + 1 → abvL (q + 1) a = 0 := fun e => abv_high fun x hx => by
    obtain ⟨j, hj, rfl⟩ := List.getElem_of_mem hx
    rw [← getD_in hj]; have := h2 j hj; omega
  by_cases c1 : a.getD k 0 = q
  · have := f3 c1; omega
  · by_cases c2 : a.getD i 0 = q + 1
    · have := f4 c2; omega
    · omega
end Go.Proofs.Ytfiojdiogjpakaa
