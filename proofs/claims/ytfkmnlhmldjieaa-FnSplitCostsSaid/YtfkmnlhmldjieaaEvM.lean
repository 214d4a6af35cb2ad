/-
  Rows that are more even: the mathematics, what the functions answer, the order in which the program makes levelled rows. No program here. Conditions: none.
-/
import Derived.Test.YtfkmnlhmldjieaaMathA
import Derived.Test.YtfkmnlhmldjieaaHvMath
namespace Go.Proofs.Ytfkmnlhmldjieaa
open Go.RowKit

/-- None greater than the one ahead of it. -/
def Dn : List Int → Prop
  | [] => True
  | x :: l => (∀ y, y ∈ l → y ≤ x) ∧ Dn l
def sumL : List Int → Int
  | [] => 0
  | x :: l => x + sumL l
theorem sumL_append : ∀ l m : List Int, sumL (l ++ m) = sumL l + sumL m
  | [], m => by simp [sumL]
  | x :: l, m => by simp only [List.cons_append, sumL]; rw [sumL_append l m]; omega
theorem sumL_perm {l m : List Int} (h : l.Perm m) : sumL l = sumL m := by
  induction h with
  | nil => rfl
  | cons x _ ih => simp only [sumL]; rw [ih]
  | swap x y l => simp only [sumL]; omega
  | trans _ _ ih1 ih2 => rw [ih1, ih2]
/-- What lies above c, added up. -/
def abvL (c : Int) : List Int → Int
  | [] => 0
  | x :: l => max 0 (x - c) + abvL c l
theorem abv_perm (c : Int) {l m : List Int} (h : l.Perm m) : abvL c l = abvL c m := by
  induction h with
  | nil => rfl
  | cons x _ ih => simp only [abvL]; rw [ih]
  | swap x y l => simp only [abvL]; omega
  | trans _ _ ih1 ih2 => rw [ih1, ih2]
theorem abv_nonneg (c : Int) : ∀ l : List Int, 0 ≤ abvL c l
  | [] => Int.le_refl _
  | x :: l => by have := abv_nonneg c l; simp only [abvL]; omega
theorem abv_ge (c : Int) : ∀ l : List Int, sumL l - c * (l.length : Int) ≤ abvL c l
  | [] => by simp [sumL, abvL]
  | x :: l => by
    have := abv_ge c l
    have e : c * ((x :: l).length : Int) = c * (l.length : Int) + c := by rw [List.length_cons, Int.natCast_add]; simp [Int.mul_add]
    rw [e]; simp only [abvL, sumL]; omega
theorem abv_high {c : Int} : ∀ {l : List Int}, (∀ x, x ∈ l → x ≤ c) → abvL c l = 0
  | [], _ => rfl
  | x :: l, h => by
    have a := h x (by simp)
    have b := abv_high (c := c) (l := l) fun y hy => h y (by simp [hy])
    simp only [abvL]; omega
theorem abv_low {c : Int} : ∀ {l : List Int}, (∀ x, x ∈ l → c ≤ x) → abvL c l = sumL l - c * (l.length : Int)
  | [], _ => by simp [sumL, abvL]
  | x :: l, h => by
    have a := h x (by simp)
    have b := abv_low (c := c) (l := l) fun y hy => h y (by simp [hy])
    have e : c * ((x :: l).length : Int) = c * (l.length : Int) + c := by rw [List.length_cons, Int.natCast_add]; simp [Int.mul_add]
    rw [e]; simp only [abvL, sumL]; omega

/- Sums of the greatest entries, and what is above: each is told by the other. -/
theorem top_le (c : Int) : ∀ (l : List Int) (k : Nat), k ≤ l.length → sumL (l.take k) ≤ c * (k : Int) + abvL c l
  | l, 0, _ => by have := abv_nonneg c l; simp [sumL]; omega
  | [], k + 1, h => by simp at h
  | x :: l, k + 1, h => by
    have := top_le c l k (by simpa using h)
    have e : c * ((k + 1 : Nat) : Int) = c * (k : Int) + c := by rw [Int.natCast_add]; simp [Int.mul_add]
    rw [e]; simp only [List.take_succ_cons, sumL, abvL]; omega
theorem top_at (c : Int) : ∀ l : List Int, Dn l → ∃ k, k ≤ l.length ∧ sumL (l.take k) - c * (k : Int) = abvL c l
  | [], _ => ⟨0, Nat.le_refl _, by simp [sumL, abvL]⟩
  | x :: l, h => by
    by_cases hx : c < x
    · obtain ⟨k, h1, h2⟩ := top_at c l h.2
      refine ⟨k + 1, by simpa using h1, ?_⟩
      have e : c * ((k + 1 : Nat) : Int) = c * (k : Int) + c := by rw [Int.natCast_add]; simp [Int.mul_add]
      rw [e]; simp only [List.take_succ_cons, sumL, abvL]; omega
    · refine ⟨0, by omega, ?_⟩
      rw [abv_high fun y hy => ?_]
      · simp [sumL]
      · rcases List.mem_cons.1 hy with rfl | hy
        · omega
        · have := h.1 y hy; omega
theorem top_of : ∀ (l : List Int) (u : Int) (k : Nat), Dn l → (∀ y, y ∈ l → y ≤ u) → k ≤ l.length → ∃ c, c ≤ u ∧ sumL (l.take k) = c * (k : Int) + abvL c l
  | l, u, 0, _, hu, _ => ⟨u, Int.le_refl _, by rw [abv_high hu]; simp [sumL]⟩
  | [], _, k + 1, _, _, h => by simp at h
  | x :: l, u, k + 1, hd, hu, h => by
    obtain ⟨c, h1, h2⟩ := top_of l x k hd.2 hd.1 (by simpa using h)
    refine ⟨c, Int.le_trans h1 (hu x (by simp)), ?_⟩
    have e : c * ((k + 1 : Nat) : Int) = c * (k : Int) + c := by rw [Int.natCast_add]; simp [Int.mul_add]
    rw [e]; simp only [List.take_succ_cons, sumL, abvL]; omega
theorem dn_bound : ∀ l : List Int, ∃ u, ∀ y, y ∈ l → y ≤ u
  | [] => ⟨0, fun y hy => by cases hy⟩
  | x :: l => by
    obtain ⟨u, h⟩ := dn_bound l
    refine ⟨max x u, fun y hy => ?_⟩
    rcases List.mem_cons.1 hy with rfl | hy
    · omega
    · have := h y hy; omega
theorem tops_iff {x y : List Int} (hx : Dn x) (hy : Dn y) (hl : x.length = y.length) : (∀ k, k ≤ x.length → sumL (x.take k) ≤ sumL (y.take k)) ↔ ∀ c, abvL c x ≤ abvL c y := by
  constructor
  · intro h c
    obtain ⟨k, h1, h2⟩ := top_at c x hx
    have a := h k h1
    have b := top_le c y k (by omega)
    omega
  · intro h k hk
    obtain ⟨u, hu⟩ := dn_bound y
    obtain ⟨c, -, h2⟩ := top_of y u k hy hu (by omega)
    have a := h c
    have b := top_le c x k hk
    omega
theorem dn_eq {x y : List Int} (hl : x.length = y.length) (h : ∀ k, k ≤ x.length → sumL (x.take k) = sumL (y.take k)) : x = y := by
  refine list_eq_getD hl fun k hk => ?_
  have a := h k (by omega)
  have b := h (k + 1) (by omega)
  have t : ∀ (l : List Int) (hk : k < l.length), sumL (l.take (k + 1)) = sumL (l.take k) + l.getD k 0 := fun l hk => by
    rw [← take_snoc l k hk, sumL_append, getD_in hk]; simp [sumL]
  rw [t x hk, t y (by omega)] at b
  omega

/- In order, the greatest ahead. -/
def ascL (a : List Int) : List Int := a.mergeSort fun x y => decide (x ≤ y)
def downL (a : List Int) : List Int := (ascL a).reverse
theorem asc_perm (a : List Int) : (ascL a).Perm a := List.mergeSort_perm _ _
theorem down_perm (a : List Int) : (downL a).Perm a := (List.reverse_perm _).trans (asc_perm a)
theorem down_len (a : List Int) : (downL a).length = a.length := (down_perm a).length_eq
theorem asc_pairs (a : List Int) : (ascL a).Pairwise (fun x y => x ≤ y) := by
  have p := List.pairwise_mergeSort (le := fun x y : Int => decide (x ≤ y)) (by intro a b c; simp; omega) (by intro a b; simp; omega) a
  exact p.imp fun h => by simpa using h
theorem dn_pairs : ∀ {l : List Int}, Dn l ↔ l.Pairwise (fun x y => y ≤ x)
  | [] => by simp [Dn]
  | x :: l => by rw [List.pairwise_cons, Dn, dn_pairs]
theorem down_dn (a : List Int) : Dn (downL a) := by
  rw [dn_pairs, downL, List.pairwise_reverse]
  exact asc_pairs a
theorem dn_uniq {x y : List Int} (hx : Dn x) (hy : Dn y) (h : x.Perm y) : x = y := by
  refine dn_eq h.length_eq fun k hk => ?_
  have a := (tops_iff hx hy h.length_eq).2 (fun c => by rw [abv_perm c h]; exact Int.le_refl _) k hk
  have b := (tops_iff hy hx h.length_eq.symm).2 (fun c => by rw [abv_perm c h]; exact Int.le_refl _) k (by have := h.length_eq; omega)
  omega
theorem down_of {a x : List Int} (h : x.Perm a) (hx : Dn x) : downL a = x := dn_uniq (down_dn a) hx ((down_perm a).trans h.symm)
theorem down_self {x : List Int} (hx : Dn x) : downL x = x := down_of (List.Perm.refl _) hx
theorem down_same {a b : List Int} (h : a.Perm b) : downL a = downL b := (down_of ((down_perm b).trans h.symm) (down_dn b))
theorem asc_rev (a : List Int) : ascL a = (downL a).reverse := by simp [downL]
theorem down_iff {a b : List Int} : downL a = downL b ↔ a.Perm b := ⟨fun h => (down_perm a).symm.trans (h ▸ down_perm b), down_same⟩

/- More even. -/
def Ev (a b : List Int) : Prop := a.length = b.length ∧ sumL a = sumL b ∧ ∀ c, abvL c a ≤ abvL c b
theorem Ev.refl (a : List Int) : Ev a a := ⟨rfl, rfl, fun _ => Int.le_refl _⟩
theorem ev_tops {a b : List Int} (hl : a.length = b.length) : Ev a b ↔ sumL a = sumL b ∧ ∀ k, k ≤ a.length → sumL ((downL a).take k) ≤ sumL ((downL b).take k) := by
  have t := tops_iff (down_dn a) (down_dn b) (by rw [down_len, down_len, hl])
  rw [down_len] at t
  constructor
  · rintro ⟨-, h2, h3⟩
    exact ⟨h2, t.2 fun c => by rw [abv_perm c (down_perm a), abv_perm c (down_perm b)]; exact h3 c⟩
  · rintro ⟨h2, h3⟩
    refine ⟨hl, h2, fun c => ?_⟩
    have := t.1 h3 c
    rwa [abv_perm c (down_perm a), abv_perm c (down_perm b)] at this
theorem Ev.anti {a b : List Int} (h : Ev a b) (h' : Ev b a) : downL a = downL b := by
  obtain ⟨h1, h2, h3⟩ := h
  refine dn_eq (by rw [down_len, down_len, h1]) fun k hk => ?_
  rw [down_len] at hk
  have p := ((ev_tops h1).1 ⟨h1, h2, h3⟩).2 k hk
  have q := ((ev_tops h1.symm).1 h').2 k (by omega)
  omega
theorem ev_perm {a b : List Int} (h : a.Perm b) : Ev a b := ⟨h.length_eq, sumL_perm h, fun c => by rw [abv_perm c h]; exact Int.le_refl _⟩
theorem Ev.both {a b : List Int} (h : Ev a b) : Ev b a ↔ downL a = downL b :=
  ⟨fun h' => h.anti h', fun e => ev_perm (down_iff.1 e).symm⟩

/- The most even row. -/
def mostQ (a : List Int) : Int := sumL a / (a.length : Int)
def mostR (a : List Int) : Int := sumL a - mostQ a * (a.length : Int)
def evenL (n : Nat) (q r : Int) : List Int := (List.range n).map fun i : Nat => if (i : Int) < r then q + 1 else q
def mostEv (a : List Int) : List Int := evenL a.length (mostQ a) (mostR a)
theorem evenL_len (n : Nat) (q r : Int) : (evenL n q r).length = n := by simp [evenL]
theorem evenL_getD {n : Nat} {q r : Int} {i : Nat} (hi : i < n) : (evenL n q r).getD i 0 = if (i : Int) < r then q + 1 else q := by
  simp [evenL, List.getD, hi]
theorem evenL_mem {n : Nat} {q r x : Int} (h : x ∈ evenL n q r) : q ≤ x ∧ x ≤ q + 1 := by
  unfold evenL at h
  obtain ⟨i, -, rfl⟩ := List.mem_map.1 h
  split <;> omega
theorem most_r {a : List Int} (h : 0 < a.length) : 0 ≤ mostR a ∧ mostR a < (a.length : Int) := by
  unfold mostR mostQ
  have e := Int.emod_def (sumL a) (a.length : Int)
  have p := Int.emod_nonneg (sumL a) (b := (a.length : Int)) (by omega)
  have q := Int.emod_lt_of_pos (sumL a) (b := (a.length : Int)) (by omega)
  rw [Int.mul_comm]
  omega
theorem evenL_sum (q r : Int) : ∀ n : Nat, 0 ≤ r → sumL (evenL n q r) = q * (n : Int) + min r (n : Int)
  | 0, h => by simp [evenL, sumL]; omega
  | n + 1, h => by
    have e : evenL (n + 1) q r = evenL n q r ++ [if (n : Int) < r then q + 1 else q] := by simp [evenL, List.range_succ]
    rw [e, sumL_append, evenL_sum q r n h]
    have e2 : q * ((n + 1 : Nat) : Int) = q * (n : Int) + q := by rw [Int.natCast_add]; simp [Int.mul_add]
    rw [e2]
    simp only [sumL]
    split <;> omega
theorem most_sum {a : List Int} (h : 0 < a.length) : sumL (mostEv a) = sumL a := by
  have := most_r h
  unfold mostEv
  rw [evenL_sum _ _ _ this.1, Int.min_eq_left (by omega)]
  unfold mostR; omega
theorem evenL_dn (n : Nat) (q r : Int) : Dn (evenL n q r) := by
  rw [dn_pairs, List.pairwise_iff_getElem]
  intro i j hi hj hij
  rw [evenL_len] at hi hj
  have a := evenL_getD (q := q) (r := r) hi
  have b := evenL_getD (q := q) (r := r) hj
  rw [getD_in (by rw [evenL_len]; exact hi)] at a
  rw [getD_in (by rw [evenL_len]; exact hj)] at b
  rw [a, b]
  split <;> split <;> omega
theorem most_len (a : List Int) : (mostEv a).length = a.length := evenL_len _ _ _
theorem most_dn (a : List Int) : Dn (mostEv a) := evenL_dn _ _ _
theorem most_ev {a : List Int} (h : 0 < a.length) : Ev (mostEv a) a := by
  refine ⟨most_len a, most_sum h, fun c => ?_⟩
  by_cases hc : mostQ a + 1 ≤ c
  · rw [abv_high fun x hx => by have := evenL_mem hx; omega]; exact abv_nonneg c a
  · rw [abv_low fun x hx => by have := evenL_mem hx; omega, most_sum h, most_len]; exact abv_ge c a
theorem most_same {a b : List Int} (hl : a.length = b.length) (hs : sumL a = sumL b) : mostEv a = mostEv b := by
  unfold mostEv mostR mostQ; rw [hl, hs]
theorem most_most {a : List Int} (h : 0 < a.length) : mostEv (mostEv a) = mostEv a := most_same (most_len a) (most_sum h)
theorem most_ends {a : List Int} (h : 0 < a.length) : (mostEv a).getD 0 0 - (mostEv a).getD (a.length - 1) 0 ≤ 1 := by
  unfold mostEv
  rw [evenL_getD h, evenL_getD (by omega)]
  split <;> split <;> omega

/- Steps. -/
def stepsL (a : List Int) : Int := sumN (fun i => max 0 ((downL a).getD i 0 - (mostEv a).getD i 0)) a.length
theorem abv_sum (c : Int) : ∀ l : List Int, abvL c l = sumN (fun i => max 0 (l.getD i 0 - c)) l.length
  | [] => rfl
  | x :: l => by rw [List.length_cons, sumN_first]; simp only [abvL]; rw [abv_sum c l]; rfl
theorem sumN_le' {f g : Nat → Int} {n : Nat} (h : ∀ k, k < n → f k ≤ g k) : sumN f n ≤ sumN g n := by
  induction n with
  | zero => exact Int.le_refl _
  | succ n ih =>
    have p := ih fun k hk => h k (by omega)
    have q := h n (by omega)
    show sumN f n + f n ≤ sumN g n + g n
    omega
/-- Steps are told by what is above the two numbers of the most even row. -/
theorem steps_is {a : List Int} (h : 0 < a.length) : stepsL a = max (abvL (mostQ a + 1) a) (abvL (mostQ a) a - mostR a) := by
  obtain ⟨r0, r1⟩ := most_r h
  have hd := down_dn a
  have hl := down_len a
  rw [abv_perm _ (down_perm a).symm, abv_perm (mostQ a) (down_perm a).symm]
  unfold stepsL mostEv
  rw [abv_sum, abv_sum, hl]
  generalize mostQ a = q
  generalize mostR a = r at r0 r1
  generalize downL a = x at hd hl
  generalize a.length = n at hl r1 h
  have p := dn_pairs.1 hd
  rw [List.pairwise_iff_getElem] at p
  have ord : ∀ i j, i < j → j < n → x.getD j 0 ≤ x.getD i 0 := fun i j hij hj => by
    rw [getD_in (by omega), getD_in (by omega)]; exact p i j (by omega) (by omega) hij
  have ones : ∀ m : Nat, (r ≤ (m : Int)) → sumN (fun i => if (i : Int) < r then (1 : Int) else 0) m = r := by
    intro m
    induction m with
    | zero => intro hm; simp only [sumN]; omega
    | succ m ih =>
      intro hm
      show sumN _ m + (if (m : Int) < r then (1 : Int) else 0) = r
      by_cases e : r ≤ (m : Int)
      · rw [ih e, if_neg (by omega)]; omega
      · have hr : r = (m : Int) + 1 := by omega
        rw [if_pos (by omega), sumN_congr (g := fun _ => 1) fun k hk => if_pos (by omega)]
        have all : ∀ j : Nat, sumN (fun _ => (1 : Int)) j = (j : Int) := fun j => by
          induction j with
          | zero => rfl
          | succ j ih => simp only [sumN]; rw [ih]; omega
        rw [all, hr]
  have ev : ∀ i, i < n → (evenL n q r).getD i 0 = if (i : Int) < r then q + 1 else q := fun i hi => evenL_getD hi
  have hr : r.toNat < n := by omega
  by_cases c : x.getD r.toNat 0 ≤ q
  · have tail : ∀ i, i < n → ¬ (i : Int) < r → x.getD i 0 ≤ q := fun i hi hir => by
      by_cases e : i = r.toNat
      · rw [e]; exact c
      · have := ord r.toNat i (by omega) hi; omega
    have e1 : sumN (fun i => max 0 (x.getD i 0 - (evenL n q r).getD i 0)) n = sumN (fun i => max 0 (x.getD i 0 - (q + 1))) n := sumN_congr fun i hi => by
      rw [ev i hi]
      split
      · rfl
      · rename_i h1; have := tail i hi h1; omega
    have e2 : sumN (fun i => max 0 (x.getD i 0 - q) - max 0 (x.getD i 0 - (q + 1))) n ≤ sumN (fun i => if (i : Int) < r then (1 : Int) else 0) n := sumN_le' fun i hi => by
      split
      · omega
      · rename_i h1; have := tail i hi h1; omega
    rw [sumN_sub, ones n (by omega)] at e2
    rw [e1]; omega
  · have head : ∀ i, i < n → (i : Int) < r → q + 1 ≤ x.getD i 0 := fun i hi hir => by
      have := ord i r.toNat (by omega) hr; omega
    have e1 : sumN (fun i => max 0 (x.getD i 0 - (evenL n q r).getD i 0)) n = sumN (fun i => max 0 (x.getD i 0 - q) - if (i : Int) < r then (1 : Int) else 0) n := sumN_congr fun i hi => by
      rw [ev i hi]
      split
      · rename_i h1; have := head i hi h1; omega
      · omega
    have e2 : sumN (fun i => max 0 (x.getD i 0 - (q + 1))) n ≤ sumN (fun i => max 0 (x.getD i 0 - q) - if (i : Int) < r then (1 : Int) else 0) n := sumN_le' fun i hi => by
      split
      · rename_i h1; have := head i hi h1; omega
      · omega
    rw [sumN_sub, ones n (by omega)] at e1 e2
    rw [e1]; omega
theorem steps_mono {a b : List Int} (h : 0 < a.length) (he : Ev a b) : stepsL a ≤ stepsL b := by
  rw [steps_is h, steps_is (by rw [← he.1]; exact h)]
  have e1 : mostQ a = mostQ b := by unfold mostQ; rw [he.1, he.2.1]
  have e2 : mostR a = mostR b := by unfold mostR; rw [he.1, he.2.1, e1]
  rw [e1, e2]
  have := he.2.2 (mostQ b + 1)
  have := he.2.2 (mostQ b)
  omega
theorem steps_nonneg (a : List Int) : 0 ≤ stepsL a := sumN_nonneg fun i _ => by omega

/- Levelling. -/
def levelL (a : List Int) (i k : Nat) : List Int := (a.set i (a.getD i 0 - 1)).set k (a.getD k 0 + 1)
theorem set_getD_at (l : List Int) (i : Nat) (v : Int) (j : Nat) (hi : i < l.length) : (l.set i v).getD j 0 = if j = i then v else l.getD j 0 := by
  by_cases e : j = i
  · subst e; simp [List.getD, hi]
  · simp [List.getD, e, Ne.symm e]
theorem level_len (a : List Int) (i k : Nat) : (levelL a i k).length = a.length := by simp [levelL]
theorem level_getD {a : List Int} {i k : Nat} (hi : i < a.length) (hk : k < a.length) (j : Nat) : (levelL a i k).getD j 0 = if j = k then a.getD k 0 + 1 else if j = i then a.getD i 0 - 1 else a.getD j 0 := by
  unfold levelL
  rw [set_getD_at _ _ _ _ (by simpa using hk)]
  split
  · rfl
  · rw [set_getD_at _ _ _ _ hi]
theorem sumL_sum : ∀ l : List Int, sumL l = sumN (fun i => l.getD i 0) l.length
  | [] => rfl
  | x :: l => by rw [List.length_cons, sumN_first]; simp only [sumL]; rw [sumL_sum l]; rfl
theorem sumN_but {f g : Nat → Int} {n i : Nat} (hi : i < n) (h : ∀ k, k < n → k ≠ i → g k = f k) : sumN g n = sumN f n + (g i - f i) := by
  induction n with
  | zero => omega
  | succ n ih =>
    show sumN g n + g n = sumN f n + f n + (g i - f i)
    by_cases e : i = n
    · subst e; rw [sumN_congr fun k hk => h k (by omega) (by omega)]; omega
    · rw [ih (by omega) fun k hk => h k (by omega), h n (by omega) (Ne.symm e)]; omega
theorem sumN_two {f g : Nat → Int} {n i k : Nat} (hi : i < n) (hk : k < n) (hik : i ≠ k) (h : ∀ m, m < n → m ≠ i → m ≠ k → g m = f m) : sumN g n = sumN f n + (g i - f i) + (g k - f k) := by
  have e1 : sumN (fun m => if m = i then g i else f m) n = sumN f n + (g i - f i) := by
    rw [sumN_but (f := f) hi fun m _ hm => by rw [if_neg hm], if_pos rfl]
  have e2 := sumN_but (f := fun m => if m = i then g i else f m) (g := g) hk fun m h1 h2 => by
    show g m = if m = i then g i else f m
    by_cases e : m = i
    · rw [if_pos e, e]
    · rw [if_neg e]; exact h m h1 e h2
  rw [e2, e1]
  show _ + (g k - if k = i then g i else f k) = _
  rw [if_neg (Ne.symm hik)]
theorem level_sum {a : List Int} {i k : Nat} (hi : i < a.length) (hk : k < a.length) (hik : i ≠ k) : sumL (levelL a i k) = sumL a := by
  have g := level_getD hi hk
  rw [sumL_sum, sumL_sum, level_len]
  rw [sumN_two (f := fun j => a.getD j 0) (g := fun j => (levelL a i k).getD j 0) hi hk hik fun m _ h3 h4 => by rw [g m, if_neg h4, if_neg h3]]
  have gi := g i
  rw [if_neg hik, if_pos rfl] at gi
  have gk := g k
  rw [if_pos rfl] at gk
  rw [gi, gk]; omega
theorem level_abv (c : Int) {a : List Int} {i k : Nat} (hi : i < a.length) (hk : k < a.length) (hik : i ≠ k) : abvL c (levelL a i k) = abvL c a + (max 0 (a.getD i 0 - 1 - c) - max 0 (a.getD i 0 - c)) + (max 0 (a.getD k 0 + 1 - c) - max 0 (a.getD k 0 - c)) := by
  have g := level_getD hi hk
  rw [abv_sum, abv_sum, level_len]
  rw [sumN_two (f := fun j => max 0 (a.getD j 0 - c)) (g := fun j => max 0 ((levelL a i k).getD j 0 - c)) hi hk hik fun m _ h3 h4 => by rw [g m, if_neg h4, if_neg h3]]
  have gi := g i
  rw [if_neg hik, if_pos rfl] at gi
  have gk := g k
  rw [if_pos rfl] at gk
  rw [gi, gk]
theorem level_ne {a : List Int} {i k : Nat} (h : a.getD k 0 + 2 ≤ a.getD i 0) : i ≠ k := fun e => by rw [e] at h; omega
theorem level_ev {a : List Int} {i k : Nat} (hi : i < a.length) (hk : k < a.length) (h : a.getD k 0 + 2 ≤ a.getD i 0) : Ev (levelL a i k) a :=
  ⟨level_len a i k, level_sum hi hk (level_ne h), fun c => by rw [level_abv c hi hk (level_ne h)]; omega⟩
theorem level_not {a : List Int} {i k : Nat} (hi : i < a.length) (hk : k < a.length) (h : a.getD k 0 + 2 ≤ a.getD i 0) : ¬ Ev a (levelL a i k) := fun he => by
  have := he.2.2 (a.getD i 0 - 1)
  rw [level_abv _ hi hk (level_ne h)] at this
  omega
theorem level_steps {a : List Int} {i k : Nat} (hi : i < a.length) (hk : k < a.length) (h : a.getD k 0 + 2 ≤ a.getD i 0) : stepsL a ≤ stepsL (levelL a i k) + 1 := by
  have h0 : 0 < a.length := by omega
  rw [steps_is h0, steps_is (by rw [level_len]; exact h0)]
  have e1 : mostQ (levelL a i k) = mostQ a := by unfold mostQ; rw [level_len, level_sum hi hk (level_ne h)]
  have e2 : mostR (levelL a i k) = mostR a := by unfold mostR; rw [level_len, level_sum hi hk (level_ne h), e1]
  rw [e1, e2, level_abv _ hi hk (level_ne h), level_abv _ hi hk (level_ne h)]
  omega
/-- There is a pair that may be levelled, or the row is the most even one. -/
theorem level_none {a : List Int} (h0 : 0 < a.length) : (∀ i k, i < a.length → k < a.length → a.getD i 0 < a.getD k 0 + 2) ↔ downL a = mostEv a := by
  constructor
  · intro h
    refine (most_ev h0 |>.anti ?_).symm.trans (down_self (most_dn a)) |> fun e => e
    refine ⟨(most_len a).symm, (most_sum h0).symm, fun c => ?_⟩
    -- all entries lie between m and m + 1
    obtain ⟨r0, r1⟩ := most_r h0
    by_cases hc : ∃ i, i < a.length ∧ c < a.getD i 0
    · by_cases hc2 : ∃ i, i < a.length ∧ a.getD i 0 < c
      · obtain ⟨i, h1, h2⟩ := hc; obtain ⟨k, h3, h4⟩ := hc2
        have := h i k h1 h3; omega
      · rw [abv_low fun x hx => ?_]
        · have := abv_ge c (mostEv a); rw [most_sum h0, most_len] at this; exact this
        · obtain ⟨i, hi, rfl⟩ := List.getElem_of_mem hx
          rw [← getD_in hi]
          rcases Int.lt_or_le (a.getD i 0) c with e | e
          · exact absurd ⟨i, hi, e⟩ hc2
          · exact e
    · rw [abv_high fun x hx => ?_]
      · exact abv_nonneg c _
      · obtain ⟨i, hi, rfl⟩ := List.getElem_of_mem hx
        rw [← getD_in hi]
        rcases Int.lt_or_le c (a.getD i 0) with e | e
        · exact absurd ⟨i, hi, e⟩ hc
        · exact e
  · intro e i k hi hk
    have mi : a.getD i 0 ∈ mostEv a := by rw [← e, (down_perm a).mem_iff, getD_in hi]; exact List.getElem_mem hi
    have mk : a.getD k 0 ∈ mostEv a := by rw [← e, (down_perm a).mem_iff, getD_in hk]; exact List.getElem_mem hk
    have := evenL_mem mi; have := evenL_mem mk; omega
theorem abv_one (q : Int) {a : List Int} {k : Nat} (hk : k < a.length) (h : a.getD k 0 ≤ q) : sumL a - q * (a.length : Int) + (q - a.getD k 0) ≤ abvL q a := by
  rw [abv_sum, sumL_sum]
  have e : sumN (fun j => a.getD j 0 - q + if j = k then q - a.getD k 0 else 0) a.length ≤ sumN (fun j => max 0 (a.getD j 0 - q)) a.length := sumN_le' fun j _ => by
    split
    · rename_i e; subst e; omega
    · omega
  rw [sumN_add, sumN_sub] at e
  have all : ∀ j : Nat, sumN (fun _ => q) j = q * (j : Int) := fun j => by
    induction j with
    | zero => simp [sumN]
    | succ j ih => simp only [sumN]; rw [ih, Int.natCast_add]; simp [Int.mul_add]
  have one : sumN (fun j => if j = k then q - a.getD k 0 else 0) a.length = q - a.getD k 0 := by
    rw [sumN_but (f := fun _ => 0) hk fun m _ hm => if_neg hm, sumN_zero, if_pos rfl]; omega
  rw [all, one] at e
  exact e
theorem abv_mem (c : Int) : ∀ {l : List Int} {x : Int}, x ∈ l → max 0 (x - c) ≤ abvL c l
  | y :: l, x, h => by
    have nn := abv_nonneg c l
    simp only [abvL]
    rcases List.mem_cons.1 h with rfl | h
    · omega
    · have := abv_mem c h; omega
theorem max_at : ∀ {l : List Int}, 0 < l.length → ∃ i, i < l.length ∧ ∀ j, j < l.length → l.getD j 0 ≤ l.getD i 0 := by
  intro l h
  have : ∀ n : Nat, 0 < n → n ≤ l.length → ∃ i, i < n ∧ ∀ j, j < n → l.getD j 0 ≤ l.getD i 0 := by
    intro n
    induction n with
    | zero => intro h; omega
    | succ n ih =>
      intro _ hn
      by_cases e : n = 0
      · subst e; exact ⟨0, by omega, fun j hj => by rw [show j = 0 by omega]; exact Int.le_refl _⟩
      · obtain ⟨i, h1, h2⟩ := ih (by omega) (by omega)
        by_cases c : l.getD n 0 ≤ l.getD i 0
        · refine ⟨i, by omega, fun j hj => ?_⟩
          by_cases e2 : j = n
          · subst e2; exact c
          · exact h2 j (by omega)
        · refine ⟨n, by omega, fun j hj => ?_⟩
          by_cases e2 : j = n
          · subst e2; exact Int.le_refl _
          · have := h2 j (by omega); omega
  exact this l.length h (Nat.le_refl _)
theorem min_at {l : List Int} (h : 0 < l.length) : ∃ i, i < l.length ∧ ∀ j, j < l.length → l.getD i 0 ≤ l.getD j 0 := by
  obtain ⟨i, h1, h2⟩ := max_at (l := l.map fun x => -x) (by simpa using h)
  have g : ∀ j, j < l.length → (l.map fun x => -x).getD j 0 = -l.getD j 0 := fun j hj => by simp [List.getD, hj]
  rw [List.length_map] at h1 h2
  exact ⟨i, h1, fun j hj => by have := h2 j hj; rw [g j hj, g i h1] at this; omega⟩
/-- Levelling a greatest and a least entry takes a step. -/
theorem level_best {a : List Int} (h0 : 0 < a.length) (hne : downL a ≠ mostEv a) : ∃ i k, i < a.length ∧ k < a.length ∧ a.getD k 0 + 2 ≤ a.getD i 0 ∧ stepsL a = stepsL (levelL a i k) + 1 := by
  obtain ⟨i, h1, h2⟩ := max_at h0
  obtain ⟨k, h3, h4⟩ := min_at h0
  have hik : a.getD k 0 + 2 ≤ a.getD i 0 := by
    rcases Int.lt_or_le (a.getD i 0) (a.getD k 0 + 2) with c | c
    · refine absurd ((level_none h0).1 fun i' k' hi' hk' => ?_) hne
      have := h2 i' hi'; have := h4 k' hk'; omega
    · exact c
  refine ⟨i, k, h1, h3, hik, ?_⟩
  have up := level_steps h1 h3 hik
  suffices stepsL (levelL a i k) + 1 ≤ stepsL a by omega
  obtain ⟨r0, r1⟩ := most_r h0
  rw [steps_is h0, steps_is (by rw [level_len]; exact h0)]
  have e1 : mostQ (levelL a i k) = mostQ a := by unfold mostQ; rw [level_len, level_sum h1 h3 (level_ne hik)]
  have e2 : mostR (levelL a i k) = mostR a := by unfold mostR; rw [level_len, level_sum h1 h3 (level_ne hik), e1]
  rw [e1, e2, level_abv _ h1 h3 (level_ne hik), level_abv _ h1 h3 (level_ne hik)]
  have hs : sumL a = mostQ a * (a.length : Int) + mostR a := by unfold mostR; omega
  generalize mostQ a = q at hs
  generalize mostR a = r at hs r0 r1
  -- the greatest entry is above q, the least one below q + 1
  have lowq : a.getD k 0 ≤ q := by
    rcases Int.lt_or_le q (a.getD k 0) with c | c
    · have := abv_low (c := q + 1) (l := a) fun x hx => by
        obtain ⟨j, hj, rfl⟩ := List.getElem_of_mem hx
        rw [← getD_in hj]; have := h4 j hj; omega
      have nn := abv_nonneg (q + 1) a
      have e : (q + 1) * (a.length : Int) = q * (a.length : Int) + (a.length : Int) := by rw [Int.add_mul]; omega
      rw [e] at this; omega
    · exact c
  have highq : q + 1 ≤ a.getD i 0 := by
    rcases Int.lt_or_le (a.getD i 0) (q + 1) with c | c
    · have := abv_one (a.getD i 0) h3 (h2 k h3)
      have z := abv_high (c := a.getD i 0) (l := a) fun x hx => by
        obtain ⟨j, hj, rfl⟩ := List.getElem_of_mem hx
        rw [← getD_in hj]; exact h2 j hj
      have m1 : a.getD i 0 * (a.length : Int) ≤ q * (a.length : Int) := Int.mul_le_mul_of_nonneg_right (by omega) (by omega)
      omega
    · exact c
  have f1 := abv_one q h3 lowq
  have f2 := abv_mem (q + 1) (l := a) (x := a.getD i 0) (by rw [getD_in h1]; exact List.getElem_mem h1)
  have f3 : a.getD k 0 = q → abvL q a = sumL a - q * (a.length : Int) := fun e => abv_low fun x hx => by
    obtain ⟨j, hj, rfl⟩ := List.getElem_of_mem hx
    rw [← getD_in hj]; have := h4 j hj; omega
  have f4 : a.getD i 0 = q + 1 → abvL (q + 1) a = 0 := fun e => abv_high fun x hx => by
    obtain ⟨j, hj, rfl⟩ := List.getElem_of_mem hx
    rw [← getD_in hj]; have := h2 j hj; omega
  by_cases c1 : a.getD k 0 = q
  · have := f3 c1; omega
  · by_cases c2 : a.getD i 0 = q + 1
    · have := f4 c2; omega
    · omega
end Go.Proofs.Ytfkmnlhmldjieaa

namespace Go.Proofs.Ytfkmnlhmldjieaa
open Go.RowKit

/- Ends. -/
theorem ev_high {m a : List Int} (h : Ev m a) {u : Int} (ha : ∀ x, x ∈ a → x ≤ u) : ∀ x, x ∈ m → x ≤ u := by
  intro x hx
  have z := abv_high (c := u) ha
  have p := h.2.2 u
  have q := abv_mem u hx
  omega
theorem ev_low {m a : List Int} (h : Ev m a) {u : Int} (ha : ∀ x, x ∈ a → u ≤ x) : ∀ x, x ∈ m → u ≤ x := by
  intro x hx
  have z := abv_low (c := u) ha
  have p := h.2.2 u
  obtain ⟨k, hk, rfl⟩ := List.getElem_of_mem hx
  rcases Int.lt_or_le m[k] u with c | c
  · have := abv_one u hk (by rw [getD_in hk]; omega)
    rw [getD_in hk, h.2.1, h.1] at this
    omega
  · exact c
theorem ev_row {m a : List Int} (h : Ev m a) (ha : rowB a = true) : rowB m = true := by
  obtain ⟨h1, h2⟩ := rowB_true.1 ha
  refine rowB_true.2 ⟨fun x hx => ⟨ev_low h (fun y hy => (h1 y hy).1) x hx, ev_high h (fun y hy => (h1 y hy).2) x hx⟩, by rw [h.1]; exact h2⟩
theorem asc_getD (a : List Int) {i : Nat} (hi : i < a.length) : (ascL a).getD i 0 = (downL a).getD (a.length - 1 - i) 0 := by
  rw [asc_rev, List.getD_eq_getElem?_getD, List.getElem?_reverse (by rw [down_len]; exact hi), down_len, ← List.getD_eq_getElem?_getD]
theorem take_one {l : List Int} (h : 0 < l.length) : sumL (l.take 1) = l.getD 0 0 := by
  cases l with
  | nil => simp at h
  | cons x l => simp [sumL]
theorem take_next (l : List Int) {k : Nat} (hk : k < l.length) : sumL (l.take (k + 1)) = sumL (l.take k) + l.getD k 0 := by
  rw [← take_snoc l k hk, sumL_append, getD_in hk]; simp [sumL]
theorem down_sum (a : List Int) : sumL ((downL a).take a.length) = sumL a := by
  rw [List.take_of_length_le (by rw [down_len]; exact Nat.le_refl _)]; exact sumL_perm (down_perm a)
/-- P62. -/
theorem ev_ends {a b : List Int} (h : Ev a b) (h0 : 0 < a.length) : (ascL a).getD (a.length - 1) 0 ≤ (ascL b).getD (a.length - 1) 0 ∧ (ascL b).getD 0 0 ≤ (ascL a).getD 0 0 := by
  obtain ⟨h1, h2, h3⟩ := h
  have t := ((ev_tops h1).1 ⟨h1, h2, h3⟩).2
  have la := down_len a; have lb := down_len b
  rw [asc_getD a (by omega), asc_getD b (by omega), asc_getD b (by omega), asc_getD a h0]
  rw [show a.length - 1 - (a.length - 1) = 0 by omega, show b.length - 1 - (a.length - 1) = 0 by omega]
  constructor
  · have := t 1 (by omega)
    rwa [take_one (by omega), take_one (by omega)] at this
  · have p := t (a.length - 1) (by omega)
    have ea := take_next (downL a) (k := a.length - 1) (by omega)
    have eb := take_next (downL b) (k := a.length - 1) (by omega)
    rw [show a.length - 1 + 1 = a.length by omega] at ea eb
    have sa := down_sum a
    have sb := down_sum b
    rw [← h1] at sb
    rw [Nat.sub_zero, Nat.sub_zero, ← h1]
    omega

/- Sums of bent rows. -/
def sumAt (f : List Int) : List Int → Int
  | [] => 0
  | x :: l => f.getD x.toNat 0 + sumAt f l
theorem sumAt_perm (f : List Int) {l m : List Int} (h : l.Perm m) : sumAt f l = sumAt f m := by
  induction h with
  | nil => rfl
  | cons x _ ih => simp only [sumAt]; rw [ih]
  | swap x y l => simp only [sumAt]; omega
  | trans _ _ ih1 ih2 => rw [ih1, ih2]
/-- How much a bent row bends. -/
def bendAt (f : List Int) (j : Nat) : Int := f.getD (j + 2) 0 - f.getD (j + 1) 0 - (f.getD (j + 1) 0 - f.getD j 0)
theorem hinge_next (d : Nat → Int) (M x : Nat) (hx : x ≤ M) : sumN (fun j => d j * max 0 (((x + 1 : Nat) : Int) - ((j : Int) + 1))) M = sumN (fun j => d j * max 0 ((x : Int) - ((j : Int) + 1))) M + sumN d x := by
  induction M with
  | zero => have : x = 0 := by omega
            subst this; simp [sumN]
  | succ M ih =>
    show sumN _ M + d M * max 0 (((x + 1 : Nat) : Int) - ((M : Int) + 1)) = sumN _ M + d M * max 0 ((x : Int) - ((M : Int) + 1)) + sumN d x
    by_cases e : x ≤ M
    · rw [ih e, show max 0 (((x + 1 : Nat) : Int) - ((M : Int) + 1)) = 0 by omega, show max 0 ((x : Int) - ((M : Int) + 1)) = 0 by omega]; simp
    · have ex : x = M + 1 := by omega
      subst ex
      have all : ∀ m : Nat, m ≤ M + 1 → sumN (fun j => d j * max 0 (((M + 1 + 1 : Nat) : Int) - ((j : Int) + 1))) m = sumN (fun j => d j * max 0 (((M + 1 : Nat) : Int) - ((j : Int) + 1))) m + sumN d m := by
        intro m hm
        rw [← sumN_add]
        refine sumN_congr fun j hj => ?_
        rw [show max 0 (((M + 1 + 1 : Nat) : Int) - ((j : Int) + 1)) = max 0 (((M + 1 : Nat) : Int) - ((j : Int) + 1)) + 1 by omega, Int.mul_add]; omega
      exact all (M + 1) (Nat.le_refl _)
theorem hinge {f : List Int} (h2 : 2 ≤ f.length) : ∀ x : Nat, x < f.length → f.getD x 0 = f.getD 0 0 + (f.getD 1 0 - f.getD 0 0) * (x : Int) + sumN (fun j => bendAt f j * max 0 ((x : Int) - ((j : Int) + 1))) (f.length - 2) := by
  have tel : ∀ x : Nat, sumN (bendAt f) x = f.getD (x + 1) 0 - f.getD x 0 - (f.getD 1 0 - f.getD 0 0) := by
    intro x
    induction x with
    | zero => simp [sumN]
    | succ x ih => simp only [sumN]; rw [ih, show x + 1 + 1 = x + 2 from rfl]; unfold bendAt; omega
  intro x
  induction x with
  | zero =>
    intro _
    rw [sumN_congr (g := fun _ => 0) fun j _ => by rw [show max 0 (((0 : Nat) : Int) - ((j : Int) + 1)) = 0 by omega]; simp, sumN_zero]; simp
  | succ x ih =>
    intro hx
    rw [hinge_next _ _ x (by omega), tel x]
    have e := ih (by omega)
    have m : (f.getD 1 0 - f.getD 0 0) * ((x + 1 : Nat) : Int) = (f.getD 1 0 - f.getD 0 0) * (x : Int) + (f.getD 1 0 - f.getD 0 0) := by rw [Int.natCast_add]; simp [Int.mul_add]
    rw [m]; omega
theorem sumAt_hinge {f : List Int} (h2 : 2 ≤ f.length) : ∀ {l : List Int}, (∀ x, x ∈ l → 0 ≤ x ∧ x < (f.length : Int)) →
    sumAt f l = f.getD 0 0 * (l.length : Int) + (f.getD 1 0 - f.getD 0 0) * sumL l + sumN (fun j => bendAt f j * abvL ((j : Int) + 1) l) (f.length - 2)
  | [], _ => by
    simp only [sumAt, sumL, abvL, List.length_nil]
    rw [sumN_congr (g := fun _ => 0) fun j _ => by simp, sumN_zero]; simp
  | x :: l, h => by
    have ih := sumAt_hinge h2 (l := l) fun y hy => h y (by simp [hy])
    have hx := h x (by simp)
    have e := hinge h2 x.toNat (by omega)
    have s : sumN (fun j => bendAt f j * abvL ((j : Int) + 1) (x :: l)) (f.length - 2) = sumN (fun j => bendAt f j * max 0 ((x.toNat : Int) - ((j : Int) + 1))) (f.length - 2) + sumN (fun j => bendAt f j * abvL ((j : Int) + 1) l) (f.length - 2) := by
      rw [← sumN_add]
      refine sumN_congr fun j _ => ?_
      simp only [abvL]
      rw [show ((x.toNat : Nat) : Int) = x by omega, Int.mul_add]
    rw [s]
    have m1 : f.getD 0 0 * ((x :: l).length : Int) = f.getD 0 0 * (l.length : Int) + f.getD 0 0 := by rw [List.length_cons, Int.natCast_add]; simp [Int.mul_add]
    have m2 : (f.getD 1 0 - f.getD 0 0) * sumL (x :: l) = (f.getD 1 0 - f.getD 0 0) * x + (f.getD 1 0 - f.getD 0 0) * sumL l := by simp only [sumL]; rw [Int.mul_add]
    rw [m1, m2]
    rw [show ((x.toNat : Nat) : Int) = x by omega] at e ⊢
    simp only [sumAt]
    rw [ih, e]; omega
/-- MORE EVEN PLACES: A LESS SUM OF A BENT ROW. -/
theorem karamata {f a b : List Int} (hf : 0 < f.length) (hb : bentB f = true) (h : Ev a b) (ra : ∀ x, x ∈ a → 0 ≤ x ∧ x < (f.length : Int)) (rb : ∀ x, x ∈ b → 0 ≤ x ∧ x < (f.length : Int)) : sumAt f a ≤ sumAt f b := by
  by_cases h2 : 2 ≤ f.length
  · rw [sumAt_hinge h2 ra, sumAt_hinge h2 rb, h.1, h.2.1]
    have : sumN (fun j => bendAt f j * abvL ((j : Int) + 1) a) (f.length - 2) ≤ sumN (fun j => bendAt f j * abvL ((j : Int) + 1) b) (f.length - 2) := sumN_le' fun j hj => by
      have := (bentB_iff f).1 hb j (by omega)
      exact Int.mul_le_mul_of_nonneg_left (h.2.2 _) (by unfold bendAt; omega)
    omega
  · have all : ∀ l : List Int, (∀ x, x ∈ l → 0 ≤ x ∧ x < (f.length : Int)) → sumAt f l = f.getD 0 0 * (l.length : Int) := by
      intro l
      induction l with
      | nil => intro _; simp [sumAt]
      | cons x l ih =>
        intro hl
        have hx := hl x (by simp)
        have e : x.toNat = 0 := by omega
        simp only [sumAt]
        rw [ih fun y hy => hl y (by simp [hy]), e, List.length_cons, Int.natCast_add]
        simp [Int.mul_add]; omega
    rw [all a ra, all b rb, h.1]; exact Int.le_refl _

/- Meets. -/
def topS (a : List Int) (k : Nat) : Int := sumL ((downL a).take k)
def meetTo (a b : List Int) (k : Nat) : Int := min (topS a k) (topS b k)
def meetL (a b : List Int) : List Int := (List.range a.length).map fun k => meetTo a b (k + 1) - meetTo a b k
theorem meet_len (a b : List Int) : (meetL a b).length = a.length := by simp [meetL]
theorem meet_getD (a b : List Int) {k : Nat} (hk : k < a.length) : (meetL a b).getD k 0 = meetTo a b (k + 1) - meetTo a b k := by simp [meetL, List.getD, hk]
theorem topS_zero (a : List Int) : topS a 0 = 0 := by simp [topS, sumL]
theorem topS_all (a : List Int) : topS a a.length = sumL a := down_sum a
theorem topS_next {a : List Int} {k : Nat} (hk : k < a.length) : topS a (k + 1) = topS a k + (downL a).getD k 0 := take_next _ (by rw [down_len]; exact hk)
theorem down_getD {a : List Int} {k : Nat} (hk : k + 1 < a.length) : (downL a).getD (k + 1) 0 ≤ (downL a).getD k 0 := by
  have p := dn_pairs.1 (down_dn a)
  rw [List.pairwise_iff_getElem] at p
  rw [getD_in (by rw [down_len]; omega), getD_in (by rw [down_len]; omega)]
  exact p k (k + 1) _ _ (by omega)
theorem meet_turn {a b : List Int} (hl : a.length = b.length) : meetL a b = meetL b a := by
  unfold meetL meetTo
  rw [hl]
  refine List.map_congr_left fun k _ => ?_
  omega
theorem meet_falls {a b : List Int} (hl : a.length = b.length) {k : Nat} (hk : k + 1 < a.length) : (meetL a b).getD (k + 1) 0 ≤ (meetL a b).getD k 0 := by
  rw [meet_getD a b hk, meet_getD a b (by omega)]
  have a1 := topS_next (a := a) (k := k) (by omega); have a2 := topS_next (a := a) (k := k + 1) hk
  have b1 := topS_next (a := b) (k := k) (by omega); have b2 := topS_next (a := b) (k := k + 1) (by omega)
  have a3 := down_getD hk
  have b3 := down_getD (a := b) (k := k) (by omega)
  unfold meetTo
  omega
theorem dn_steps {l : List Int} (h : ∀ k, k + 1 < l.length → l.getD (k + 1) 0 ≤ l.getD k 0) : Dn l := by
  rw [dn_pairs, List.pairwise_iff_getElem]
  have far : ∀ d i : Nat, i + d < l.length → l.getD (i + d) 0 ≤ l.getD i 0 := by
    intro d
    induction d with
    | zero => intro i _; exact Int.le_refl _
    | succ d ih => intro i hi; have := h (i + d) (by omega); have := ih i (by omega); rw [show i + (d + 1) = i + d + 1 by omega]; omega
  intro i j hi hj hij
  have := far (j - i) i (by omega)
  rw [show i + (j - i) = j by omega, getD_in hj, getD_in hi] at this
  exact this
theorem meet_dn {a b : List Int} (hl : a.length = b.length) : Dn (meetL a b) := dn_steps fun k hk => meet_falls hl (by rwa [meet_len] at hk)
theorem meet_take (a b : List Int) : ∀ k, k ≤ a.length → sumL ((meetL a b).take k) = meetTo a b k
  | 0, _ => by simp [sumL, meetTo, topS_zero]
  | k + 1, h => by
    rw [take_next _ (by rw [meet_len]; omega), meet_take a b k (by omega), meet_getD a b (by omega)]; omega
theorem meet_sum {a b : List Int} (hl : a.length = b.length) (hs : sumL a = sumL b) : sumL (meetL a b) = sumL a := by
  have := meet_take a b a.length (Nat.le_refl _)
  rw [List.take_of_length_le (by rw [meet_len]; exact Nat.le_refl _)] at this
  rw [this]
  unfold meetTo
  rw [topS_all a, hl, topS_all b, hs]; omega
theorem meet_ev {a b : List Int} (hl : a.length = b.length) (hs : sumL a = sumL b) : Ev (meetL a b) a ∧ Ev (meetL a b) b := by
  have hd := down_self (meet_dn hl)
  constructor
  · refine (ev_tops (meet_len a b)).2 ⟨meet_sum hl hs, fun k hk => ?_⟩
    rw [meet_len] at hk
    rw [hd, meet_take a b k hk]
    unfold meetTo topS; omega
  · refine (ev_tops ((meet_len a b).trans hl)).2 ⟨(meet_sum hl hs).trans hs, fun k hk => ?_⟩
    rw [meet_len] at hk
    rw [hd, meet_take a b k hk]
    unfold meetTo topS; omega

/- Lists in order, each once. -/
def befB : List Int → List Int → Bool
  | x :: l, y :: m => if x = y then befB l m else decide (x < y)
  | _, _ => false
theorem bef_irr : ∀ l : List Int, befB l l = false
  | [] => rfl
  | x :: l => by unfold befB; rw [if_pos rfl]; exact bef_irr l
theorem bef_trans : ∀ {l m n : List Int}, befB l m = true → befB m n = true → befB l n = true
  | x :: l, y :: m, z :: n, h, h' => by
    unfold befB at h h' ⊢
    by_cases e : x = y
    · subst e
      rw [if_pos rfl] at h
      by_cases e2 : x = z
      · subst e2
        rw [if_pos rfl] at h' ⊢
        exact bef_trans h h'
      · rw [if_neg e2] at h' ⊢; exact h'
    · rw [if_neg e] at h
      have h1 : x < y := by simpa using h
      by_cases e2 : y = z
      · subst e2; rw [if_neg e]; exact h
      · rw [if_neg e2] at h'
        have h2 : y < z := by simpa using h'
        rw [if_neg (by omega)]; simp; omega
  | [], _, _, h, _ => by simp [befB] at h
  | _ :: _, [], _, h, _ => by simp [befB] at h
  | _ :: _, _ :: _, [], _, h' => by simp [befB] at h'
theorem bef_total : ∀ {l m : List Int}, l.length = m.length → befB l m = false → befB m l = false → l = m
  | [], [], _, _, _ => rfl
  | x :: l, y :: m, hl, h, h' => by
    unfold befB at h h'
    by_cases e : x = y
    · subst e
      rw [if_pos rfl] at h h'
      rw [bef_total (by simpa using hl) h h']
    · rw [if_neg e] at h
      rw [if_neg (Ne.symm e)] at h'
      simp at h h'; omega
  | [], _ :: _, hl, _, _ => by simp at hl
  | _ :: _, [], hl, _, _ => by simp at hl
def AscB (L : List (List Int)) : Prop := L.Pairwise fun x y => befB x y = true
theorem asc_uniq : ∀ {L M : List (List Int)}, AscB L → AscB M → (∀ x, x ∈ L ↔ x ∈ M) → L = M
  | [], [], _, _, _ => rfl
  | [], y :: M, _, _, h => by have := (h y).2 (by simp); simp at this
  | x :: L, [], _, _, h => by have := (h x).1 (by simp); simp at this
  | x :: L, y :: M, hL, hM, h => by
    obtain ⟨l1, l2⟩ := List.pairwise_cons.1 hL
    obtain ⟨m1, m2⟩ := List.pairwise_cons.1 hM
    have e : x = y := by
      rcases List.mem_cons.1 ((h x).1 (by simp)) with e | hx
      · exact e
      · rcases List.mem_cons.1 ((h y).2 (by simp)) with e | hy
        · exact e.symm
        · have := bef_trans (l1 y hy) (m1 x hx)
          rw [bef_irr] at this; cases this
    subst e
    rw [asc_uniq l2 m2 fun z => ?_]
    constructor
    · intro hz
      rcases List.mem_cons.1 ((h z).1 (List.mem_cons_of_mem _ hz)) with e | h2
      · subst e; have := l1 z hz; rw [bef_irr] at this; cases this
      · exact h2
    · intro hz
      rcases List.mem_cons.1 ((h z).2 (List.mem_cons_of_mem _ hz)) with e | h2
      · subst e; have := m1 z hz; rw [bef_irr] at this; cases this
      · exact h2
/-- The place ahead of which a list is put. -/
def putAt (L : List (List Int)) (a : List Int) : Nat → Nat
  | 0 => 0
  | k + 1 => if befB a (L.getD k []) then putAt L a k else k + 1
def putL (L : List (List Int)) (a : List Int) : List (List Int) :=
  if 0 < putAt L a L.length ∧ befB (L.getD (putAt L a L.length - 1) []) a = false then L else L.take (putAt L a L.length) ++ [a] ++ L.drop (putAt L a L.length)
theorem putAt_spec (L : List (List Int)) (a : List Int) : ∀ n, putAt L a n ≤ n ∧ (∀ j, putAt L a n ≤ j → j < n → befB a (L.getD j []) = true) ∧ (0 < putAt L a n → befB a (L.getD (putAt L a n - 1) []) = false)
  | 0 => ⟨Nat.le_refl _, fun j _ h => by omega, fun h => by simp [putAt] at h⟩
  | k + 1 => by
    obtain ⟨h1, h2, h3⟩ := putAt_spec L a k
    unfold putAt
    cases c : befB a (L.getD k []) with
    | true =>
      simp only [if_true]
      refine ⟨by omega, fun j h4 h5 => ?_, h3⟩
      by_cases e : j = k
      · subst e; exact c
      · exact h2 j h4 (by omega)
    | false =>
      simp only [Bool.false_eq_true, if_false]
      exact ⟨Nat.le_refl _, fun j h4 h5 => by omega, fun _ => by simpa using c⟩
theorem put_mem {L : List (List Int)} {a : List Int} (hl : ∀ x, x ∈ L → x.length = a.length) (z : List Int) : z ∈ putL L a ↔ z ∈ L ∨ z = a := by
  obtain ⟨h1, h2, h3⟩ := putAt_spec L a L.length
  unfold putL
  split
  · rename_i c
    constructor
    · exact fun h => .inl h
    · rintro (h | rfl)
      · exact h
      · have hk : putAt L z L.length - 1 < L.length := by omega
        have g : L.getD (putAt L z L.length - 1) [] = L[putAt L z L.length - 1] := by rw [List.getD_eq_getElem?_getD, List.getElem?_eq_getElem hk]; rfl
        have e := bef_total (l := L.getD (putAt L z L.length - 1) []) (m := z) (by rw [g]; exact hl _ (List.getElem_mem hk)) c.2 (h3 c.1)
        rw [← e, g]; exact List.getElem_mem hk
  · simp only [List.mem_append, List.mem_singleton]
    constructor
    · rintro ((h | h) | h)
      · exact .inl (List.mem_of_mem_take h)
      · exact .inr h
      · exact .inl (List.mem_of_mem_drop h)
    · rintro (h | h)
      · rw [← List.take_append_drop (putAt L a L.length) L, List.mem_append] at h
        rcases h with h | h
        · exact .inl (.inl h)
        · exact .inr h
      · exact .inl (.inr h)
theorem put_asc {L : List (List Int)} {a : List Int} (hl : ∀ x, x ∈ L → x.length = a.length) (hL : AscB L) : AscB (putL L a) := by
  obtain ⟨h1, h2, h3⟩ := putAt_spec L a L.length
  unfold putL
  split
  · exact hL
  · rename_i c
    generalize putAt L a L.length = k at h1 h2 h3 c
    have hg : ∀ j (hj : j < L.length), L.getD j [] = L[j] := fun j hj => by rw [List.getD_eq_getElem?_getD, List.getElem?_eq_getElem hj]; rfl
    have ord := List.pairwise_iff_getElem.1 hL
    have up : ∀ x, x ∈ L.take k → befB x a = true := by
      intro x hx
      obtain ⟨j, hj, rfl⟩ := List.getElem_of_mem hx
      rw [List.length_take] at hj
      rw [List.getElem_take]
      have hk : 0 < k := by omega
      have last : befB (L.getD (k - 1) []) a = true := by
        cases e : befB (L.getD (k - 1) []) a with
        | true => rfl
        | false => exact absurd ⟨hk, e⟩ c
      rw [hg (k - 1) (by omega)] at last
      by_cases e : j = k - 1
      · subst e; exact last
      · exact bef_trans (ord j (k - 1) (by omega) (by omega) (by omega)) last
    have dn : ∀ x, x ∈ L.drop k → befB a x = true := by
      intro x hx
      obtain ⟨j, hj, rfl⟩ := List.getElem_of_mem hx
      rw [List.length_drop] at hj
      rw [List.getElem_drop]
      have := h2 (k + j) (by omega) (by omega)
      rwa [hg (k + j) (by omega)] at this
    have lr : ∀ x, x ∈ L.take k → ∀ y, y ∈ L.drop k → befB x y = true := fun x hx y hy => bef_trans (up x hx) (dn y hy)
    unfold AscB
    rw [List.pairwise_append, List.pairwise_append]
    refine ⟨⟨hL.sublist (List.take_sublist k L), List.pairwise_singleton _ _, fun x hx y hy => ?_⟩, hL.sublist (List.drop_sublist k L), fun x hx y hy => ?_⟩
    · obtain rfl := List.mem_singleton.1 hy; exact up x hx
    · rcases List.mem_append.1 hx with hx | hx
      · exact lr x hx y hy
      · obtain rfl := List.mem_singleton.1 hx; exact dn y hy
def levPut (a : List Int) (L : List (List Int)) (i k : Nat) : List (List Int) := if a.getD k 0 + 2 ≤ a.getD i 0 then putL L (downL (levelL a i k)) else L
def levIn (a : List Int) (L : List (List Int)) (i : Nat) : Nat → List (List Int)
  | 0 => L
  | k + 1 => levPut a (levIn a L i k) i k
def levTo (a : List Int) : Nat → List (List Int)
  | 0 => []
  | i + 1 => levIn a (levTo a i) i a.length
def levelsL (a : List Int) : List (List Int) := levTo a a.length
def LevOf (a : List Int) (i k : Nat) (z : List Int) : Prop := a.getD k 0 + 2 ≤ a.getD i 0 ∧ z = downL (levelL a i k)
theorem lev_len {a z : List Int} {i k : Nat} (h : LevOf a i k z) : z.length = a.length := by rw [h.2, down_len, level_len]
theorem levIn_spec (a : List Int) (L : List (List Int)) (i : Nat) (hl : ∀ x, x ∈ L → x.length = a.length) (hL : AscB L) : ∀ n, (∀ z, z ∈ levIn a L i n ↔ z ∈ L ∨ ∃ k, k < n ∧ LevOf a i k z) ∧ AscB (levIn a L i n) := by
  intro n
  induction n with
  | zero => exact ⟨fun z => ⟨fun h => .inl h, fun h => h.elim id (fun ⟨k, h1, _⟩ => by omega)⟩, hL⟩
  | succ n ih =>
    obtain ⟨h1, h2⟩ := ih
    have hlen : ∀ x, x ∈ levIn a L i n → x.length = (downL (levelL a i n)).length := fun x hx => by
      rw [down_len, level_len]
      rcases (h1 x).1 hx with h | ⟨k, -, h⟩
      · exact hl x h
      · exact lev_len h
    show (∀ z, z ∈ levPut a (levIn a L i n) i n ↔ _) ∧ AscB (levPut a (levIn a L i n) i n)
    unfold levPut
    split
    · rename_i c
      refine ⟨fun z => ?_, put_asc hlen h2⟩
      rw [put_mem hlen z, h1 z]
      constructor
      · rintro ((h | ⟨k, h3, h4⟩) | h)
        · exact .inl h
        · exact .inr ⟨k, by omega, h4⟩
        · exact .inr ⟨n, by omega, c, h⟩
      · rintro (h | ⟨k, h3, h4⟩)
        · exact .inl (.inl h)
        · by_cases e : k = n
          · subst e; exact .inr h4.2
          · exact .inl (.inr ⟨k, by omega, h4⟩)
    · rename_i c
      refine ⟨fun z => ?_, h2⟩
      rw [h1 z]
      constructor
      · rintro (h | ⟨k, h3, h4⟩)
        · exact .inl h
        · exact .inr ⟨k, by omega, h4⟩
      · rintro (h | ⟨k, h3, h4⟩)
        · exact .inl h
        · by_cases e : k = n
          · subst e; exact absurd h4.1 c
          · exact .inr ⟨k, by omega, h4⟩
theorem levTo_spec (a : List Int) : ∀ n, (∀ z, z ∈ levTo a n ↔ ∃ i k, i < n ∧ k < a.length ∧ LevOf a i k z) ∧ AscB (levTo a n) := by
  intro n
  induction n with
  | zero => exact ⟨fun z => ⟨fun h => by simp [levTo] at h, fun ⟨i, k, h1, _⟩ => by omega⟩, List.Pairwise.nil⟩
  | succ n ih =>
    obtain ⟨h1, h2⟩ := ih
    obtain ⟨g1, g2⟩ := levIn_spec a (levTo a n) n (fun x hx => by obtain ⟨i, k, -, -, h⟩ := (h1 x).1 hx; exact lev_len h) h2 a.length
    refine ⟨fun z => ?_, g2⟩
    show z ∈ levIn a (levTo a n) n a.length ↔ _
    rw [g1 z, h1 z]
    constructor
    · rintro (⟨i, k, h3, h4, h5⟩ | ⟨k, h3, h4⟩)
      · exact ⟨i, k, by omega, h4, h5⟩
      · exact ⟨n, k, by omega, h3, h4⟩
    · rintro ⟨i, k, h3, h4, h5⟩
      by_cases e : i = n
      · subst e; exact .inr ⟨k, h4, h5⟩
      · exact .inl ⟨i, k, by omega, h4, h5⟩
theorem levels_mem {a z : List Int} : z ∈ levelsL a ↔ ∃ i k, i < a.length ∧ k < a.length ∧ LevOf a i k z := (levTo_spec a a.length).1 z
theorem levels_asc (a : List Int) : AscB (levelsL a) := (levTo_spec a a.length).2
/-- P64. -/
theorem levels_law {a z : List Int} (h : z ∈ levelsL a) : Ev z a ∧ ¬ Ev a z := by
  obtain ⟨i, k, h1, h2, h3, rfl⟩ := levels_mem.1 h
  have p := ev_perm (down_perm (levelL a i k))
  have q := ev_perm (down_perm (levelL a i k)).symm
  have e := level_ev h1 h2 h3
  refine ⟨⟨p.1.trans e.1, p.2.1.trans e.2.1, fun c => Int.le_trans (p.2.2 c) (e.2.2 c)⟩, fun he => level_not h1 h2 h3 ⟨he.1.trans p.1, he.2.1.trans p.2.1, fun c => Int.le_trans (he.2.2 c) (p.2.2 c)⟩⟩
theorem levels_none {a : List Int} (h0 : 0 < a.length) : levelsL a = [] ↔ ascL a = ascL (mostEv a) := by
  have t : ascL a = ascL (mostEv a) ↔ downL a = mostEv a := by
    rw [asc_rev, asc_rev, List.reverse_inj, down_self (most_dn a)]
  rw [t, ← level_none h0]
  constructor
  · intro h i k hi hk
    rcases Int.lt_or_le (a.getD i 0) (a.getD k 0 + 2) with c | c
    · exact c
    · have := levels_mem.2 ⟨i, k, hi, hk, c, rfl⟩
      rw [h] at this; simp at this
  · intro h
    cases e : levelsL a with
    | nil => rfl
    | cons z L =>
      obtain ⟨i, k, h1, h2, h3, -⟩ := levels_mem.1 (show z ∈ levelsL a by rw [e]; simp)
      have := h i k h1 h2; omega
theorem steps_perm {a b : List Int} (h : a.Perm b) : stepsL a = stepsL b := by
  unfold stepsL
  rw [down_same h, h.length_eq, most_same h.length_eq (sumL_perm h)]
theorem steps_none {a : List Int} (h : downL a = mostEv a) : stepsL a = 0 := by
  unfold stepsL
  rw [sumN_congr (g := fun _ => 0) fun i _ => by rw [h]; omega, sumN_zero]
/-- P66. -/
theorem steps_law {a : List Int} (h0 : 0 < a.length) : (levelsL a = [] → stepsL a = 0) ∧ (∀ z, z ∈ levelsL a → stepsL a ≤ stepsL z + 1) ∧ (levelsL a ≠ [] → ∃ z, z ∈ levelsL a ∧ stepsL a = stepsL z + 1) := by
  have t : levelsL a = [] ↔ downL a = mostEv a := by
    rw [levels_none h0, asc_rev, asc_rev, List.reverse_inj, down_self (most_dn a)]
  refine ⟨fun h => steps_none (t.1 h), fun z hz => ?_, fun h => ?_⟩
  · obtain ⟨i, k, h1, h2, h3, rfl⟩ := levels_mem.1 hz
    rw [steps_perm (down_perm _)]
    exact level_steps h1 h2 h3
  · obtain ⟨i, k, h1, h2, h3, h4⟩ := level_best h0 fun e => h (t.2 e)
    exact ⟨_, levels_mem.2 ⟨i, k, h1, h2, h3, rfl⟩, by rw [steps_perm (down_perm _)]; exact h4⟩

/- What the functions answer. -/
def evB (a b : List Int) : Bool := decide (sumL a = sumL b) && (List.range (a.length + 1)).all fun k => decide (sumL ((downL a).take k) ≤ sumL ((downL b).take k))
def evenIsB (a b : List Int) : Bool := twoB a b && evB a b
theorem evB_true {a b : List Int} (hl : a.length = b.length) : evB a b = true ↔ Ev a b := by
  rw [ev_tops hl]
  unfold evB
  rw [Bool.and_eq_true, decide_eq_true_iff, List.all_eq_true]
  constructor
  · rintro ⟨h1, h2⟩
    exact ⟨h1, fun k hk => by have := h2 k (List.mem_range.2 (by omega)); simpa using this⟩
  · rintro ⟨h1, h2⟩
    exact ⟨h1, fun k hk => by simpa using h2 k (by have := List.mem_range.1 hk; omega)⟩
theorem evenIs_true {a b : List Int} : evenIsB a b = true ↔ rowB a = true ∧ rowB b = true ∧ Ev a b := by
  unfold evenIsB
  rw [Bool.and_eq_true]
  constructor
  · rintro ⟨h1, h2⟩
    obtain ⟨p1, p2, p3⟩ := twoB_true h1
    exact ⟨p1, p2, (evB_true p3).1 h2⟩
  · rintro ⟨h1, h2, h3⟩
    exact ⟨by unfold twoB; simp [h1, h2, h3.1], (evB_true h3.1).2 h3⟩
def mostM (a : List Int) : Option (List Int) := if rowB a then some (mostEv a) else none
def stepsV (a : List Int) : Int := if rowB a then stepsL a else 0
def levelsM (a : List Int) : Option (List (List Int)) := if rowB a then some (levelsL a) else none
def atB (f a : List Int) : Bool := rowB f && bentB f && rowB a && a.all fun x => inB 0 ((f.length : Int) - 1) x
def evenSumL (f a : List Int) : Int := if atB f a then sumAt f a else 0
def meetM (a b : List Int) : Option (List Int) := if twoB a b && decide (sumL a = sumL b) then doneM (meetL a b) else none
theorem most_row {a : List Int} (h : rowB a = true) : rowB (mostEv a) = true := ev_row (most_ev (row_pos h)) h
theorem at_true {f a : List Int} : atB f a = true ↔ rowB f = true ∧ bentB f = true ∧ rowB a = true ∧ ∀ x, x ∈ a → 0 ≤ x ∧ x < (f.length : Int) := by
  unfold atB
  rw [Bool.and_eq_true, Bool.and_eq_true, Bool.and_eq_true, List.all_eq_true]
  constructor
  · rintro ⟨⟨⟨h1, h2⟩, h3⟩, h4⟩
    exact ⟨h1, h2, h3, fun x hx => by have := inB_true.1 (h4 x hx); omega⟩
  · rintro ⟨h1, h2, h3, h4⟩
    exact ⟨⟨⟨h1, h2⟩, h3⟩, fun x hx => inB_true.2 (by have := h4 x hx; omega)⟩
/-- P67. -/
theorem sum_law {f a : List Int} (h : atB f a = true) : atB f (mostEv a) = true ∧ sumAt f (mostEv a) ≤ sumAt f a ∧ atB f a.reverse = true ∧ sumAt f a.reverse = sumAt f a := by
  obtain ⟨h1, h2, h3, h4⟩ := at_true.1 h
  have e := most_ev (row_pos h3)
  have r : ∀ x, x ∈ mostEv a → 0 ≤ x ∧ x < (f.length : Int) := fun x hx => by
    have p := ev_low e (u := 0) (fun y hy => (h4 y hy).1) x hx
    have q := ev_high e (u := (f.length : Int) - 1) (fun y hy => by have := (h4 y hy).2; omega) x hx
    omega
  refine ⟨at_true.2 ⟨h1, h2, most_row h3, r⟩, karamata (row_pos h1) h2 e r h4, at_true.2 ⟨h1, h2, rowB_reverse h3, fun x hx => h4 x (by simpa using hx)⟩, sumAt_perm f (List.reverse_perm a)⟩
/-- P63. -/
def squaresL : List Int := (List.range 12).map fun i : Nat => (i : Int) * (i : Int)
theorem karamata_law {a b : List Int} (h : evenIsB a b = true) (ha : atB squaresL a = true) (hb : atB squaresL b = true) : sumAt squaresL a ≤ sumAt squaresL b := by
  obtain ⟨h1, h2, -, h4⟩ := at_true.1 ha
  exact karamata (row_pos h1) h2 (evenIs_true.1 h).2.2 h4 (at_true.1 hb).2.2.2
/-- P68. -/
theorem meet_law {a b out : List Int} (h : meetM a b = some out) : meetM b a = some out ∧ (∀ k, k + 1 < out.length → out.getD (k + 1) 0 ≤ out.getD k 0) ∧ evenIsB out a = true ∧ evenIsB out b = true := by
  unfold meetM at h
  by_cases c : (twoB a b && decide (sumL a = sumL b)) = true
  · rw [if_pos c] at h
    rw [Bool.and_eq_true, decide_eq_true_iff] at c
    obtain ⟨p1, p2, p3⟩ := twoB_true c.1
    obtain ⟨q1, q2⟩ := doneM_some h
    obtain ⟨e1, e2⟩ := meet_ev p3 c.2
    refine ⟨?_, fun k hk => ?_, evenIs_true.2 ⟨q1, p1, q2 ▸ e1⟩, evenIs_true.2 ⟨q1, p2, q2 ▸ e2⟩⟩
    · unfold meetM
      rw [if_pos (by rw [Bool.and_eq_true, decide_eq_true_iff]; exact ⟨by unfold twoB; simp [p1, p2, p3], c.2.symm⟩), ← meet_turn p3]
      exact h
    · rw [← q2] at hk ⊢
      exact meet_falls p3 (by rwa [meet_len] at hk)
  · rw [if_neg c] at h; cases h
end Go.Proofs.Ytfkmnlhmldjieaa

namespace Go.Proofs.Ytfkmnlhmldjieaa
open Go.RowKit

theorem dn_getD {X : List Int} (h : Dn X) {i j : Nat} (hij : i ≤ j) (hj : j < X.length) : X.getD j 0 ≤ X.getD i 0 := by
  have p := dn_pairs.1 h
  rw [List.pairwise_iff_getElem] at p
  rcases Nat.lt_or_ge i j with c | c
  · have := p i j (by omega) hj c
    rwa [getD_in hj, getD_in (by omega)]
  · obtain rfl : i = j := by omega
    exact Int.le_refl _
/-- Levelled rows out of entries of the same values have the same entries. -/
theorem level_vals {a b : List Int} (hp : a.Perm b) {i k i' k' : Nat} (hi : i < a.length) (hk : k < a.length) (hi' : i' < b.length) (hk' : k' < b.length) (h : a.getD k 0 + 2 ≤ a.getD i 0) (e1 : a.getD i 0 = b.getD i' 0) (e2 : a.getD k 0 = b.getD k' 0) :
    downL (levelL a i k) = downL (levelL b i' k') := by
  have h' : b.getD k' 0 + 2 ≤ b.getD i' 0 := by omega
  have l : (levelL a i k).length = (levelL b i' k').length := by rw [level_len, level_len, hp.length_eq]
  have s : sumL (levelL a i k) = sumL (levelL b i' k') := by rw [level_sum hi hk (level_ne h), level_sum hi' hk' (level_ne h'), sumL_perm hp]
  have c : ∀ c, abvL c (levelL a i k) = abvL c (levelL b i' k') := fun c => by
    rw [level_abv c hi hk (level_ne h), level_abv c hi' hk' (level_ne h'), abv_perm c hp, e1, e2]
  exact Ev.anti ⟨l, s, fun d => by rw [c d]; exact Int.le_refl _⟩ ⟨l.symm, s.symm, fun d => by rw [c d]; exact Int.le_refl _⟩
theorem perm_at {a b : List Int} (hp : a.Perm b) {i : Nat} (hi : i < a.length) : ∃ j, j < b.length ∧ b.getD j 0 = a.getD i 0 := by
  have hm : a[i] ∈ b := hp.mem_iff.1 (List.getElem_mem hi)
  obtain ⟨j, hj, e⟩ := List.getElem_of_mem hm
  exact ⟨j, hj, by rw [getD_in hj, getD_in hi, e]⟩
theorem levels_perm {a b z : List Int} (hp : a.Perm b) : (∃ i k, i < a.length ∧ k < a.length ∧ LevOf a i k z) → ∃ i k, i < b.length ∧ k < b.length ∧ LevOf b i k z := by
  rintro ⟨i, k, hi, hk, h, rfl⟩
  obtain ⟨i', hi', e1⟩ := perm_at hp hi
  obtain ⟨k', hk', e2⟩ := perm_at hp hk
  exact ⟨i', k', hi', hk', by omega, level_vals hp hi hk hi' hk' h e1.symm e2.symm⟩
theorem bef_at : ∀ {l m : List Int} {j : Nat}, j < l.length → j < m.length → (∀ i, i < j → l.getD i 0 = m.getD i 0) → l.getD j 0 < m.getD j 0 → befB l m = true
  | x :: l, y :: m, 0, _, _, _, h => by
    have h' : x < y := by simpa using h
    unfold befB
    rw [if_neg (by omega)]
    simpa using h'
  | x :: l, y :: m, j + 1, h1, h2, h3, h => by
    have e : x = y := by simpa using h3 0 (by omega)
    unfold befB
    rw [if_pos e]
    exact bef_at (j := j) (by simpa using h1) (by simpa using h2) (fun i hi => by simpa using h3 (i + 1) (by omega)) (by simpa using h)
  | [], _, _, h1, _, _, _ => by simp at h1
  | _ :: _, [], _, _, h2, _, _ => by simp at h2
/-- May 1 be taken off there? -/
def lastB (X : List Int) (f : Nat) : Bool := decide (¬ (f + 1 < X.length ∧ X.getD (f + 1) 0 = X.getD f 0))
/-- The rows that come when 1 is taken off at f, and put to one of the last d places. -/
def innL (X : List Int) (f : Nat) : Nat → List (List Int)
  | 0 => []
  | d + 1 => innL X f d ++ (if X.getD (X.length - 1 - d - 1) 0 = X.getD (X.length - 1 - d) 0 then [] else [levelL X f (X.length - 1 - d)])
/-- How many of the last places are low enough. -/
def lowD (X : List Int) (f : Nat) : Nat → Nat
  | 0 => 0
  | n + 1 => if X.getD n 0 + 2 ≤ X.getD f 0 then lowD X f n + 1 else 0
theorem innL_mem (X : List Int) (f : Nat) : ∀ d z, d ≤ X.length → (z ∈ innL X f d ↔ ∃ t, X.length - d ≤ t ∧ t < X.length ∧ X.getD (t - 1) 0 ≠ X.getD t 0 ∧ z = levelL X f t)
  | 0, z, _ => ⟨fun h => by simp [innL] at h, fun ⟨t, h1, h2, _⟩ => by omega⟩
  | d + 1, z, hd => by
    have ih := innL_mem X f d z (by omega)
    have e1 : X.length - 1 - d - 1 = X.length - (d + 1) - 1 := by omega
    have e2 : X.length - 1 - d = X.length - (d + 1) := by omega
    unfold innL
    rw [List.mem_append, ih, e1, e2]
    constructor
    · rintro (⟨t, h1, h2, h3, h4⟩ | h)
      · exact ⟨t, by omega, h2, h3, h4⟩
      · split at h
        · simp at h
        · rename_i c
          exact ⟨X.length - (d + 1), Nat.le_refl _, by omega, c, by simpa using h⟩
    · rintro ⟨t, h1, h2, h3, h4⟩
      by_cases c : t = X.length - (d + 1)
      · subst c
        refine .inr ?_
        rw [if_neg h3]
        simpa using h4
      · exact .inl ⟨t, by omega, h2, h3, h4⟩
theorem innL_asc {X : List Int} {f : Nat} : ∀ d, d ≤ X.length → f < X.length - d → AscB (innL X f d)
  | 0, _, _ => List.Pairwise.nil
  | d + 1, hd, hf => by
    have ih := innL_asc (X := X) (f := f) d (by omega) (by omega)
    have e2 : X.length - 1 - d = X.length - (d + 1) := by omega
    unfold innL
    refine List.pairwise_append.2 ⟨ih, ?_, ?_⟩
    · split
      · exact List.Pairwise.nil
      · exact List.pairwise_singleton _ _
    · intro x hx y hy
      split at hy
      · simp at hy
      · obtain rfl : y = levelL X f (X.length - (d + 1)) := by rw [e2] at hy; simpa using hy
        obtain ⟨t, h1, h2, -, rfl⟩ := (innL_mem X f d x (by omega)).1 hx
        refine bef_at (j := X.length - (d + 1)) (by rw [level_len]; omega) (by rw [level_len]; omega) (fun i hi => ?_) ?_
        · rw [level_getD (by omega) (by omega), level_getD (by omega) (by omega)]
          simp only [if_neg (show ¬ i = t by omega), if_neg (show ¬ i = X.length - (d + 1) by omega)]
        · rw [level_getD (by omega) (by omega), level_getD (by omega) (by omega), if_neg (by omega), if_neg (by omega), if_pos rfl]
          omega
theorem lowD_spec (X : List Int) (f : Nat) : ∀ n, lowD X f n ≤ n ∧ (∀ t, n - lowD X f n ≤ t → t < n → X.getD t 0 + 2 ≤ X.getD f 0) ∧ (lowD X f n < n → ¬ X.getD (n - lowD X f n - 1) 0 + 2 ≤ X.getD f 0)
  | 0 => ⟨Nat.le_refl _, fun t _ h => by omega, fun h => by omega⟩
  | n + 1 => by
    obtain ⟨h1, h2, h3⟩ := lowD_spec X f n
    unfold lowD
    split
    · rename_i c
      refine ⟨by omega, fun t h4 h5 => ?_, fun h4 => ?_⟩
      · by_cases e : t = n
        · subst e; exact c
        · exact h2 t (by omega) (by omega)
      · rw [show n + 1 - (lowD X f n + 1) - 1 = n - lowD X f n - 1 by omega]
        exact h3 (by omega)
    · rename_i c
      exact ⟨by omega, fun t h4 h5 => by omega, fun _ => by simpa using c⟩
/-- What the loop reckons at a place where 1 may be taken off: as long as places are low enough. -/
def rowsAt (X : List Int) (f : Nat) : List (List Int) := if lastB X f then innL X f (lowD X f X.length) else []
def rowsTo (X : List Int) : Nat → List (List Int)
  | 0 => []
  | k + 1 => rowsTo X k ++ rowsAt X k
theorem low_front {X : List Int} {f : Nat} (hf : f < X.length) : f < X.length - lowD X f X.length := by
  obtain ⟨h1, h2, -⟩ := lowD_spec X f X.length
  rcases Nat.lt_or_ge f (X.length - lowD X f X.length) with c | c
  · exact c
  · have := h2 f c hf; omega
theorem low_all {X : List Int} (hX : Dn X) {f t : Nat} (hf : f < X.length) (h : X.getD t 0 + 2 ≤ X.getD f 0) : X.length - lowD X f X.length ≤ t := by
  obtain ⟨h1, h2, h3⟩ := lowD_spec X f X.length
  rcases Nat.lt_or_ge t (X.length - lowD X f X.length) with c | c
  · have g := h3 (by omega)
    have := dn_getD hX (i := t) (j := X.length - lowD X f X.length - 1) (by omega) (by omega)
    omega
  · exact c
theorem rowsAt_mem {X : List Int} {f : Nat} {z : List Int} : z ∈ rowsAt X f ↔ lastB X f = true ∧ ∃ t, X.length - lowD X f X.length ≤ t ∧ t < X.length ∧ X.getD (t - 1) 0 ≠ X.getD t 0 ∧ z = levelL X f t := by
  unfold rowsAt
  split
  · rename_i c
    rw [innL_mem X f _ z (lowD_spec X f X.length).1]
    exact ⟨fun h => ⟨c, h⟩, fun h => h.2⟩
  · rename_i c
    exact ⟨fun h => by simp at h, fun h => absurd h.1 c⟩
theorem rowsTo_mem {X z : List Int} : ∀ n, z ∈ rowsTo X n ↔ ∃ f, f < n ∧ z ∈ rowsAt X f
  | 0 => ⟨fun h => by simp [rowsTo] at h, fun ⟨f, h, _⟩ => by omega⟩
  | n + 1 => by
    unfold rowsTo
    rw [List.mem_append, rowsTo_mem n]
    constructor
    · rintro (⟨f, h1, h2⟩ | h)
      · exact ⟨f, by omega, h2⟩
      · exact ⟨n, by omega, h⟩
    · rintro ⟨f, h1, h2⟩
      by_cases e : f = n
      · subst e; exact .inr h2
      · exact .inl ⟨f, by omega, h2⟩
theorem rowsTo_asc {X : List Int} : ∀ n, n ≤ X.length → AscB (rowsTo X n)
  | 0, _ => List.Pairwise.nil
  | n + 1, hn => by
    unfold rowsTo
    refine List.pairwise_append.2 ⟨rowsTo_asc n (by omega), ?_, ?_⟩
    · unfold rowsAt
      split
      · exact innL_asc _ (lowD_spec X n X.length).1 (low_front (by omega))
      · exact List.Pairwise.nil
    · intro x hx y hy
      obtain ⟨f, hf, hx⟩ := (rowsTo_mem n).1 hx
      obtain ⟨-, t, h1, h2, -, rfl⟩ := rowsAt_mem.1 hx
      obtain ⟨-, s, h3, h4, -, rfl⟩ := rowsAt_mem.1 hy
      have g1 := low_front (X := X) (f := f) (by omega)
      have g2 := low_front (X := X) (f := n) (by omega)
      refine bef_at (j := f) (by rw [level_len]; omega) (by rw [level_len]; omega) (fun i hi => ?_) ?_
      · rw [level_getD (by omega) (by omega), level_getD (by omega) (by omega), if_neg (by omega), if_neg (by omega), if_neg (by omega), if_neg (by omega)]
      · rw [level_getD (by omega) (by omega), level_getD (by omega) (by omega), if_neg (by omega), if_pos rfl, if_neg (by omega), if_neg (by omega)]
        omega
/-- Levelled so, a row that falls falls still. -/
theorem level_dn {X : List Int} (hX : Dn X) {f t : Nat} (hf : lastB X f = true) (hfl : f < X.length) (htl : t < X.length) (ht : X.getD (t - 1) 0 ≠ X.getD t 0) (h : X.getD t 0 + 2 ≤ X.getD f 0) : Dn (levelL X f t) := by
  have hft : f < t := by
    rcases Nat.lt_or_ge f t with c | c
    · exact c
    · have := dn_getD hX c hfl; omega
  refine dn_steps fun k hk => ?_
  rw [level_len] at hk
  rw [level_getD hfl htl, level_getD hfl htl]
  have g := dn_getD hX (i := k) (j := k + 1) (by omega) hk
  have hf' : ¬ (f + 1 < X.length ∧ X.getD (f + 1) 0 = X.getD f 0) := of_decide_eq_true hf
  by_cases c1 : k + 1 = t
  · rw [if_pos c1, if_neg (show ¬ k = t by omega)]
    have e : X.getD (t - 1) 0 = X.getD k 0 := by rw [show t - 1 = k by omega]
    by_cases c2 : k = f
    · rw [if_pos c2]
      omega
    · rw [if_neg c2]
      rw [c1] at g
      omega
  · rw [if_neg c1]
    by_cases c2 : k + 1 = f
    · rw [if_pos c2, if_neg (show ¬ k = t by omega), if_neg (show ¬ k = f by omega)]
      rw [c2] at g
      omega
    · rw [if_neg c2]
      by_cases c3 : k = t
      · rw [if_pos c3]; rw [c3] at g ⊢; omega
      · rw [if_neg c3]
        by_cases c4 : k = f
        · rw [if_pos c4]
          have h9 : ¬ X.getD (k + 1) 0 = X.getD f 0 := fun e => hf' ⟨by omega, by rw [c4] at e; exact e⟩
          rw [c4] at g h9 ⊢
          omega
        · rw [if_neg c4]; exact g
/-- The last place with the value of the entry at i. -/
theorem last_at {X : List Int} : ∀ (d i : Nat), X.length - i ≤ d → i < X.length → ∃ f, f < X.length ∧ X.getD f 0 = X.getD i 0 ∧ lastB X f = true := by
  intro d
  induction d with
  | zero => intro i h1 h2; omega
  | succ d ih =>
    intro i h1 h2
    cases c : lastB X i with
    | true => exact ⟨i, h2, rfl, c⟩
    | false =>
      obtain ⟨c1, c2⟩ : i + 1 < X.length ∧ X.getD (i + 1) 0 = X.getD i 0 := by simpa [lastB] using c
      obtain ⟨f, g1, g2, g3⟩ := ih (i + 1) (by omega) c1
      exact ⟨f, g1, g2.trans c2, g3⟩
/-- The first one: and there is a greater entry ahead of it. -/
theorem first_at {X : List Int} : ∀ (k i : Nat), k < X.length → X.getD k 0 < X.getD i 0 → i < k → ∃ t, t < X.length ∧ X.getD t 0 = X.getD k 0 ∧ X.getD (t - 1) 0 ≠ X.getD t 0 := by
  intro k
  induction k with
  | zero => intro i _ _ h; omega
  | succ k ih =>
    intro i h1 h2 h3
    by_cases c : X.getD k 0 = X.getD (k + 1) 0
    · have hik : i ≠ k := fun e => by rw [e] at h2; omega
      obtain ⟨t, g1, g2, g3⟩ := ih i (by omega) (by omega) (by omega)
      exact ⟨t, g1, g2.trans c, g3⟩
    · exact ⟨k + 1, h1, rfl, c⟩
/-- THE PROGRAM'S LIST. -/
theorem rows_levels (a : List Int) : rowsTo (downL a) a.length = levelsL a := by
  have hX := down_dn a
  have hp := down_perm a
  have hl := down_len a
  refine asc_uniq (rowsTo_asc _ (by rw [hl]; exact Nat.le_refl _)) (levels_asc a) fun z => ?_
  rw [rowsTo_mem, levels_mem]
  constructor
  · rintro ⟨f, hf, hz⟩
    obtain ⟨h1, t, h2, h3, h4, rfl⟩ := rowsAt_mem.1 hz
    have hfl : f < (downL a).length := by omega
    have hlow := (lowD_spec (downL a) f (downL a).length).2.1 t h2 h3
    exact levels_perm hp ⟨f, t, hfl, h3, hlow, (down_self (level_dn hX h1 hfl h3 h4 hlow)).symm⟩
  · intro h
    obtain ⟨i, k, hi, hk, h1, rfl⟩ := levels_perm hp.symm h
    obtain ⟨f, f1, f2, f3⟩ := last_at _ i (Nat.le_refl _) hi
    have hik : i < k := by
      rcases Nat.lt_or_ge i k with c | c
      · exact c
      · have := dn_getD hX c hi; omega
    obtain ⟨t, t1, t2, t3⟩ := first_at k i hk (by omega) hik
    have hlow : (downL a).getD t 0 + 2 ≤ (downL a).getD f 0 := by omega
    refine ⟨f, by omega, rowsAt_mem.2 ⟨f3, t, low_all hX f1 hlow, t1, t3, ?_⟩⟩
    rw [level_vals (List.Perm.refl _) hi hk f1 t1 h1 f2.symm t2.symm]
    exact down_self (level_dn hX f3 f1 t1 t3 hlow)
end Go.Proofs.Ytfkmnlhmldjieaa
