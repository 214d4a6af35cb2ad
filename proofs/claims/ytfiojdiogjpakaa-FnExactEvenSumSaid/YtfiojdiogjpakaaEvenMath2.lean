/-
  Rows that are more even, second part: ends, sums of bent rows, meets, levelled rows in order, what the functions answer. No program here. Conditions: none.
-/
import Derived.Test.YtfiojdiogjpakaaEvenMath
namespace Go.Proofs.Ytfiojdiogjpakaa
open Go.RowKit

/- Ends. -/
theorem ev_high {m a : List Int} (h : Ev m a) {u : Int} (ha : ∀ x, x ∈ a → x ≤ u) : ∀ x, x ∈ m → x ≤ u := by
  intro x hx
  have z := abv_high (c := u) ha
  have p := h.2.2 u
  have q := abv_mem u hx
  omega
theorem ev_low {m a : List Int} (h : Ev m a) {u : Int} (ha : ∀ x, x ∈ a → u ≤ x) : ∀ x, x ∈ m → u ≤ x := by
  intro x hx
  have z := abv_low (c := u) ha
  have p := h.2.2 u
  obtain ⟨k, hk, rfl⟩ := List.getElem_of_mem hx
  rcases Int.lt_or_le m[k] u with c | c
  · have := abv_one u hk (by rw [getD_in hk]; omega)
    rw [getD_in hk, h.2.1, h.1] at this
    omega
  · exact c
theorem ev_row {m a : List Int} (h : Ev m a) (ha : rowB a = true) : rowB m = true := by
  obtain ⟨h1, h2⟩ := rowB_true.1 ha
  refine rowB_true.2 ⟨fun x hx => ⟨ev_low h (fun y hy => (h1 y hy).1) x hx, ev_high h (fun y hy => (h1 y hy).2) x hx⟩, by rw [h.1]; exact h2⟩
theorem asc_getD (a : List Int) {i : Nat} (hi : i < a.length) : (ascL a).getD i 0 = (downL a).getD (a.length - 1 - i) 0 := by
  rw [asc_rev, List.getD_eq_getElem?_getD, List.getElem?_reverse (by rw [down_len]; exact hi), down_len, ← List.getD_eq_getElem?_getD]
theorem take_one {l : List Int} (h : 0 < l.length) : sumL (l.take 1) = l.getD 0 0 := by
  cases l with
  | nil => simp at h
  | cons x l => simp [sumL]
theorem take_next (l : List Int) {k : Nat} (hk : k < l.length) : sumL (l.take (k + 1)) = sumL (l.take k) + l.getD k 0 := by
  rw [← take_snoc l k hk, sumL_append, getD_in hk]; simp [sumL]
theorem down_sum (a : List Int) : sumL ((downL a).take a.length) = sumL a := by
  rw [List.take_of_length_le (by rw [down_len]; exact Nat.le_refl _)]; exact sumL_perm (down_perm a)
/-- P62. -/
theorem ev_ends {a b : List Int} (h : Ev a b) (h0 : 0 < a.length) : (ascL a).getD (a.length - 1) 0 ≤ (ascL b).getD (a.length - 1) 0 ∧ (ascL b).getD 0 0 ≤ (ascL a).getD 0 0 := by
  obtain ⟨h1, h2, h3⟩ := h
  have t := ((ev_tops h1).1 ⟨h1, h2, h3⟩).2
  have la := down_len a; have lb := down_len b
  rw [asc_getD a (by omega), asc_getD b (by omega), asc_getD b (by omega), asc_getD a h0]
  rw [show a.length - 1 - (a.length - 1) = 0 by omega, show b.length - 1 - (a.length - 1) = 0 by omega]
  constructor
  · have := t 1 (by omega)
    rwa [take_one (by omega), take_one (by omega)] at this
  · have p := t (a.length - 1) (by omega)
    have ea := take_next (downL a) (k := a.length - 1) (by omega)
    have eb := take_next (downL b) (k := a.length - 1) (by omega)
    rw [show a.length - 1 + 1 = a.length by omega] at ea eb
    have sa := down_sum a
    have sb := down_sum b
    rw [← h1] at sb
    rw [Nat.sub_zero, Nat.sub_zero, ← h1]
    omega

/- Sums of bent rows. -/
def sumAt (f : List Int) : List Int → Int
  | [] => 0
  | x :: l => f.getD x.toNat 0 + sumAt f l
theorem sumAt_perm (f : List Int) {l m : List Int} (h : l.Perm m) : sumAt f l = sumAt f m := by
  induction h with
  | nil => rfl
  | cons x _ ih => simp only [sumAt]; rw [ih]
  | swap x y l => simp only [sumAt]; omega
  | trans _ _ ih1 ih2 => rw [ih1, ih2]
/-- How much a bent row bends. -/
def bendAt (f : List Int) (j : Nat) : Int := f.getD (j + 2) 0 - f.getD (j + 1) 0 - (f.getD (j + 1) 0 - f.getD j 0)
theorem hinge_next (d : Nat → Int) (M x : Nat) (hx : x ≤ M) : sumN (fun j => d j * max 0 (((x + 1 : Nat) : Int) - ((j : Int) + 1))) M = sumN (fun j => d j * max 0 ((x : Int) - ((j : Int) + 1))) M + sumN d x := by
  induction M with
  | zero => have : x = 0 := by omega
            subst this; simp [sumN]
  | succ M ih =>
    show sumN _ M + d M * max 0 (((x + 1 : Nat) : Int) - ((M : Int) + 1)) = sumN _ M + d M * max 0 ((x : Int) - ((M : Int) + 1)) + sumN d x
    by_cases e : x ≤ M
    · rw [ih e, show max 0 (((x + 1 : Nat) : Int) - ((M : Int) + 1)) = 0 by omega, show max 0 ((x : Int) - ((M : Int) + 1)) = 0 by omega]; simp
    · have ex : x = M + 1 := by omega
      subst ex
      have all : ∀ m : Nat, m ≤ M + 1 → sumN (fun j => d j * max 0 (((M + 1 + 1 : Nat) : Int) - ((j : Int) + 1))) m = sumN (fun j => d j * max 0 (((M + 1 : Nat) : Int) - ((j : Int) + 1))) m + sumN d m := by
        intro m hm
        rw [← sumN_add]
        refine sumN_congr fun j hj => ?_
        rw [show max 0 (((M + 1 + 1 : Nat) : Int) - ((j : Int) + 1)) = max 0 (((M + 1 : Nat) : Int) - ((j : Int) + 1)) + 1 by omega, Int.mul_add]; omega
      exact all (M + 1) (Nat.le_refl _)
theorem hinge {f : List Int} (h2 : 2 ≤ f.length) : ∀ x : Nat, x < f.length → f.getD x 0 = f.getD 0 0 + (f.getD 1 0 - f.getD 0 0) * (x : Int) + sumN (fun j => bendAt f j * max 0 ((x : Int) - ((j : Int) + 1))) (f.length - 2) := by
  have tel : ∀ x : Nat, sumN (bendAt f) x = f.getD (x + 1) 0 - f.getD x 0 - (f.getD 1 0 - f.getD 0 0) := by
    intro x
    induction x with
    | zero => simp [sumN]
    | succ x ih => simp only [sumN]; rw [ih, show x + 1 + 1 = x + 2 from rfl]; unfold bendAt; omega
  intro x
  induction x with
  | zero =>
    intro _
    rw [sumN_congr (g := fun _ => 0) fun j _ => by rw [show max 0 (((0 : Nat) : Int) - ((j : Int) + 1)) = 0 by omega]; simp, sumN_zero]; simp
  | succ x ih =>
    intro hx
    rw [hinge_next _ _ x (by omega), tel x]
    have e := ih (by omega)
    have m : (f.getD 1 0 - f.getD 0 0) * ((x + 1 : Nat) : Int) = (f.getD 1 0 - f.getD 0 0) * (x : Int) + (f.getD 1 0 - f.getD 0 0) := by rw [Int.natCast_add]; simp [Int.mul_add]
    rw [m]; omega
theorem sumAt_hinge {f : List Int} (h2 : 2 ≤ f.length) : ∀ {l : List Int}, (∀ x, x ∈ l → 0 ≤ x ∧ x < (f.length : Int)) →
    sumAt f l = f.getD 0 0 * (l.length : Int) + (f.getD 1 0 - f.getD 0 0) * sumL l + sumN (fun j => bendAt f j * abvL ((j : Int) + 1) l) (f.length - 2)
  | [], _ => by
    simp only [sumAt, sumL, abvL, List.length_nil]
    rw [sumN_congr (g := fun _ => 0) fun j _ => by simp, sumN_zero]; simp
  | x :: l, h => by
    have ih := sumAt_hinge h2 (l := l) fun y hy => h y (by simp [hy])
    have hx := h x (by simp)
    have e := hinge h2 x.toNat (by omega)
    have s : sumN (fun j => bendAt f j * abvL ((j : Int) + 1) (x :: l)) (f.length - 2) = sumN (fun j => bendAt f j * max 0 ((x.toNat : Int) - ((j : Int) + 1))) (f.length - 2) + sumN (fun j => bendAt f j * abvL ((j : Int) + 1) l) (f.length - 2) := by
      rw [← sumN_add]
      refine sumN_congr fun j _ => ?_
      simp only [abvL]
      rw [show ((x.toNat : Nat) : Int) = x by omega, Int.mul_add]
    rw [s]
    have m1 : f.getD 0 0 * ((x :: l).length : Int) = f.getD 0 0 * (l.length : Int) + f.getD 0 0 := by rw [List.length_cons, Int.natCast_add]; simp [Int.mul_add]
    have m2 : (f.getD 1 0 - f.getD 0 0) * sumL (x :: l) = (f.getD 1 0 - f.getD 0 0) * x + (f.getD 1 0 - f.getD 0 0) * sumL l := by simp only [sumL]; rw [Int.mul_add]
    rw [m1, m2]
    rw [show ((x.toNat : Nat) : Int) = x by omega] at e ⊢
    simp only [sumAt]
    rw [ih, e]; omega
/-- MORE EVEN PLACES: A LESS SUM OF A BENT ROW. -/
theorem karamata {f a b : List Int} (hf : 0 < f.length) (hb : bentB f = true) (h : Ev a b) (ra : ∀ x, x ∈ a → 0 ≤ x ∧ x < (f.length : Int)) (rb : ∀ x, x ∈ b → 0 ≤ x ∧ x < (f.length : Int)) : sumAt f a ≤ sumAt f b := by
  by_cases h2 : 2 ≤ f.length
  · rw [sumAt_hinge h2 ra, sumAt_hinge h2 rb, h.1, h.2.1]
    have : sumN (fun j => bendAt f j * abvL ((j : Int) + 1) a) (f.length - 2) ≤ sumN (fun j => bendAt f j * abvL ((j : Int) + 1) b) (f.length - 2) := sumN_le' fun j hj => by
      have := (bentB_iff f).1 hb j (by omega)
      exact Int.mul_le_mul_of_nonneg_left (h.2.2 _) (by unfold bendAt; omega)
    omega
  · have all : ∀ l : List Int, (∀ x, x ∈ l → 0 ≤ x ∧ x < (f.length : Int)) → sumAt f l = f.getD 0 0 * (l.length : Int) := by
      intro l
      induction l with
      | nil => intro _; simp [sumAt]
      | cons x l ih =>
        intro hl
        have hx := hl x (by simp)
        have e : x.toNat = 0 := by omega
        simp only [sumAt]
        rw [ih fun y hy => hl y (by simp [hy]), e, List.length_cons, Int.natCast_add]
        simp [Int.mul_add]; omega
    rw [all a ra, all b rb, h.1]; exact Int.le_refl _

/- Meets. -/
def topS (a : List Int) (k : Nat) : Int := sumL ((downL a).take k)
def meetTo (a b : List Int) (k : Nat) : Int := min (topS a k) (topS b k)
def meetL (a b : List Int) : List Int := (List.range a.length).map fun k => meetTo a b (k + 1) - meetTo a b k
theorem meet_len (a b : List Int) : (meetL a b).length = a.length := by simp [meetL]
theorem meet_getD (a b : List Int) {k : Nat} (hk : k < a.length) : (meetL a b).getD k 0 = meetTo a b (k + 1) - meetTo a b k := by simp [meetL, List.getD, hk]
theorem topS_zero (a : List Int) : topS a 0 = 0 := by simp [topS, sumL]
theorem topS_all (a : List Int) : topS a a.length = sumL a := down_sum a
theorem topS_next {a : List Int} {k : Nat} (hk : k < a.length) : topS a (k + 1) = topS a k + (downL a).getD k 0 := take_next _ (by rw [down_len]; exact hk)
theorem down_getD {a : List Int} {k : Nat} (hk : k + 1 < a.length) : (downL a).getD (k + 1) 0 ≤ (downL a).getD k 0 := by
  have p := dn_pairs.1 (down_dn a)
  rw [List.pairwise_iff_getElem] at p
  rw [getD_in (by rw [down_len]; omega), getD_in (by rw [down_len]; omega)]
  exact p k (k + 1) _ _ (by omega)
theorem meet_turn {a b : List Int} (hl : a.length = b.length) : meetL a b = meetL b a := by
  unfold meetL meetTo
  rw [hl]
  refine List.map_congr_left fun k _ => ?_
  omega
theorem meet_falls {a b : List Int} (hl : a.length = b.length) {k : Nat} (hk : k + 1 < a.length) : (meetL a b).getD (k + 1) 0 ≤ (meetL a b).getD k 0 := by
  rw [meet_getD a b hk, meet_getD a b (by omega)]
  have a1 := topS_next (a := a) (k := k) (by omega); have a2 := topS_next (a := a) (k := k + 1) hk
  have b1 := topS_next (a := b) (k := k) (by omega); have b2 := topS_next (a := b) (k := k + 1) (by omega)
  have a3 := down_getD hk
  have b3 := down_getD (a := b) (k := k) (by omega)
  unfold meetTo
  omega
theorem dn_steps {l : List Int} (h : ∀ k, k + 1 < l.length → l.getD (k + 1) 0 ≤ l.getD k 0) : Dn l := by
  rw [dn_pairs, List.pairwise_iff_getElem]
  have far : ∀ d i : Nat, i + d < l.length → l.getD (i + d) 0 ≤ l.getD i 0 := by
    intro d
    induction d with
    | zero => intro i _; exact Int.le_refl _
    | succ d ih => intro i hi; have := h (i + d) (by omega); have := ih i (by omega); rw [show i + (d + 1) = i + d + 1 by omega]; omega
  intro i j hi hj hij
  have := far (j - i) i (by omega)
  rw [show i + (j - i) = j by omega, getD_in hj, getD_in hi] at this
  exact this
theorem meet_dn {a b : List Int} (hl : a.length = b.length) : Dn (meetL a b) := dn_steps fun k hk => meet_falls hl (by rwa [meet_len] at hk)
theorem meet_take (a b : List Int) : ∀ k, k ≤ a.length → sumL ((meetL a b).take k) = meetTo a b k
  | 0, _ => by simp [sumL, meetTo, topS_zero]
  | k + 1, h => by
    rw [take_next _ (by rw [meet_len]; omega), meet_take a b k (by omega), meet_getD a b (by omega)]; omega
theorem meet_sum {a b : List Int} (hl : a.length = b.length) (hs : sumL a = sumL b) : sumL (meetL a b) = sumL a := by
  have := meet_take a b a.length (Nat.le_refl _)
  rw [List.take_of_length_le (by rw [meet_len]; exact Nat.le_refl _)] at this
  rw [this]
  unfold meetTo
  rw [topS_all a, hl, topS_all b, hs]; omega
theorem meet_ev {a b : List Int} (hl : a.length = b.length) (hs : sumL a = sumL b) : Ev (meetL a b) a ∧ Ev (meetL a b) b := by
  have hd := down_self (meet_dn hl)
  constructor
  · refine (ev_tops (meet_len a b)).2 ⟨meet_sum hl hs, fun k hk => ?_⟩
    rw [meet_len] at hk
    rw [hd, meet_take a b k hk]
    unfold meetTo topS; omega
  · refine (ev_tops ((meet_len a b).trans hl)).2 ⟨(meet_sum hl hs).trans hs, fun k hk => ?_⟩
    rw [meet_len] at hk
    rw [hd, meet_take a b k hk]
    unfold meetTo topS; omega

/- Lists in order, each once. -/
def befB : List Int → List Int → Bool
  | x :: l, y :: m => if x = y then befB l m else decide (x < y)
  | _, _ => false
theorem bef_irr : ∀ l : List Int, befB l l = false
  | [] => rfl
  | x :: l => by unfold befB; rw [if_pos rfl]; exact bef_irr l
theorem bef_trans : ∀ {l m n : List Int}, befB l m = true → befB m n = true → befB l n = true
  | x :: l, y :: m, z :: n, h, h' => by
    unfold befB at h h' ⊢
    by_cases e : x = y
    · subst e
      rw [if_pos rfl] at h
      by_cases e2 : x = z
      · subst e2
        rw [if_pos rfl] at h' ⊢
        exact bef_trans h h'
      · rw [if_neg e2] at h' ⊢; exact h'
    · rw [if_neg e] at h
      have h1 : x < y := by simpa using h
      by_cases e2 : y = z
      · subst e2; rw [if_neg e]; exact h
      · rw [if_neg e2] at h'
        have h2 : y < z := by simpa using h'
        rw [if_neg (by omega)]; simp; omega
  | [], _, _, h, _ => by simp [befB] at h
  | _ :: _, [], _, h, _ => by simp [befB] at h
  | _ :: _, _ :: _, [], _, h' => by simp [befB] at h'
theorem bef_total : ∀ {l m : List Int}, l.length = m.length → befB l m = false → befB m l = false → l = m
  | [], [], _, _, _ => rfl
  | x :: l, y :: m, hl, h, h' => by
    unfold befB at h h'
    by_cases e : x = y
    · subst e
      rw [if_pos rfl] at h h'
      rw [bef_total (by simpa using hl) h h']
    · rw [if_neg e] at h
      rw [if_neg (Ne.symm e)] at h'
      simp at h h'; omega
  | [], _ :: _, hl, _, _ => by simp at hl
  | _ :: _, [], hl, _, _ => by simp at hl
def AscB (L : List (List Int)) : Prop := L.Pairwise fun x y => befB x y = true
theorem asc_uniq : ∀ {L M : List (List Int)}, AscB L → AscB M → (∀ x, x ∈ L ↔ x ∈ M) → L = M
  | [], [], _, _, _ => rfl
  | [], y :: M, _, _, h => by have := (h y).2 (by simp); simp at this
  | x :: L, [], _, _, h => by have := (h x).1 (by simp); simp at this
  | x :: L, y :: M, hL, hM, h => by
    obtain ⟨l1, l2⟩ := List.pairwise_cons.1 hL
    obtain ⟨m1, m2⟩ := List.pairwise_cons.1 hM
    have e : x = y := by
      rcases List.mem_cons.1 ((h x).1 (by simp)) with e | hx
      · exact e
      · rcases List.mem_cons.1 ((h y).2 (by simp)) with e | hy
        · exact e.symm
        · have := bef_trans (l1 y hy) (m1 x hx)
          rw [bef_irr] at this; cases this
    subst e
    rw [asc_uniq l2 m2 fun z => ?_]
    constructor
    · intro hz
      rcases List.mem_cons.1 ((h z).1 (List.mem_cons_of_mem _ hz)) with e | h2
      · subst e; have := l1 z hz; rw [bef_irr] at this; cases this
      · exact h2
    · intro hz
      rcases List.mem_cons.1 ((h z).2 (List.mem_cons_of_mem _ hz)) with e | h2
      · subst e; have := m1 z hz; rw [bef_irr] at this; cases this
      · exact h2
/-- The place ahead of which a list is put. -/
def putAt (L : List (List Int)) (a : List Int) : Nat → Nat
  | 0 => 0
  | k + 1 => if befB a (L.getD k []) then putAt L a k else k + 1
def putL (L : List (List Int)) (a : List Int) : List (List Int) :=
  if 0 < putAt L a L.length ∧ befB (L.getD (putAt L a L.length - 1) []) a = false then L else L.take (putAt L a L.length) ++ [a] ++ L.drop (putAt L a L.length)
theorem putAt_spec (L : List (List Int)) (a : List Int) : ∀ n, putAt L a n ≤ n ∧ (∀ j, putAt L a n ≤ j → j < n → befB a (L.getD j []) = true) ∧ (0 < putAt L a n → befB a (L.getD (putAt L a n - 1) []) = false)
  | 0 => ⟨Nat.le_refl _, fun j _ h => by omega, fun h => by simp [putAt] at h⟩
  | k + 1 => by
    obtain ⟨h1, h2, h3⟩ := putAt_spec L a k
    unfold putAt
    cases c : befB a (L.getD k []) with
    | true =>
      simp only [if_true]
      refine ⟨by omega, fun j h4 h5 => ?_, h3⟩
      by_cases e : j = k
      · subst e; exact c
      · exact h2 j h4 (by omega)
    | false =>
      simp only [Bool.false_eq_true, if_false]
      exact ⟨Nat.le_refl _, fun j h4 h5 => by omega, fun _ => by simpa using c⟩
theorem put_mem {L : List (List Int)} {a : List Int} (hl : ∀ x, x ∈ L → x.length = a.length) (z : List Int) : z ∈ putL L a ↔ z ∈ L ∨ z = a := by
  obtain ⟨h1, h2, h3⟩ := putAt_spec L a L.length
  unfold putL
  split
  · rename_i c
    constructor
    · exact fun h => .inl h
    · rintro (h | rfl)
      · exact h
      · have hk : putAt L z L.length - 1 < L.length := by omega
        have g : L.getD (putAt L z L.length - 1) [] = L[putAt L z L.length - 1] := by rw [List.getD_eq_getElem?_getD, List.getElem?_eq_getElem hk]; rfl
        have e := bef_total (l := L.getD (putAt L z L.length - 1) []) (m := z) (by rw [g]; exact hl _ (List.getElem_mem hk)) c.2 (h3 c.1)
        rw [← e, g]; exact List.getElem_mem hk
  · simp only [List.mem_append, List.mem_singleton]
    constructor
    · rintro ((h | h) | h)
      · exact .inl (List.mem_of_mem_take h)
      · exact .inr h
      · exact .inl (List.mem_of_mem_drop h)
    · rintro (h | h)
      · rw [← List.take_append_drop (putAt L a L.length) L, List.mem_append] at h
        rcases h with h | h
        · exact .inl (.inl h)
        · exact .inr h
      · exact .inl (.inr h)
theorem put_asc {L : List (List Int)} {a : List Int} (hl : ∀ x, x ∈ L → x.length = a.length) (hL : AscB L) : AscB (putL L a) := by
  obtain ⟨h1, h2, h3⟩ := putAt_spec L a L.length
  unfold putL
  split
  · exact hL
  · rename_i c
    generalize putAt L a L.length = k at h1 h2 h3 c
    have hg : ∀ j (hj : j < L.length), L.getD j [] = L[j] := fun j hj => by rw [List.getD_eq_getElem?_getD, List.getElem?_eq_getElem hj]; rfl
    have ord := List.pairwise_iff_getElem.1 hL
    have up : ∀ x, x ∈ L.take k → befB x a = true := by
      intro x hx
      obtain ⟨j, hj, rfl⟩ := List.getElem_of_mem hx
      rw [List.length_take] at hj
      rw [List.getElem_take]
      have hk : 0 < k := by omega
      have last : befB (L.getD (k - 1) []) a = true := by
        cases e : befB (L.getD (k - 1) []) a with
        | true => rfl
        | false => exact absurd ⟨hk, e⟩ c
      rw [hg (k - 1) (by omega)] at last
      by_cases e : j = k - 1
      · subst e; exact last
      · exact bef_trans (ord j (k - 1) (by omega) (by omega) (by omega)) last
    have dn : ∀ x, x ∈ L.drop k → befB a x = true := by
      intro x hx
      obtain ⟨j, hj, rfl⟩ := List.getElem_of_mem hx
      rw [List.length_drop] at hj
      rw [List.getElem_drop]
      have := h2 (k + j) (by omega) (by omega)
      rwa [hg (k + j) (by omega)] at this
    have lr : ∀ x, x ∈ L.take k → ∀ y, y ∈ L.drop k → befB x y = true := fun x hx y hy => bef_trans (up x hx) (dn y hy)
    unfold AscB
    rw [List.pairwise_append, List.pairwise_append]
    refine ⟨⟨hL.sublist (List.take_sublist k L), List.pairwise_singleton _ _, fun x hx y hy => ?_⟩, hL.sublist (List.drop_sublist k L), fun x hx y hy => ?_⟩
    · obtain rfl := List.mem_singleton.1 hy; exact up x hx
    · rcases List.mem_append.1 hx with hx | hx
      · exact lr x hx y hy
      · obtain rfl := List.mem_singleton.1 hx; exact dn y hy
def levPut (a : List Int) (L : List (List Int)) (i k : Nat) : List (List Int) := if a.getD k 0 + 2 ≤ a.getD i 0 then putL L (downL (levelL a i k)) else L
def levIn (a : List Int) (L : List (List Int)) (i : Nat) : Nat → List (List Int)
  | 0 => L
  | k + 1 => levPut a (levIn a L i k) i k
def levTo (a : List Int) : Nat → List (List Int)
  | 0 => []
  | i + 1 => levIn a (levTo a i) i a.length
def levelsL (a : List Int) : List (List Int) := levTo a a.length
def LevOf (a : List Int) (i k : Nat) (z : List Int) : Prop := a.getD k 0 + 2 ≤ a.getD i 0 ∧ z = downL (levelL a i k)
theorem lev_len {a z : List Int} {i k : Nat} (h : LevOf a i k z) : z.length = a.length := by rw [h.2, down_len, level_len]
theorem levIn_spec (a : List Int) (L : List (List Int)) (i : Nat) (hl : ∀ x, x ∈ L → x.length = a.length) (hL : AscB L) : ∀ n, (∀ z, z ∈ levIn a L i n ↔ z ∈ L ∨ ∃ k, k < n ∧ LevOf a i k z) ∧ AscB (levIn a L i n) := by
  intro n
  induction n with
  | zero => exact ⟨fun z => ⟨fun h => .inl h, fun h => h.elim id (fun ⟨k, h1, _⟩ => by omega)⟩, hL⟩
  | succ n ih =>
    obtain ⟨h1, h2⟩ := ih
    have hlen : ∀ x, x ∈ levIn a L i n → x.length = (downL (levelL a i n)).length := fun x hx => by
      rw [down_len, level_len]
      rcases (h1 x).1 hx with h | ⟨k, -, h⟩
      · exact hl x h
      · exact lev_len h
    show (∀ z, z ∈ levPut a (levIn a L i n) i n ↔ _) ∧ AscB (levPut a (levIn a L i n) i n)
    unfold levPut
    split
    · rename_i c
      refine ⟨fun z => ?_, put_asc hlen h2⟩
      rw [put_mem hlen z, h1 z]
      constructor
      · rintro ((h | ⟨k, h3, h4⟩) | h)
        · exact .inl h
        · exact .inr ⟨k, by omega, h4⟩
        · exact .inr ⟨n, by omega, c, h⟩
      · rintro (h | ⟨k, h3, h4⟩)
        · exact .inl (.inl h)
        · by_cases e : k = n
          · subst e; exact .inr h4.2
          · exact .inl (.inr ⟨k, by omega, h4⟩)
    · rename_i c
      refine ⟨fun z => ?_, h2⟩
      rw [h1 z]
      constructor
      · rintro (h | ⟨k, h3, h4⟩)
        · exact .inl h
        · exact .inr ⟨k, by omega, h4⟩
      · rintro (h | ⟨k, h3, h4⟩)
        · exact .inl h
        · by_cases e : k = n
          · subst e; exact absurd h4.1 c
          · exact .inr ⟨k, by omega, h4⟩
theorem levTo_spec (a : List Int) : ∀ n, (∀ z, z ∈ levTo a n ↔ ∃ i k, i < n ∧ k < a.length ∧ LevOf a i k z) ∧ AscB (levTo a n) := by
  intro n
  induction n with
  | zero => exact ⟨fun z => ⟨fun h => by simp [levTo] at h, fun ⟨i, k, h1, _⟩ => by omega⟩, List.Pairwise.nil⟩
  | succ n ih =>
    obtain ⟨h1, h2⟩ := ih
    obtain ⟨g1, g2⟩ := levIn_spec a (levTo a n) n (fun x hx => by obtain ⟨i, k, -, -, h⟩ := (h1 x).1 hx; exact lev_len h) h2 a.length
    refine ⟨fun z => ?_, g2⟩
    show z ∈ levIn a (levTo a n) n a.length ↔ _
    rw [g1 z, h1 z]
    constructor
    · rintro (⟨i, k, h3, h4, h5⟩ | ⟨k, h3, h4⟩)
      · exact ⟨i, k, by omega, h4, h5⟩
      · exact ⟨n, k, by omega, h3, h4⟩
    · rintro ⟨i, k, h3, h4, h5⟩
      by_cases e : i = n
      · subst e; exact .inr ⟨k, h4, h5⟩
      · exact .inl ⟨i, k, by omega, h4, h5⟩
theorem levels_mem {a z : List Int} : z ∈ levelsL a ↔ ∃ i k, i < a.length ∧ k < a.length ∧ LevOf a i k z := (levTo_spec a a.length).1 z
theorem levels_asc (a : List Int) : AscB (levelsL a) := (levTo_spec a a.length).2
/-- P64. -/
theorem levels_law {a z : List Int} (h : z ∈ levelsL a) : Ev z a ∧ ¬ Ev a z := by
  obtain ⟨i, k, h1, h2, h3, rfl⟩ := levels_mem.1 h
  have p := ev_perm (down_perm (levelL a i k))
  have q := ev_perm (down_perm (levelL a i k)).symm
  have e := level_ev h1 h2 h3
  refine ⟨⟨p.1.trans e.1, p.2.1.trans e.2.1, fun c => Int.le_trans (p.2.2 c) (e.2.2 c)⟩, fun he => level_not h1 h2 h3 ⟨he.1.trans p.1, he.2.1.trans p.2.1, fun c => Int.le_trans (he.2.2 c) (p.2.2 c)⟩⟩
theorem levels_none {a : List Int} (h0 : 0 < a.length) : levelsL a = [] ↔ ascL a = ascL (mostEv a) := by
  have t : ascL a = ascL (mostEv a) ↔ downL a = mostEv a := by
    rw [asc_rev, asc_rev, List.reverse_inj, down_self (most_dn a)]
  rw [t, ← level_none h0]
  constructor
  · intro h i k hi hk
    rcases Int.lt_or_le (a.getD i 0) (a.getD k 0 + 2) with c | c
    · exact c
    · have := levels_mem.2 ⟨i, k, hi, hk, c, rfl⟩
      rw [h] at this; simp at this
  · intro h
    cases e : levelsL a with
    | nil => rfl
    | cons z L =>
      obtain ⟨i, k, h1, h2, h3, -⟩ := levels_mem.1 (show z ∈ levelsL a by rw [e]; simp)
      have := h i k h1 h2; omega
theorem steps_perm {a b : List Int} (h : a.Perm b) : stepsL a = stepsL b := by
  unfold stepsL
  rw [down_same h, h.length_eq, most_same h.length_eq (sumL_perm h)]
theorem steps_none {a : List Int} (h : downL a = mostEv a) : stepsL a = 0 := by
  unfold stepsL
  rw [sumN_congr (g := fun _ => 0) fun i _ => by rw [h]; omega, sumN_zero]
/-- P66. -/
theorem steps_law {a : List Int} (h0 : 0 < a.length) : (levelsL a = [] → stepsL a = 0) ∧ (∀ z, z ∈ levelsL a → stepsL a ≤ stepsL z + 1) ∧ (levelsL a ≠ [] → ∃ z, z ∈ levelsL a ∧ stepsL a = stepsL z + 1) := by
  have t : levelsL a = [] ↔ downL a = mostEv a := by
    rw [levels_none h0, asc_rev, asc_rev, List.reverse_inj, down_self (most_dn a)]
  refine ⟨fun h => steps_none (t.1 h), fun z hz => ?_, fun h => ?_⟩
  · obtain ⟨i, k, h1, h2, h3, rfl⟩ := levels_mem.1 hz
    rw [steps_perm (down_perm _)]
    exact level_steps h1 h2 h3
  · obtain ⟨i, k, h1, h2, h3, h4⟩ := level_best h0 fun e => h (t.2 e)
    exact ⟨_, levels_mem.2 ⟨i, k, h1, h2, h3, rfl⟩, by rw [steps_perm (down_perm _)]; exact h4⟩

/- What the functions answer. -/
def evB (a b : List Int) : Bool := decide (sumL a = sumL b) && (List.range (a.length + 1)).all fun k => decide (sumL ((downL a).take k) ≤ sumL ((downL b).take k))
def evenIsB (a b : List Int) : Bool := twoB a b && evB a b
theorem evB_true {a b : List Int} (hl : a.length = b.length) : evB a b = true ↔ Ev a b := by
  rw [ev_tops hl]
  unfold evB
  rw [Bool.and_eq_true, decide_eq_true_iff, List.all_eq_true]
  constructor
  · rintro ⟨h1, h2⟩
    exact ⟨h1, fun k hk => by have := h2 k (List.mem_range.2 (by omega)); simpa using this⟩
  · rintro ⟨h1, h2⟩
    exact ⟨h1, fun k hk => by simpa using h2 k (by have := List.mem_range.1 hk; omega)⟩
theorem evenIs_true {a b : List Int} : evenIsB a b = true ↔ rowB a = true ∧ rowB b = true ∧ Ev a b := by
  unfold evenIsB
  rw [Bool.and_eq_true]
  constructor
  · rintro ⟨h1, h2⟩
    obtain ⟨p1, p2, p3⟩ := twoB_true h1
    exact ⟨p1, p2, (evB_true p3).1 h2⟩
  · rintro ⟨h1, h2, h3⟩
    exact ⟨by unfold twoB; simp [h1, h2, h3.1], (evB_true h3.1).2 h3⟩
def mostM (a : List Int) : Option (List Int) := if rowB a then some (mostEv a) else none
def stepsV (a : List Int) : Int := if rowB a then stepsL a else 0
def levelsM (a : List Int) : Option (List (List Int)) := if rowB a then some (levelsL a) else none
def atB (f a : List Int) : Bool := rowB f && bentB f && rowB a && a.all fun x => inB 0 ((f.length : Int) - 1) x
def evenSumL (f a : List Int) : Int := if atB f a then sumAt f a else 0
def meetM (a b : List Int) : Option (List Int) := if twoB a b && decide (sumL a = sumL b) then doneM (meetL a b) else none
theorem most_row {a : List Int} (h : rowB a = true) : rowB (mostEv a) = true := ev_row (most_ev (row_pos h)) h
theorem at_true {f a : List Int} : atB f a = true ↔ rowB f = true ∧ bentB f = true ∧ rowB a = true ∧ ∀ x, x ∈ a → 0 ≤ x ∧ x < (f.length : Int) := by
  unfold atB
  rw [Bool.and_eq_true, Bool.and_eq_true, Bool.and_eq_true, List.all_eq_true]
  constructor
  · rintro ⟨⟨⟨h1, h2⟩, h3⟩, h4⟩
    exact ⟨h1, h2, h3, fun x hx => by have := inB_true.1 (h4 x hx); omega⟩
  · rintro ⟨h1, h2, h3, h4⟩
    exact ⟨⟨⟨h1, h2⟩, h3⟩, fun x hx => inB_true.2 (by have := h4 x hx; omega)⟩
/-- P67. -/
theorem sum_law {f a : List Int} (h : atB f a = true) : atB f (mostEv a) = true ∧ sumAt f (mostEv a) ≤ sumAt f a ∧ atB f a.reverse = true ∧ sumAt f a.reverse = sumAt f a := by
  obtain ⟨h1, h2, h3, h4⟩ := at_true.1 h
  have e := most_ev (row_pos h3)
  have r : ∀ x, x ∈ mostEv a → 0 ≤ x ∧ x < (f.length : Int) := fun x hx => by
    have p := ev_low e (u := 0) (fun y hy => (h4 y hy).1) x hx
    have q := ev_high e (u := (f.length : Int) - 1) (fun y hy => by have := (h4 y hy).2; omega) x hx
    omega
  refine ⟨at_true.2 ⟨h1, h2, most_row h3, r⟩, karamata (row_pos h1) h2 e r h4, at_true.2 ⟨h1, h2, rowB_reverse h3, fun x hx => h4 x (by simpa using hx)⟩, sumAt_perm f (List.reverse_perm a)⟩
/-- P63. -/
def squaresL : List Int := (List.range 12).map fun i : Nat => (i : Int) * (i : Int)
theorem karamata_law {a b : List Int} (h : evenIsB a b = true) (ha : atB squaresL a = true) (hb : atB squaresL b = true) : sumAt squaresL a ≤ sumAt squaresL b := by
  obtain ⟨h1, h2, -, h4⟩ := at_true.1 ha
  exact karamata (row_pos h1) h2 (evenIs_true.1 h).2.2 h4 (at_true.1 hb).2.2.2
/-- P68. -/
theorem meet_law {a b out : List Int} (h : meetM a b = some out) : meetM b a = some out ∧ (∀ k, k + 1 < out.length → out.getD (k + 1) 0 ≤ out.getD k 0) ∧ evenIsB out a = true ∧ evenIsB out b = true := by
  unfold meetM at h
  by_cases c : (twoB a b && decide (sumL a = sumL b)) = true
  · rw [if_pos c] at h
    rw [Bool.and_eq_true, decide_eq_true_iff] at c
    obtain ⟨p1, p2, p3⟩ := twoB_true c.1
    obtain ⟨q1, q2⟩ := doneM_some h
    obtain ⟨e1, e2⟩ := meet_ev p3 c.2
    refine ⟨?_, fun k hk => ?_, evenIs_true.2 ⟨q1, p1, q2 ▸ e1⟩, evenIs_true.2 ⟨q1, p2, q2 ▸ e2⟩⟩
    · unfold meetM
      rw [if_pos (by rw [Bool.and_eq_true, decide_eq_true_iff]; exact ⟨by unfold twoB; simp [p1, p2, p3], c.2.symm⟩), ← meet_turn p3]
      exact h
    · rw [← q2] at hk ⊢
      exact meet_falls p3 (by rwa [meet_len] at hk)
  · rw [if_neg c] at h; cases h
end Go.Proofs.Ytfiojdiogjpakaa
