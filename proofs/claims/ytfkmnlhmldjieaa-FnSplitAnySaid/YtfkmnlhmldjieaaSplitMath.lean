/-
  Splitting a row into parts: splits as ways from place to place, least costs, first splits, backwards, one part more, bent costs, any number of parts. No program here. Conditions: none.
-/
import Derived.Test.YtfkmnlhmldjieaaShA
namespace Go.Proofs.Ytfkmnlhmldjieaa
open Go.RowKit

/-- The parts lead from f up to m: each begins where the one ahead of it ended, and ends at the place told. -/
def Seg : Int → List Int → Int → Prop
  | f, [], m => f = m
  | f, x :: l, m => f ≤ x ∧ Seg (x + 1) l m
def segC (W : Int → Int → Int) : Int → List Int → Int
  | _, [] => 0
  | f, x :: l => W f x + segC W (x + 1) l
theorem Seg.le : ∀ {l : List Int} {f m : Int}, Seg f l m → f + (l.length : Int) ≤ m
  | [], f, m, h => by have : f = m := h; simp; omega
  | x :: l, f, m, h => by have := h.2.le; have := h.1; rw [List.length_cons]; omega
theorem Seg.mem : ∀ {l : List Int} {f m : Int}, Seg f l m → ∀ x, x ∈ l → f ≤ x ∧ x < m
  | y :: l, f, m, h, x, hx => by
    have a := h.2.le
    rcases List.mem_cons.1 hx with rfl | hx
    · exact ⟨h.1, by omega⟩
    · have := h.2.mem x hx; have := h.1; omega
theorem Seg.append : ∀ {l l' : List Int} {f c m : Int}, Seg f l c → Seg c l' m → Seg f (l ++ l') m
  | [], _, f, c, m, h, h' => by have : f = c := h; subst this; exact h'
  | x :: l, l', f, c, m, h, h' => ⟨h.1, h.2.append h'⟩
theorem Seg.cost : ∀ {l l' : List Int} {f c : Int} (W : Int → Int → Int), Seg f l c → segC W f (l ++ l') = segC W f l + segC W c l'
  | [], l', f, c, W, h => by have : f = c := h; subst this; simp [segC]
  | x :: l, l', f, c, W, h => by simp only [List.cons_append, segC]; rw [h.2.cost W]; omega
theorem Seg.last : ∀ {l : List Int} {f m : Int}, Seg f l m → l ≠ [] → ∃ l' c, l = l' ++ [m - 1] ∧ Seg f l' c ∧ c ≤ m - 1
  | [x], f, m, h, _ => ⟨[], f, by have : x + 1 = m := h.2; simp; omega, rfl, by have := h.1; have : x + 1 = m := h.2; omega⟩
  | x :: y :: l, f, m, h, _ => by
    obtain ⟨l', c, h1, h2, h3⟩ := h.2.last (by simp)
    exact ⟨x :: l', c, by rw [h1]; rfl, ⟨h.1, h2⟩, h3⟩

/- Least costs. -/
/-- One end more of the first part is tried. -/
def partStep (acc : Int × List Int) (x : Int) (q : Int × List Int) (e : Int) : Int × List Int :=
  if acc.2 = [] ∨ q.1 + e < acc.1 then (q.1 + e, x :: q.2) else acc
def partTo (W : Int → Int → Int) (rec : Int → Int × List Int) (f : Int) : Nat → Int × List Int
  | 0 => (0, [])
  | d + 1 => partStep (partTo W rec f d) (f + (d : Int)) (rec (f + (d : Int) + 1)) (W f (f + (d : Int)))
/-- The least cost of the places from f on in k + 1 parts, and the first split that has it. -/
def bestL (W : Int → Int → Int) (n : Int) : Nat → Int → Int × List Int
  | 0, f => (W f (n - 1), [n - 1])
  | k + 1, f => partTo W (bestL W n k) f (n - (k : Int) - 1 - f).toNat
def Parts (n f : Int) (k : Nat) (l : List Int) : Prop := Seg f l n ∧ l.length = k
/-- What is found: a split that costs least, the first of those. -/
def Bst (S : List Int → Prop) (cost : List Int → Int) (q : Int × List Int) : Prop :=
  S q.2 ∧ cost q.2 = q.1 ∧ (∀ l, S l → q.1 ≤ cost l) ∧ ∀ l, S l → cost l = q.1 → Lx q.2 l
theorem best_one (W : Int → Int → Int) {n f : Int} (h : f + 1 ≤ n) : Bst (Parts n f 1) (segC W f) (W f (n - 1), [n - 1]) := by
  have only : ∀ l, Parts n f 1 l → l = [n - 1] := by
    rintro l ⟨h1, h2⟩
    cases l with
    | nil => simp at h2
    | cons x l =>
      have : l = [] := by simpa using h2
      subst this
      have : x + 1 = n := h1.2
      rw [show x = n - 1 by omega]
  refine ⟨⟨⟨by show f ≤ n - 1; omega, by show n - 1 + 1 = n; omega⟩, rfl⟩, by simp [segC], fun l hl => by rw [only l hl]; simp [segC], fun l hl _ => by rw [only l hl]; exact Lx.refl _⟩
def PartsTo (n f : Int) (k : Nat) (d : Nat) (l : List Int) : Prop := Parts n f (k + 2) l ∧ ∀ x l', l = x :: l' → x < f + (d : Int)
theorem partTo_best {W : Int → Int → Int} {n f : Int} {k : Nat} (hrec : ∀ g : Int, g + (k : Int) + 1 ≤ n → Bst (Parts n g (k + 1)) (segC W g) (bestL W n k g)) :
    ∀ d : Nat, f + (d : Int) + (k : Int) + 1 ≤ n → (d = 0 ∧ partTo W (bestL W n k) f d = (0, [])) ∨ Bst (PartsTo n f k d) (segC W f) (partTo W (bestL W n k) f d)
  | 0, _ => .inl ⟨rfl, rfl⟩
  | d + 1, h => by
    have old := partTo_best (f := f) hrec d (by omega)
    obtain ⟨n1, n2, n3, n4⟩ := hrec (f + (d : Int) + 1) (by omega)
    have split : ∀ l, PartsTo n f k (d + 1) l → PartsTo n f k d l ∨ ∃ l', l = (f + (d : Int)) :: l' ∧ Parts n (f + (d : Int) + 1) (k + 1) l' := by
      rintro l ⟨⟨h1, h2⟩, h3⟩
      cases l with
      | nil => simp at h2
      | cons x l =>
        have hx := h3 x l rfl
        by_cases e : x = f + (d : Int)
        · subst e; exact .inr ⟨l, rfl, h1.2, by simpa using h2⟩
        · exact .inl ⟨⟨h1, h2⟩, fun y l' e2 => by injection e2 with e3 e4; omega⟩
    have up : ∀ l, PartsTo n f k d l → PartsTo n f k (d + 1) l := fun l hl => ⟨hl.1, fun x l' e => by have := hl.2 x l' e; omega⟩
    have put : ∀ l', Parts n (f + (d : Int) + 1) (k + 1) l' → PartsTo n f k (d + 1) ((f + (d : Int)) :: l') := fun l' hl => ⟨⟨⟨by omega, hl.1⟩, by rw [List.length_cons, hl.2]⟩, fun x l'' e => by injection e with e1 e2; omega⟩
    have cput : ∀ l', segC W f ((f + (d : Int)) :: l') = W f (f + (d : Int)) + segC W (f + (d : Int) + 1) l' := fun l' => rfl
    refine .inr ?_
    show Bst _ _ (partStep (partTo W (bestL W n k) f d) (f + (d : Int)) (bestL W n k (f + (d : Int) + 1)) (W f (f + (d : Int))))
    generalize bestL W n k (f + (d : Int) + 1) = q at n1 n2 n3 n4
    generalize partTo W (bestL W n k) f d = acc at old
    obtain ⟨q1, q2⟩ := q
    obtain ⟨a1, a2⟩ := acc
    unfold partStep
    dsimp only at n1 n2 n3 n4 ⊢
    by_cases c1 : a2 = [] ∨ q1 + W f (f + (d : Int)) < a1
    · rw [if_pos c1]
      have lo : ∀ l, PartsTo n f k d l → q1 + W f (f + (d : Int)) < segC W f l := by
        intro l hl
        rcases old with ⟨e, -⟩ | ⟨o1, o2, o3, o4⟩
        · subst e
          obtain ⟨⟨p1, p2⟩, p3⟩ := hl
          cases l with
          | nil => simp at p2
          | cons x l => have := p3 x l rfl; have := p1.1; omega
        · have := o3 l hl
          rcases c1 with c1 | c1
          · subst c1; have := o1.1.2; simp at this
          · omega
      refine ⟨put _ n1, by show segC W f ((f + (d : Int)) :: q2) = _; rw [cput]; omega, fun l hl => ?_, fun l hl hc => ?_⟩
      · show q1 + W f (f + (d : Int)) ≤ _
        rcases split l hl with h | ⟨l', rfl, h⟩
        · have := lo l h; omega
        · rw [cput]; have := n3 l' h; omega
      · have hc' : segC W f l = q1 + W f (f + (d : Int)) := hc
        rcases split l hl with h | ⟨l', rfl, h⟩
        · have := lo l h; omega
        · rw [cput] at hc'; exact .inr ⟨rfl, n4 l' h (by omega)⟩
    · rw [if_neg c1]
      obtain ⟨o1, o2, o3, o4⟩ : Bst (PartsTo n f k d) (segC W f) (a1, a2) := by
        rcases old with ⟨-, e⟩ | h
        · simp at e; exact absurd (.inl e.2) c1
        · exact h
      dsimp only at o1 o2 o3 o4
      have hle : a1 ≤ q1 + W f (f + (d : Int)) := by
        rcases Int.lt_or_le (q1 + W f (f + (d : Int))) a1 with h | h
        · exact absurd (.inr h) c1
        · exact h
      refine ⟨up _ o1, o2, fun l hl => ?_, fun l hl hc => ?_⟩
      · show a1 ≤ _
        rcases split l hl with h | ⟨l', rfl, h⟩
        · exact o3 l h
        · rw [cput]; have := n3 l' h; omega
      · show Lx a2 l
        rcases split l hl with h | ⟨l', rfl, h⟩
        · exact o4 l h hc
        · cases a2 with
          | nil => exact absurd (.inl rfl) c1
          | cons x l => exact .inl (o1.2 x l rfl)
theorem bestL_best (W : Int → Int → Int) (n : Int) : ∀ (k : Nat) (f : Int), f + (k : Int) + 1 ≤ n → Bst (Parts n f (k + 1)) (segC W f) (bestL W n k f)
  | 0, f, h => best_one W (by omega)
  | k + 1, f, h => by
    have hd : ((n - (k : Int) - 1 - f).toNat : Int) = n - (k : Int) - 1 - f := by omega
    rcases partTo_best (f := f) (fun g hg => bestL_best W n k g hg) (n - (k : Int) - 1 - f).toNat (by omega) with ⟨e, -⟩ | ⟨o1, o2, o3, o4⟩
    · omega
    · have same : ∀ l, Parts n f (k + 2) l → PartsTo n f k (n - (k : Int) - 1 - f).toNat l := by
        rintro l ⟨h1, h2⟩
        refine ⟨⟨h1, h2⟩, fun x l' e => ?_⟩
        subst e
        have := h1.2.le
        rw [List.length_cons] at h2
        omega
      exact ⟨o1.1, o2, fun l hl => o3 l (same l hl), fun l hl hc => o4 l (same l hl) hc⟩
/-- The least cost of k parts. -/
def leastP (W : Int → Int → Int) (n : Int) (k : Nat) : Int := (bestL W n (k - 1) 0).1
def firstP (W : Int → Int → Int) (n : Int) (k : Nat) : List Int := (bestL W n (k - 1) 0).2
theorem least_is {W : Int → Int → Int} {n : Int} {k : Nat} (h1 : 1 ≤ k) (h2 : (k : Int) ≤ n) : Bst (Parts n 0 k) (segC W 0) (leastP W n k, firstP W n k) := by
  have := bestL_best W n (k - 1) 0 (by omega)
  rw [show k - 1 + 1 = k by omega] at this
  exact this
theorem split_asc : ∀ {l : List Int} {f m : Int}, Seg f l m → ∀ i, i + 1 < l.length → l.getD i 0 < l.getD (i + 1) 0
  | [], _, _, _, i, hi => by simp at hi
  | [x], _, _, _, i, hi => by simp at hi
  | x :: y :: l, f, m, h, i, hi => by
    cases i with
    | zero => have := h.2.1; simp; omega
    | succ i => have := split_asc h.2 i (by simpa using hi); simpa using this

/- Backwards. -/
def turnW (W : Int → Int → Int) (n : Int) : Int → Int → Int := fun i j => W (n - 1 - j) (n - 1 - i)
theorem seg_turn (W : Int → Int → Int) (n : Int) : ∀ {l : List Int} {f : Int}, Seg f l n → ∃ l', Seg 0 l' (n - f) ∧ l'.length = l.length ∧ segC (turnW W n) 0 l' = segC W f l
  | [], f, h => ⟨[], by have : f = n := h; show (0 : Int) = n - f; omega, rfl, rfl⟩
  | x :: l, f, h => by
    obtain ⟨l', h1, h2, h3⟩ := seg_turn W n h.2
    have hx := h.1
    refine ⟨l' ++ [n - f - 1], h1.append ⟨by omega, by show n - f - 1 + 1 = n - f; omega⟩, by simp [h2], ?_⟩
    rw [h1.cost (turnW W n), h3]
    simp only [segC]
    unfold turnW
    rw [show n - 1 - (n - f - 1) = f by omega, show n - 1 - (n - (x + 1)) = x by omega]; omega
theorem turn_turn (W : Int → Int → Int) (n : Int) : turnW (turnW W n) n = W := by
  funext i j; unfold turnW
  rw [show n - 1 - (n - 1 - i) = i by omega, show n - 1 - (n - 1 - j) = j by omega]
theorem least_turn {W : Int → Int → Int} {n : Int} {k : Nat} (h1 : 1 ≤ k) (h2 : (k : Int) ≤ n) : leastP (turnW W n) n k = leastP W n k := by
  obtain ⟨a1, a2, a3, -⟩ := least_is (W := W) h1 h2
  obtain ⟨b1, b2, b3, -⟩ := least_is (W := turnW W n) h1 h2
  dsimp only at a1 a2 a3 b1 b2 b3
  apply Int.le_antisymm
  · obtain ⟨l', p1, p2, p3⟩ := seg_turn W n a1.1
    have := b3 l' ⟨by rwa [Int.sub_zero] at p1, p2.trans a1.2⟩
    omega
  · obtain ⟨l', p1, p2, p3⟩ := seg_turn (turnW W n) n b1.1
    rw [turn_turn] at p3
    have := a3 l' ⟨by rwa [Int.sub_zero] at p1, p2.trans b1.2⟩
    omega
theorem least_congr {W V : Int → Int → Int} {n : Int} {k : Nat} (h1 : 1 ≤ k) (h2 : (k : Int) ≤ n) (h : ∀ i j, 0 ≤ i → i ≤ j → j < n → W i j = V i j) : leastP W n k = leastP V n k := by
  have c : ∀ {l : List Int} {f : Int}, 0 ≤ f → Seg f l n → segC W f l = segC V f l := by
    intro l
    induction l with
    | nil => intro f _ _; rfl
    | cons x l ih =>
      intro f hf hs
      have := hs.2.le
      simp only [segC]
      rw [h f x hf hs.1 (by omega), ih (by have := hs.1; omega) hs.2]
  obtain ⟨a1, a2, a3, -⟩ := least_is (W := W) h1 h2
  obtain ⟨b1, b2, b3, -⟩ := least_is (W := V) h1 h2
  dsimp only at a1 a2 a3 b1 b2 b3
  apply Int.le_antisymm
  · rw [← b2, ← c (Int.le_refl 0) b1.1]; exact a3 _ b1
  · rw [← a2, c (Int.le_refl 0) a1.1]; exact b3 _ a1
theorem seg_nonneg {W : Int → Int → Int} (h : ∀ i j, 0 ≤ W i j) : ∀ (l : List Int) (f : Int), 0 ≤ segC W f l
  | [], _ => Int.le_refl _
  | x :: l, f => by have := seg_nonneg h l (x + 1); have := h f x; simp only [segC]; omega

/- One part more. -/
theorem seg_more {W : Int → Int → Int} {m : Int} (hW : ∀ i j, 0 ≤ i → i < j → j < m → W i i + W (i + 1) j ≤ W i j) : ∀ {l : List Int} {f : Int}, 0 ≤ f → Seg f l m → f + (l.length : Int) < m → ∃ l', Seg f l' m ∧ l'.length = l.length + 1 ∧ segC W f l' ≤ segC W f l
  | [], f, _, h, h' => by have : f = m := h; simp at h'; omega
  | x :: l, f, hf, h, h' => by
    have hx := h.1
    have hm := h.2.le
    by_cases e : f < x
    · refine ⟨f :: x :: l, ⟨Int.le_refl _, by omega, h.2⟩, rfl, ?_⟩
      simp only [segC]
      have := hW f x hf e (by omega); omega
    · have ex : x = f := by omega
      subst ex
      rw [List.length_cons] at h'
      obtain ⟨l', h1, h2, h3⟩ := seg_more hW (by omega) h.2 (by omega)
      exact ⟨x :: l', ⟨hx, h1⟩, by rw [List.length_cons, h2]; rfl, by simp only [segC]; omega⟩
theorem least_falls {W : Int → Int → Int} {n : Int} {k : Nat} (hW : ∀ i j, 0 ≤ i → i < j → j < n → W i i + W (i + 1) j ≤ W i j) (h1 : 1 ≤ k) (h2 : (k : Int) < n) : leastP W n (k + 1) ≤ leastP W n k := by
  obtain ⟨a1, a2, a3, -⟩ := least_is (W := W) h1 (by omega : (k : Int) ≤ n)
  obtain ⟨b1, b2, b3, -⟩ := least_is (W := W) (k := k + 1) (by omega) (by omega : ((k + 1 : Nat) : Int) ≤ n)
  dsimp only at a1 a2 a3 b1 b2 b3
  obtain ⟨l', p1, p2, p3⟩ := seg_more hW (Int.le_refl 0) a1.1 (by rw [a1.2]; omega)
  have := b3 l' ⟨p1, by rw [p2, a1.2]⟩
  omega

/- Bent costs. -/
/-- Two ways that cross: their ends may be exchanged. -/
theorem seg_cross : ∀ {P Q : List Int} {a b n : Int}, Seg a P n → Seg b Q n → a ≤ b → P.length ≤ Q.length → P ≠ [] →
    ∃ P1 x P2 Q1 y Q2 c d, P = P1 ++ x :: P2 ∧ Q = Q1 ++ y :: Q2 ∧ P1.length = Q1.length ∧ Seg a P1 c ∧ Seg b Q1 d ∧ c ≤ d ∧ d ≤ y ∧ y ≤ x ∧ Seg (x + 1) P2 n ∧ Seg (y + 1) Q2 n
  | [], _, _, _, _, _, _, _, _, h => absurd rfl h
  | _ :: _, [], _, _, _, _, _, _, h, _ => by simp at h
  | x :: P, y :: Q, a, b, n, hP, hQ, hab, hl, _ => by
    by_cases c : y ≤ x
    · exact ⟨[], x, P, [], y, Q, a, b, rfl, rfl, rfl, rfl, rfl, hab, hQ.1, c, hP.2, hQ.2⟩
    · have hne : P ≠ [] := by
        intro e
        subst e
        have : x + 1 = n := hP.2
        have := hQ.2.le
        omega
      obtain ⟨P1, x', P2, Q1, y', Q2, u, v, h1, h2, h3, h4, h5, h6, h7, h8, h9, h10⟩ := seg_cross hP.2 hQ.2 (by omega) (by simpa using hl) hne
      exact ⟨x :: P1, x', P2, y :: Q1, y', Q2, u, v, by rw [h1]; rfl, by rw [h2]; rfl, by simp [h3], ⟨hP.1, h4⟩, ⟨hQ.1, h5⟩, h6, h7, h8, h9, h10⟩
theorem least_bent {W : Int → Int → Int} {n : Int} {k : Nat} (hW : ∀ a b y x, 0 ≤ a → a ≤ b → b ≤ y → y ≤ x → x < n → W b x + W a y ≤ W a x + W b y) (h1 : 1 ≤ k) (h2 : ((k + 2 : Nat) : Int) ≤ n) : 2 * leastP W n (k + 1) ≤ leastP W n k + leastP W n (k + 2) := by
  obtain ⟨a1, a2, -, -⟩ := least_is (W := W) h1 (by omega : (k : Int) ≤ n)
  obtain ⟨-, -, b3, -⟩ := least_is (W := W) (k := k + 1) (by omega) (by omega : ((k + 1 : Nat) : Int) ≤ n)
  obtain ⟨c1, c2, -, -⟩ := least_is (W := W) (k := k + 2) (by omega) h2
  dsimp only at a1 a2 b3 c1 c2
  generalize firstP W n k = P at a1 a2
  generalize firstP W n (k + 2) = Q at c1 c2
  obtain ⟨hP, lP⟩ := a1
  obtain ⟨hQ, lQ⟩ := c1
  cases Q with
  | nil => simp at lQ
  | cons q Q =>
    have lQ' : Q.length = k + 1 := by simpa using lQ
    have hq := hQ.1
    obtain ⟨P1, x, P2, Q1, y, Q2, u, v, e1, e2, e3, s1, s2, huv, hvy, hyx, s3, s4⟩ := seg_cross hP hQ.2 (by omega) (by omega) (by intro e; rw [e] at lP; simp at lP; omega)
    subst e1; subst e2
    have hu := s1.le
    have hx := s3.le
    have sQ : Seg 0 (q :: Q1) v := ⟨hq, s2⟩
    have n1 : Seg 0 ((q :: Q1) ++ x :: P2) n := sQ.append ⟨by omega, s3⟩
    have n2 : Seg 0 (P1 ++ y :: Q2) n := s1.append ⟨by omega, s4⟩
    have m1 := b3 ((q :: Q1) ++ x :: P2) ⟨n1, by simp at lP lQ' ⊢; omega⟩
    have m2 := b3 (P1 ++ y :: Q2) ⟨n2, by simp at lP lQ' ⊢; omega⟩
    rw [sQ.cost W] at m1
    rw [s1.cost W] at m2
    rw [s1.cost W] at a2
    rw [show q :: (Q1 ++ y :: Q2) = (q :: Q1) ++ y :: Q2 from rfl, sQ.cost W] at c2
    simp only [segC] at m1 m2 a2 c2
    have := hW u v y x (by omega) huv hvy hyx (by omega)
    omega

/- Any number of parts. -/
/-- One beginning more of the last part is tried. -/
def anyStep (acc : Int × Int) (first : Bool) (c k : Int) : Int × Int := if first = true ∨ c < acc.1 ∨ (c = acc.1 ∧ k < acc.2) then (c, k) else acc
def anyIn (W : Int → Int → Int) (p : Int) (tab : Nat → Int × Int) (tt : Nat) : Nat → Int × Int
  | 0 => (0, 0)
  | f + 1 => anyStep (anyIn W p tab tt f) (decide (f = 0)) ((tab f).1 + W (f : Int) (tt : Int) + p) ((tab f).2 + 1)
def anyTab (W : Int → Int → Int) (p : Int) : Nat → List (Int × Int)
  | 0 => [(0, 0)]
  | m + 1 => anyTab W p m ++ [anyIn W p (fun f => (anyTab W p m).getD f (0, 0)) m (m + 1)]
theorem anyTab_len (W : Int → Int → Int) (p : Int) : ∀ m, (anyTab W p m).length = m + 1
  | 0 => rfl
  | m + 1 => by simp [anyTab, anyTab_len W p m]
/-- The least of cost and p for each part, and the least number of parts that has it. -/
def AnyOf (W : Int → Int → Int) (p : Int) (m : Int) (q : Int × Int) : Prop :=
  (∃ l, Seg 0 l m ∧ segC W 0 l + p * (l.length : Int) = q.1 ∧ (l.length : Int) = q.2) ∧ (∀ l, Seg 0 l m → q.1 ≤ segC W 0 l + p * (l.length : Int)) ∧ ∀ l, Seg 0 l m → segC W 0 l + p * (l.length : Int) = q.1 → q.2 ≤ (l.length : Int)
theorem anyIn_of {W : Int → Int → Int} {p : Int} {tab : Nat → Int × Int} {tt : Nat} (ht : ∀ f, f ≤ tt → AnyOf W p (f : Int) (tab f)) : ∀ n, n ≤ tt + 1 → n = 0 ∨
    ((∃ l c, Seg 0 l c ∧ c < (n : Int) ∧ segC W 0 (l ++ [(tt : Int)]) + p * ((l.length : Int) + 1) = (anyIn W p tab tt n).1 ∧ (l.length : Int) + 1 = (anyIn W p tab tt n).2) ∧
     (∀ l c, Seg 0 l c → c < (n : Int) → (anyIn W p tab tt n).1 ≤ segC W 0 l + W c (tt : Int) + p * ((l.length : Int) + 1)) ∧
     ∀ l c, Seg 0 l c → c < (n : Int) → segC W 0 l + W c (tt : Int) + p * ((l.length : Int) + 1) = (anyIn W p tab tt n).1 → (anyIn W p tab tt n).2 ≤ (l.length : Int) + 1)
  | 0, _ => .inl rfl
  | n + 1, h => by
    refine .inr ?_
    have ih := anyIn_of ht n (by omega)
    obtain ⟨⟨l0, t1, t2, t3⟩, t4, t5⟩ := ht n (by omega)
    have mul : ∀ L : Int, p * (L + 1) = p * L + p := fun L => by rw [Int.mul_add]; omega
    have hat : ∀ l c, Seg 0 l c → c < ((n + 1 : Nat) : Int) → c < (n : Int) ∨ c = (n : Int) := fun l c _ hc => by omega
    generalize hacc : anyIn W p tab tt n = acc at ih
    by_cases c1 : decide (n = 0) = true ∨ (tab n).1 + W (n : Int) (tt : Int) + p < acc.1 ∨ ((tab n).1 + W (n : Int) (tt : Int) + p = acc.1 ∧ (tab n).2 + 1 < acc.2)
    · have hst : anyIn W p tab tt (n + 1) = ((tab n).1 + W (n : Int) (tt : Int) + p, (tab n).2 + 1) := by
        show anyStep (anyIn W p tab tt n) _ _ _ = _
        rw [hacc]; unfold anyStep; rw [if_pos c1]
      rw [hst]
      refine ⟨⟨l0, (n : Int), t1, by omega, ?_, by omega⟩, fun l c hs hc => ?_, fun l c hs hc he => ?_⟩
      · rw [t1.cost W]; simp only [segC]; rw [mul]; omega
      · rw [mul]
        rcases hat l c hs hc with h | rfl
        · rcases ih with e | ⟨-, i2, -⟩
          · subst e; have := hs.le; omega
          · have := i2 l c hs h
            rw [mul] at this
            rcases c1 with c1 | c1 | c1
            · have : n = 0 := by simpa using c1
              have := hs.le; omega
            · omega
            · omega
        · have := t4 l hs; dsimp only; omega
      · rw [mul] at he
        rcases hat l c hs hc with h | rfl
        · rcases ih with e | ⟨-, i2, i3⟩
          · subst e; have := hs.le; omega
          · have a := i2 l c hs h
            have b := i3 l c hs h
            rw [mul] at a b
            rcases c1 with c1 | c1 | c1
            · have : n = 0 := by simpa using c1
              have := hs.le; omega
            · omega
            · have := b (by omega); omega
        · have := t5 l hs (by omega); omega
    · have hst : anyIn W p tab tt (n + 1) = acc := by
        show anyStep (anyIn W p tab tt n) _ _ _ = _
        rw [hacc]; unfold anyStep; rw [if_neg c1]
      rw [hst]
      have n0 : n ≠ 0 := fun e => c1 (.inl (by simpa using e))
      obtain ⟨⟨l1, u, i1, i2, i3, i4⟩, i5, i6⟩ := ih.resolve_left n0
      refine ⟨⟨l1, u, i1, by omega, i3, i4⟩, fun l c hs hc => ?_, fun l c hs hc he => ?_⟩
      · rcases hat l c hs hc with h | rfl
        · exact i5 l c hs h
        · rw [mul]
          have := t4 l hs
          rcases Int.lt_or_le ((tab n).1 + W (n : Int) (tt : Int) + p) acc.1 with h | h
          · exact absurd (.inr (.inl h)) c1
          · omega
      · rcases hat l c hs hc with h | rfl
        · exact i6 l c hs h he
        · rw [mul] at he
          have a := t4 l hs
          rcases Int.lt_or_le ((tab n).1 + W (n : Int) (tt : Int) + p) acc.1 with h | h
          · exact absurd (.inr (.inl h)) c1
          · have b := t5 l hs (by omega)
            rcases Int.lt_or_le ((tab n).2 + 1) acc.2 with h' | h'
            · exact absurd (.inr (.inr ⟨by omega, h'⟩)) c1
            · omega
theorem anyTab_of (W : Int → Int → Int) (p : Int) : ∀ m f : Nat, f ≤ m → AnyOf W p (f : Int) ((anyTab W p m).getD f (0, 0))
  | 0, f, h => by
    have e : f = 0 := by omega
    subst e
    refine ⟨⟨[], rfl, by simp [segC, anyTab], by simp [anyTab]⟩, fun l hl => ?_, fun l hl _ => ?_⟩
    · have := hl.le
      have : l = [] := List.eq_nil_of_length_eq_zero (by omega)
      subst this; simp [segC, anyTab]
    · simp [anyTab]
  | m + 1, f, h => by
    have hl := anyTab_len W p m
    by_cases e : f ≤ m
    · have : (anyTab W p (m + 1)).getD f (0, 0) = (anyTab W p m).getD f (0, 0) := by
        simp only [anyTab, List.getD_eq_getElem?_getD]
        rw [List.getElem?_append_left (by omega)]
      rw [this]; exact anyTab_of W p m f e
    · have ef : f = m + 1 := by omega
      subst ef
      have : (anyTab W p (m + 1)).getD (m + 1) (0, 0) = anyIn W p (fun f => (anyTab W p m).getD f (0, 0)) m (m + 1) := by
        simp only [anyTab, List.getD_eq_getElem?_getD]
        rw [List.getElem?_append_right (by omega), hl]; simp
      rw [this]
      obtain ⟨⟨l0, u, a1, a2, a3, a4⟩, a5, a6⟩ := (anyIn_of (W := W) (p := p) (tt := m) (fun f hf => anyTab_of W p m f hf) (m + 1) (Nat.le_refl _)).resolve_left (by omega)
      have cut : ∀ l, Seg 0 l ((m + 1 : Nat) : Int) → ∃ l' c, l = l' ++ [(m : Int)] ∧ Seg 0 l' c ∧ c < ((m + 1 : Nat) : Int) ∧ segC W 0 l = segC W 0 l' + W c (m : Int) ∧ (l.length : Int) = (l'.length : Int) + 1 := by
        intro l hs
        obtain ⟨l', c, e1, e2, e3⟩ := hs.last (by intro e; subst e; have : (0 : Int) = ((m + 1 : Nat) : Int) := hs; omega)
        have em : ((m + 1 : Nat) : Int) - 1 = (m : Int) := by omega
        rw [em] at e1 e3
        refine ⟨l', c, e1, e2, by omega, ?_, by rw [e1]; simp⟩
        rw [e1, e2.cost W]; simp [segC]
      refine ⟨⟨l0 ++ [(m : Int)], a1.append ⟨by omega, by show (m : Int) + 1 = ((m + 1 : Nat) : Int); omega⟩, by rw [← a3]; simp, by rw [← a4]; simp⟩, fun l hs => ?_, fun l hs he => ?_⟩
      · obtain ⟨l', c, e1, e2, e3, e4, e5⟩ := cut l hs
        rw [e4, e5]; exact a5 l' c e2 e3
      · obtain ⟨l', c, e1, e2, e3, e4, e5⟩ := cut l hs
        rw [e4, e5] at he
        rw [e5]; exact a6 l' c e2 e3 he
def anyL (W : Int → Int → Int) (p : Int) (n : Nat) : Int × Int := (anyTab W p n).getD n (0, 0)
/-- P74: the least of all numbers of parts, and the least number that has it. -/
theorem any_law {W : Int → Int → Int} {p : Int} {n : Nat} (h : 1 ≤ n) : (∀ k : Nat, 1 ≤ k → k ≤ n → (anyL W p n).1 ≤ leastP W (n : Int) k + p * (k : Int)) ∧ (∀ k : Nat, 1 ≤ k → k ≤ n → leastP W (n : Int) k + p * (k : Int) = (anyL W p n).1 → (anyL W p n).2 ≤ (k : Int)) ∧ ∃ k : Nat, 1 ≤ k ∧ k ≤ n ∧ (anyL W p n).2 = (k : Int) ∧ (anyL W p n).1 = leastP W (n : Int) k + p * (k : Int) := by
  obtain ⟨⟨l, a1, a2, a3⟩, a4, a5⟩ := anyTab_of W p n n (Nat.le_refl _)
  have ll : ∀ {l : List Int}, Seg 0 l (n : Int) → 1 ≤ l.length ∧ l.length ≤ n := fun {l} hs => by
    have := hs.le
    refine ⟨?_, by omega⟩
    cases l with
    | nil => have : (0 : Int) = (n : Int) := hs; omega
    | cons x l => simp
  refine ⟨fun k h1 h2 => ?_, fun k h1 h2 he => ?_, l.length, (ll a1).1, (ll a1).2, a3.symm, ?_⟩
  · obtain ⟨b1, b2, -, -⟩ := least_is (W := W) (n := (n : Int)) h1 (by omega)
    have := a4 _ b1.1
    dsimp only at b1 b2
    rw [b2, b1.2] at this; exact this
  · obtain ⟨b1, b2, -, -⟩ := least_is (W := W) (n := (n : Int)) h1 (by omega)
    dsimp only at b1 b2
    have := a5 _ b1.1 (by rw [b2, b1.2]; exact he)
    rw [b1.2] at this; exact this
  · obtain ⟨b1, b2, b3, -⟩ := least_is (W := W) (n := (n : Int)) (k := l.length) (ll a1).1 (by have := (ll a1).2; omega)
    dsimp only at b1 b2 b3
    apply Int.le_antisymm
    · have := a4 _ b1.1
      rw [b2, b1.2] at this; exact this
    · have := b3 l ⟨a1, rfl⟩
      show _ ≤ ((anyTab W p n).getD n (0, 0)).1
      omega
end Go.Proofs.Ytfkmnlhmldjieaa
