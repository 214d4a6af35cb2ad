/-
  Splitting a row into parts, third part: trying first parts by a measure of splits, greatest sums of parts over all splits, the least of costs with a number for each part. No program here. Conditions: none.
-/
import Derived.Test.YtfkmnlhmldjieaaSplitMath2
import Derived.Test.YtfkmnlhmldjieaaLeast
namespace Go.Proofs.Ytfkmnlhmldjieaa
open Go.RowKit

/- Trying first parts by a measure. -/
def spStep (M : Int → List Int → Int) (f : Int) (acc l : List Int) : List Int := if acc = [] ∨ M f l < M f acc then l else acc
def spTo (M : Int → List Int → Int) (rec : Int → List Int) (f : Int) : Nat → List Int
  | 0 => []
  | d + 1 => spStep M f (spTo M rec f d) ((f + (d : Int)) :: rec (f + (d : Int) + 1))
/-- The split of the places from f on into k + 1 parts that is found. -/
def spL (M : Int → List Int → Int) (n : Int) : Nat → Int → List Int
  | 0, _ => [n - 1]
  | k + 1, f => spTo M (spL M n k) f (n - (k : Int) - 1 - f).toNat
theorem sp_best (W : Int → Int → Int) (n : Int) : ∀ (k : Nat) (f : Int), f + (k : Int) + 1 ≤ n → spL (segC W) n k f = (bestL W n k f).2
  | 0, _, _ => rfl
  | k + 1, f, h => by
    have key : ∀ d : Nat, f + (d : Int) + (k : Int) + 1 ≤ n → spTo (segC W) (spL (segC W) n k) f d = (partTo W (bestL W n k) f d).2 := by
      intro d
      induction d with
      | zero => intro _; rfl
      | succ d ih =>
        intro hd
        have e1 := ih (by omega)
        have e2 := sp_best W n k (f + (d : Int) + 1) (by omega)
        have b2 := bestL_best W n k (f + (d : Int) + 1) (by omega)
        have old := partTo_best (W := W) (n := n) (f := f) (k := k) (fun g hg => bestL_best W n k g hg) d (by omega)
        show spStep (segC W) f (spTo (segC W) (spL (segC W) n k) f d) ((f + (d : Int)) :: spL (segC W) n k (f + (d : Int) + 1)) = (partStep (partTo W (bestL W n k) f d) (f + (d : Int)) (bestL W n k (f + (d : Int) + 1)) (W f (f + (d : Int)))).2
        rw [e1, e2]
        have c2 : segC W f ((f + (d : Int)) :: (bestL W n k (f + (d : Int) + 1)).2) = (bestL W n k (f + (d : Int) + 1)).1 + W f (f + (d : Int)) := by
          have := b2.2.1
          simp only [segC]; omega
        unfold spStep partStep
        rw [c2]
        rcases old with ⟨-, e⟩ | o
        · rw [e]; simp
        · rw [o.2.1]; split <;> rfl
    show spTo (segC W) (spL (segC W) n k) f _ = (partTo W (bestL W n k) f _).2
    exact key _ (by omega)

/- The greatest cost of a part. -/
def maxC (W : Int → Int → Int) : Int → List Int → Int
  | _, [] => 0
  | f, [x] => W f x
  | f, x :: y :: l => max (W f x) (maxC W (x + 1) (y :: l))
theorem maxC_one (W : Int → Int → Int) (f x : Int) : maxC W f [x] = W f x := rfl
theorem maxC_more (W : Int → Int → Int) (f x y : Int) (l : List Int) : maxC W f (x :: y :: l) = max (W f x) (maxC W (x + 1) (y :: l)) := rfl
/-- All parts cost at most m. -/
def AllLe (W : Int → Int → Int) (m : Int) : Int → List Int → Prop
  | _, [] => True
  | f, x :: l => W f x ≤ m ∧ AllLe W m (x + 1) l
theorem maxC_le {W : Int → Int → Int} {m : Int} : ∀ {l : List Int} {f : Int}, l ≠ [] → (maxC W f l ≤ m ↔ AllLe W m f l)
  | [], _, h => absurd rfl h
  | [x], f, _ => by rw [maxC_one]; simp [AllLe]
  | x :: y :: l, f, _ => by
    rw [maxC_more]
    have := maxC_le (W := W) (m := m) (l := y :: l) (f := x + 1) (by simp)
    show _ ↔ W f x ≤ m ∧ AllLe W m (x + 1) (y :: l)
    rw [← this]; omega
theorem AllLe.append {W : Int → Int → Int} {m : Int} : ∀ {l l' : List Int} {f c : Int}, Seg f l c → AllLe W m f l → AllLe W m c l' → AllLe W m f (l ++ l')
  | [], _, f, c, h, _, h' => by have : f = c := h; subst this; exact h'
  | _ :: _, _, _, _, h, h1, h' => ⟨h1.1, AllLe.append h.2 h1.2 h'⟩
theorem parts_cons {n f : Int} {k : Nat} {l : List Int} (h : Parts n f (k + 2) l) : ∃ x l', l = x :: l' ∧ f ≤ x ∧ Parts n (x + 1) (k + 1) l' ∧ l' ≠ [] := by
  obtain ⟨h1, h2⟩ := h
  cases l with
  | nil => simp at h2
  | cons x l =>
    refine ⟨x, l, rfl, h1.1, ⟨h1.2, by simpa using h2⟩, ?_⟩
    intro e; subst e; simp at h2
/-- What is found has no greater greatest part than any other split. -/
theorem sp_max (W : Int → Int → Int) (n : Int) : ∀ (k : Nat) (f : Int), f + (k : Int) + 1 ≤ n → Parts n f (k + 1) (spL (maxC W) n k f) ∧ ∀ l, Parts n f (k + 1) l → maxC W f (spL (maxC W) n k f) ≤ maxC W f l
  | 0, f, h => by
    have b := best_one W (n := n) (f := f) (by omega)
    refine ⟨b.1, fun l hl => ?_⟩
    have : l = [n - 1] := by
      obtain ⟨h1, h2⟩ := hl
      cases l with
      | nil => simp at h2
      | cons x l =>
        have : l = [] := by simpa using h2
        subst this
        have : x + 1 = n := h1.2
        rw [show x = n - 1 by omega]
    subst this; exact Int.le_refl _
  | k + 1, f, h => by
    have key : ∀ d : Nat, f + (d : Int) + (k : Int) + 1 ≤ n → (d = 0 ∧ spTo (maxC W) (spL (maxC W) n k) f d = []) ∨
        (Parts n f (k + 2) (spTo (maxC W) (spL (maxC W) n k) f d) ∧ ∀ l, PartsTo n f k d l → maxC W f (spTo (maxC W) (spL (maxC W) n k) f d) ≤ maxC W f l) := by
      intro d
      induction d with
      | zero => intro _; exact .inl ⟨rfl, rfl⟩
      | succ d ih =>
        intro hd
        have old := ih (by omega)
        obtain ⟨r1, r2⟩ := sp_max W n k (f + (d : Int) + 1) (by omega)
        refine .inr ?_
        show Parts n f (k + 2) (spStep (maxC W) f (spTo (maxC W) (spL (maxC W) n k) f d) ((f + (d : Int)) :: spL (maxC W) n k (f + (d : Int) + 1))) ∧ ∀ l, PartsTo n f k (d + 1) l → maxC W f (spStep (maxC W) f (spTo (maxC W) (spL (maxC W) n k) f d) ((f + (d : Int)) :: spL (maxC W) n k (f + (d : Int) + 1))) ≤ maxC W f l
        generalize spTo (maxC W) (spL (maxC W) n k) f d = acc at old
        generalize spL (maxC W) n k (f + (d : Int) + 1) = q at r1 r2
        have hq : Parts n f (k + 2) ((f + (d : Int)) :: q) := ⟨⟨by omega, r1.1⟩, by rw [List.length_cons, r1.2]⟩
        have last : ∀ l', Parts n (f + (d : Int) + 1) (k + 1) l' → maxC W f ((f + (d : Int)) :: q) ≤ maxC W f ((f + (d : Int)) :: l') := by
          intro l' hl
          have le := r2 l' hl
          obtain ⟨r1a, r1b⟩ := r1
          obtain ⟨hla, hlb⟩ := hl
          cases q with
          | nil => simp at r1b
          | cons a q =>
            cases l' with
            | nil => simp at hlb
            | cons b l' => rw [maxC_more, maxC_more]; omega
        have split : ∀ l, PartsTo n f k (d + 1) l → PartsTo n f k d l ∨ ∃ l', l = (f + (d : Int)) :: l' ∧ Parts n (f + (d : Int) + 1) (k + 1) l' := by
          rintro l ⟨⟨h1, h2⟩, h3⟩
          cases l with
          | nil => simp at h2
          | cons x l =>
            have hx := h3 x l rfl
            by_cases e : x = f + (d : Int)
            · subst e; exact .inr ⟨l, rfl, h1.2, by simpa using h2⟩
            · exact .inl ⟨⟨h1, h2⟩, fun y l' e2 => by injection e2 with e3 e4; omega⟩
        unfold spStep
        by_cases c : acc = [] ∨ maxC W f ((f + (d : Int)) :: q) < maxC W f acc
        · rw [if_pos c]
          refine ⟨hq, fun l hl => ?_⟩
          rcases split l hl with h | ⟨l', rfl, h⟩
          · rcases old with ⟨e, -⟩ | ⟨o1, o2⟩
            · subst e
              obtain ⟨⟨p1, p2⟩, p3⟩ := h
              cases l with
              | nil => simp at p2
              | cons x l => have := p3 x l rfl; have := p1.1; omega
            · have := o2 l h
              rcases c with c | c
              · subst c; have := o1.2; simp at this
              · omega
          · exact last l' h
        · rw [if_neg c]
          obtain ⟨o1, o2⟩ := old.resolve_left (fun e => c (.inl e.2))
          have hle : maxC W f acc ≤ maxC W f ((f + (d : Int)) :: q) := by
            rcases Int.lt_or_le (maxC W f ((f + (d : Int)) :: q)) (maxC W f acc) with h | h
            · exact absurd (.inr h) c
            · exact h
          refine ⟨o1, fun l hl => ?_⟩
          rcases split l hl with h | ⟨l', rfl, h⟩
          · exact o2 l h
          · have := last l' h; omega
    have hd : ((n - (k : Int) - 1 - f).toNat : Int) = n - (k : Int) - 1 - f := by omega
    obtain ⟨o1, o2⟩ := (key (n - (k : Int) - 1 - f).toNat (by omega)).resolve_left (by omega)
    refine ⟨o1, fun l hl => o2 l ⟨hl, fun x l' e => ?_⟩⟩
    subst e
    obtain ⟨h1, h2⟩ := hl
    have := h1.2.le
    rw [List.length_cons] at h2
    omega
theorem spL_parts {M : Int → List Int → Int} {n : Int} : ∀ (k : Nat) (f : Int), f + (k : Int) + 1 ≤ n → Parts n f (k + 1) (spL M n k f)
  | 0, f, h => (best_one (fun _ _ => 0) (n := n) (f := f) (by omega)).1
  | k + 1, f, h => by
    have key : ∀ d : Nat, f + (d : Int) + (k : Int) + 1 ≤ n → d = 0 ∨ Parts n f (k + 2) (spTo M (spL M n k) f d) := by
      intro d
      induction d with
      | zero => intro _; exact .inl rfl
      | succ d ih =>
        intro hd
        have old := ih (by omega)
        have r1 := spL_parts (M := M) (n := n) k (f + (d : Int) + 1) (by omega)
        refine .inr ?_
        show Parts n f (k + 2) (spStep M f (spTo M (spL M n k) f d) ((f + (d : Int)) :: spL M n k (f + (d : Int) + 1)))
        have hq : Parts n f (k + 2) ((f + (d : Int)) :: spL M n k (f + (d : Int) + 1)) := ⟨⟨by omega, r1.1⟩, by rw [List.length_cons, r1.2]⟩
        unfold spStep
        by_cases c : spTo M (spL M n k) f d = [] ∨ M f ((f + (d : Int)) :: spL M n k (f + (d : Int) + 1)) < M f (spTo M (spL M n k) f d)
        · rw [if_pos c]; exact hq
        · rw [if_neg c]
          rcases old with e | o
          · subst e; exact absurd (.inl rfl) c
          · exact o
    exact (key _ (by omega)).resolve_left (by omega)

/- Greatest sums of parts. -/
def sumW (a : List Int) : Int → Int → Int := fun i j => smTo a i.toNat (j - i).toNat
/-- The sum of d entries from the place i on. -/
def smN (a : List Int) (i d : Nat) : Int := sumN (fun t => a.getD (i + t) 0) d
theorem fit_part {a : List Int} {m : Int} (hn : ∀ x, x ∈ a → 0 ≤ x) {i : Nat} {t : Int} {D : Nat} (h0 : (fitTo a m i).1 ≤ t ∨ ((fitTo a m i).1 = t + 1 ∧ (fitTo a m i).2 ≤ 0)) (hm : smN a i D ≤ m) :
    ∀ d, d ≤ D → (fitTo a m (i + d)).1 ≤ t ∨ ((fitTo a m (i + d)).1 = t + 1 ∧ (fitTo a m (i + d)).2 ≤ smN a i d)
  | 0, _ => h0
  | d + 1, h => by
    have ih := fit_part hn h0 hm d (by omega)
    have p := getD_nn hn (i + d)
    have s1 : smN a i (d + 1) = smN a i d + a.getD (i + d) 0 := rfl
    have s0 : 0 ≤ smN a i d := sumN_nonneg fun t _ => getD_nn hn _
    have s2 : smN a i (d + 1) ≤ smN a i D := by
      have : ∀ e, smN a i (d + 1) ≤ smN a i (d + 1 + e) := by
        intro e
        induction e with
        | zero => exact Int.le_refl _
        | succ e ihe => have := getD_nn hn (i + (d + 1 + e)); show _ ≤ smN a i (d + 1 + e) + a.getD (i + (d + 1 + e)) 0; omega
      have := this (D - (d + 1))
      rwa [show d + 1 + (D - (d + 1)) = D by omega] at this
    show (fitTo a m (i + d + 1)).1 ≤ t ∨ _
    rw [show i + (d + 1) = i + d + 1 by omega]
    unfold fitTo
    split
    · rename_i c
      dsimp only
      rcases ih with ih | ⟨e, ih⟩
      · by_cases c2 : (fitTo a m (i + d)).1 + 1 ≤ t
        · exact .inl c2
        · exact .inr ⟨by omega, by omega⟩
      · omega
    · dsimp only
      rcases ih with ih | ⟨e, ih⟩
      · exact .inl ih
      · exact .inr ⟨e, by omega⟩
theorem smTo_smN (a : List Int) (i d : Nat) : smTo a i d = smN a i (d + 1) := rfl
theorem fit_seg {a : List Int} {m : Int} (hn : ∀ x, x ∈ a → 0 ≤ x) {n : Nat} : ∀ {l : List Int} {i : Nat} {t : Int}, Seg (i : Int) l (n : Int) → AllLe (sumW a) m (i : Int) l → ((fitTo a m i).1 ≤ t ∨ ((fitTo a m i).1 = t + 1 ∧ (fitTo a m i).2 ≤ 0)) → l ≠ [] → (fitTo a m n).1 ≤ t + (l.length : Int)
  | [], _, _, _, _, _, h => absurd rfl h
  | x :: l, i, t, hs, ha, h0, _ => by
    have hx := hs.1
    obtain ⟨j, ej⟩ : ∃ j : Nat, x + 1 = (j : Int) := ⟨(x + 1).toNat, by omega⟩
    have hm : smN a i (j - i) ≤ m := by
      have := ha.1
      unfold sumW at this
      rw [smTo_smN, show (x - (i : Int)).toNat + 1 = j - i by omega, Int.toNat_natCast] at this
      exact this
    have p := fit_part hn h0 hm (j - i) (Nat.le_refl _)
    rw [show i + (j - i) = j by omega] at p
    have h1 : (fitTo a m j).1 ≤ t + 1 := by omega
    have hs2 := hs.2
    have ha2 := ha.2
    rw [ej] at hs2 ha2
    by_cases e : l = []
    · subst e
      have e2 : (j : Int) = (n : Int) := hs2
      have : j = n := by omega
      subst this
      simpa using h1
    · have := fit_seg hn hs2 ha2 (t := t + 1) (.inl h1) e
      rw [List.length_cons]; omega
theorem all_entries {a : List Int} {m : Int} (hn : ∀ x, x ∈ a → 0 ≤ x) {n : Int} : ∀ {l : List Int} {f : Int}, 0 ≤ f → Seg f l n → AllLe (sumW a) m f l → ∀ j : Nat, f ≤ (j : Int) → (j : Int) < n → a.getD j 0 ≤ m
  | [], f, _, h, _, j, h1, h2 => by have : f = n := h; omega
  | x :: l, f, hf, h, ha, j, h1, h2 => by
    by_cases c : (j : Int) ≤ x
    · have := ha.1
      unfold sumW smTo at this
      have k := sumN_one (f := fun t => a.getD (f.toNat + t) 0) (n := (x - f).toNat + 1) (k := j - f.toNat) (fun t _ => getD_nn hn _) (by omega)

      rw [show f.toNat + (j - f.toNat) = j by omega] at k
      omega
    · exact all_entries hn (by have := h.1; omega) h.2 ha.2 j (by omega) h2
/-- A split whose parts have sums of at most m: so many parts are enough. -/
theorem fits_of_split {a l : List Int} {m : Int} (hn : ∀ x, x ∈ a → 0 ≤ x) (h0 : 0 < a.length) (hs : Seg 0 l (a.length : Int)) (ha : AllLe (sumW a) m 0 l) : fitsB a m l.length = true := by
  have hne : l ≠ [] := by intro e; subst e; have : (0 : Int) = (a.length : Int) := hs; omega
  refine fits_true.2 ⟨fun x hx => ?_, ?_⟩
  · obtain ⟨j, hj, rfl⟩ := List.getElem_of_mem hx
    have := all_entries hn (Int.le_refl 0) hs ha j (by omega) (by omega)
    rwa [getD_in hj] at this
  · have := fit_seg hn (i := 0) (t := 0) hs ha (.inr ⟨rfl, Int.le_refl _⟩) hne
    omega
theorem split_of_fit {a : List Int} {m : Int} (h0 : 0 ≤ m) (h : ∀ x, x ∈ a → x ≤ m) : ∀ i : Nat, ∃ (l : List Int) (s : Nat), Seg 0 l (s : Int) ∧ s ≤ i ∧ AllLe (sumW a) m 0 l ∧ (l.length : Int) + 1 = (fitTo a m (i + 1)).1 ∧ (fitTo a m (i + 1)).2 = smTo a s (i - s) ∧ smTo a s (i - s) ≤ m
  | 0 => by
    have p := getD_le h0 h 0
    have e : fitTo a m 1 = (1, a.getD 0 0) := by
      show (if m < (0 : Int) + a.getD 0 0 then _ else _) = _
      rw [if_neg (by omega)]
      show ((1 : Int), (0 : Int) + a.getD 0 0) = _
      rw [Int.zero_add]
    have e2 : smTo a 0 (0 - 0) = a.getD 0 0 := by simp [smTo, sumN]
    exact ⟨[], 0, rfl, Nat.le_refl _, trivial, by rw [e]; rfl, by rw [e, e2], by rw [e2]; exact p⟩
  | i + 1 => by
    obtain ⟨l, s, h1, h2, h3, h4, h5, h6⟩ := split_of_fit h0 h i
    have p := getD_le h0 h (i + 1)
    by_cases c : m < (fitTo a m (i + 1)).2 + a.getD (i + 1) 0
    · have e : fitTo a m (i + 1 + 1) = ((fitTo a m (i + 1)).1 + 1, a.getD (i + 1) 0) := by
        rw [fitTo, if_pos c]
      have e2 : smTo a (i + 1) (i + 1 - (i + 1)) = a.getD (i + 1) 0 := by rw [Nat.sub_self]; simp [smTo, sumN]
      have h1' : Seg 0 (l ++ [(i : Int)]) ((i + 1 : Nat) : Int) := h1.append ⟨by omega, by show (i : Int) + 1 = _; omega⟩
      refine ⟨l ++ [(i : Int)], i + 1, h1', Nat.le_refl _, AllLe.append h1 h3 ⟨?_, trivial⟩, by rw [e]; simp; omega, by rw [e, e2], by rw [e2]; exact p⟩
      unfold sumW
      rw [Int.toNat_natCast, show ((i : Int) - (s : Int)).toNat = i - s by omega]; exact h6
    · have e : fitTo a m (i + 1 + 1) = ((fitTo a m (i + 1)).1, (fitTo a m (i + 1)).2 + a.getD (i + 1) 0) := by
        rw [fitTo, if_neg c]
      have e2 : smTo a s (i + 1 - s) = smTo a s (i - s) + a.getD (i + 1) 0 := by
        rw [show i + 1 - s = i - s + 1 by omega, smTo_smN, smTo_smN]
        show smN a s (i - s + 1) + a.getD (s + (i - s + 1)) 0 = _
        rw [show s + (i - s + 1) = i + 1 by omega]
      exact ⟨l, s, h1, by omega, h3, by rw [e]; exact h4, by rw [e, e2, h5], by rw [e2, ← h5]; omega⟩
theorem seg_refine {a : List Int} {m : Int} (hn : ∀ x, x ∈ a → 0 ≤ x) {n : Int} : ∀ {l : List Int} {f : Int}, 0 ≤ f → Seg f l n → AllLe (sumW a) m f l → f + (l.length : Int) < n → ∃ l', Seg f l' n ∧ l'.length = l.length + 1 ∧ AllLe (sumW a) m f l'
  | [], f, _, h, _, h' => by have : f = n := h; simp at h'; omega
  | x :: l, f, hf, h, ha, h' => by
    have hx := h.1
    by_cases e : f < x
    · have hs := ha.1
      unfold sumW at hs
      rw [show (x - f).toNat = (x - (f + 1)).toNat + 1 by omega, smTo_first] at hs
      have s0 : smTo a f.toNat (f - f).toNat = a.getD f.toNat 0 := by rw [Int.sub_self]; simp [smTo, sumN]
      have nn := smTo_nonneg hn (f.toNat + 1) (x - (f + 1)).toNat
      have p := getD_nn hn f.toNat
      refine ⟨f :: x :: l, ⟨Int.le_refl _, by omega, h.2⟩, rfl, ?_, ?_, ha.2⟩
      · unfold sumW; rw [s0]; omega
      · unfold sumW; rw [show (f + 1).toNat = f.toNat + 1 by omega]; omega
    · have ex : x = f := by omega
      subst ex
      rw [List.length_cons] at h'
      obtain ⟨l', h1, h2, h3⟩ := seg_refine hn (by omega) h.2 ha.2 (by omega)
      exact ⟨x :: l', ⟨hx, h1⟩, by rw [List.length_cons, h2]; rfl, ha.1, h3⟩
theorem seg_refines {a : List Int} {m : Int} (hn : ∀ x, x ∈ a → 0 ≤ x) {n : Int} : ∀ (d : Nat) {l : List Int}, Seg 0 l n → AllLe (sumW a) m 0 l → (l.length : Int) + (d : Int) ≤ n → ∃ l', Seg 0 l' n ∧ l'.length = l.length + d ∧ AllLe (sumW a) m 0 l'
  | 0, l, h, ha, _ => ⟨l, h, rfl, ha⟩
  | d + 1, l, h, ha, hd => by
    obtain ⟨l1, h1, h2, h3⟩ := seg_refine hn (Int.le_refl 0) h ha (by omega)
    obtain ⟨l2, k1, k2, k3⟩ := seg_refines hn d h1 h3 (by omega)
    exact ⟨l2, k1, by omega, k3⟩
/-- The least one over all splits of the greatest sums of a part. -/
theorem even_max {a : List Int} {k : Nat} (hn : ∀ x, x ∈ a → 0 ≤ x) (h1 : 1 ≤ k) (h2 : k ≤ a.length) : maxC (sumW a) 0 (spL (maxC (sumW a)) (a.length : Int) (k - 1) 0) = splitEven a k := by
  obtain ⟨p1, p2⟩ := sp_max (sumW a) (a.length : Int) (k - 1) 0 (by omega)
  rw [show k - 1 + 1 = k by omega] at p1 p2
  generalize spL (maxC (sumW a)) (a.length : Int) (k - 1) 0 = L at p1 p2
  obtain ⟨s1, s2, s3, s4⟩ := splitEven_is hn h1
  have hL : L ≠ [] := by intro e; subst e; have := p1.2; simp at this; omega
  have up : AllLe (sumW a) (maxC (sumW a) 0 L) 0 L := (maxC_le hL).1 (Int.le_refl _)
  have f1 := fits_of_split hn (by omega) p1.1 up
  rw [p1.2] at f1
  have M0 : 0 ≤ maxC (sumW a) 0 L := by
    have := (fits_true.1 f1).1 _ (List.getElem_mem (show 0 < a.length by omega))
    have := hn _ (List.getElem_mem (show 0 < a.length by omega))
    omega
  apply Int.le_antisymm
  · obtain ⟨g1, g2⟩ := fits_true.1 s1
    obtain ⟨l, s, q1, q2, q3, q4, q5, q6⟩ := split_of_fit s2 g1 (a.length - 1)
    rw [show a.length - 1 + 1 = a.length by omega] at q4 q5
    have q1' : Seg 0 (l ++ [(a.length : Int) - 1]) (a.length : Int) := q1.append ⟨by omega, by show (a.length : Int) - 1 + 1 = _; omega⟩
    have q3' : AllLe (sumW a) (splitEven a k) 0 (l ++ [(a.length : Int) - 1]) := AllLe.append q1 q3 ⟨by
      unfold sumW
      rw [Int.toNat_natCast, show ((a.length : Int) - 1 - (s : Int)).toNat = a.length - 1 - s by omega]; exact q6, trivial⟩
    have ln : (l ++ [(a.length : Int) - 1]).length = l.length + 1 := by simp
    obtain ⟨l', r1, r2, r3⟩ := seg_refines hn (k - (l.length + 1)) q1' q3' (by rw [ln]; omega)
    have r2' : l'.length = k := by rw [r2, ln]; omega
    have hl' : l' ≠ [] := by intro e; subst e; simp at r2'; omega
    have := p2 l' ⟨r1, r2'⟩
    have := (maxC_le hl').2 r3
    omega
  · exact (s4 _ M0).1 f1

/- Bounds. -/
theorem smN_bd {a : List Int} (h : ∀ z, z ∈ a → -1000 ≤ z ∧ z ≤ 1000) (i : Nat) : ∀ d : Nat, -1000 * (d : Int) ≤ smN a i d ∧ smN a i d ≤ 1000 * (d : Int)
  | 0 => ⟨Int.le_refl _, Int.le_refl _⟩
  | d + 1 => by
    have ih := smN_bd h i d
    have g : -1000 ≤ a.getD (i + d) 0 ∧ a.getD (i + d) 0 ≤ 1000 := by
      by_cases c : i + d < a.length
      · rw [getD_in c]; exact h _ (List.getElem_mem c)
      · rw [List.getD_eq_getElem?_getD, List.getElem?_eq_none (by omega)]; exact ⟨by decide, by decide⟩
    show _ ≤ smN a i d + a.getD (i + d) 0 ∧ smN a i d + a.getD (i + d) 0 ≤ _
    omega
theorem sqr_bd {x : Int} (h1 : -12000 ≤ x) (h2 : x ≤ 12000) : x * x ≤ 144000000 := by
  rcases Int.le_total 0 x with h | h
  · have := Int.mul_le_mul h2 h2 h (by omega : (0 : Int) ≤ 12000); omega
  · have := Int.mul_le_mul (by omega : -x ≤ 12000) (by omega : -x ≤ 12000) (by omega : 0 ≤ -x) (by omega : (0 : Int) ≤ 12000)
    rw [Int.neg_mul_neg] at this; omega
theorem part_bd {a : List Int} {sq : Bool} (hr : rowB a = true) {i j : Int} (h0 : 0 ≤ i) (h1 : i ≤ j) (h2 : j < (a.length : Int)) : 0 ≤ partV a sq i j ∧ partV a sq i j ≤ 144000000 := by
  obtain ⟨hz, -, h12⟩ := rowB_true.1 hr
  refine ⟨part_nonneg a sq i j, ?_⟩
  unfold partV
  split
  · have := smN_bd hz i.toNat ((j - i).toNat + 1)
    rw [smTo_smN]
    exact sqr_bd (by omega) (by omega)
  · obtain ⟨t, t1, t2⟩ := hiTo_at a i.toNat (j - i).toNat
    obtain ⟨u, u1, u2⟩ := loTo_at a i.toNat (j - i).toNat
    have g1 := hz _ (List.getElem_mem (show i.toNat + t < a.length by omega))
    have g2 := hz _ (List.getElem_mem (show i.toNat + u < a.length by omega))
    rw [← getD_in (show i.toNat + t < a.length by omega)] at g1
    rw [← getD_in (show i.toNat + u < a.length by omega)] at g2
    omega
theorem segC_bd {W : Int → Int → Int} {n : Int} (hW : ∀ i j, 0 ≤ i → i ≤ j → j < n → 0 ≤ W i j ∧ W i j ≤ 144000000) : ∀ {l : List Int} {f : Int}, 0 ≤ f → Seg f l n → 0 ≤ segC W f l ∧ segC W f l ≤ 144000000 * (l.length : Int)
  | [], _, _, _ => ⟨Int.le_refl _, Int.le_refl _⟩
  | x :: l, f, hf, h => by
    have := h.2.le
    have hx := h.1
    have ih := segC_bd hW (by omega) h.2
    have g := hW f x hf hx (by omega)
    rw [List.length_cons]
    simp only [segC]
    omega
theorem best_bd {W : Int → Int → Int} {n : Int} (hW : ∀ i j, 0 ≤ i → i ≤ j → j < n → 0 ≤ W i j ∧ W i j ≤ 144000000) {k : Nat} {f : Int} (hf : 0 ≤ f) (h : f + (k : Int) + 1 ≤ n) : 0 ≤ (bestL W n k f).1 ∧ (bestL W n k f).1 ≤ 144000000 * ((k : Int) + 1) ∧ (bestL W n k f).2.length = k + 1 := by
  obtain ⟨b1, b2, -, -⟩ := bestL_best W n k f h
  have := segC_bd hW hf b1.1
  rw [b2, b1.2] at this
  exact ⟨this.1, by omega, b1.2⟩

/- Sums over the parts, one by one. -/
def pairs : Int → List Int → List (Int × Int)
  | _, [] => []
  | f, x :: l => (f, x) :: pairs (x + 1) l
theorem pairs_len : ∀ (l : List Int) (f : Int), (pairs f l).length = l.length
  | [], _ => rfl
  | x :: l, f => by rw [pairs, List.length_cons, List.length_cons, pairs_len l]
theorem segC_sum (W : Int → Int → Int) : ∀ (l : List Int) (f : Int), segC W f l = sumL ((pairs f l).map fun q => W q.1 q.2)
  | [], _ => rfl
  | x :: l, f => by simp only [segC, pairs, List.map_cons, sumL]; rw [segC_sum W l]
theorem pairs_in : ∀ {l : List Int} {f m : Int}, Seg f l m → ∀ q, q ∈ pairs f l → f ≤ q.1 ∧ q.1 ≤ q.2 ∧ q.2 < m
  | x :: l, f, m, h, q, hq => by
    have := h.1
    rcases List.mem_cons.1 hq with rfl | hq
    · have := h.2.le
      exact ⟨Int.le_refl _, by omega, by dsimp only; omega⟩
    · have := pairs_in h.2 q hq; omega
def maxTo (W : Int → Int → Int) (q : Int × Int) (ps : List (Int × Int)) : Int := ps.foldl (fun m p => max m (W p.1 p.2)) (W q.1 q.2)
theorem foldl_max (W : Int → Int → Int) : ∀ (ps : List (Int × Int)) (u v : Int), ps.foldl (fun m p => max m (W p.1 p.2)) (max u v) = max u (ps.foldl (fun m p => max m (W p.1 p.2)) v)
  | [], _, _ => rfl
  | p :: ps, u, v => by
    simp only [List.foldl_cons]
    rw [show max (max u v) (W p.1 p.2) = max u (max v (W p.1 p.2)) by omega, foldl_max W ps]
theorem maxC_fold (W : Int → Int → Int) : ∀ (l : List Int) (f x : Int), maxC W f (x :: l) = maxTo W (f, x) (pairs (x + 1) l)
  | [], _, _ => rfl
  | y :: l, f, x => by
    rw [maxC_more, maxC_fold W l (x + 1) y]
    show max (W f x) (List.foldl _ (W (x + 1) y) _) = List.foldl _ (W f x) ((x + 1, y) :: pairs (y + 1) l)
    rw [List.foldl_cons, ← foldl_max]

/- The least cost with a number for each part. -/
theorem leastTo_first (zs : List Int) : ∀ k, 1 ≤ k → (leastTo zs k).1 < k ∧ (∀ j, j < k → zs.getD (leastTo zs k).1 0 ≤ zs.getD j 0) ∧ ∀ j, j < (leastTo zs k).1 → zs.getD (leastTo zs k).1 0 < zs.getD j 0
  | 0, h => absurd h (by omega)
  | k + 1, _ => by
    by_cases e : k = 0
    · subst e
      rw [leastTo_one]
      exact ⟨by omega, fun j hj => by rw [show j = 0 by omega]; exact Int.le_refl _, fun j hj => absurd hj (by simp)⟩
    · obtain ⟨h1, h2, h3⟩ := leastTo_first zs k (by omega)
      have st : (leastTo zs (k + 1)).1 = if zs.getD k 0 < zs.getD (leastTo zs k).1 0 then k else (leastTo zs k).1 := rfl
      rw [st]
      by_cases c : zs.getD k 0 < zs.getD (leastTo zs k).1 0
      · rw [if_pos c]
        refine ⟨by omega, fun j hj => ?_, fun j hj => ?_⟩
        · by_cases ej : j = k
          · rw [ej]; exact Int.le_refl _
          · have := h2 j (by omega); omega
        · have := h2 j hj; omega
      · rw [if_neg c]
        refine ⟨by omega, fun j hj => ?_, h3⟩
        by_cases ej : j = k
        · rw [ej]; omega
        · exact h2 j (by omega)
/-- Costs with a number for each part, for 1 part and so on. -/
def anyCosts (W : Int → Int → Int) (p : Int) (n : Nat) : List Int := (List.range n).map fun i => leastP W (n : Int) (i + 1) + ((i : Int) + 1) * p
theorem anyCosts_len (W : Int → Int → Int) (p : Int) (n : Nat) : (anyCosts W p n).length = n := by simp [anyCosts]
theorem anyCosts_get (W : Int → Int → Int) (p : Int) (n : Nat) {i : Nat} (h : i < n) : (anyCosts W p n).getD i 0 = leastP W (n : Int) (i + 1) + p * ((i + 1 : Nat) : Int) := by
  rw [getD_in (by rw [anyCosts_len]; exact h)]
  simp only [anyCosts, List.getElem_map, List.getElem_range]
  rw [Int.mul_comm, show ((i : Int) + 1) = ((i + 1 : Nat) : Int) by omega]
theorem any_is {W : Int → Int → Int} {p : Int} {n : Nat} (h : 1 ≤ n) : (anyCosts W p n).getD (leastTo (anyCosts W p n) n).1 0 = (anyL W p n).1 ∧ ((leastTo (anyCosts W p n) n).1 : Int) + 1 = (anyL W p n).2 := by
  obtain ⟨a1, a2, k, k1, k2, k3, k4⟩ := any_law (W := W) (p := p) h
  obtain ⟨b1, b2, b3⟩ := leastTo_first (anyCosts W p n) n h
  generalize (leastTo (anyCosts W p n) n).1 = i at b1 b2 b3
  have g := anyCosts_get W p n b1
  have gk := anyCosts_get W p n (show k - 1 < n by omega)
  rw [show k - 1 + 1 = k by omega] at gk
  have l1 := a1 (i + 1) (by omega) (by omega)
  have l2 := b2 (k - 1) (by omega)
  have e : (anyCosts W p n).getD i 0 = (anyL W p n).1 := by omega
  refine ⟨e, ?_⟩
  have l3 := a2 (i + 1) (by omega) (by omega) (by omega)
  rcases Nat.lt_or_ge (k - 1) i with c | c
  · have := b3 (k - 1) c; omega
  · omega
end Go.Proofs.Ytfkmnlhmldjieaa
