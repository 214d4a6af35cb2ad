/-
  Results of trying, brought together: the order in which sharings are tried. No program here. Conditions: none.
-/
import Derived.Test.YtclhbmmlkcbdkaaShA
namespace Go.Proofs.Ytclhbmmlkcbdkaa
open Go.RowKit

/-- A cost, a sharing that has it, how many have it. -/
abbrev Res := Int × List Int × Int
/-- Two results brought together; the first one has been tried ahead. -/
def comb (a b : Res) : Res :=
  if b.2.2 = 0 then a
  else if a.2.2 = 0 ∨ b.1 < a.1 then b
  else if b.1 = a.1 then (a.1, a.2.1, a.2.2 + b.2.2)
  else a
/-- A result behind some places and their cost. -/
def shiftT (c : Int) (p : List Int) (q : Res) : Res := (q.1 + c, p ++ q.2.1, q.2.2)
theorem stepT_comb (acc : Res) (x : Nat) (q : Res) (e : Int) : stepT acc x q e = comb acc (shiftT e [(x : Int)] q) := rfl
theorem comb_none {a b : Res} (h : b.2.2 = 0) : comb a b = a := by unfold comb; rw [if_pos h]
theorem comb_assoc {a b c : Res} (ha : 0 ≤ a.2.2) (hb : 0 ≤ b.2.2) (hc : 0 ≤ c.2.2) : comb (comb a b) c = comb a (comb b c) := by
  obtain ⟨a1, a2, a3⟩ := a; obtain ⟨b1, b2, b3⟩ := b; obtain ⟨c1, c2, c3⟩ := c
  dsimp only at ha hb hc
  by_cases h1 : c3 = 0
  · simp [comb, h1]
  by_cases h2 : b3 = 0
  · simp [comb, h1, h2]
  by_cases h3 : a3 = 0
  · simp only [comb, h1, h2, h3, if_false, true_or, if_true, false_or]
    split
    · rfl
    · split
      · simp [show ¬ (b3 + c3 = 0) by omega]
      · simp
  · rcases Int.lt_trichotomy b1 a1 with h4 | h4 | h4
    · simp only [comb, h1, h2, h3, h4, if_false, or_true, if_true, false_or]
      rcases Int.lt_trichotomy c1 b1 with h5 | h5 | h5
      · simp [h1, h5, show c1 < a1 by omega]
      · subst h5
        simp [h4, show ¬ (b3 + c3 = 0) by omega]
      · simp [show ¬ c1 < b1 by omega, show ¬ c1 = b1 by omega, h2, h4]
    · subst h4
      simp only [comb, h1, h2, h3, Int.lt_irrefl, if_false, or_self, false_or, if_true]
      simp only [show ¬ (a3 + b3 = 0) by omega, false_or]
      rcases Int.lt_trichotomy c1 b1 with h5 | h5 | h5
      · simp [h1, h5]
      · subst h5
        simp [show ¬ (b3 + c3 = 0) by omega, Int.add_assoc]
      · simp [show ¬ c1 < b1 by omega, show ¬ c1 = b1 by omega, h2]
    · simp only [comb, h1, h2, h3, show ¬ b1 < a1 by omega, show ¬ b1 = a1 by omega, if_false, false_or]
      rcases Int.lt_trichotomy c1 b1 with h5 | h5 | h5
      · simp [h1, h5]
      · subst h5
        simp [show ¬ (b3 + c3 = 0) by omega, show ¬ c1 < a1 by omega, show ¬ c1 = a1 by omega]
      · simp [show ¬ c1 < b1 by omega, show ¬ c1 = b1 by omega, h2, show ¬ b1 < a1 by omega, show ¬ b1 = a1 by omega, show ¬ c1 < a1 by omega, show ¬ c1 = a1 by omega]
theorem comb_shift (c : Int) (p : List Int) (a b : Res) : comb (shiftT c p a) (shiftT c p b) = shiftT c p (comb a b) := by
  obtain ⟨a1, a2, a3⟩ := a; obtain ⟨b1, b2, b3⟩ := b
  simp only [comb, shiftT]
  by_cases h1 : b3 = 0
  · simp [h1]
  by_cases h2 : a3 = 0
  · simp [h1, h2]
  rcases Int.lt_trichotomy b1 a1 with h | h | h
  · simp [h1, h2, h, show b1 + c < a1 + c by omega]
  · simp [h1, h2, h]
  · simp [h1, h2, show ¬ b1 + c < a1 + c by omega, show ¬ b1 < a1 by omega, show ¬ b1 = a1 by omega, show ¬ b1 + c = a1 + c by omega]
theorem shift_shift (c e : Int) (p : List Int) (x : Int) (q : Res) : shiftT c p (shiftT e [x] q) = shiftT (c + e) (p ++ [x]) q := by
  obtain ⟨q1, q2, q3⟩ := q
  simp only [shiftT, List.append_assoc, Prod.mk.injEq, and_true]
  omega
theorem shift_nil (q : Res) : shiftT 0 [] q = q := by
  obtain ⟨q1, q2, q3⟩ := q
  simp [shiftT]
theorem comb_start (q : Res) : comb (0, [], 0) q = if q.2.2 = 0 then (0, [], 0) else q := by
  unfold comb
  simp

/- How many, how dear, how long. -/
theorem comb_cnt {a b : Res} {A B : Int} (ha : 0 ≤ a.2.2 ∧ a.2.2 ≤ A) (hb : 0 ≤ b.2.2 ∧ b.2.2 ≤ B) : 0 ≤ (comb a b).2.2 ∧ (comb a b).2.2 ≤ A + B := by
  obtain ⟨a1, a2, a3⟩ := a; obtain ⟨b1, b2, b3⟩ := b
  dsimp only at ha hb
  unfold comb
  dsimp only
  split
  · dsimp only; omega
  · split
    · dsimp only; omega
    · split
      · dsimp only; omega
      · dsimp only; omega
theorem comb_bd {a b : Res} {B : Int} (ha : -B ≤ a.1 ∧ a.1 ≤ B) (hb : -B ≤ b.1 ∧ b.1 ≤ B) : -B ≤ (comb a b).1 ∧ (comb a b).1 ≤ B := by
  obtain ⟨a1, a2, a3⟩ := a; obtain ⟨b1, b2, b3⟩ := b
  dsimp only at ha hb
  unfold comb
  dsimp only
  split
  · exact ha
  · split
    · exact hb
    · split
      · exact ha
      · exact ha
theorem comb_len {a b : Res} {n : Nat} (ha : a.2.1.length ≤ n) (hb : b.2.1.length ≤ n) : (comb a b).2.1.length ≤ n := by
  obtain ⟨a1, a2, a3⟩ := a; obtain ⟨b1, b2, b3⟩ := b
  dsimp only at ha hb
  unfold comb
  dsimp only
  split
  · exact ha
  · split
    · exact hb
    · split
      · exact ha
      · exact ha
/-- A result of few rows. -/
def Small (d : Nat) (m : Int) (q : Res) : Prop := (0 ≤ q.2.2 ∧ q.2.2 ≤ m) ∧ (-(1000 * (d : Int)) ≤ q.1 ∧ q.1 ≤ 1000 * (d : Int)) ∧ q.2.1.length ≤ d
theorem small_zero (d : Nat) {m : Int} (hm : 0 ≤ m) : Small d m (0, [], 0) := ⟨⟨Int.le_refl _, hm⟩, ⟨by dsimp only; omega, by dsimp only; omega⟩, Nat.zero_le _⟩
theorem small_step {d : Nat} {k m e : Int} {x : Nat} {acc q : Res} (ha : Small (d + 1) k acc) (hq : Small d m q) (he : -1000 ≤ e ∧ e ≤ 1000) : Small (d + 1) (k + m) (stepT acc x q e) := by
  rw [stepT_comb]
  refine ⟨comb_cnt ha.1 hq.1, comb_bd ha.2.1 ?_, comb_len ha.2.2 ?_⟩
  · have h2 := hq.2.1
    have h : (shiftT e [(x : Int)] q).1 = q.1 + e := rfl
    rw [h]
    omega
  · have := hq.2.2
    simp [shiftT]; omega
theorem getD_fits {r : List Int} (h : ∀ z, z ∈ r → -1000 ≤ z ∧ z ≤ 1000) (k : Nat) : -1000 ≤ r.getD k 0 ∧ r.getD k 0 ≤ 1000 := by
  by_cases hk : k < r.length
  · have := h (r[k]) (List.getElem_mem hk)
    simpa [List.getD, hk] using this
  · simp [List.getD, hk]
theorem small_to {rs : List (List Int)} {m : Int} (hm : 0 ≤ m) (hrec : ∀ n, Small rs.length m (tryL rs n)) {r : List Int} (hr : ∀ z, z ∈ r → -1000 ≤ z ∧ z ≤ 1000) (n : Int) : ∀ j : Nat, Small (rs.length + 1) ((j : Int) * m) (tryTo (tryL rs) r n j)
  | 0 => small_zero _ (by simp)
  | j + 1 => by
    have h := small_step (x := j) (small_to hm hrec hr n j) (hrec (n - (j : Int))) (getD_fits hr j)
    have e : ((j + 1 : Nat) : Int) * m = (j : Int) * m + m := by rw [Int.natCast_succ, Int.add_mul, Int.one_mul]
    rw [e]
    exact h
theorem Small.more {d : Nat} {m k : Int} {q : Res} (h : Small d m q) (hm : m ≤ k) : Small d k q := ⟨⟨h.1.1, Int.le_trans h.1.2 hm⟩, h.2⟩
/-- 12 to the number of rows. -/
def pow12 : Nat → Int
  | 0 => 1
  | d + 1 => 12 * pow12 d
theorem pow12_pos : ∀ d, 1 ≤ pow12 d
  | 0 => Int.le_refl _
  | d + 1 => by have := pow12_pos d; show 1 ≤ 12 * pow12 d; omega
theorem try_small : ∀ {rs : List (List Int)}, (∀ r, r ∈ rs → (∀ z, z ∈ r → -1000 ≤ z ∧ z ≤ 1000) ∧ r.length ≤ 12) → ∀ n, Small rs.length (pow12 rs.length) (tryL rs n)
  | [], _ => fun n => by
    unfold tryL
    split
    · exact ⟨⟨by dsimp only; omega, Int.le_refl _⟩, ⟨by simp, by simp⟩, Nat.le_refl _⟩
    · exact small_zero _ (by decide)
  | r :: rs, h => fun n => by
    have hp := pow12_pos rs.length
    have h1 := h r List.mem_cons_self
    have h2 := small_to (by omega) (try_small fun s hs => h s (List.mem_cons_of_mem _ hs)) h1.1 n (min r.length (n.toNat + 1))
    refine Small.more h2 ?_
    show _ ≤ 12 * pow12 rs.length
    exact Int.mul_le_mul_of_nonneg_right (by have := h1.2; omega) (by omega)
theorem small_len {rs : List (List Int)} (hr : ∀ r, r ∈ rs → (∀ z, z ∈ r → -1000 ≤ z ∧ z ≤ 1000) ∧ r.length ≤ 12) {r : List Int} (h : ∀ z, z ∈ r → -1000 ≤ z ∧ z ≤ 1000) (n : Int) (j : Nat) : Small (rs.length + 1) ((j : Int) * pow12 rs.length) (tryTo (tryL rs) r n j) :=
  small_to (by have := pow12_pos rs.length; omega) (try_small hr) h n j

/- Too much is shared in no way. -/
theorem try_neg : ∀ (rs : List (List Int)) {n : Int}, n < 0 → (tryL rs n).2.2 = 0
  | [], n, h => by unfold tryL; rw [if_neg (by omega)]
  | r :: rs, n, h => by
    unfold tryL
    have hn : n.toNat = 0 := by omega
    rw [hn]
    by_cases h0 : r.length = 0
    · rw [h0]; rfl
    · rw [show min r.length (0 + 1) = 1 by omega]
      show (stepT (0, [], 0) 0 (tryL rs (n - 0)) _).2.2 = 0
      unfold stepT
      rw [if_pos (try_neg rs (by omega))]
theorem tryTo_more {rs : List (List Int)} {r : List Int} {n : Int} : ∀ {d m : Nat}, n < (m : Int) → tryTo (tryL rs) r n (m + d) = tryTo (tryL rs) r n m
  | 0, _, _ => rfl
  | d + 1, m, h => by
    show stepT (tryTo (tryL rs) r n (m + d)) (m + d) (tryL rs (n - ((m + d : Nat) : Int))) _ = _
    unfold stepT
    rw [if_pos (try_neg rs (by omega)), tryTo_more h]
/-- All places tried: as many as are left would do. -/
theorem tryTo_all (rs : List (List Int)) (r : List Int) (n : Int) : tryTo (tryL rs) r n r.length = tryL (r :: rs) n := by
  show _ = tryTo (tryL rs) r n (min r.length (n.toNat + 1))
  by_cases h : r.length ≤ n.toNat + 1
  · rw [Nat.min_eq_left h]
  · rw [Nat.min_eq_right (by omega)]
    have := tryTo_more (rs := rs) (r := r) (n := n) (d := r.length - (n.toNat + 1)) (m := n.toNat + 1) (by omega)
    rwa [show n.toNat + 1 + (r.length - (n.toNat + 1)) = r.length by omega] at this
/-- One place more, tried behind the places ahead. -/
theorem comb_next {st : Res} {cost : Int} {pre : List Int} {rs : List (List Int)} {r : List Int} {left : Int} {m : Nat} (hs : 0 ≤ st.2.2) (hr : ∀ r, r ∈ rs → (∀ z, z ∈ r → -1000 ≤ z ∧ z ≤ 1000) ∧ r.length ≤ 12) (h : ∀ z, z ∈ r → -1000 ≤ z ∧ z ≤ 1000) :
    comb (comb st (shiftT cost pre (tryTo (tryL rs) r left m))) (shiftT (cost + r.getD m 0) (pre ++ [(m : Int)]) (tryL rs (left - (m : Int)))) = comb st (shiftT cost pre (tryTo (tryL rs) r left (m + 1))) := by
  show _ = comb st (shiftT cost pre (stepT (tryTo (tryL rs) r left m) m (tryL rs (left - (m : Int))) (r.getD m 0)))
  rw [stepT_comb, ← comb_shift, shift_shift]
  exact comb_assoc hs (small_len hr h left m).1.1 (try_small hr _).1.1
end Go.Proofs.Ytclhbmmlkcbdkaa
