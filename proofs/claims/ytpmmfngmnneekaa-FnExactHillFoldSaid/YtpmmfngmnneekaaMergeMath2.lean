/-
  Merging two lists by least sums, second part: merging by slopes, first places, many lists in any order, rests. Conditions: none.
-/
import Derived.Test.YtpmmfngmnneekaaMergeMath
namespace Go.Proofs.Ytpmmfngmnneekaa
open Go.RowKit

/-- What the slopes below s leave: the sum of s less each of them. -/
def posSum (s : Int) (l : List Int) : Int := (l.map fun d => max 0 (s - d)).sum
theorem posSum_nil (s : Int) : posSum s [] = 0 := rfl
theorem posSum_cons (s d : Int) (l : List Int) : posSum s (d :: l) = max 0 (s - d) + posSum s l := by simp [posSum]
theorem posSum_append (s : Int) (l m : List Int) : posSum s (l ++ m) = posSum s l + posSum s m := by simp [posSum]
theorem posSum_perm (s : Int) {l m : List Int} (h : l.Perm m) : posSum s l = posSum s m := by
  induction h with
  | nil => rfl
  | cons x _ ih => rw [posSum_cons, posSum_cons, ih]
  | swap x y l => rw [posSum_cons, posSum_cons, posSum_cons, posSum_cons]; omega
  | trans _ _ h1 h2 => rw [h1, h2]
theorem posSum_nonneg (s : Int) (l : List Int) : 0 ≤ posSum s l := by
  induction l with
  | nil => exact Int.le_refl _
  | cons d l ih => rw [posSum_cons]; omega
/-- The list that begins with x and has the slopes l (no wrap). -/
def addL : Int → List Int → List Int
  | x, [] => [x]
  | x, d :: l => x :: addL (x + d) l
theorem addL_len (x : Int) (l : List Int) : (addL x l).length = l.length + 1 := by
  induction l generalizing x with
  | nil => rfl
  | cons d l ih => simp [addL, ih]
theorem addL_zero (x : Int) (l : List Int) : (addL x l).getD 0 0 = x := by cases l <;> simp [addL]
theorem addL_succ (x d : Int) (l : List Int) (k : Nat) : (addL x (d :: l)).getD (k + 1) 0 = (addL (x + d) l).getD k 0 := by simp [addL]
theorem addL_slope (x : Int) (l : List Int) (k : Nat) (hk : k < l.length) : (addL x l).getD (k + 1) 0 - (addL x l).getD k 0 = l.getD k 0 := by
  induction l generalizing x k with
  | nil => cases hk
  | cons d l ih =>
    cases k with
    | zero => rw [addL_succ, addL_zero, addL_zero]; simp; omega
    | succ k =>
      rw [addL_succ, addL_succ]
      have := ih (x + d) k (by simpa using hk)
      simpa using this
theorem addL_slopes (zs : List Int) (h0 : 0 < zs.length) : addL (zs.getD 0 0) (slopesL zs) = zs := by
  have hl : (addL (zs.getD 0 0) (slopesL zs)).length = zs.length := by rw [addL_len, slopesL_len]; omega
  refine list_eq_getD hl fun k hk => ?_
  rw [hl] at hk
  induction k with
  | zero => rw [addL_zero]
  | succ k ih =>
    have h1 := addL_slope (zs.getD 0 0) (slopesL zs) k (by rw [slopesL_len]; omega)
    rw [slopesL_getD zs k hk] at h1
    have := ih (by omega)
    omega
/-- No slope is less than the one ahead of it. -/
def Sorted (l : List Int) : Prop := ∀ k, k + 1 < l.length → l.getD k 0 ≤ l.getD (k + 1) 0
theorem Sorted.tail {d : Int} {l : List Int} (h : Sorted (d :: l)) : Sorted l := fun k hk => by
  have := h (k + 1) (by simpa using hk)
  simpa using this
theorem Sorted.head {d : Int} {l : List Int} (h : Sorted (d :: l)) : ∀ x, x ∈ l → d ≤ x := by
  induction l generalizing d with
  | nil => intro x hx; cases hx
  | cons e l ih =>
    have h1 : d ≤ e := by have := h 0 (by simp); simpa using this
    intro x hx
    rcases List.mem_cons.1 hx with rfl | hx
    · exact h1
    · exact Int.le_trans h1 (ih h.tail x hx)
theorem addL_bent {x : Int} {l : List Int} (h : Sorted l) : bentB (addL x l) = true := by
  rw [bentB_iff]
  intro k hk
  rw [addL_len] at hk
  have h1 := addL_slope x l k (by omega)
  have h2 := addL_slope x l (k + 1) (by omega)
  have h3 := h k (by omega)
  rw [show k + 1 + 1 = k + 2 by omega] at h2
  omega
/-- Places further on, less what they cost: at most what the slopes below s leave, and that much somewhere. -/
theorem addL_le (s : Int) : ∀ (l : List Int) (x : Int) (k : Nat), k ≤ l.length → s * (k : Int) - (addL x l).getD k 0 ≤ -x + posSum s l := by
  intro l
  induction l with
  | nil => intro x k hk; obtain rfl : k = 0 := (by simpa using hk); rw [addL_zero, posSum_nil]; simp
  | cons d l ih =>
    intro x k hk
    rw [posSum_cons]
    have hp := posSum_nonneg s l
    cases k with
    | zero => rw [addL_zero]; simp; omega
    | succ k =>
      have := ih (x + d) k (by simpa using hk)
      rw [addL_succ]
      have e : s * ((k + 1 : Nat) : Int) = s * (k : Int) + s := by rw [Int.natCast_succ, Int.mul_add, Int.mul_one]
      omega
theorem posSum_zero {s : Int} : ∀ {l : List Int}, (∀ x, x ∈ l → s ≤ x) → posSum s l = 0 := by
  intro l
  induction l with
  | nil => intro _; rfl
  | cons d l ih =>
    intro h
    rw [posSum_cons, ih fun x hx => h x (List.mem_cons_of_mem _ hx)]
    have := h d (List.mem_cons_self ..)
    omega
theorem addL_at (s : Int) : ∀ (l : List Int) (x : Int), Sorted l → ∃ k, k ≤ l.length ∧ s * (k : Int) - (addL x l).getD k 0 = -x + posSum s l := by
  intro l
  induction l with
  | nil => intro x _; exact ⟨0, Nat.le_refl _, by rw [addL_zero, posSum_nil]; simp⟩
  | cons d l ih =>
    intro x h
    by_cases c : d < s
    · obtain ⟨k, h1, h2⟩ := ih (x + d) h.tail
      refine ⟨k + 1, by simpa using h1, ?_⟩
      rw [addL_succ, posSum_cons]
      have e : s * ((k + 1 : Nat) : Int) = s * (k : Int) + s := by rw [Int.natCast_succ, Int.mul_add, Int.mul_one]
      omega
    · refine ⟨0, Nat.zero_le _, ?_⟩
      rw [addL_zero, posSum_zero fun y hy => ?_]
      · simp
      · rcases List.mem_cons.1 hy with rfl | hy
        · omega
        · have := h.head y hy; omega
theorem addL_fall {x : Int} {l : List Int} (h : Sorted l) (s : Int) : fallL (addL x l) s = -x + posSum s l := by
  apply Int.le_antisymm
  · exact fall_le _ _ _ (by rw [addL_len]; omega) fun k hk => addL_le s l x k (by rw [addL_len] at hk; omega)
  · obtain ⟨k, h1, h2⟩ := addL_at s l x h
    have := fall_ge (addL x l) s k (by rw [addL_len]; omega)
    omega
theorem bent_slopes_sorted {zs : List Int} (hb : bentB zs = true) : Sorted (slopesL zs) := by
  intro k hk
  rw [slopesL_len] at hk
  rw [slopesL_getD zs k (by omega), slopesL_getD zs (k + 1) (by omega)]
  have := (bentB_iff zs).1 hb k (by omega)
  rw [show k + 1 + 1 = k + 2 by omega]
  omega
theorem bent_fall {zs : List Int} (hb : bentB zs = true) (h0 : 0 < zs.length) (s : Int) : fallL zs s = -zs.getD 0 0 + posSum s (slopesL zs) := by
  have := addL_fall (x := zs.getD 0 0) (bent_slopes_sorted hb) s
  rwa [addL_slopes zs h0] at this
/-- Bent lists are merged by slopes: whatever list has just their slopes, in order. -/
theorem merge_slopes {a b l : List Int} {B C : Int} (ha : BdU B a) (hb : BdU C b) (hBC : B + C ≤ 40000) (h0 : 0 < a.length) (h1 : 0 < b.length) (hba : bentB a = true) (hbb : bentB b = true) (hl : l.Perm (slopesL a ++ slopesL b)) (hs : Sorted l) :
    addL (a.getD 0 0 + b.getD 0 0) l = mergeL a b := by
  refine bent_same ?_ (addL_bent hs) (merge_bent ha hb hBC h0 h1 hba hbb) fun s => ?_
  · rw [addL_len, merge_len, hl.length_eq, List.length_append, slopesL_len, slopesL_len]; omega
  · rw [addL_fall hs, merge_fall ha hb hBC h0 h1, bent_fall hba h0, bent_fall hbb h1, posSum_perm s hl, posSum_append]
    omega

/-- i is the first place of a for which the least sum comes at k. -/
def FirstAt (a b : List Int) (k i : Nat) : Prop :=
  i ≤ k ∧ i < a.length ∧ k - i < b.length ∧ MLe a b k (a.getD i 0 + b.getD (k - i) 0) ∧ ∀ i', i' < i → k - i' < b.length → a.getD i 0 + b.getD (k - i) 0 < a.getD i' 0 + b.getD (k - i') 0
theorem first_next {a b : List Int} (hba : bentB a = true) (hbb : bentB b = true) {k i i' : Nat} (h : FirstAt a b k i) (h' : FirstAt a b (k + 1) i') : i ≤ i' ∧ i' ≤ i + 1 := by
  obtain ⟨p1, p2, p3, ⟨p4, -⟩, p5⟩ := h
  obtain ⟨q1, q2, q3, ⟨q4, -⟩, q5⟩ := h'
  constructor
  · refine Classical.byContradiction fun hc => ?_
    have n := bent_near hbb (show (k - i) + 1 ≤ k + 1 - i' by omega) q3
    rw [show k - i + 1 = k + 1 - i by omega, show k + 1 - i' - 1 = k - i' by omega] at n
    have m1 := q4 i (k + 1 - i) p2 (by omega) (by omega)
    have m2 := p5 i' (by omega) (by omega)
    omega
  · refine Classical.byContradiction fun hc => ?_
    have n := bent_near hba (show i + 1 ≤ i' by omega) q2
    have m1 := p4 (i' - 1) (k + 1 - i') (by omega) q3 (by omega)
    have m2 := q5 (i + 1) (by omega) (by omega)
    rw [show k + 1 - (i + 1) = k - i by omega] at m2
    omega
end Go.Proofs.Ytpmmfngmnneekaa
