/-
  Hills folded step by step: what lies in the cells after some products. No program here. Conditions: none.
-/
import Derived.Test.YtpmmfngmnneekaaHillMath2
namespace Go.Proofs.Ytpmmfngmnneekaa
open Go.RowKit

/-- The sum at a place when all entries ahead of i have been taken, and i with the first k of the other. -/
def accF (a b : Nat → Int) (i k j : Nat) : Int := sumN (fun l => a l * backF b j l) i + if i ≤ j ∧ j < i + k then a i * b (j - i) else 0
theorem accF_none (a b : Nat → Int) (i j : Nat) : accF a b i 0 j = sumN (fun l => a l * backF b j l) i := by
  unfold accF
  rw [if_neg (by omega), Int.add_zero]
theorem accF_step (a b : Nat → Int) (i k j : Nat) : accF a b i (k + 1) j = if j = i + k then accF a b i k j + a i * b k else accF a b i k j := by
  unfold accF
  by_cases e : j = i + k
  · subst e
    rw [if_pos rfl, if_pos (by omega), if_neg (by omega), Int.add_zero, Nat.add_sub_cancel_left]
  · rw [if_neg e]
    by_cases c : i ≤ j ∧ j < i + k
    · rw [if_pos c, if_pos (by omega)]
    · rw [if_neg c, if_neg (by omega)]
theorem accF_next (a b : Nat → Int) (i n j : Nat) (hb : ∀ t, n ≤ t → b t = 0) : accF a b i n j = accF a b (i + 1) 0 j := by
  rw [accF_none, sumN]
  unfold accF backF
  by_cases c : i ≤ j
  · by_cases d : j < i + n
    · rw [if_pos ⟨c, d⟩, if_pos c]
    · rw [if_neg (by omega), if_pos c, hb (j - i) (by omega), Int.mul_zero]
  · rw [if_neg (by omega), if_neg c, Int.mul_zero]
theorem accF_all (a b : Nat → Int) (n j : Nat) (ha : ∀ t, n ≤ t → a t = 0) : accF a b n 0 j = foldF a b j := by
  rw [accF_none]
  rcases Nat.le_total (j + 1) n with c | c
  · exact fold_more a b j n c
  · rw [foldF]
    exact (sumN_more (fun k hk => by rw [ha k hk, Int.zero_mul]) c).symm
theorem accF_bd {a b : Nat → Int} (ha : ∀ t, 0 ≤ a t ∧ a t ≤ 1000) (hb : ∀ t, 0 ≤ b t ∧ b t ≤ 1000) (i k j : Nat) : 0 ≤ accF a b i k j ∧ accF a b i k j ≤ 1000000 * ((i : Int) + 1) := by
  have pr : ∀ x y : Int, 0 ≤ x ∧ x ≤ 1000 → 0 ≤ y ∧ y ≤ 1000 → 0 ≤ x * y ∧ x * y ≤ 1000000 := fun x y hx hy =>
    ⟨Int.mul_nonneg hx.1 hy.1, by have := Int.mul_le_mul hx.2 hy.2 hy.1 (by omega : (0 : Int) ≤ 1000); omega⟩
  have bk : ∀ l, 0 ≤ backF b j l ∧ backF b j l ≤ 1000 := fun l => by
    unfold backF
    split
    · exact hb _
    · omega
  have key : ∀ i : Nat, 0 ≤ sumN (fun l => a l * backF b j l) i ∧ sumN (fun l => a l * backF b j l) i ≤ 1000000 * (i : Int) := by
    intro i
    induction i with
    | zero => exact ⟨Int.le_refl _, Int.le_refl _⟩
    | succ i ih =>
      have := pr _ _ (ha i) (bk i)
      rw [sumN]
      omega
  have h1 := key i
  have h2 := pr _ _ (ha i) (hb (j - i))
  unfold accF
  split <;> omega
def accL (zs ys : List Int) (i k : Nat) : List Int := (List.range (zs.length + ys.length - 1)).map (accF (fun k => zs.getD k 0) (fun k => ys.getD k 0) i k)
theorem accL_len (zs ys : List Int) (i k : Nat) : (accL zs ys i k).length = zs.length + ys.length - 1 := by simp [accL]
theorem accL_get (zs ys : List Int) (i k j : Nat) (h : j < (accL zs ys i k).length) : (accL zs ys i k)[j] = accF (fun k => zs.getD k 0) (fun k => ys.getD k 0) i k j := by simp [accL]
theorem accL_zero (zs ys : List Int) : accL zs ys 0 0 = List.replicate (zs.length + ys.length - 1) 0 := by
  apply List.ext_getElem
  · rw [accL_len, List.length_replicate]
  · intro j h1 h2
    rw [accL_get, accF_none, List.getElem_replicate]; rfl
theorem accL_set (zs ys : List Int) {i k : Nat} (hj : i + k < (accL zs ys i k).length) : (accL zs ys i k).set (i + k) ((accL zs ys i k)[i + k] + zs.getD i 0 * ys.getD k 0) = accL zs ys i (k + 1) := by
  apply List.ext_getElem
  · rw [List.length_set, accL_len, accL_len]
  · intro j h1 h2
    rw [List.getElem_set, accL_get zs ys i (k + 1) j h2, accF_step]
    by_cases e : i + k = j
    · subst e
      rw [if_pos rfl, if_pos rfl, accL_get]
    · rw [if_neg e, if_neg (fun h => e h.symm), accL_get]
theorem accL_next (zs ys : List Int) (i : Nat) : accL zs ys i ys.length = accL zs ys (i + 1) 0 := by
  unfold accL
  congr 1
  funext j
  exact accF_next _ _ _ _ _ fun t ht => getD_out ht
theorem accL_all (zs ys : List Int) : accL zs ys zs.length 0 = foldHL zs ys := by
  unfold accL foldHL
  congr 1
  funext j
  exact accF_all _ _ _ _ fun t ht => getD_out ht
theorem hill_bd {zs : List Int} (h : hillB zs = true) (t : Nat) : 0 ≤ zs.getD t 0 ∧ zs.getD t 0 ≤ 1000 := by
  have h1 : nnB zs = true ∧ rowB zs = true := by simpa [hillB] using h
  refine ⟨nnB_nn h1.1 t, ?_⟩
  rcases Nat.lt_or_ge t zs.length with c | c
  · exact (row_getD h1.2 t c).2
  · rw [getD_out c]; decide
theorem accL_bd {zs ys : List Int} (h0 : hillB zs = true) (h1 : hillB ys = true) {i k j : Nat} (hi : i ≤ 12) (h : j < (accL zs ys i k).length) : 0 ≤ (accL zs ys i k)[j] ∧ (accL zs ys i k)[j] ≤ 13000000 := by
  rw [accL_get]
  have := accF_bd (hill_bd h0) (hill_bd h1) i k j
  omega
theorem accL_i64 {zs ys : List Int} (h0 : hillB zs = true) (h1 : hillB ys = true) {i k : Nat} (hi : i ≤ 12) : ∀ z, z ∈ accL zs ys i k → I64 z := by
  intro z hz
  obtain ⟨j, hj, rfl⟩ := List.getElem_of_mem hz
  have := accL_bd h0 h1 hi hj
  exact ⟨by omega, by omega⟩

/-! ### The same, place by place, whatever places come -/
def addAt (xs : List Int) (j : Nat) (v : Int) : List Int := xs.set j (xs.getD j 0 + v)
theorem addAt_len (xs : List Int) (j : Nat) (v : Int) : (addAt xs j v).length = xs.length := by simp [addAt]
def rowP (zs ys : List Int) (x : Nat) (pre : List (Fin ys.length)) (xs : List Int) : List Int := pre.foldl (fun (xs : List Int) (y : Fin ys.length) => addAt xs (x + y.1) (zs.getD x 0 * ys.getD y.1 0)) xs
theorem rowP_snoc (zs ys : List Int) (x : Nat) (pre : List (Fin ys.length)) (y : Fin ys.length) (xs : List Int) : rowP zs ys x (pre ++ [y]) xs = addAt (rowP zs ys x pre xs) (x + y.1) (zs.getD x 0 * ys.getD y.1 0) := by simp [rowP]
theorem rowP_len (zs ys : List Int) (x : Nat) (pre : List (Fin ys.length)) : ∀ xs : List Int, (rowP zs ys x pre xs).length = xs.length := by
  induction pre with
  | nil => intro xs; rfl
  | cons y pre ih => intro xs; exact (ih _).trans (addAt_len _ _ _)
def foldP (zs ys : List Int) (pre : List (Fin zs.length)) : List Int := pre.foldl (fun (xs : List Int) (x : Fin zs.length) => rowP zs ys x.1 (List.finRange ys.length) xs) (List.replicate (zs.length + ys.length - 1) 0)
theorem foldP_snoc (zs ys : List Int) (pre : List (Fin zs.length)) (x : Fin zs.length) : foldP zs ys (pre ++ [x]) = rowP zs ys x.1 (List.finRange ys.length) (foldP zs ys pre) := by simp [foldP]
theorem foldP_len (zs ys : List Int) (pre : List (Fin zs.length)) : (foldP zs ys pre).length = zs.length + ys.length - 1 := by
  unfold foldP
  suffices h : ∀ xs : List Int, (pre.foldl (fun (xs : List Int) (x : Fin zs.length) => rowP zs ys x.1 (List.finRange ys.length) xs) xs).length = xs.length by
    rw [h, List.length_replicate]
  induction pre with
  | nil => intro xs; rfl
  | cons y pre ih => intro xs; exact (ih _).trans (rowP_len _ _ _ _ _)
theorem finRange_next {n k : Nat} (h : k < n) : (List.finRange n).take k ++ [⟨k, h⟩] = (List.finRange n).take (k + 1) := by
  rw [List.take_add_one, List.getElem?_eq_getElem (by simpa using h)]
  simp
theorem rowP_acc (zs ys : List Int) {i : Nat} (hi : i < zs.length) : ∀ k, k ≤ ys.length → rowP zs ys i ((List.finRange ys.length).take k) (accL zs ys i 0) = accL zs ys i k := by
  intro k
  induction k with
  | zero => intro _; rfl
  | succ k ih =>
    intro hk
    have hj : i + k < (accL zs ys i k).length := by rw [accL_len]; omega
    rw [← finRange_next (show k < ys.length by omega), rowP_snoc, ih (by omega), ← accL_set zs ys hj]
    unfold addAt
    rw [getD_in hj]
theorem foldP_acc (zs ys : List Int) : ∀ k, k ≤ zs.length → foldP zs ys ((List.finRange zs.length).take k) = accL zs ys k 0 := by
  intro k
  induction k with
  | zero => intro _; exact (accL_zero zs ys).symm
  | succ k ih =>
    intro hk
    rw [← finRange_next (show k < zs.length by omega), foldP_snoc, ih (by omega)]
    have := rowP_acc zs ys (i := k) (by omega) ys.length (Nat.le_refl _)
    rw [List.take_of_length_le (by simp)] at this
    show rowP zs ys k _ _ = _
    rw [this, accL_next]
theorem foldP_all (zs ys : List Int) : foldP zs ys (List.finRange zs.length) = foldHL zs ys := by
  have := foldP_acc zs ys zs.length (Nat.le_refl _)
  rw [List.take_of_length_le (by simp)] at this
  rw [this, accL_all]
def BdM (xs : List Int) (M : Int) : Prop := ∀ z, z ∈ xs → 0 ≤ z ∧ z ≤ M
theorem BdM.get {xs : List Int} {M : Int} (h : BdM xs M) (h0 : 0 ≤ M) (j : Nat) : 0 ≤ xs.getD j 0 ∧ xs.getD j 0 ≤ M := by
  rcases Nat.lt_or_ge j xs.length with c | c
  · rw [getD_in c]; exact h _ (List.getElem_mem c)
  · rw [getD_out c]; exact ⟨by omega, h0⟩
theorem BdM.add {xs : List Int} {M v : Int} (h : BdM xs M) (h0 : 0 ≤ M) (hv : 0 ≤ v ∧ v ≤ 1000000) (j : Nat) : BdM (addAt xs j v) (M + 1000000) := by
  intro z hz
  rcases List.mem_or_eq_of_mem_set hz with hz | rfl
  · have := h z hz; omega
  · have := h.get h0 j; omega
theorem fold_mul {x y : Int} (hx : 0 ≤ x ∧ x ≤ 1000) (hy : 0 ≤ y ∧ y ≤ 1000) : 0 ≤ x * y ∧ x * y ≤ 1000000 :=
  ⟨Int.mul_nonneg hx.1 hy.1, by have := Int.mul_le_mul hx.2 hy.2 hy.1 (by omega : (0 : Int) ≤ 1000); omega⟩
theorem rowP_bd {zs ys : List Int} (h0 : hillB zs = true) (h1 : hillB ys = true) (x : Nat) (pre : List (Fin ys.length)) : ∀ {xs : List Int} {M : Int}, BdM xs M → 0 ≤ M → BdM (rowP zs ys x pre xs) (M + 1000000 * (pre.length : Int)) := by
  induction pre with
  | nil => intro xs M h _ z hz; have := h z hz; simpa using this
  | cons y pre ih =>
    intro xs M h hM
    have := ih (h.add hM (fold_mul (hill_bd h0 x) (hill_bd h1 y.1)) (x + y.1)) (by omega)
    intro z hz
    have := this z hz
    rw [List.length_cons]
    omega
theorem foldP_bd {zs ys : List Int} (h0 : hillB zs = true) (h1 : hillB ys = true) (pre : List (Fin zs.length)) : BdM (foldP zs ys pre) (1000000 * ((ys.length : Int) * (pre.length : Int))) := by
  unfold foldP
  suffices h : ∀ (xs : List Int) (M : Int), BdM xs M → 0 ≤ M → BdM (pre.foldl (fun (xs : List Int) (x : Fin zs.length) => rowP zs ys x.1 (List.finRange ys.length) xs) xs) (M + 1000000 * ((ys.length : Int) * (pre.length : Int))) by
    intro z hz
    have := h _ 0 (fun z hz => by rw [(List.mem_replicate.1 hz).2]; omega) (Int.le_refl _) z hz
    omega
  induction pre with
  | nil => intro xs M h _ z hz; have := h z hz; simpa using this
  | cons x pre ih =>
    intro xs M h hM
    have g := rowP_bd h0 h1 x.1 (List.finRange ys.length) h hM
    rw [List.length_finRange] at g
    have := ih _ _ g (by omega)
    intro z hz
    have := this z hz
    rw [List.length_cons, Int.natCast_add, Int.mul_add]
    omega
end Go.Proofs.Ytpmmfngmnneekaa
