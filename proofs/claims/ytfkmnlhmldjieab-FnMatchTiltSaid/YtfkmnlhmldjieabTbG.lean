/-
  merged and TableMerge of the program. Conditions: the lists' cells are there.
-/
import Derived.Test.YtfkmnlhmldjieabTbS
import Derived.Test.YtfkmnlhmldjieabTbF
namespace Go.Proofs.Ytfkmnlhmldjieab
open Go.RowKit Go.Shelf
attribute [local go_sem] Oper.semAt_some

theorem minN_congr {f g : Nat → Int} {n : Nat} (h : ∀ l, l ≤ n → f l = g l) : minN f n = minN g n := by
  induction n with
  | zero => exact h 0 (Nat.le_refl _)
  | succ n ih =>
    show min (minN f n) (f (n + 1)) = min (minN g n) (g (n + 1))
    rw [ih fun l hl => h l (by omega), h (n + 1) (Nat.le_refl _)]
/-- The least of the first ones. -/
def lmN (h : Nat → Int) : Nat → Int
  | 0 => 9223372036854775807
  | j + 1 => minN h j
theorem lmN_step (h : Nat → Int) (hb : ∀ l, h l ≤ 9223372036854775807) (j : Nat) : lmN h (j + 1) = min (lmN h j) (h j) := by
  cases j with
  | zero => have := hb 0; show h 0 = min 9223372036854775807 (h 0); omega
  | succ j => rfl

theorem mergeT_bd {f g : Nat → Nat → Int} {n m m' : Nat} (hm : 1 ≤ m) (hf : ∀ i k, i < n → k < m → -1000 ≤ f i k ∧ f i k ≤ 1000) (hg : ∀ i k, i < m → k < m' → -1000 ≤ g i k ∧ g i k ≤ 1000) {i k : Nat} (hi : i < n) (hk : k < m') : -2000 ≤ mergeT f g m i k ∧ mergeT f g m i k ≤ 2000 := by
  obtain ⟨l, h1, h2⟩ := minN_at (fun l => f i l + g l k) (m - 1)
  unfold mergeT
  rw [h2]
  have := hf i l hi (by omega)
  have := hg l k (by omega) hk
  show -2000 ≤ f i l + g l k ∧ f i l + g l k ≤ 2000
  omega

end Go.Proofs.Ytfkmnlhmldjieab
