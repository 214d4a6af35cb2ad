/-
  leastColumn, leastColumns and TableLeast of the program. Conditions: the lists' cells are there.
-/
import Derived.Test.YtanoojpmokbiaabTbA
import Derived.Test.YtanoojpmokbiaabLeast2
import Derived.Test.YtanoojpmokbiaabTsA
import Derived.Test.YtanoojpmokbiaabMathA
namespace Go.Proofs.Ytanoojpmokbiaab
open Go.RowKit Go.Shelf
attribute [local go_sem] Oper.semAt_some

set_option maxRecDepth 100000 in
theorem Fst.congr {f g : Nat → Int} {a b i : Nat} (h : Fst f a b i) (e : ∀ k, a ≤ k → k ≤ b → f k = g k) : Fst g a b i := by
  obtain ⟨h1, h2, h3, h4⟩ := h
  refine ⟨h1, h2, fun k q1 q2 => ?_, fun k q1 q2 => ?_⟩
  · rw [← e i h1 h2, ← e k q1 q2]; exact h3 k q1 q2
  · rw [← e i h1 h2, ← e k q1 (by omega)]; exact h4 k q1 q2
set_option maxRecDepth 100000 in
theorem fstTo_congr {f g : Nat → Int} {a d : Nat} (e : ∀ k, a ≤ k → k ≤ a + d → f k = g k) : fstTo f a d = fstTo g a d :=
  ((fstTo_is f a d).congr e).uniq (fstTo_is g a d)
/-- A part of a row. -/
def segL (f : Nat → Int) (a d : Nat) : List Int := (List.range (d + 1)).map fun j => f (a + j)
set_option maxRecDepth 100000 in
theorem segL_len (f : Nat → Int) (a d : Nat) : (segL f a d).length = d + 1 := by simp [segL]
set_option maxRecDepth 100000 in
theorem segL_get (f : Nat → Int) (a d j : Nat) (h : j ≤ d) : (segL f a d).getD j 0 = f (a + j) := by
  unfold segL
  rw [getD_in (show j < _ by simp; omega)]
  simp
set_option maxRecDepth 100000 in
theorem seg_least (f : Nat → Int) (a d : Nat) : a + (leastTo (segL f a d) (segL f a d).length).1 = fstTo f a d := by
  rw [segL_len]
  obtain ⟨h1, h2, h3, h4⟩ := leastTo_spec (segL f a d) d
  obtain ⟨s, hs⟩ : ∃ s, (leastTo (segL f a d) (d + 1)).1 = s := ⟨_, rfl⟩
  rw [hs] at h1 h3 h4
  rw [hs]
  have hsd : s ≤ d := by omega
  refine Fst.uniq (f := f) (a := a) (b := a + d) ⟨by omega, by omega, fun k q1 q2 => ?_, fun k q1 q2 => ?_⟩ (fstTo_is f a d)
  · have := (h4 (k - a) (by omega)).1
    rw [segL_get _ _ _ _ hsd, segL_get _ _ _ _ (by omega), show a + (k - a) = k by omega] at this
    exact this
  · obtain ⟨g1, g2⟩ := h4 (k - a) (by omega)
    rw [segL_get _ _ _ _ hsd, segL_get _ _ _ _ (show k - a ≤ d by omega), show a + (k - a) = k by omega] at g1 g2
    rcases Int.lt_or_eq_of_le g1 with c | c
    · exact c
    · have := (g2 c.symm).1; omega
set_option maxRecDepth 100000 in
theorem Cells.grow {w w' : World} {b off : Nat} {xs : List Int} (h : Cells w b off xs) (hb : Below w.heap.size w w') (hl : b < w.heap.size) : Cells w' b off xs := fun j hj =>
  ⟨(hb.cell (p := ⟨b, off + j, none⟩) hl).trans (h j hj).1, (World.frozen?_of_block (a := ⟨b, off + j, none⟩) (hb.block b hl)).trans (h j hj).2⟩
/-- The least columns of all rows. -/
def colsL (n m : Nat) (f : Nat → Nat → Int) : List Int := (List.range n).map fun i => (fstTo (f i) 0 (m - 1) : Int)
set_option maxRecDepth 100000 in
theorem colsL_len (n m : Nat) (f : Nat → Nat → Int) : (colsL n m f).length = n := by simp [colsL]

set_option maxRecDepth 100000 in
theorem cols_table {t : List (List Int)} {n m : Nat} {f : Nat → Nat → Int} (ht : tableB t = true) (hn : n = t.length) (hm : m = colsN t) (hf : ∀ i k, i < t.length → k < colsN t → f i k = ent t i k) : colsL n m f = t.map fun r => (firstOf r : Int) := by
  subst hn; subst hm
  obtain ⟨h1, h2, h3, h4⟩ := table_sh ht
  apply List.ext_getElem
  · simp [colsL]
  · intro i q1 q2
    have hi : i < t.length := by simpa [colsL] using q1
    simp only [colsL, List.getElem_map, List.getElem_range]
    unfold firstOf
    rw [table_row ht hi]
    congr 1
    refine fstTo_congr fun k _ hk => ?_
    rw [hf i k hi (by omega)]
    unfold ent
    rw [show t.getD i [] = t[i] by simp [List.getD, hi]]

end Go.Proofs.Ytanoojpmokbiaab
