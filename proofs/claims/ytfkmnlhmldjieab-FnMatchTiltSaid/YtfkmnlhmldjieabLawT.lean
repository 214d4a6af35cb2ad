/-
  What the exact laws' own helpers do with lists of lists: copy them (toIntSS), weigh them (szIntS, szIntSS), compare two (eqIntSS), mark their cells (markIntSS), look whether the marks are still there (heldIntSS). Conditions: the cells are there.
-/
import Derived.Test.YtfkmnlhmldjieabTabA
import Derived.Test.YtfkmnlhmldjieabLaw
import Derived.StillTailTactics
namespace Go.Proofs.Ytfkmnlhmldjieab
open Go.RowKit

/-- How many numbers the first k lists have. -/
def totN (zss : List (List Int)) : Nat → Nat
  | 0 => 0
  | k + 1 => totN zss k + (zss.getD k []).length
set_option maxRecDepth 100000 in
theorem totN_mono (zss : List (List Int)) (k d : Nat) : totN zss k ≤ totN zss (k + d) := by
  induction d with
  | zero => exact Nat.le_refl _
  | succ d ih => rw [← Nat.add_assoc]; simp only [totN]; omega
set_option maxRecDepth 100000 in
theorem totN_le (zss : List (List Int)) {j k : Nat} (h : j ≤ k) : totN zss j ≤ totN zss k := by
  obtain ⟨d, rfl⟩ : ∃ d, k = j + d := ⟨k - j, by omega⟩
  exact totN_mono zss j d
set_option maxRecDepth 100000 in
theorem totN_row (zss : List (List Int)) {k : Nat} (h : k < zss.length) : (zss[k]).length ≤ totN zss zss.length := by
  have h1 := totN_le zss (show k + 1 ≤ zss.length by omega)
  simp only [totN, List.getD_eq_getElem?_getD, List.getElem?_eq_getElem h, Option.getD_some] at h1
  omega
set_option maxRecDepth 100000 in
theorem getRow {zss : List (List Int)} {k : Nat} (h : k < zss.length) : zss.getD k [] = zss[k] := by simp [List.getD, h]

/-- The marks of a list of lists, one after the other. -/
def marksT (zss : List (List Int)) (k : Int) : List (List Int) := (List.range zss.length).map fun j => marks (k + (totN zss j : Int)) (zss.getD j []).length
set_option maxRecDepth 100000 in
theorem marksT_len (zss : List (List Int)) (k : Int) : (marksT zss k).length = zss.length := by simp [marksT]
set_option maxRecDepth 100000 in
theorem marksT_get (zss : List (List Int)) (k : Int) (j : Nat) (h : j < (marksT zss k).length) : (marksT zss k)[j] = marks (k + (totN zss j : Int)) (zss.getD j []).length := by simp [marksT]
def markToT (zss : List (List Int)) (k : Int) (j : Nat) : List (List Int) := (List.range zss.length).map fun i => if i < j then marks (k + (totN zss i : Int)) (zss.getD i []).length else zss.getD i []
set_option maxRecDepth 100000 in
theorem markToT_len (zss : List (List Int)) (k : Int) (j : Nat) : (markToT zss k j).length = zss.length := by simp [markToT]
set_option maxRecDepth 100000 in
theorem markToT_at (zss : List (List Int)) (k : Int) (j i : Nat) (h : i < (markToT zss k j).length) : (markToT zss k j)[i] = if i < j then marks (k + (totN zss i : Int)) (zss.getD i []).length else zss.getD i [] := by simp [markToT]
set_option maxRecDepth 100000 in
theorem markToT_zero (zss : List (List Int)) (k : Int) : markToT zss k 0 = zss := by
  apply List.ext_getElem
  · exact markToT_len _ _ _
  · intro i h1 h2
    rw [markToT_at, if_neg (by omega), getRow h2]
set_option maxRecDepth 100000 in
theorem markToT_all (zss : List (List Int)) (k : Int) : markToT zss k zss.length = marksT zss k := by
  apply List.ext_getElem
  · rw [markToT_len, marksT_len]
  · intro i h1 h2
    rw [marksT_len] at h2
    rw [markToT_at, if_pos h2, marksT_get]
set_option maxRecDepth 100000 in
theorem markToT_get (zss : List (List Int)) (k : Int) (j : Nat) (h : j < zss.length) : (markToT zss k j)[j]'(by rw [markToT_len]; exact h) = zss[j] := by
  rw [markToT_at, if_neg (by omega), getRow h]
set_option maxRecDepth 100000 in
theorem markToT_set (zss : List (List Int)) (k : Int) (j : Nat) (h : j < zss.length) : (markToT zss k j).set j (marks (k + (totN zss j : Int)) zss[j].length) = markToT zss k (j + 1) := by
  apply List.ext_getElem
  · rw [List.length_set, markToT_len, markToT_len]
  · intro i h1 h2
    rw [List.getElem_set, markToT_at zss k (j + 1) i]
    by_cases e : j = i
    · subst e
      rw [if_pos rfl, if_pos (by omega), getRow h]
    · rw [if_neg e, markToT_at]
      by_cases e2 : i < j
      · rw [if_pos e2, if_pos (by omega)]
      · rw [if_neg e2, if_neg (by omega)]

set_option maxRecDepth 100000 in
theorem Only.trans {lo hi : Nat} {a b c : World} (h : Only lo hi a b) (k : Only lo hi b c) : Only lo hi a c :=
  ⟨k.os.trans h.os, k.tape.trans h.tape, k.output.trans h.output, k.size.trans h.size, fun i hi => (k.block i hi).trans (h.block i hi)⟩

set_option maxRecDepth 100000 in
theorem run_makeRows (n : Nat) (hn : n ≤ 1048576) (w : World) :
    (Instr.makeSlice 23 (.int .i64 (n : Int)) (.int .i64 (n : Int))).run Try.prog w = .ok (.slice (some ⟨w.heap.size, 0, none⟩) n n) (w.alloc (.cells (madeCells #[.slice none 0 0] n) 26)) := by
  obtain ⟨i0, hi, hz0, hz1, hz2⟩ := info_parts info_row
  have hr := run_make (P := Try.prog) w 23 26 i0 (.slice none 0 0) Try.underlying23 hi hz0 .i64 .i64 n n (by omega) (Int.le_refl _) (by rw [hz2]; omega) (by omega)
  rw [hz1] at hr
  simpa [Value.cells] using hr

def fillT (zss : List (List Int)) (j : Nat) : List (List Int) := (List.range zss.length).map fun i => if i < j then zss.getD i [] else []
set_option maxRecDepth 100000 in
theorem fillT_len (zss : List (List Int)) (j : Nat) : (fillT zss j).length = zss.length := by simp [fillT]
set_option maxRecDepth 100000 in
theorem fillT_at (zss : List (List Int)) (j i : Nat) (h : i < (fillT zss j).length) : (fillT zss j)[i] = if i < j then zss.getD i [] else [] := by simp [fillT]
set_option maxRecDepth 100000 in
theorem fillT_all (zss : List (List Int)) : fillT zss zss.length = zss := by
  apply List.ext_getElem
  · exact fillT_len _ _
  · intro i h1 h2
    rw [fillT_at, if_pos h2, getRow h2]
set_option maxRecDepth 100000 in
theorem fillT_set (zss : List (List Int)) (j : Nat) (h : j < zss.length) : (fillT zss j).set j zss[j] = fillT zss (j + 1) := by
  apply List.ext_getElem
  · rw [List.length_set, fillT_len, fillT_len]
  · intro i h1 h2
    rw [List.getElem_set, fillT_at zss (j + 1) i]
    by_cases e : j = i
    · subst e
      rw [if_pos rfl, if_pos (by omega), getRow h]
    · rw [if_neg e, fillT_at]
      by_cases e2 : i < j
      · rw [if_pos e2, if_pos (by omega)]
      · rw [if_neg e2, if_neg (by omega)]
set_option maxRecDepth 100000 in
theorem rows_made (w : World) (zss : List (List Int)) (t : TypeId) : Rows_ (w.alloc (.cells (madeCells #[.slice none 0 0] zss.length) t)) w.heap.size (w.heap.size + 1) (some ⟨w.heap.size, 0, none⟩) (fillT zss 0) w.heap.size 0 (fun _ => none) fun _ => 0 := by
  refine ⟨fun _ => ⟨rfl, Nat.le_refl _, by omega⟩, fun k hk => ?_, fun j k hj hk b o b' o' e => by cases e⟩
  have hk2 : k < zss.length := by rw [fillT_len] at hk; exact hk
  rw [fillT_at, if_neg (by omega)]
  refine ⟨?_, ⟨Nat.le_refl _, by omega⟩, ⟨by simp, by simp, by simp, fun h => absurd h (by simp)⟩, fun b' o' e => by cases e⟩
  rw [World.cell?_alloc_at _ _ _ _ rfl, ← Array.getElem?_toList, toList_madeCells_one]
  simp [hk2]

end Go.Proofs.Ytfkmnlhmldjieab
