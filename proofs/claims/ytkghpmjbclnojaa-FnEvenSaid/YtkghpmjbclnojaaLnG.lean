/-
  One entry as often as is asked (slices.Repeat at a list of one entry, up to twelve times), and the greatest lines of a book: greatest. Conditions: the cells are there.
-/
import Derived.Test.YtkghpmjbclnojaaLn5
import Derived.Test.YtkghpmjbclnojaaHeld
import Derived.Laws.IdiomCopy
import Derived.LoopIn
namespace Go.Proofs.Ytkghpmjbclnojaa
open Go.RowKit Go.Shelf
attribute [local go_sem] Oper.semAt_some

theorem Cells.setAll {b off : Nat} (v : Int) : ∀ (m : Nat) {w : World} {xs : List Int} (o : Nat), Cells w b off xs → o + m ≤ xs.length → Cells (w.setCells b (off + o) (List.replicate m (.int .i64 v))) b off (xs.take o ++ List.replicate m v ++ xs.drop (o + m))
  | 0, w, xs, o, h, _ => by simpa [World.setCells] using h
  | m + 1, w, xs, o, h, hl => by
    have h1 := Cells.setAll v m (o + 1) (h.set_ o (by omega) v) (by simp; omega)
    rw [List.replicate_succ, World.setCells]
    have e : (xs.set o v).take (o + 1) ++ List.replicate m v ++ (xs.set o v).drop (o + 1 + m) = xs.take o ++ List.replicate (m + 1) v ++ xs.drop (o + (m + 1)) := by
      apply List.ext_getElem
      · simp; omega
      · intro j j1 j2
        simp only [List.getElem_append, List.getElem_take, List.getElem_drop, List.getElem_replicate, List.getElem_set, List.length_append, List.length_take, List.length_set, List.length_replicate]
        simp at j1 j2
        by_cases c1 : j < o
        · have : o ≠ j := by omega
          have c2 : j < min (o + 1) xs.length := by omega
          have c3 : j < min o xs.length := by omega
          have c4 : j < min (o + 1) xs.length + m := by omega
          have c5 : j < min o xs.length + (m + 1) := by omega
          simp [c2, c3, c4, c5, this]
        · by_cases c2 : j = o
          · subst c2
            have c3 : j < min (j + 1) xs.length := by omega
            have c4 : ¬ j < min j xs.length := by omega
            have c5 : j < min (j + 1) xs.length + m := by omega
            have c6 : j < min j xs.length + (m + 1) := by omega
            simp [c3, c4, c5, c6]
          · by_cases c3 : j < o + (m + 1)
            · have c4 : ¬ j < min (o + 1) xs.length := by omega
              have c5 : ¬ j < min o xs.length := by omega
              have c6 : j < min (o + 1) xs.length + m := by omega
              have c7 : j < min o xs.length + (m + 1) := by omega
              simp [c4, c5, c6, c7]
            · have c6 : ¬ j < min (o + 1) xs.length + m := by omega
              have c7 : ¬ j < min o xs.length + (m + 1) := by omega
              have c8 : o ≠ o + 1 + m + (j - (min (o + 1) xs.length + m)) := by omega
              have e1 : o + 1 + m + (j - (min (o + 1) xs.length + m)) = o + (m + 1) + (j - (min o xs.length + (m + 1))) := by omega
              simp only [c6, c7, dif_neg, not_false_eq_true]
              simp [c8]
              congr 1
    rw [e] at h1
    exact h1
theorem below_setAll {B b : Nat} {w : World} (hB : B ≤ b) (v : Int) : ∀ (m : Nat) {w' : World} (o : Nat), Below B w w' → Below B w (w'.setCells b o (List.replicate m (.int .i64 v)))
  | 0, w', o, h => by simpa [World.setCells] using h
  | m + 1, w', o, h => by
    rw [List.replicate_succ, World.setCells]
    exact below_setAll hB v m (o + 1) (h.setCell (p := ⟨b, o, none⟩) hB _)
theorem size_setAll (v : Int) (b : Nat) : ∀ (m : Nat) {w' : World} (o : Nat), (w'.setCells b o (List.replicate m (.int .i64 v))).heap.size = w'.heap.size
  | 0, w', o => by simp [World.setCells]
  | m + 1, w', o => by
    rw [List.replicate_succ, World.setCells, size_setAll v b m (o + 1)]
    simp
/-- The first k entries are v, then noughts. -/
def vTo (v : Int) (N k : Nat) : List Int := List.replicate k v ++ List.replicate (N - k) 0
theorem vTo_len {v : Int} {N k : Nat} (h : k ≤ N) : (vTo v N k).length = N := by simp [vTo]; omega
theorem vTo_more {v : Int} {N k m : Nat} (h : k + m ≤ N) : (vTo v N k).take k ++ List.replicate m v ++ (vTo v N k).drop (k + m) = vTo v N (k + m) := by
  unfold vTo
  have e1 : (List.replicate k v ++ List.replicate (N - k) (0 : Int)).take k = List.replicate k v := by simp
  have e2 : (List.replicate k v ++ List.replicate (N - k) (0 : Int)).drop (k + m) = List.replicate (N - (k + m)) 0 := by
    rw [List.drop_append, List.drop_eq_nil_of_le (by simp), List.drop_replicate, List.nil_append, List.length_replicate]
    congr 1
    omega
  have e3 : List.replicate (k + m) v = List.replicate k v ++ List.replicate m v := by rw [List.replicate_append_replicate]
  rw [e1, e2, e3]
theorem vTo_get {v : Int} {N k : Nat} (hk : k ≤ N) {w : World} {b : Nat} (h : Cells w b 0 (vTo v N k)) {j : Nat} (hj : j < k) : w.cell? ⟨b, j, none⟩ = some (.int .i64 v) := by
  have := (h j (by rw [vTo_len hk]; omega)).1
  rw [Nat.zero_add] at this
  rw [this]
  simp [vTo, hj]

end Go.Proofs.Ytkghpmjbclnojaa
