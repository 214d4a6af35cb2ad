/-
  RowLeast of the program: the least entry, its first place and its last. Conditions: the row's cells are there.
-/
import Derived.Test.YtanoojpmokbiaabLeast
import Derived.Test.YtanoojpmokbiaabHeld
namespace Go.Proofs.Ytanoojpmokbiaab
open Go.RowKit Go.Shelf
attribute [local go_sem] Oper.semAt_some

/-- The three boxes: the least entry, the first place, the last place. -/
def LBox (W : World) (B : Nat) (zs : List Int) (s : Nat × Nat) : Prop :=
  Boxed W B 3 (.int .i64 (zs.getD s.1 0)) ∧ Boxed W (B + 1) 3 (.int .i64 (s.1 : Int)) ∧ Boxed W (B + 2) 3 (.int .i64 (s.2 : Int))
def leastOf (zs : List Int) (pre : List (Fin zs.length)) : Nat × Nat := pre.foldl (fun s x => lstep zs s x.1) (0, 0)
theorem leastOf_snoc (zs : List Int) (pre : List (Fin zs.length)) (x : Fin zs.length) : leastOf zs (pre ++ [x]) = lstep zs (leastOf zs pre) x.1 := by simp [leastOf]
theorem leastOf_eq (zs : List Int) (pre : List (Fin zs.length)) : zs.getD (leastOf zs pre).2 0 = zs.getD (leastOf zs pre).1 0 := by
  unfold leastOf
  generalize hs : ((0, 0) : Nat × Nat) = s
  have h0 : zs.getD s.2 0 = zs.getD s.1 0 := by rw [← hs]
  clear hs
  induction pre generalizing s with
  | nil => exact h0
  | cons x pre ih => exact ih _ (lstep_eq h0 x.1)
theorem leastOf_take (zs : List Int) (k : Nat) (hk : k ≤ zs.length) : leastOf zs ((List.finRange zs.length).take k) = leastTo zs k := by
  induction k with
  | zero => simp [leastOf, leastTo]
  | succ k ih =>
    rw [← finRange_succ (show k < zs.length by omega), leastOf_snoc, ih (by omega)]
    rfl
theorem leastOf_all (zs : List Int) : leastOf zs (List.finRange zs.length) = leastTo zs zs.length := by
  have := leastOf_take zs zs.length (Nat.le_refl _)
  rwa [List.take_of_length_le (by simp)] at this
theorem lBox_own {β : Type} (B : Nat) (zs : List Int) (f : β → Nat × Nat) : Own (fun s W => LBox W B zs (f s)) := by
  rintro s X Y row ⟨h1, h2, h3⟩ hg hrow
  have key : ∀ (g : Nat) (tt : TypeId) (u : Value), Boxed X g tt u → some g ≠ row := by
    intro g tt u hb e'
    obtain ⟨o, ho, hc⟩ := hrow g e'.symm
    rw [show X.heap[g]? = _ from hb] at ho; cases ho; cases hc
  exact ⟨h1.kept hg (key _ _ _ h1), h2.kept hg (key _ _ _ h2), h3.kept hg (key _ _ _ h3)⟩
/-- What a round does to the boxes. -/
theorem lBox_step {W : World} {B : Nat} {zs : List Int} {s : Nat × Nat} (h : LBox W B zs s) (he : zs.getD s.2 0 = zs.getD s.1 0) (i : Nat) :
    (zs.getD i 0 < zs.getD s.1 0 → LBox (((W.setCell ⟨B, 0, none⟩ (.int .i64 (zs.getD i 0))).setCell ⟨B + 1, 0, none⟩ (.int .i64 (i : Int))).setCell ⟨B + 2, 0, none⟩ (.int .i64 (i : Int))) B zs (lstep zs s i)) ∧
    (zs.getD i 0 = zs.getD s.1 0 → LBox (W.setCell ⟨B + 2, 0, none⟩ (.int .i64 (i : Int))) B zs (lstep zs s i)) ∧
    (zs.getD s.1 0 < zs.getD i 0 → LBox W B zs (lstep zs s i)) := by
  obtain ⟨h1, h2, h3⟩ := h
  have far : ∀ {W : World} {g g' : Nat} {u v : Value}, Boxed W g 3 u → g' ≠ g → Boxed (W.setCell ⟨g', 0, none⟩ v) g 3 u := fun hb hne => hb.kept (grownBy_setCell' _ _ _) (by simp; omega)
  refine ⟨fun hlt => ?_, fun heq => ?_, fun hgt => ?_⟩
  · have e : lstep zs s i = (i, i) := by
      unfold lstep
      rw [if_pos hlt, if_pos (by omega)]
    rw [e]
    exact ⟨far (far (h1.set _) (by omega)) (by omega), far ((far h2 (by omega)).set _) (by omega), (far (far h3 (by omega)) (by omega)).set _⟩
  · have e : lstep zs s i = (s.1, i) := by
      unfold lstep
      rw [if_neg (by omega), if_pos (by omega)]
    rw [e]
    exact ⟨far h1 (by omega), far h2 (by omega), h3.set _⟩
  · have e : lstep zs s i = s := by
      unfold lstep
      rw [if_neg (by omega), if_neg (by omega)]
    rw [e]
    exact ⟨h1, h2, h3⟩

def LBoxV (W : World) (B : Nat) (e f l : Int) : Prop :=
  Boxed W B 3 (.int .i64 e) ∧ Boxed W (B + 1) 3 (.int .i64 f) ∧ Boxed W (B + 2) 3 (.int .i64 l)
theorem lBox_same1 {W : World} {B : Nat} {e f l : Int} (h : LBoxV W B e f l) : LBoxV (W.setCell ⟨B, 0, none⟩ (.int .i64 e)) B e f l :=
  ⟨h.1.set _, h.2.1.kept (grownBy_setCell' _ _ _) (by simp), h.2.2.kept (grownBy_setCell' _ _ _) (by simp)⟩
theorem lBox_same2 {W : World} {B : Nat} {e f l : Int} (h : LBoxV W B e f l) : LBoxV (W.setCell ⟨B + 1, 0, none⟩ (.int .i64 f)) B e f l :=
  ⟨h.1.kept (grownBy_setCell' _ _ _) (by simp), h.2.1.set _, h.2.2.kept (grownBy_setCell' _ _ _) (by simp)⟩
theorem lBox_same3 {W : World} {B : Nat} {e f l : Int} (h : LBoxV W B e f l) : LBoxV (W.setCell ⟨B + 2, 0, none⟩ (.int .i64 l)) B e f l :=
  ⟨h.1.kept (grownBy_setCell' _ _ _) (by simp), h.2.1.kept (grownBy_setCell' _ _ _) (by simp), h.2.2.set _⟩

end Go.Proofs.Ytanoojpmokbiaab
