/-
  HillFold of the program: loops over iterators, one within the other. Conditions: the lists' cells are there.
-/
import Derived.Test.YtkghpmjbclnojaaHl5
import Derived.Test.YtkghpmjbclnojaaChg
import Derived.Test.YtkghpmjbclnojaaHl2
namespace Go.Proofs.Ytkghpmjbclnojaa
open Go.RowKit Go.Shelf
attribute [local go_sem] Oper.semAt_some

/-- A box that nobody writes, and the box of a list of n cells with the cells. -/
def Mid (W : World) (F : Nat) (tF : TypeId) (vF : Value) (B : Nat) (t : TypeId) (n : Nat) (xs : List Int) : Prop :=
  Boxed W F tF vF ∧ Boxed W (B + 1) t (.slice (some ⟨B, 0, none⟩) n n) ∧ Cells W B 0 xs ∧ ∃ cs, W.heap[B]? = some (.cells cs 3 (0, 0))
section
variable {W W' : World} {F B n : Nat} {tF t : TypeId} {vF : Value} {xs : List Int}
theorem Mid.block (h : Mid W F tF vF B t n xs) (hF : W'.heap[F]? = W.heap[F]?) (hB : W'.heap[B]? = W.heap[B]?) (hB1 : W'.heap[B + 1]? = W.heap[B + 1]?) : Mid W' F tF vF B t n xs :=
  ⟨hF.trans h.1, hB1.trans h.2.1, fun j hj => ⟨(World.cell?_of_block (w := W) (a := ⟨B, 0 + j, none⟩) hB).trans (h.2.2.1 j hj).1, (World.frozen?_of_block (w := W) (a := ⟨B, 0 + j, none⟩) hB).trans (h.2.2.1 j hj).2⟩, h.2.2.2.imp fun _ hc => hB.trans hc⟩
theorem Mid.below (h : Mid W F tF vF B t n xs) (hb : Below W.heap.size W W') : Mid W' F tF vF B t n xs :=
  h.block (hb.block F h.1.lt) (hb.block B (by have := h.2.1.lt; omega)) (hb.block (B + 1) h.2.1.lt)
theorem Mid.alloc (h : Mid W F tF vF B t n xs) (o : Obj) : Mid (W.alloc o) F tF vF B t n xs := h.below ((Below.refl _ W).alloc (Nat.le_refl _) o)
theorem Mid.set_ (h : Mid W F tF vF B t n xs) (hF : F ≠ B) (k : Nat) (hk : k < xs.length) (v : Int) : Mid (W.setCell ⟨B, k, none⟩ (.int .i64 v)) F tF vF B t n (xs.set k v) := by
  obtain ⟨h1, h2, h3, cs, h4⟩ := h
  refine ⟨(Below.heap_setCell W ⟨B, k, none⟩ _ F hF).trans h1, (Below.heap_setCell W ⟨B, k, none⟩ _ (B + 1) (by simp)).trans h2, cells_fill h3 k hk v, ?_⟩
  simp [World.setCell, Array.getElem?_modify, h4]
end
theorem mid_own {β : Type} (C F : Nat) (tF : TypeId) (vF : Value) (B : Nat) (t : TypeId) (n : Nat) (xs : β → List Int) : OwnFrom C (fun s W => Mid W F tF vF B t n (xs s)) := by
  rintro s X Y row h hg hrow
  have hne : ∀ (g : Nat) (cs : Array Value) (t : TypeId), X.heap[g]? = some (Obj.cells cs t (0, 0)) → Y.heap[g]? = X.heap[g]? := by
    intro g cs t hh
    refine hg.block g (Array.getElem?_eq_some_iff.1 hh).1 fun e => ?_
    obtain ⟨_, o, ho, hc⟩ := hrow g e.symm
    rw [hh] at ho; cases ho; cases hc
  obtain ⟨cs, h4⟩ := h.2.2.2
  exact h.block (hne _ _ _ h.1) (hne _ _ _ h4) (hne _ _ _ h.2.1)

theorem Mid.made {w : World} {F : Nat} {tF : TypeId} {vF : Value} (h : Boxed w F tF vF) (n : Nat) (t : TypeId) :
    Mid ((w.alloc (.cells (madeCells #[.int .i64 0] n) 3)).alloc (.cells #[.slice (some ⟨w.heap.size, 0, none⟩) n n] t)) F tF vF w.heap.size t n (List.replicate n 0) := by
  have c0 := Cells.made w n 3
  have n0 : (w.alloc (.cells (madeCells #[.int .i64 0] n) 3)).heap[w.heap.size]? = some (.cells (madeCells #[.int .i64 0] n) 3 (0, 0)) := World.alloc_heap_new w _
  have n1 := World.alloc_heap_new (w.alloc (.cells (madeCells #[.int .i64 0] n) 3)) (.cells #[.slice (some ⟨w.heap.size, 0, none⟩) n n] t)
  rw [World.size_alloc] at n1
  have kB : ((w.alloc (.cells (madeCells #[.int .i64 0] n) 3)).alloc (.cells #[.slice (some ⟨w.heap.size, 0, none⟩) n n] t)).heap[w.heap.size]? = (w.alloc (.cells (madeCells #[.int .i64 0] n) 3)).heap[w.heap.size]? := Below.heap_alloc _ _ _ (by simp)
  refine ⟨(h.alloc _).alloc _, n1, fun j hj => ?_, _, kB.trans n0⟩
  exact ⟨(World.cell?_of_block (a := ⟨w.heap.size, 0 + j, none⟩) kB).trans (c0 j hj).1, (World.frozen?_of_block (a := ⟨w.heap.size, 0 + j, none⟩) kB).trans (c0 j hj).2⟩

end Go.Proofs.Ytkghpmjbclnojaa
