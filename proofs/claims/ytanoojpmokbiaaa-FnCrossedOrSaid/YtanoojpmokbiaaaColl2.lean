/-
  Slopes appended to a list that the call has built, by the program. Conditions: the row's cells are there.
-/
import Derived.Test.YtanoojpmokbiaaaColl
namespace Go.Proofs.Ytanoojpmokbiaaa
open Go.RowKit Go.Shelf
attribute [local go_sem] Oper.semAt_some

theorem OwnI.shape' {w : World} {base : Nat} {v : Value} {zs : List Int} (h : OwnI w base v zs) : ∃ A c, v = .slice A zs.length c ∧ zs.length ≤ c := by
  rcases h.1.2 with ⟨rfl, h0⟩ | ⟨g, cap, cur, rfl, hg, hh, hn, r⟩
  · have : zs = [] := by simpa using h0
    subst this
    exact ⟨none, 0, rfl, Nat.le_refl _⟩
  · exact ⟨_, cap, rfl, hn⟩
/-- What lay below n₀, and block B, lie as they lay. -/
structure KeepAt (n₀ B : Nat) (w w' : World) : Prop where
  size : w.heap.size ≤ w'.heap.size
  block : ∀ k, k < n₀ ∨ k = B → w'.heap[k]? = w.heap[k]?
theorem KeepAt.trans {n₀ B : Nat} {a b c : World} (h : KeepAt n₀ B a b) (k : KeepAt n₀ B b c) : KeepAt n₀ B a c := ⟨Nat.le_trans h.1 k.1, fun i hi => (k.2 i hi).trans (h.2 i hi)⟩
theorem KeepAt.cell {n₀ B : Nat} {w w' : World} (h : KeepAt n₀ B w w') {p : Addr} (hp : p.block < n₀ ∨ p.block = B) : w'.cell? p = w.cell? p := World.cell?_of_block (h.2 _ hp)
theorem keepAt_b {n₀ B : Nat} {w : World} (hn : n₀ ≤ w.heap.size) (hB : B < w.heap.size) (W : World) (l : Nat) (o o' : Obj) (hl : w.heap.size ≤ l) (h : W.heap[l]? = some o) (h1 : o.isCells = false) (h2 : o.isWalk = false) : KeepAt n₀ B W (W.putObj l o') := by
  have b := belowK_b (n₀ := w.heap.size) (w := w) (Nat.le_refl _) W l o o' hl h h1 h2
  exact ⟨b.size, fun k hk => b.block k (by omega)⟩
def YWayAt {α : Type} (n₀ B : Nat) (J Jx : List α → World → Prop) (pre : List α) (W : World) (b : Bool) (W' : World) : Prop := (b = true ∧ J pre W' ∧ KeepAt n₀ B W W') ∨ (b = false ∧ Jx pre W')
theorem YWayAt.of {α : Type} {n₀ B : Nat} {J Jx : List α → World → Prop} {pre : List α} {W W' : World} {e : Ending}
    (h : (e = .returned (.bool true) ∧ J pre W' ∧ KeepAt n₀ B W W') ∨ (e = .returned (.bool false) ∧ Jx pre W')) : ∃ b, e = .returned (.bool b) ∧ YWayAt n₀ B J Jx pre W b W' := by
  rcases h with ⟨rfl, h⟩ | ⟨rfl, h⟩
  · exact ⟨true, rfl, .inl ⟨rfl, h⟩⟩
  · exact ⟨false, rfl, .inr ⟨rfl, h⟩⟩
/-- Behind an append to the list in the box B, and its store, another box lies as it lay. -/
theorem box_at {W w1 : World} {B g base : Nat} {v u : Value} {zs : List Int} (hg : W.grownBy w1 v.ownBlock) (ho : OwnI W base v zs) (hb : Boxed W g 91 u) (hne : B ≠ g) (v' : Value) : Boxed (w1.setCell ⟨B, 0, none⟩ v') g 91 u :=
  (hb.kept hg (hb.not_row (by decide) ho.1)).kept (grownBy_setCell' w1 B v') (by simp; omega)

end Go.Proofs.Ytanoojpmokbiaaa
