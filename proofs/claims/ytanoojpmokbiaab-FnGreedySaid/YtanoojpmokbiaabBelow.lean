/-
  RowBelow of the model and of the program: both answer whether two rows are alike and no entry of the first is greater than that of the second. Conditions: the rows' cells are there.
-/
import Derived.Test.YtanoojpmokbiaabImp2
namespace Go.Proofs.Ytanoojpmokbiaab
open Go.RowKit Go.Shelf

def leB (a b : List Int) : Bool := (List.range a.length).all fun k => decide (a.getD k 0 ≤ b.getD k 0)
theorem leB_true {a b : List Int} (h : ∀ k, k < a.length → a.getD k 0 ≤ b.getD k 0) : leB a b = true := by
  unfold leB
  rw [List.all_eq_true]
  intro k hk
  exact decide_eq_true (h k (List.mem_range.1 hk))
theorem leB_false {a b : List Int} {k : Nat} (hk : k < a.length) (h : b.getD k 0 < a.getD k 0) : leB a b = false := by
  unfold leB
  rw [List.all_eq_false]
  exact ⟨k, List.mem_range.2 hk, by simp only [decide_eq_true_eq]; omega⟩
def LeAt (a b : List Int) (x : Fin a.length) : Prop := a.getD x.1 0 ≤ b.getD x.1 0
def GtAt (a b : List Int) (x : Fin a.length) : Prop := b.getD x.1 0 < a.getD x.1 0
def belowB (a b : List Int) : Bool := twoB a b && leB a b

attribute [local go_sem] Oper.semAt_some
theorem boxed2_own {β : Type} (B B' : Nat) (t t' : TypeId) (v v' : Value) (p : β → Prop) : Own (fun s W => Boxed W B t v ∧ Boxed W B' t' v' ∧ p s) := by
  rintro s X Y row ⟨hv, hv', hp⟩ hg hrow
  have key : ∀ (g : Nat) (tt : TypeId) (u : Value), Boxed X g tt u → some g ≠ row := by
    intro g tt u hb e'
    obtain ⟨o, ho, hc⟩ := hrow g e'.symm
    rw [show X.heap[g]? = _ from hb] at ho; cases ho; cases hc
  exact ⟨hv.kept hg (key _ _ _ hv), hv'.kept hg (key _ _ _ hv'), hp⟩

end Go.Proofs.Ytanoojpmokbiaab
