/-
  The program's own small functions of chapter 1: entryFits, isRow, RowIn: what they answer for every list. Conditions: the list's cells are there.
-/
import Derived.Test.YtanoojpmokbiaaaIter
namespace Go.Proofs.Ytanoojpmokbiaaa
open Go.RowKit Go.Shelf

attribute [local go_sem] Oper.semAt_some

theorem rowB_short {zs : List Int} (h : ¬ (1 ≤ zs.length ∧ zs.length ≤ 12)) : rowB zs = false := by
  cases hr : rowB zs
  · rfl
  · exact absurd (rowB_true.1 hr).2 h
theorem rowB_bad {zs : List Int} {x : Fin zs.length} (h : fits zs[x] = false) : rowB zs = false := rowB_of (k := x.1) x.2 h
theorem rowB_good {zs : List Int} (h1 : 1 ≤ zs.length) (h2 : zs.length ≤ 12) (h : ∀ x : Fin zs.length, fits zs[x] = true) : rowB zs = true := by
  unfold rowB
  rw [Bool.and_eq_true, List.all_eq_true]
  refine ⟨fun z hz => ?_, inB_true.2 ⟨by omega, by omega⟩⟩
  obtain ⟨i, hi, rfl⟩ := List.mem_iff_getElem.1 hz
  exact h ⟨i, hi⟩

theorem boxedAnd_own {β : Type} (B : Nat) (t : TypeId) (v : Value) (p : β → Prop) : Own (fun s W => Boxed W B t v ∧ p s) := by
  rintro s X Y row ⟨hv, hp⟩ hg hrow
  refine ⟨hv.kept hg (fun e' => ?_), hp⟩
  obtain ⟨o, ho, hc⟩ := hrow B e'.symm
  rw [show X.heap[B]? = _ from hv] at ho; cases ho; cases hc

end Go.Proofs.Ytanoojpmokbiaaa
