/-
  The iterator slopes of a row, and what slices.Collect makes of it. Conditions: the row's cells are there, below n₀; its entries are those of a row.
-/
import Derived.Test.YtanoojpmokbiaaaImpl
import Derived.Test.YtanoojpmokbiaaaPush
import Derived.Sort.QuietIn
import Derived.Deep.Light
namespace Go.Proofs.Ytanoojpmokbiaaa
open Go.RowKit Go.Shelf
attribute [local go_sem] Oper.semAt_some

theorem finRange_succ' {n k : Nat} (h : k < n) : (List.finRange n).take k ++ [⟨k, h⟩] = (List.finRange n).take (k + 1) := finRange_succ h

def YWay {α : Type} (n₀ : Nat) (J Jx : List α → World → Prop) (pre : List α) (W : World) (b : Bool) (W' : World) : Prop := (b = true ∧ J pre W' ∧ Below n₀ W W') ∨ (b = false ∧ Jx pre W')
theorem YWay.of {α : Type} {n₀ : Nat} {J Jx : List α → World → Prop} {pre : List α} {W W' : World} {e : Ending}
    (h : (e = .returned (.bool true) ∧ J pre W' ∧ Below n₀ W W') ∨ (e = .returned (.bool false) ∧ Jx pre W')) : ∃ b, e = .returned (.bool b) ∧ YWay n₀ J Jx pre W b W' := by
  rcases h with ⟨rfl, h⟩ | ⟨rfl, h⟩
  · exact ⟨true, rfl, .inl ⟨rfl, h⟩⟩
  · exact ⟨false, rfl, .inr ⟨rfl, h⟩⟩

end Go.Proofs.Ytanoojpmokbiaaa
