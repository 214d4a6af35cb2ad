/-
  RowPart of the program. Conditions: the row's cells are there; its capacity is at least its length.
-/
import Derived.Test.YtanoojpmokbiaabPart
namespace Go.Proofs.Ytanoojpmokbiaab
open Go.RowKit

set_option maxHeartbeats 400000 in
theorem isPlace_any (A : Option Addr) (n c : Nat) (i : Int) (w : World) : Calls Try.prog 44 #[.slice A n c, .int .i64 i] w fun e w' => e = .returned (.bool (inB 0 ((n : Int) - 1) i)) ∧ w = w' := by
  by_cases h1 : 0 ≤ i
  · by_cases h2 : i < (n : Int)
    · have H := Lib.hid (inB_true.2 (show 0 ≤ i ∧ i ≤ (n : Int) - 1 by omega))
      go_enter Try.func44, Try.ntmps44
      go_wp2
      go_ret
      exact ⟨ret_bool H.out.symm, rfl⟩
    · have H : Hid (inB 0 ((n : Int) - 1) i = false) := by show _ = _; simp [inB]; omega
      go_enter Try.func44, Try.ntmps44
      go_wp2
      go_ret
      exact ⟨ret_bool (by rw [H.out]), rfl⟩
  · have H : Hid (inB 0 ((n : Int) - 1) i = false) := by show _ = _; simp [inB, h1]
    go_enter Try.func44, Try.ntmps44
    go_wp2
    go_ret
    exact ⟨ret_bool H.out.symm, rfl⟩
theorem isPlace_b (b : Bool) (A : Option Addr) (n c : Nat) (i : Int) (w : World) (h : inB 0 ((n : Int) - 1) i = b) : Calls Try.prog 44 #[.slice A n c, .int .i64 i] w fun e w' => e = .returned (.bool b) ∧ w = w' := by
  have := isPlace_any A n c i w; rwa [h] at this

end Go.Proofs.Ytanoojpmokbiaab
