/-
  The laws' helpers sameInts: two lists that are alike. Conditions: the lists' cells are there.
-/
import Derived.Test.YtanoojpmokbiaabFrom
namespace Go.Proofs.Ytanoojpmokbiaab
open Go.RowKit

set_option maxHeartbeats 400000 in
theorem sameInts_true (A A' : Option Addr) (n n' c c' lo hi lo' hi' : Nat) (zs : List Int) (w : World) (h : IR w lo hi A zs) (h' : IR w lo' hi' A' zs) (hn : n = zs.length) (hn' : n' = zs.length) :
    Calls Try.prog 15 #[.slice A n c, .slice A' n' c'] w fun e w' => e = .returned (.bool true) ∧ ∃ m, w' = w.drewN m := by
  subst hn; subst hn'
  have hl := h.1
  go_enter Try.func15, Try.ntmps15
  go_wp2
  go_loopw [5] (fun i wr => ∃ k m : Nat, k ≤ zs.length ∧ i = .int .i64 k ∧ wr = w.drewN m) (fun i _ => zs.length - (intOf i).toNat)
  case atStart => exact ⟨0, 0, Nat.zero_le _, rfl, rfl⟩
  case round =>
    obtain ⟨k, m, hk, rfl, rfl⟩ := hrel
    by_cases hlt : k < zs.length
    · obtain ⟨b, off, rfl, _, _, hc⟩ := h.at_ hlt
      obtain ⟨b', off', rfl, _, _, hc'⟩ := h'.at_ hlt
      have hlt' : (k : Int) < (zs.length : Int) := by omega
      go_wp2
      go_quiet (fail)
      go_wp2
      go_roundw
      case rel => exact ⟨k + 1, _, by omega, by go_num, rfl⟩
      case measure => simp [intOf]; omega
    · obtain rfl : k = zs.length := by omega
      go_wp2
      go_ret
      exact ⟨rfl, m, rfl⟩

theorem sameInts_b (A A' : Option Addr) (n n' c c' lo hi lo' hi' : Nat) (zs : List Int) (w : World) (h : IR w lo hi A zs) (h' : IR w lo' hi' A' zs) (hn : n = zs.length) (hn' : n' = zs.length) :
    Calls Try.prog 15 #[.slice A n c, .slice A' n' c'] w fun e w' => e = .returned (.bool true) ∧ Below w.heap.size w w' :=
  (sameInts_true A A' n n' c c' lo hi lo' hi' zs w h h' hn hn').mono fun _ _ ⟨he, m, hm⟩ => ⟨he, by rw [hm]; exact below_drawN (Below.refl _ _) m⟩

end Go.Proofs.Ytanoojpmokbiaab
