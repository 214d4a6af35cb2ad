/-
  The laws' helpers sameInts and sameRows: whether two lists of one length are alike, two lists of lists that are. Conditions: the cells are there.
-/
import Derived.Test.YtfkmnlhmldjieaaTabA
import Derived.Test.YtfkmnlhmldjieaaSame
import Derived.StillTailTactics
namespace Go.Proofs.Ytfkmnlhmldjieaa
open Go.RowKit

set_option maxHeartbeats 1000000 in
/-- Two lists of one length: whether they are alike. -/
theorem sameInts_decE (A A' : Option Addr) (n n' c c' lo hi lo' hi' : Nat) (xs ys : List Int) (w : World) (h : IR w lo hi A xs) (h' : IR w lo' hi' A' ys) (hn : n = xs.length) (hn' : n' = ys.length) (hl : ys.length = xs.length) :
    Calls Try.prog 20 #[.slice A n c, .slice A' n' c'] w fun e w' => e = .returned (.bool (decide (xs = ys))) ∧ Below w.heap.size w w' := by
  subst hn
  rw [hl] at hn'
  subst hn'
  have hlx := h.1
  have HL := Lib.hid hl
  clear hl
  go_enter Try.func20, Try.ntmps20
  go_wp2
  go_loopw [5] (fun i wr => ∃ k m : Nat, k ≤ xs.length ∧ i = .int .i64 k ∧ wr = w.drewN m ∧ ∀ j, j < k → xs.getD j 0 = ys.getD j 0) (fun i _ => xs.length - (intOf i).toNat)
  case atStart => exact ⟨0, 0, Nat.zero_le _, rfl, rfl, fun j hj => by omega⟩
  case round =>
    obtain ⟨k, m, hk, rfl, rfl, hall⟩ := hrel
    have HA := Lib.hid hall
    clear hall
    by_cases hlt : k < xs.length
    · have hlt2 : k < ys.length := by rw [HL.out]; exact hlt
      obtain ⟨b, off, rfl, _, _, hc⟩ := h.at_ hlt
      obtain ⟨b', off', rfl, _, _, hc'⟩ := h'.at_ hlt2
      have hlt' : (k : Int) < (xs.length : Int) := by omega
      have G1 := Lib.hid (getD_in hlt); have G2 := Lib.hid (getD_in hlt2)
      by_cases e : xs[k] = ys[k]
      · have E := Lib.hid e
        go_wp2
        go_quiet (fail)
        go_wp2
        go_roundw
        case rel =>
          refine ⟨k + 1, _, by omega, by go_num, rfl, fun j hj => ?_⟩
          by_cases ej : j = k
          · subst ej; rw [G1.out, G2.out]; exact E.out
          · exact HA.out j (by omega)
        case measure => simp [intOf]; omega
      · have E := Lib.hid e
        go_wp2
        go_quiet (fail)
        go_wp2
        go_ret
        refine ⟨ret_bool ?_, below_drawN (below_drawN (Below.refl _ _) _) _⟩
        rw [Eq.comm, decide_eq_false_iff_not]
        intro hq
        apply E.out
        subst hq; rfl
    · obtain rfl : k = xs.length := by omega
      go_wp2
      go_ret
      refine ⟨ret_bool ?_, below_drawN (Below.refl _ _) _⟩
      rw [Eq.comm, decide_eq_true_iff]
      apply List.ext_getElem HL.out.symm
      intro j j1 j2
      have := HA.out j j1
      rwa [getD_in j1, getD_in j2] at this

/-- Only draws. -/
def DrE (w w' : World) : Prop := ∃ m, w' = w.drewN m
theorem DrE.refl (w : World) : DrE w w := ⟨0, rfl⟩
theorem DrE.more {w w' : World} (h : DrE w w') (n : Nat) : DrE w (w'.drewN n) := by
  obtain ⟨m, rfl⟩ := h; exact ⟨m + n, by simp [World.drewN]; omega⟩
theorem DrE.irr {w w' : World} {lo hi : Nat} {A : Option Addr} {t : List (List Int)} (h : IRR w lo hi A t) (k : DrE w w') : IRR w' lo hi A t := by
  obtain ⟨m, rfl⟩ := k; exact h.drewN m
theorem DrE.below {w w' : World} (k : DrE w w') : Below w.heap.size w w' := by
  obtain ⟨m, rfl⟩ := k; exact below_drawN (Below.refl _ _) m

end Go.Proofs.Ytfkmnlhmldjieaa
