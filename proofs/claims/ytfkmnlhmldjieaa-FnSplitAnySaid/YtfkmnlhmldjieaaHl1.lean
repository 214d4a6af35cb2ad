/-
  HillRound of the model, and whether a list is a hill, of the model and of the program. Conditions: the list's cells are there.
-/
import Derived.Test.YtfkmnlhmldjieaaHvMath
import Derived.Test.YtfkmnlhmldjieaaImp2
namespace Go.Proofs.Ytfkmnlhmldjieaa
open Go.RowKit Go.Shelf

set_option maxHeartbeats 1000000 in
theorem l4Hill_any (A : Option Addr) (c lo hi : Nat) (zs : List Int) (w : World) (h : IR w lo hi A zs) :
    Calls Try.prog 66 #[.slice A zs.length c] w fun e w' => e = .returned (.bool (hillB zs)) ∧ w = w' := by
  have hl := h.1
  go_enter Try.func66, Try.ntmps66
  go_wp2
  go_loop [3] (fun i => ∃ k : Nat, k ≤ zs.length ∧ i = .int .i64 k ∧ Hid (∀ j, j < k → 0 ≤ zs.getD j 0)) (fun i => zs.length - (intOf i).toNat)
  case atStart => exact ⟨0, Nat.zero_le _, rfl, Lib.hid fun j hj => absurd hj (by omega)⟩
  case round =>
    obtain ⟨k, hk, rfl, hall⟩ := hrel
    by_cases hlt : k < zs.length
    · obtain ⟨b, off, rfl, _, _, hc⟩ := h.at_ hlt
      have hlt' : (k : Int) < (zs.length : Int) := by omega
      have hg := getD_in hlt
      obtain ⟨x, hx⟩ : ∃ x, zs[k] = x := ⟨_, rfl⟩
      rw [hx] at hc hg
      have HG := Lib.hid hg
      clear hx hg
      by_cases hneg : x < 0
      · have HN : Hid (hillB zs = false) := by
          show _ = _
          unfold hillB
          rw [nnB_false (k := k) (by rw [HG.out]; exact hneg)]; rfl
        go_wp2
        go_ret
        exact ⟨ret_bool HN.out.symm, rfl⟩
      · go_wp2
        go_round
        case rel => exact ⟨k + 1, by omega, by go_num, Lib.hid fun j hj => by
          by_cases e : j = k
          · subst e; rw [HG.out]; omega
          · exact hall.out j (by omega)⟩
        case measure => simp [intOf]; omega
    · obtain rfl : k = zs.length := by omega
      have HN : Hid (hillB zs = rowB zs) := by
        show _ = _
        unfold hillB
        rw [nnB_of hall.out]; rfl
      clear hall
      go_wp2_with fail
      refine (specRowIn_any _ _ _ _ zs _ h).mono ?_; rintro e w' ⟨rfl, rfl⟩
      go_wp2
      go_ret
      exact ⟨ret_bool (by rw [HN.out]), rfl⟩
theorem l4Hill_of {b : Bool} (A : Option Addr) (c lo hi : Nat) (zs : List Int) (w : World) (h : IR w lo hi A zs) (hb : hillB zs = b) :
    Calls Try.prog 66 #[.slice A zs.length c] w fun e w' => e = .returned (.bool b) ∧ w = w' := by
  have := l4Hill_any A c lo hi zs w h; rwa [hb] at this

theorem ends_get (zs : List Int) (k : Nat) (h : k + 1 < zs.length) : endsB zs (k + 1) = (endsB zs k || decide (0 < zs[k]) && decide (zs[k + 1] = 0)) := by
  rw [endsB_succ, getD_in h, getD_in (show k < zs.length by omega)]

/-! ### The program's -/
end Go.Proofs.Ytfkmnlhmldjieaa
