/-
  The laws' helper total: a list's sum. Conditions: the list's cells are there.
-/
import Derived.Test.YtanoojpmokbiaabFrom
namespace Go.Proofs.Ytanoojpmokbiaab
open Go.RowKit

/-- The sum, as int64 adds. -/
def totW (zs : List Int) : Int := zs.foldl (fun a z => wrap64 (a + z)) 0
theorem totW_snoc (zs : List Int) (z : Int) : totW (zs ++ [z]) = wrap64 (totW zs + z) := by simp [totW]

theorem totW_slopes (zs : List Int) (hr : rowB zs = true) (k : Nat) (hk : k < zs.length) : totW ((slopesL zs).take k) = zs[k] - zs[0]'(by omega) := by
  induction k with
  | zero => simp [totW]
  | succ k ih =>
    rw [← take_slopes zs k hk, totW_snoc, ih (by omega)]
    have b0 := (rowB_true.1 hr).1 _ (List.getElem_mem (show 0 < zs.length by omega))
    have b1 := (rowB_true.1 hr).1 _ (List.getElem_mem (show k < zs.length by omega))
    have b2 := (rowB_true.1 hr).1 _ (List.getElem_mem hk)
    unfold wrap64
    omega

set_option maxHeartbeats 400000 in
theorem total_any (A : Option Addr) (n c lo hi : Nat) (zs : List Int) (w : World) (h : IR w lo hi A zs) (hn : n = zs.length) :
    Calls Try.prog 18 #[.slice A n c] w fun e w' => e = .returned (.int .i64 (totW zs)) ∧ w' = w := by
  subst hn
  have hl := h.1
  go_enter Try.func18, Try.ntmps18
  go_wp2
  go_loop [3, 4] (fun s i => ∃ k : Nat, k ≤ zs.length ∧ i = .int .i64 k ∧ s = .int .i64 (totW (zs.take k))) (fun _ i => zs.length - (intOf i).toNat)
  case atStart => exact ⟨0, Nat.zero_le _, rfl, rfl⟩
  case round =>
    obtain ⟨k, hk, rfl, rfl⟩ := hrel
    by_cases hlt : k < zs.length
    · obtain ⟨b, off, rfl, _, _, hc⟩ := h.at_ hlt
      have hlt' : (k : Int) < (zs.length : Int) := by omega
      obtain ⟨T, hT⟩ : ∃ T, totW (zs.take k) = T := ⟨_, rfl⟩
      have HT : Hid (totW (zs.take (k + 1)) = wrap64 (T + zs[k])) := by show _ = _; rw [← take_snoc zs k hlt, totW_snoc, hT]
      have s1 : IntKind.i64.wrap (T + zs[k]) = wrap64 (T + zs[k]) := IntWalk.i64_left _
      rw [hT]
      clear hT
      go_wp2
      go_round
      case rel => exact ⟨k + 1, by omega, by go_num, by rw [HT.out]⟩
      case measure => simp [intOf]; omega
    · obtain rfl : k = zs.length := by omega
      have hall : zs.take zs.length = zs := List.take_length
      rw [hall]
      go_wp2
      go_ret
      exact ⟨rfl, rfl⟩
end Go.Proofs.Ytanoojpmokbiaab
