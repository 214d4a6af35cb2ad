/-
  What the exact laws' own helpers do: copy a list (toIntS), compare two lists (eqIntS), mark a list's cells (markIntS), look whether the marks are still there (heldIntS). Conditions: the lists' cells are there.
-/
import Derived.Test.YtanoojpmokbiaaaBase
namespace Go.Proofs.Ytanoojpmokbiaaa
open Go.RowKit

set_option maxHeartbeats 400000 in
theorem eqIntS_true (A A' : Option Addr) (c c' lo hi lo' hi' : Nat) (zs : List Int) (w : World) (h : IR w lo hi A zs) (h' : IR w lo' hi' A' zs) :
    Calls Try.prog 22 #[.slice A zs.length c, .slice A' zs.length c'] w fun e w' => e = .returned (.bool true) ∧ ∃ m, w' = w.drewN m := by
  have hl := h.1
  go_enter Try.func22, Try.ntmps22
  go_wp2
  go_loopw [5] (fun i wr => ∃ k m : Nat, k ≤ zs.length ∧ i = .int .i64 k ∧ wr = w.drewN m) (fun i _ => zs.length - (intOf i).toNat)
  case atStart => exact ⟨0, 0, Nat.zero_le _, rfl, rfl⟩
  case round =>
    obtain ⟨k, m, hk, rfl, rfl⟩ := hrel
    by_cases hlt : k < zs.length
    · obtain ⟨b, off, rfl, _, _, hc⟩ := h.at_ hlt
      obtain ⟨b', off', rfl, _, _, hc'⟩ := h'.at_ hlt
      have hlt' : (k : Int) < (zs.length : Int) := by omega
      go_wp2
      go_quiet (fail)
      go_wp2
      go_roundw
      case rel => exact ⟨k + 1, _, by omega, by go_num, rfl⟩
      case measure => simp [intOf]; omega
    · obtain rfl : k = zs.length := by omega
      go_wp2
      go_ret
      exact ⟨rfl, m, rfl⟩

set_option maxHeartbeats 400000 in
theorem toIntS_any (A : Option Addr) (c lo hi : Nat) (zs : List Int) (w : World) (h : IR w lo hi A zs) :
    Calls Try.prog 20 #[.slice A zs.length c] w fun e w' => e = .returned (.slice (some ⟨w.heap.size, 0, none⟩) zs.length zs.length) ∧ IW w' w.heap.size w'.heap.size (some ⟨w.heap.size, 0, none⟩) zs ∧ Below w.heap.size w w' := by
  have hl := h.1
  have hmk := run_makeInts zs.length hl
  have hz := h.2.1
  have HZ := Lib.hid hz; clear hz
  go_enter Try.func20, Try.ntmps20
  go_wp2
  go_loopw [4] (fun i wr => ∃ k : Nat, k ≤ zs.length ∧ i = .int .i64 k ∧ Cells wr w.heap.size 0 (fillTo zs k) ∧ Below w.heap.size w wr ∧ w.heap.size < wr.heap.size) (fun i _ => zs.length - (intOf i).toNat)
  case atStart => exact ⟨0, Nat.zero_le _, rfl, by rw [fillTo_zero]; exact Cells.made w zs.length _, (Below.refl _ _).alloc (Nat.le_refl _) _, by simp⟩
  case round =>
    obtain ⟨k, hk, rfl, hcs, hb, hs⟩ := hrel
    by_cases hlt : k < zs.length
    · obtain ⟨b, off, rfl, hbB, hbs, hc⟩ := h.at_ hlt
      have hlt' : (k : Int) < (zs.length : Int) := by omega
      have hc1 : wr.cell? ⟨b, off + k, none⟩ = some (.int .i64 zs[k]) := (hb.cell (p := ⟨b, off + k, none⟩) hbs).trans hc
      obtain ⟨hc2, hc3⟩ := hcs.fillAt hlt
      rw [Nat.zero_add] at hc2 hc3
      have HN := Lib.hid (hcs.fill hlt); rw [Nat.zero_add] at HN
      have HB := Lib.hid hb
      clear hcs hc hb
      go_wp2
      go_roundw
      case rel => exact ⟨k + 1, by omega, by go_num, HN.out, HB.out.setCell (Nat.le_refl _) _, by simpa [World.setCell] using hs⟩
      case measure => simp [intOf]; omega
    · obtain rfl : k = zs.length := by omega
      rw [fillTo_all] at hcs
      go_wp2
      go_ret
      exact ⟨rfl, hcs.iw rfl (Nat.le_refl _) hs (Nat.le_refl _) hl HZ.out, hb⟩

/-- k, k + 1, .. -/
def marks (k : Int) (n : Nat) : List Int := (List.range n).map fun j : Nat => k + (j : Int)
theorem marks_len (k : Int) (n : Nat) : (marks k n).length = n := by simp [marks]
theorem marks_get (k : Int) (n j : Nat) (h : j < (marks k n).length) : (marks k n)[j] = k + (j : Int) := by simp [marks]
def markTo (zs : List Int) (k : Int) (j : Nat) : List Int := marks k j ++ zs.drop j
theorem markTo_len (zs : List Int) (k : Int) (j : Nat) (h : j ≤ zs.length) : (markTo zs k j).length = zs.length := by simp [markTo, marks]; omega
theorem markTo_zero (zs : List Int) (k : Int) : markTo zs k 0 = zs := by simp [markTo, marks]
theorem markTo_all (zs : List Int) (k : Int) : markTo zs k zs.length = marks k zs.length := by simp [markTo]
theorem markTo_set (zs : List Int) (k : Int) (j : Nat) (h : j < zs.length) : (markTo zs k j).set j (k + (j : Int)) = markTo zs k (j + 1) := by
  unfold markTo marks
  apply List.ext_getElem
  · simp; omega
  · intro i h1 h2
    simp at h1 h2
    simp only [List.getElem_set, List.getElem_append, List.getElem_map, List.getElem_range, List.length_map, List.length_range, List.getElem_drop]
    by_cases e : j = i
    · subst e; simp
    · by_cases e2 : i < j
      · simp [e, e2, show i < j + 1 by omega]
      · have m : j + (i - j) = j + 1 + (i - (j + 1)) := by omega
        simp only [e, e2, show ¬ i < j + 1 by omega, if_false, dif_neg, not_false_eq_true, m]

theorem eqIntS_b (A A' : Option Addr) (c c' lo hi lo' hi' : Nat) (zs : List Int) (w : World) (h : IR w lo hi A zs) (h' : IR w lo' hi' A' zs) :
    Calls Try.prog 22 #[.slice A zs.length c, .slice A' zs.length c'] w fun e w' => e = .returned (.bool true) ∧ Below w.heap.size w w' :=
  (eqIntS_true A A' c c' lo hi lo' hi' zs w h h').mono fun _ _ ⟨he, m, hm⟩ => ⟨he, by rw [hm]; exact below_drawN (Below.refl _ _) m⟩
end Go.Proofs.Ytanoojpmokbiaaa
