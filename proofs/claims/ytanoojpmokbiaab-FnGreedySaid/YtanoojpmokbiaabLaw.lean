/-
  What the exact laws' own helpers do: copy a list (toIntS), compare two lists (eqIntS), mark a list's cells (markIntS), look whether the marks are still there (heldIntS). Conditions: the lists' cells are there.
-/
import Derived.Test.YtanoojpmokbiaabBase
namespace Go.Proofs.Ytanoojpmokbiaab
open Go.RowKit

set_option maxHeartbeats 400000 in
theorem eqIntS_true (A A' : Option Addr) (c c' lo hi lo' hi' : Nat) (zs : List Int) (w : World) (h : IR w lo hi A zs) (h' : IR w lo' hi' A' zs) :
    Calls Try.prog 9 #[.slice A zs.length c, .slice A' zs.length c'] w fun e w' => e = .returned (.bool true) ∧ ∃ m, w' = w.drewN m := by
  have hl := h.1
  go_enter Try.func9, Try.ntmps9
  go_wp2
  go_loopw [5] (fun i wr => ∃ k m : Nat, k ≤ zs.length ∧ i = .int .i64 k ∧ wr = w.drewN m) (fun i _ => zs.length - (intOf i).toNat)
  case atStart => exact ⟨0, 0, Nat.zero_le _, rfl, rfl⟩
  case round =>
    obtain ⟨k, m, hk, rfl, rfl⟩ := hrel
    by_cases hlt : k < zs.length
    · obtain ⟨b, off, rfl, _, _, hc⟩ := h.at_ hlt
      obtain ⟨b', off', rfl, _, _, hc'⟩ := h'.at_ hlt
      have hlt' : (k : Int) < (zs.length : Int) := by omega
      go_wp2
      go_quiet (fail)
      go_wp2
      go_roundw
      case rel => exact ⟨k + 1, _, by omega, by go_num, rfl⟩
      case measure => simp [intOf]; omega
    · obtain rfl : k = zs.length := by omega
      go_wp2
      go_ret
      exact ⟨rfl, m, rfl⟩

set_option maxHeartbeats 400000 in
theorem toIntS_any (A : Option Addr) (c lo hi : Nat) (zs : List Int) (w : World) (h : IR w lo hi A zs) :
    Calls Try.prog 24 #[.slice A zs.length c] w fun e w' => e = .returned (.slice (some ⟨w.heap.size, 0, none⟩) zs.length zs.length) ∧ IW w' w.heap.size w'.heap.size (some ⟨w.heap.size, 0, none⟩) zs ∧ Below w.heap.size w w' := by
  have hl := h.1
  have hmk := run_makeInts zs.length hl
  have hz := h.2.1
  have HZ := Lib.hid hz; clear hz
  go_enter Try.func24, Try.ntmps24
  go_wp2
  go_loopw [4] (fun i wr => ∃ k : Nat, k ≤ zs.length ∧ i = .int .i64 k ∧ Cells wr w.heap.size 0 (fillTo zs k) ∧ Below w.heap.size w wr ∧ w.heap.size < wr.heap.size) (fun i _ => zs.length - (intOf i).toNat)
  case atStart => exact ⟨0, Nat.zero_le _, rfl, by rw [fillTo_zero]; exact Cells.made w zs.length _, (Below.refl _ _).alloc (Nat.le_refl _) _, by simp⟩
  case round =>
    obtain ⟨k, hk, rfl, hcs, hb, hs⟩ := hrel
    by_cases hlt : k < zs.length
    · obtain ⟨b, off, rfl, hbB, hbs, hc⟩ := h.at_ hlt
      have hlt' : (k : Int) < (zs.length : Int) := by omega
      have hc1 : wr.cell? ⟨b, off + k, none⟩ = some (.int .i64 zs[k]) := (hb.cell (p := ⟨b, off + k, none⟩) hbs).trans hc
      obtain ⟨hc2, hc3⟩ := hcs.fillAt hlt
      rw [Nat.zero_add] at hc2 hc3
      have HN := Lib.hid (hcs.fill hlt); rw [Nat.zero_add] at HN
      have HB := Lib.hid hb
      clear hcs hc hb
      go_wp2
      go_roundw
      case rel => exact ⟨k + 1, by omega, by go_num, HN.out, HB.out.setCell (Nat.le_refl _) _, by simpa [World.setCell] using hs⟩
      case measure => simp [intOf]; omega
    · obtain rfl : k = zs.length := by omega
      rw [fillTo_all] at hcs
      go_wp2
      go_ret
      exact ⟨rfl, hcs.iw rfl (Nat.le_refl _) hs (Nat.le_refl _) hl HZ.out, hb⟩

/-- k, k + 1, .. -/
def marks (k : Int) (n : Nat) : List Int := (List.range n).map fun j : Nat => k + (j : Int)
theorem marks_len (k : Int) (n : Nat) : (marks k n).length = n := by simp [marks]
theorem marks_get (k : Int) (n j : Nat) (h : j < (marks k n).length) : (marks k n)[j] = k + (j : Int) := by simp [marks]
def markTo (zs : List Int) (k : Int) (j : Nat) : List Int := marks k j ++ zs.drop j
theorem markTo_len (zs : List Int) (k : Int) (j : Nat) (h : j ≤ zs.length) : (markTo zs k j).length = zs.length := by simp [markTo, marks]; omega
theorem markTo_zero (zs : List Int) (k : Int) : markTo zs k 0 = zs := by simp [markTo, marks]
theorem markTo_all (zs : List Int) (k : Int) : markTo zs k zs.length = marks k zs.length := by simp [markTo]
theorem markTo_set (zs : List Int) (k : Int) (j : Nat) (h : j < zs.length) : (markTo zs k j).set j (k + (j : Int)) = markTo zs k (j + 1) := by
  unfold markTo marks
  apply List.ext_getElem
  · simp; omega
  · intro i h1 h2
    simp at h1 h2
    simp only [List.getElem_set, List.getElem_append, List.getElem_map, List.getElem_range, List.length_map, List.length_range, List.getElem_drop]
    by_cases e : j = i
    · subst e; simp
    · by_cases e2 : i < j
      · simp [e, e2, show i < j + 1 by omega]
      · have m : j + (i - j) = j + 1 + (i - (j + 1)) := by omega
        simp only [e, e2, show ¬ i < j + 1 by omega, if_false, dif_neg, not_false_eq_true, m]

set_option maxHeartbeats 400000 in
theorem markIntS_any (A : Option Addr) (c lo hi : Nat) (zs : List Int) (k : Int) (hk0 : 0 ≤ k) (hk1 : k ≤ 9000000000000) (w : World) (h : IW w lo hi A zs) :
    Calls Try.prog 12 #[.slice A zs.length c, .int .i64 k] w fun e w' => e = .returned (.int .i64 (k + (zs.length : Int))) ∧ IW w' lo hi A (marks k zs.length) ∧ Only lo hi w w' := by
  have hl := h.1
  have hhi := h.2.2.1
  have HH := Lib.hid h
  have hm : ∀ z, z ∈ marks k zs.length → I64 z := by
    intro z hz; simp [marks] at hz; obtain ⟨j, hj, rfl⟩ := hz; unfold I64; omega
  have HM := Lib.hid hm; clear hm
  rcases Nat.eq_zero_or_pos zs.length with h0 | h0
  · have hz : zs = [] := List.eq_nil_of_length_eq_zero h0
    subst hz
    clear h hl h0
    go_enter Try.func12, Try.ntmps12
    go_wp2
    refine wp_loop_rounds 1 ?_
    rw [rounds_succ]
    go_wp2
    go_ret
    exact ⟨by simp, by simpa [marks] using HH.out, Only.refl _ _ _⟩
  · obtain ⟨b, off, rfl, hB, hbs, hc⟩ := h.2.2.2 h0
    clear h
    have hcs : Cells w b off zs := hc
    clear hc
    go_enter Try.func12, Try.ntmps12
    go_wp2
    go_loopw [1, 5] (fun m i wr => ∃ j : Nat, j ≤ zs.length ∧ i = .int .i64 j ∧ m = .int .i64 (k + (j : Int)) ∧ Cells wr b off (markTo zs k j) ∧ Only lo hi w wr) (fun _ i _ => zs.length - (intOf i).toNat)
    case atStart => exact ⟨0, Nat.zero_le _, rfl, by simp, by rw [markTo_zero]; exact hcs, Only.refl _ _ _⟩
    case round =>
      obtain ⟨j, hj, rfl, rfl, hcr, hg⟩ := hrel
      by_cases hlt : j < zs.length
      · have hlt' : (j : Int) < (zs.length : Int) := by omega
        have hjl : j < (markTo zs k j).length := by rw [markTo_len _ _ _ (by omega)]; exact hlt
        obtain ⟨hc2, hc3⟩ := hcr j hjl
        have HN := Lib.hid (hcr.set_ j hjl (k + (j : Int))); rw [markTo_set _ _ _ hlt] at HN
        have HG := Lib.hid hg
        clear hcr hg hcs
        go_wp2
        go_roundw
        case rel => exact ⟨j + 1, by omega, by go_num, by go_num, HN.out, HG.out.set_ hB hbs _⟩
        case measure => simp [intOf]; omega
      · obtain rfl : j = zs.length := by omega
        rw [markTo_all] at hcr
        have HG := Lib.hid hg
        clear hg
        go_wp2
        go_ret
        exact ⟨rfl, hcr.iw (marks_len _ _) hB hbs (by rw [HG.out.size]; exact hhi) hl HM.out, HG.out⟩

set_option maxHeartbeats 400000 in
theorem heldIntS_true (A : Option Addr) (c lo hi n : Nat) (k : Int) (hk0 : 0 ≤ k) (hk1 : k ≤ 9000000000000) (w : World) (h : IR w lo hi A (marks k n)) :
    Calls Try.prog 13 #[.slice A n c, .int .i64 k] w fun e w' => e = .returned (.int .i64 (k + (n : Int))) ∧ w = w' := by
  have hl := h.1
  rw [marks_len] at hl
  go_enter Try.func13, Try.ntmps13
  go_wp2
  go_loop [1, 5] (fun m i => ∃ j : Nat, j ≤ n ∧ i = .int .i64 j ∧ m = .int .i64 (k + (j : Int))) (fun _ i => n - (intOf i).toNat)
  case atStart => exact ⟨0, Nat.zero_le _, rfl, by simp⟩
  case round =>
    obtain ⟨j, hj, rfl, rfl⟩ := hrel
    by_cases hlt : j < n
    · have hlt' : (j : Int) < (n : Int) := by omega
      obtain ⟨b, off, rfl, _, _, hc⟩ := h.at_ (k := j) (by rw [marks_len]; exact hlt)
      rw [marks_get] at hc
      go_wp2
      go_round
      case rel => exact ⟨j + 1, by omega, by go_num, by go_num⟩
      case measure => simp [intOf]; omega
    · obtain rfl : j = n := by omega
      go_wp2
      go_ret
      exact ⟨rfl, rfl⟩

theorem eqIntS_b (A A' : Option Addr) (c c' lo hi lo' hi' : Nat) (zs : List Int) (w : World) (h : IR w lo hi A zs) (h' : IR w lo' hi' A' zs) :
    Calls Try.prog 9 #[.slice A zs.length c, .slice A' zs.length c'] w fun e w' => e = .returned (.bool true) ∧ Below w.heap.size w w' :=
  (eqIntS_true A A' c c' lo hi lo' hi' zs w h h').mono fun _ _ ⟨he, m, hm⟩ => ⟨he, by rw [hm]; exact below_drawN (Below.refl _ _) m⟩
end Go.Proofs.Ytanoojpmokbiaab
