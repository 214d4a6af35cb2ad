/-
  The model's search for what hangs below a row: l2Top, l2Hang, LineHang. Conditions: the rows' cells are there.
-/
import Derived.Test.YtlgagdplnpeklaaLn1
namespace Go.Proofs.Ytlgagdplnpeklaa
open Go.RowKit

set_option maxHeartbeats 1000000 in
theorem l2Top_any (A : Option Addr) (c lo hi : Nat) (zs : List Int) (i : Nat) (w : World) (h : IR w lo hi A zs) (hr : rowB zs = true) (hi' : i < zs.length) :
    Calls Try.prog 93 #[.slice A zs.length c, .int .i64 (i : Int)] w fun e w' => e = .returned (.int .i64 (topAt zs i)) ∧ w = w' := by
  have hl := (rowB_true.1 hr).2
  have H := Lib.hid h; have HR := Lib.hid hr; have HI := Lib.hid (topIn_start hr i hi')
  clear h hr
  have h0 : 0 < zs.length := by omega
  go_enter Try.func93, Try.ntmps93
  go_wp2
  go_loop [5, 6] (fun a b => ∃ low high : Int, -2000 ≤ low ∧ low ≤ high ∧ high ≤ 2000 ∧ Hid (TopIn zs i low high) ∧ a = .int .i64 low ∧ b = .int .i64 high) (fun a b => (intOf b - intOf a).toNat)
  case atStart => exact ⟨-2000, 2000, by omega, by omega, by omega, HI, rfl, rfl⟩
  case round =>
    obtain ⟨low, high, l1, l2, l3, HT, rfl, rfl⟩ := hrel
    by_cases hlt : low < high
    · obtain ⟨s, hs⟩ : ∃ s, s = (low + high) / 2 := ⟨_, rfl⟩
      have s1 : low ≤ s := by omega
      have s2 : s < high := by omega
      have ec : ((i : Nat) : Int) < 12 := by omega
      obtain ⟨m1, m2⟩ := sk_bd (s := s) (by omega) (by omega) hi' hl.2
      obtain ⟨m3, m4⟩ := sk_bd (s := s + 1) (by omega) (by omega) hi' hl.2
      obtain ⟨F1, hF1⟩ : ∃ F, F = fallL zs (s + 1) := ⟨_, rfl⟩
      obtain ⟨F0, hF0⟩ : ∃ F, F = fallL zs s := ⟨_, rfl⟩
      have g1 := fall_bd HR.out (s := s + 1) (by omega) (by omega)
      have g0 := fall_bd HR.out (s := s) (by omega) (by omega)
      rw [← hF1] at g1
      rw [← hF0] at g0
      obtain ⟨g11, g12⟩ := g1
      obtain ⟨g01, g02⟩ := g0
      have HF1 := Lib.hid hF1; have HF0 := Lib.hid hF0
      clear hF1 hF0
      have q1 : -3000 ≤ s + 1 := by omega
      have q2 : s + 1 ≤ 3000 := by omega
      have q3 : -3000 ≤ s := by omega
      have q4 : s ≤ 3000 := by omega
      by_cases hup : s * (i : Int) - F0 < (s + 1) * (i : Int) - F1
      · have HU := Lib.hid (topIn_up h0 HT.out s1 s2 (by unfold lineAt; rw [← HF1.out, ← HF0.out]; exact hup))
        subst hs
        go_wp2_with fail
        refine (l2Fall_any _ _ _ _ _ zs _ _ H.out HR.out q1 q2 rfl).mono ?_; rintro e w' ⟨rfl, rfl⟩
        rw [← HF1.out]
        go_wp2_with fail
        refine (l2Fall_any _ _ _ _ _ zs _ _ H.out HR.out q3 q4 rfl).mono ?_; rintro e w' ⟨rfl, rfl⟩
        rw [← HF0.out]
        go_wp2
        go_round
        case rel => exact ⟨(low + high) / 2 + 1, high, by omega, by omega, by omega, HU, by go_num, rfl⟩
        case measure => simp [intOf]; omega
      · have HU := Lib.hid (topIn_down h0 HT.out s1 s2 (by unfold lineAt; rw [← HF1.out, ← HF0.out]; exact hup))
        subst hs
        go_wp2_with fail
        refine (l2Fall_any _ _ _ _ _ zs _ _ H.out HR.out q1 q2 rfl).mono ?_; rintro e w' ⟨rfl, rfl⟩
        rw [← HF1.out]
        go_wp2_with fail
        refine (l2Fall_any _ _ _ _ _ zs _ _ H.out HR.out q3 q4 rfl).mono ?_; rintro e w' ⟨rfl, rfl⟩
        rw [← HF0.out]
        go_wp2
        go_round
        case rel => exact ⟨low, (low + high) / 2, by omega, by omega, by omega, HU, rfl, rfl⟩
        case measure => simp [intOf]; omega
    · obtain rfl : low = high := by omega
      have HE := Lib.hid ((topIn_end HT.out l1 l3).uniq (topAt_is HR.out i hi'))
      obtain ⟨m1, m2⟩ := sk_bd (s := low) (by omega) (by omega) hi' hl.2
      obtain ⟨F0, hF0⟩ : ∃ F, F = fallL zs low := ⟨_, rfl⟩
      have g0 := fall_bd HR.out (s := low) (by omega) (by omega)
      rw [← hF0] at g0
      obtain ⟨g01, g02⟩ := g0
      have HF0 := Lib.hid hF0
      clear hF0
      have q3 : -3000 ≤ low := by omega
      have q4 : low ≤ 3000 := by omega
      go_wp2_with fail
      refine (l2Fall_any _ _ _ _ _ zs low _ H.out HR.out q3 q4 rfl).mono ?_; rintro e w' ⟨rfl, rfl⟩
      rw [← HF0.out]
      go_wp2
      go_ret
      exact ⟨retInt (by rw [← HE.out, HF0.out]; rfl), rfl⟩

theorem hang_take (zs : List Int) (k : Nat) (h : k < zs.length) : (hangL zs).take k ++ [topAt zs k] = (hangL zs).take (k + 1) := by
  have hl : k < (hangL zs).length := by rw [hang_len]; exact h
  rw [← take_snoc _ k hl, ← hang_get zs k h, getD_in hl]
theorem topAt_i64 {zs : List Int} (hr : rowB zs = true) {k : Nat} (hk : k < zs.length) : I64 (topAt zs k) := by
  have := row_getD (hang_row hr) k (by rw [hang_len]; exact hk)
  rw [hang_get zs k hk] at this
  exact ⟨by omega, by omega⟩

set_option maxHeartbeats 1000000 in
theorem l2Hang_any (A : Option Addr) (c : Nat) (zs : List Int) (w : World) (h : IR w 0 w.heap.size A zs) (hr : rowB zs = true) :
    Calls Try.prog 71 #[.slice A zs.length c] w (RetS w (hangL zs)) := by
  have hl := (rowB_true.1 hr).2
  have H := Lib.hid h; have HR := Lib.hid hr
  clear h hr
  go_enter Try.func71, Try.ntmps71
  go_wp2
  go_loopw [3, 4] (fun v i wr => ∃ k : Nat, k ≤ zs.length ∧ i = .int .i64 (k : Int) ∧ OwnI wr w.heap.size v ((hangL zs).take k) ∧ Below w.heap.size w wr) (fun _ i _ => zs.length - (intOf i).toNat)
  case atStart => exact ⟨0, Nat.zero_le _, rfl, by simpa using OwnI.made w, (Below.refl _ _).alloc (Nat.le_refl _) _⟩
  case round =>
    obtain ⟨k, hk, rfl, ho, hb⟩ := hrel
    have HO := Lib.hid ho; have HBl := Lib.hid hb
    clear ho hb
    by_cases hlt : k < zs.length
    · have hlt' : (k : Int) < (zs.length : Int) := by omega
      have HY := Lib.hid (topAt_i64 HR.out hlt)
      have HLn := Lib.hid (show ((hangL zs).take k).length < 17592186044416 by simp [hang_len]; omega)
      have HN := Lib.hid (hang_take zs k hlt)
      go_wp2_with fail
      refine (l2Top_any _ _ _ _ zs k _ (H.out.below HBl.out (Nat.le_refl _)) HR.out hlt).mono ?_; rintro e w' ⟨rfl, rfl⟩
      go_wp2_with (at_builtin; refine wpList_push rfl _ _ rfl w.heap.size _ _ rfl rfl HO.out HLn.out HY.out ?_; intro v1 w1 ho1 hb1)
      rw [HN.out] at ho1
      have HO1 := Lib.hid ho1; have HB1 := Lib.hid hb1
      clear ho1 hb1
      go_roundw
      case rel => exact ⟨k + 1, by omega, by go_num, HO1.out, HBl.out.trans HB1.out⟩
      case measure => simp [intOf]; omega
    · obtain rfl : k = zs.length := by omega
      have ho := HO.out
      rw [List.take_of_length_le (by rw [hang_len]; exact Nat.le_refl _)] at ho
      obtain ⟨A', c', rfl, hiw⟩ := ho.iw (by rw [hang_len]; omega)
      have HIW := Lib.hid hiw
      clear hiw ho HO
      go_wp2
      go_ret
      exact ⟨A', c', rfl, HIW.out, HBl.out⟩
theorem RetS.toRB {w : World} {o : List Int} {e : Ending} {w' : World} (h : RetS w o e w') : ∃ A c, e = .returned (.slice A o.length c) ∧ IW w' w.heap.size w'.heap.size A o ∧ Below w.heap.size w w' := h

set_option maxHeartbeats 1000000 in
theorem specLineHang_any (A : Option Addr) (c : Nat) (zs : List Int) (w : World) (h : IR w 0 w.heap.size A zs) :
    Calls Try.prog 34 #[.slice A zs.length c] w (RetRB w (hangM zs)) := by
  have H := Lib.hid h; clear h
  cases hr : rowB zs with
  | false =>
    have HM : Hid (hangM zs = none) := by show _ = _; simp [hangM, hr]
    have HR := Lib.hid hr; clear hr
    go_enter Try.func34, Try.ntmps34
    go_wp2_with fail
    refine (specRowIn_false _ _ _ _ zs _ H.out HR.out).mono ?_; rintro e w' ⟨rfl, rfl⟩
    go_wp2
    go_ret2
    rw [HM.out]
    exact retSB_none ((Below.refl _ _).alloc (Nat.le_refl _) _) |>.toR
  | true =>
    have HM : Hid (hangM zs = some (hangL zs)) := by show _ = _; simp [hangM, hr]
    have HR := Lib.hid hr; clear hr
    go_enter Try.func34, Try.ntmps34
    go_wp2_with fail
    refine (specRowIn_true _ _ _ _ zs _ H.out HR.out).mono ?_; rintro e w' ⟨rfl, rfl⟩
    go_wp2_with fail
    refine (l2Hang_any _ _ zs _ H.out HR.out).mono ?_; rintro e w1 ⟨A', c', rfl, hi, hb⟩
    have HI := Lib.hid hi; have HB := Lib.hid hb
    clear hi hb
    go_wp2
    go_ret2
    rw [HM.out]
    exact retRB_some rfl HI.out.toIR.toAll HB.out
end Go.Proofs.Ytlgagdplnpeklaa
