/-
  topsOf, EvenIs and EvenMeet of the program. Conditions: the lists' cells are there.
-/
import Derived.Test.YtfiojdiogjpakaaEvH
namespace Go.Proofs.Ytfiojdiogjpakaa
open Go.RowKit

theorem topsOf_false (A0 : Option Addr) (c0 : Nat) (a : List Int) (A1 : Option Addr) (c1 : Nat) (b : List Int) (w : World) (h0 : IR w 0 w.heap.size A0 a) (h1 : IR w 0 w.heap.size A1 b) (ht : twoB a b = false) :
    Calls Try.prog 63 #[.slice A0 a.length c0, .slice A1 b.length c1] w fun e w' => e = .returned (.tuple #[.slice none 0 0, .slice none 0 0, .bool false]) ∧ Below w.heap.size w w' := by
  have H0 := Lib.hid h0; have H1 := Lib.hid h1; have HT := Lib.hid ht
  clear h0 h1 ht
  go_enter Try.func63, Try.ntmps63
  go_wp2_with fail
  refine (isAlike_any _ _ a _ _ b _ _ _ _ _ H0.out H1.out).mono ?_; rintro e w3 ⟨rfl, b3⟩
  rw [HT.out]
  have B3 := Lib.hid b3; clear b3
  go_wp2
  go_ret3
  exact ⟨rfl, B3.out⟩

set_option maxRecDepth 100000 in
set_option maxHeartbeats 1000000 in
theorem topsOf_true (A0 : Option Addr) (c0 : Nat) (a : List Int) (A1 : Option Addr) (c1 : Nat) (b : List Int) (w : World) (h0 : IR w 0 w.heap.size A0 a) (h1 : IR w 0 w.heap.size A1 b) (ht : twoB a b = true) :
    Calls Try.prog 63 #[.slice A0 a.length c0, .slice A1 b.length c1] w fun e w' => ∃ A2 c2 A3 c3, e = .returned (.tuple #[.slice A2 a.length c2, .slice A3 a.length c3, .bool (sumL a == sumL b)]) ∧ IR w' w.heap.size w'.heap.size A2 (topsL a) ∧ IR w' w.heap.size w'.heap.size A3 (topsL b) ∧ Below w.heap.size w w' := by
  have H0 := Lib.hid h0; have H1 := Lib.hid h1; have HT := Lib.hid ht
  obtain ⟨r0, r1, hl⟩ := twoB_true ht
  have hla := (rowB_true.1 r0).2
  have R0 := Lib.hid r0; have R1 := Lib.hid r1
  have HX : Hid ((topsL a).length = a.length) := topsL_len a
  have HY : Hid ((topsL b).length = a.length) := (topsL_len b).trans hl.symm
  have HXL : Hid ((topsL a).getD (a.length - 1) 0 = sumL a) := by
    show _ = _; rw [topsL_getD a (by omega), show a.length - 1 + 1 = a.length by omega, topS_all]
  have HYL : Hid ((topsL b).getD (a.length - 1) 0 = sumL b) := by
    show _ = _; rw [topsL_getD b (by omega), show a.length - 1 + 1 = b.length by omega, topS_all]
  have HLB := Lib.hid hl
  clear h0 h1 ht r0 r1 hl
  go_enter Try.func63, Try.ntmps63
  go_wp2_with fail
  refine (isAlike_any _ _ a _ _ b _ _ _ _ _ H0.out H1.out).mono ?_; rintro e w1 ⟨rfl, b1⟩
  rw [HT.out]
  replace H0 := Lib.hid (H0.out.grow b1); replace H1 := Lib.hid (H1.out.grow b1)
  have B1 := Lib.hid b1; clear b1
  go_wp2_with fail
  refine (tops_any A0 c0 a _ H0.out.toAll R0.out).mono ?_
  rintro e w2 ⟨A2, c2, rfl, i2, b2⟩
  replace H1 := Lib.hid (H1.out.below b2 B1.out.size)
  have I2 := Lib.hid i2; have B2 := Lib.hid (below_then B1.out (Nat.le_refl _) b2)
  clear i2 b2
  go_wp2_with fail
  refine (tops_any A1 c1 b _ H1.out.toAll R1.out).mono ?_
  rintro e w3 ⟨A3, c3, rfl, i3, b3⟩
  replace I2 := Lib.hid (I2.out.toIR.grow b3)
  have I3 := Lib.hid i3; have B3 := Lib.hid (below_then B2.out (Nat.le_refl _) b3)
  have S3 := Lib.hid b3.size
  clear i3 b3
  have hp : a.length - 1 < (topsL a).length := by rw [HX.out]; omega
  have hq : a.length - 1 < (topsL b).length := by rw [HY.out]; omega
  obtain ⟨ba, oa, rfl, _, _, hca⟩ := I2.out.at_ hp
  obtain ⟨bb, ob, rfl, _, _, hcb⟩ := I3.out.toIR.at_ hq
  rw [← getD_in hp, HXL.out] at hca
  rw [← getD_in hq, HYL.out] at hcb
  rw [HX.out, HY.out]
  obtain ⟨n, hn⟩ : ∃ n, a.length = n := ⟨_, rfl⟩
  rw [hn] at hca hcb hla
  rw [hn]
  have hne : ((n : Int) - 1).toNat = n - 1 := by omega
  have n0 : (0 : Int) ≤ (n : Int) - 1 := by omega
  have n1 : (n : Int) - 1 < (n : Int) := by omega
  have s1 : IntKind.i64.wrap ((n : Int) - 1) = (n : Int) - 1 := IntWalk.i64_in _ (by omega)
  clear hp hq
  go_wp2
  go_quiet (fail)
  go_wp2
  go_ret3
  exact ⟨some ⟨ba, oa, none⟩, c2, some ⟨bb, ob, none⟩, c3, by rw [hn]; rfl, (I2.out.wide B1.out.size S3.out (Nat.le_refl _)).drewN _, (I3.out.toIR.wide B2.out.size (Nat.le_refl _) (Nat.le_refl _)).drewN _, below_drawN B3.out _⟩

set_option maxRecDepth 100000 in
set_option maxHeartbeats 1000000 in
theorem implEvenIs_any (A0 : Option Addr) (c0 : Nat) (a : List Int) (A1 : Option Addr) (c1 : Nat) (b : List Int) (w : World) (h0 : IR w 0 w.heap.size A0 a) (h1 : IR w 0 w.heap.size A1 b) :
    Calls Try.prog 31 #[.slice A0 a.length c0, .slice A1 b.length c1] w fun e w' => e = .returned (.bool (evenIsB a b)) ∧ Below w.heap.size w w' := by
  have H0 := Lib.hid h0; have H1 := Lib.hid h1
  clear h0 h1
  cases ht : twoB a b with
  | false =>
    have HM : Hid (evenIsB a b = false) := by show _ = _; unfold evenIsB; rw [ht]; rfl
    have HT := Lib.hid ht; clear ht
    go_enter Try.func31, Try.ntmps31
    go_wp2_with fail
    refine (topsOf_false _ _ a _ _ b _ H0.out H1.out HT.out).mono ?_; rintro e w1 ⟨rfl, b1⟩
    have B1 := Lib.hid b1; clear b1
    go_wp2
    go_ret
    exact ⟨ret_bool HM.out.symm, B1.out⟩
  | true =>
    have HM : Hid (evenIsB a b = evB a b) := by show _ = _; unfold evenIsB; rw [ht]; rfl
    obtain ⟨r0, r1, hl⟩ := twoB_true ht
    have HT := Lib.hid ht
    have hla := (rowB_true.1 r0).2
    have HL := Lib.hid hl
    have HX : Hid ((topsL a).length = a.length) := topsL_len a
    have HY : Hid ((topsL b).length = a.length) := (topsL_len b).trans hl.symm
    clear ht r0 r1 hl
    cases hs : (sumL a == sumL b) with
    | false =>
      have HE : Hid (evB a b = false) := by
        show _ = _; unfold evB; rw [decide_eq_false (by simpa using hs)]; rfl
      have HS := Lib.hid hs; clear hs
      go_enter Try.func31, Try.ntmps31
      go_wp2_with fail
      refine (topsOf_true _ _ a _ _ b _ H0.out H1.out HT.out).mono ?_; rintro e w1 ⟨A2, c2, A3, c3, rfl, -, -, b1⟩
      rw [HS.out]
      have B1 := Lib.hid b1; clear b1
      go_wp2
      go_ret
      exact ⟨ret_bool (by rw [HM.out, HE.out]), B1.out⟩
    | true =>
      have HSE : Hid (sumL a = sumL b) := by show _ = _; simpa using hs
      have HS := Lib.hid hs; clear hs
      obtain ⟨n, hn⟩ : ∃ n, a.length = n := ⟨_, rfl⟩
      have HN := Lib.hid hn
      rw [hn] at HX HY hla
      clear hn
      go_enter Try.func31, Try.ntmps31
      go_wp2_with fail
      refine (topsOf_true _ _ a _ _ b _ H0.out H1.out HT.out).mono ?_; rintro e w1 ⟨A2, c2, A3, c3, rfl, i2, i3, b1⟩
      rw [HS.out, HN.out]
      have B1 := Lib.hid b1; have I2 := Lib.hid i2; have I3 := Lib.hid i3; clear b1 i2 i3
      go_wp2
      go_loop [21] (fun i => ∃ k : Nat, k ≤ n ∧ i = .int .i64 (k : Int) ∧ Hid (∀ j, j ≤ k → topS a j ≤ topS b j)) (fun i => n - (intOf i).toNat)
      case atStart => exact ⟨0, Nat.zero_le _, rfl, Lib.hid (fun j hj => by rw [show j = 0 by omega, topS_zero, topS_zero]; exact Int.le_refl _)⟩
      case round =>
        obtain ⟨k, hk, rfl, hall⟩ := hrel
        by_cases hlt : k < n
        · have hx : k < (topsL a).length := by rw [HX.out]; exact hlt
          have hy : k < (topsL b).length := by rw [HY.out]; exact hlt
          obtain ⟨ba, oa, rfl, _, _, hca⟩ := I2.out.at_ hx
          obtain ⟨bb, ob, rfl, _, _, hcb⟩ := I3.out.at_ hy
          have hlt' : (k : Int) < (n : Int) := by omega
          have t1 := topsL_getD a (k := k) (by rw [HN.out]; exact hlt)
          have t2 := topsL_getD b (k := k) (by rw [← HL.out, HN.out]; exact hlt)
          rw [getD_in hx] at t1
          rw [getD_in hy] at t2
          have HNO := Lib.hid (fun h => ev_no (a := a) (b := b) (k := k + 1) (by rw [HN.out]; omega) h)
          rw [t1] at hca
          rw [t2] at hcb
          have HD1 : Hid (topS a (k + 1) = sumL ((downL a).take (k + 1))) := rfl
          have HD2 : Hid (topS b (k + 1) = sumL ((downL b).take (k + 1))) := rfl
          obtain ⟨x, hxx⟩ : ∃ x, topS a (k + 1) = x := ⟨_, rfl⟩
          obtain ⟨y, hyy⟩ : ∃ y, topS b (k + 1) = y := ⟨_, rfl⟩
          have HXX := Lib.hid hxx; have HYY := Lib.hid hyy
          rw [hxx] at hca HD1
          rw [hyy] at hcb HD2
          clear t1 t2 hxx hyy hx hy
          by_cases hgt : y < x
          · have HE := Lib.hid (HNO.out (by rw [← HD1.out, ← HD2.out]; exact hgt))
            go_wp2
            go_ret
            exact ⟨ret_bool (by rw [HM.out, HE.out]), B1.out⟩
          · go_wp2
            go_round
            case rel => exact ⟨k + 1, by omega, by go_num, Lib.hid (fun j hj => by
              by_cases e : j = k + 1
              · subst e; rw [HXX.out, HYY.out]; omega
              · exact hall.out j (by omega))⟩
            case measure => simp [intOf]; omega
        · obtain rfl : k = n := by omega
          have HE : Hid (evB a b = true) := by
            have h := ev_end (a := a) (b := b) HL.out (by rw [HN.out]; exact hall.out)
            show _ = _
            rw [h, down_sum, show sumL ((downL b).take a.length) = sumL b by rw [HL.out]; exact down_sum b]
            exact HS.out
          go_wp2
          go_ret
          exact ⟨ret_bool (by rw [HM.out, HE.out]), B1.out⟩

set_option maxRecDepth 100000 in
set_option maxHeartbeats 2000000 in
theorem implEvenMeet_any (A0 : Option Addr) (c0 : Nat) (a : List Int) (A1 : Option Addr) (c1 : Nat) (b : List Int) (w : World) (h0 : IR w 0 w.heap.size A0 a) (h1 : IR w 0 w.heap.size A1 b) :
    Calls Try.prog 41 #[.slice A0 a.length c0, .slice A1 b.length c1] w (RetSB w (meetM a b)) := by
  have H0 := Lib.hid h0; have H1 := Lib.hid h1
  clear h0 h1
  cases ht : twoB a b with
  | false =>
    have HM := Lib.hid (meet_no ht)
    have HT := Lib.hid ht; clear ht
    go_enter Try.func41, Try.ntmps41
    go_wp2_with fail
    refine (topsOf_false _ _ a _ _ b _ H0.out H1.out HT.out).mono ?_; rintro e w1 ⟨rfl, b1⟩
    have B1 := Lib.hid b1; clear b1
    go_wp2
    go_ret2
    rw [HM.out]
    exact retSB_none B1.out
  | true =>
    obtain ⟨r0, r1, hl⟩ := twoB_true ht
    have HT := Lib.hid ht
    have hla := (rowB_true.1 r0).2
    have HL := Lib.hid hl
    have R0 := Lib.hid r0; have R1 := Lib.hid r1
    have HX : Hid ((topsL a).length = a.length) := topsL_len a
    have HY : Hid ((topsL b).length = a.length) := (topsL_len b).trans hl.symm
    have HML : Hid ((meetL a b).length = a.length) := meet_len a b
    clear r0 r1 hl
    cases hs : (sumL a == sumL b) with
    | false =>
      have HM := Lib.hid (meet_no2 (a := a) (b := b) (by simpa using hs))
      have HS := Lib.hid hs; clear hs ht
      go_enter Try.func41, Try.ntmps41
      go_wp2_with fail
      refine (topsOf_true _ _ a _ _ b _ H0.out H1.out HT.out).mono ?_; rintro e w1 ⟨A2, c2, A3, c3, rfl, -, -, b1⟩
      rw [HS.out]
      have B1 := Lib.hid b1; clear b1
      go_wp2
      go_ret2
      rw [HM.out]
      exact retSB_none B1.out
    | true =>
      have HM := Lib.hid (meet_yes ht (by simpa using hs))
      have HRM := Lib.hid (meet_row ht (by simpa using hs))
      have HS := Lib.hid hs; clear hs ht
      obtain ⟨n, hn⟩ : ∃ n, a.length = n := ⟨_, rfl⟩
      have HN := Lib.hid hn
      rw [hn] at HX HY HML hla
      have hmk := run_makeInts n (by omega)
      clear hn
      go_enter Try.func41, Try.ntmps41
      go_wp2_with fail
      refine (topsOf_true _ _ a _ _ b _ H0.out H1.out HT.out).mono ?_; rintro e w1 ⟨A2, c2, A3, c3, rfl, i2, i3, b1⟩
      rw [HS.out, HN.out]
      have B1 := Lib.hid b1; have I2 := Lib.hid i2; have I3 := Lib.hid i3; clear b1 i2 i3
      go_wp2
      go_loopw [10, 28] (fun d i wr => ∃ k : Nat, k ≤ n ∧ i = .int .i64 (k : Int) ∧ d = .int .i64 (meetTo a b k) ∧ Cells wr w1.heap.size 0 (fillTo (meetL a b) k) ∧ Below w1.heap.size w1 wr ∧ w1.heap.size < wr.heap.size) (fun _ i _ => n - (intOf i).toNat)
      case atStart => exact ⟨0, Nat.zero_le _, rfl, by unfold meetTo; rw [topS_zero, topS_zero]; rfl, by rw [fillTo_zero, HML.out]; exact Cells.made w1 n _, (Below.refl _ _).alloc (Nat.le_refl _) _, by simp⟩
      case round =>
        obtain ⟨k, hk, rfl, rfl, hc, hb, hsz⟩ := hrel
        have HC := Lib.hid hc; have HB := Lib.hid hb
        clear hc hb
        by_cases hlt : k < n
        · have hx : k < (topsL a).length := by rw [HX.out]; exact hlt
          have hy : k < (topsL b).length := by rw [HY.out]; exact hlt
          have hm : k < (meetL a b).length := by rw [HML.out]; exact hlt
          obtain ⟨ba, oa, rfl, _, _, hca⟩ := (I2.out.below HB.out I2.out.2.2.1).at_ hx
          obtain ⟨bb, ob, rfl, _, _, hcb⟩ := (I3.out.below HB.out I3.out.2.2.1).at_ hy
          have hlt' : (k : Int) < (n : Int) := by omega
          have t1 := topsL_getD a (k := k) (by rw [HN.out]; exact hlt)
          have t2 := topsL_getD b (k := k) (by rw [← HL.out, HN.out]; exact hlt)
          rw [getD_in hx] at t1
          rw [getD_in hy] at t2
          rw [t1] at hca
          rw [t2] at hcb
          have g1 := topS_bd R0.out (k := k) (by rw [HN.out]; exact hk)
          have g2 := topS_bd R1.out (k := k) (by rw [← HL.out, HN.out]; exact hk)
          have g3 := topS_bd R0.out (k := k + 1) (by rw [HN.out]; exact hlt)
          have g4 := topS_bd R1.out (k := k + 1) (by rw [← HL.out, HN.out]; exact hlt)
          have hmk0 : meetTo a b k = min (topS a k) (topS b k) := rfl
          have hmk1 : meetTo a b (k + 1) = min (topS a (k + 1)) (topS b (k + 1)) := rfl
          have hmv := meet_getD a b (k := k) (by rw [HN.out]; exact hlt)
          rw [getD_in hm] at hmv
          have hcm := HC.out.fillAt hm
          have HN2 := Lib.hid (HC.out.fill hm)
          rw [hmv, hmk1] at HN2
          obtain ⟨hc2, hc3⟩ := hcm
          rw [Nat.zero_add] at hc2 hc3 HN2
          obtain ⟨D, hD⟩ : ∃ D, meetTo a b k = D := ⟨_, rfl⟩
          rw [hD] at hmk0 HN2
          rw [hD]
          obtain ⟨x, hxx⟩ : ∃ x, topS a (k + 1) = x := ⟨_, rfl⟩
          obtain ⟨y, hyy⟩ : ∃ y, topS b (k + 1) = y := ⟨_, rfl⟩
          rw [hxx] at hca g3 HN2 hmk1
          rw [hyy] at hcb g4 HN2 hmk1
          have HM1 := Lib.hid hmk1
          have s3 : IntKind.i64.wrap (min x y - D) = min x y - D := IntWalk.i64_in _ (by omega)
          clear t1 t2 hxx hyy hx hy hmv hmk0 hmk1 hD
          go_wp2
          go_roundw
          case rel => exact ⟨k + 1, by omega, by go_num, by rw [HM1.out], HN2.out, HB.out.setCell (Nat.le_refl _) _, by simpa [World.setCell] using hsz⟩
          case measure => simp [intOf]; omega
        · obtain rfl : k = n := by omega
          have hc := HC.out
          rw [show fillTo (meetL a b) k = meetL a b by rw [← HML.out]; exact fillTo_all _] at hc
          have HI := Lib.hid (hc.iw HML.out (Nat.le_refl _) hsz (Nat.le_refl _) (by omega) (fun z hz => i64_of_fits ((rowB_true.1 HRM.out).1 z hz)))
          clear hc
          go_wp2
          go_ret2
          rw [HM.out]
          exact retSB_some HML.out.symm (HI.out.wide B1.out.size (Nat.le_refl _) (Nat.le_refl _)) (B1.out.trans (HB.out.mono B1.out.size))
end Go.Proofs.Ytfiojdiogjpakaa
