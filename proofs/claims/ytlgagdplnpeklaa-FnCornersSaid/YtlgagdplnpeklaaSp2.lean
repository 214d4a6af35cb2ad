/-
  The model's functions that make a row entry by entry: RowTimes, RowTilt, RowSum, RowHigh, RowLow, RowBack as Lean functions. Conditions: the rows' cells are there.
-/
import Derived.Test.YtlgagdplnpeklaaSp1
namespace Go.Proofs.Ytlgagdplnpeklaa
open Go.RowKit

set_option maxRecDepth 100000 in
set_option maxHeartbeats 2000000 in
theorem specRowTilt_any (A0 : Option Addr) (c0 : Nat) (zs0 : List Int) (x1 : Int) (x2 : Int) (w : World) (h0 : IR w 0 w.heap.size A0 zs0) :
    Calls Try.prog 53 #[.slice A0 zs0.length c0, .int .i64 x1, .int .i64 x2] w (RetRB w (tiltM zs0 x1 x2)) := by
  have H0 := Lib.hid h0
  clear h0
  cases hg0 : rowB zs0 with
  | false =>
    have HM : Hid (tiltM zs0 x1 x2 = none) := by show _ = _; simp [tiltM,  hg0]
    have HG0 := Lib.hid hg0; clear hg0
    go_enter Try.func53, Try.ntmps53
    go_wp2_with fail
    go_at_call 49; refine (specRowIn_false _ _ _ _ zs0 _ H0.out HG0.out).mono ?_; rintro e w' ⟨rfl, rfl⟩
    go_wp2
    go_ret2
    rw [HM.out]
    exact retSB_none ((Below.refl _ _).alloc (Nat.le_refl _) _) |>.toR
  | true =>
    have HG0 := Lib.hid hg0; clear hg0
    cases hg1 : fits x1 with
    | false =>
      have HM : Hid (tiltM zs0 x1 x2 = none) := by show _ = _; simp [tiltM, HG0.out,  hg1]
      have HG1 := Lib.hid hg1; clear hg1
      go_enter Try.func53, Try.ntmps53
      go_wp2_with fail
      go_at_call 49; refine (specRowIn_true _ _ _ _ zs0 _ H0.out HG0.out).mono ?_; rintro e w' ⟨rfl, rfl⟩
      go_wp2_with fail
      go_at_call 63; refine (l6In_false _ _ _ _ HG1.out).mono ?_; rintro e w' ⟨rfl, rfl⟩
      go_wp2
      go_ret2
      rw [HM.out]
      exact retSB_none ((Below.refl _ _).alloc (Nat.le_refl _) _) |>.toR
    | true =>
      have HG1 := Lib.hid hg1; clear hg1
      cases hg2 : fits x2 with
      | false =>
        have HM : Hid (tiltM zs0 x1 x2 = none) := by show _ = _; simp [tiltM, HG0.out, HG1.out,  hg2]
        have HG2 := Lib.hid hg2; clear hg2
        go_enter Try.func53, Try.ntmps53
        go_wp2_with fail
        go_at_call 49; refine (specRowIn_true _ _ _ _ zs0 _ H0.out HG0.out).mono ?_; rintro e w' ⟨rfl, rfl⟩
        go_wp2_with fail
        go_at_call 63; refine (l6In_true _ _ _ _ HG1.out).mono ?_; rintro e w' ⟨rfl, rfl⟩
        go_wp2_with fail
        go_at_call 63; refine (l6In_false _ _ _ _ HG2.out).mono ?_; rintro e w' ⟨rfl, rfl⟩
        go_wp2
        go_ret2
        rw [HM.out]
        exact retSB_none ((Below.refl _ _).alloc (Nat.le_refl _) _) |>.toR
      | true =>
        have HG2 := Lib.hid hg2; clear hg2
        have HI := Lib.hid (show ∀ x : Fin zs0.length, I64 ((tiltG zs0 x1 x2) x) from tiltG_i64 HG0.out HG1.out HG2.out)
        have hl := (rowB_true.1 HG0.out).2
        have hLl : (chgL zs0 (tiltG zs0 x1 x2)).length = zs0.length := by simp [chgL]
        have HLl := Lib.hid hLl; clear hLl
        go_enter Try.func53, Try.ntmps53
        go_wp2_with fail
        go_at_call 49; refine (specRowIn_true _ _ _ _ zs0 _ H0.out HG0.out).mono ?_; rintro e w' ⟨rfl, rfl⟩
        go_wp2_with fail
        go_at_call 63; refine (l6In_true _ _ _ _ HG1.out).mono ?_; rintro e w' ⟨rfl, rfl⟩
        go_wp2_with fail
        go_at_call 63; refine (l6In_true _ _ _ _ HG2.out).mono ?_; rintro e w' ⟨rfl, rfl⟩
        go_wp2
        go_loopw [8, 9] (fun v i wr => ∃ k : Nat, k ≤ zs0.length ∧ i = .int .i64 k ∧ OwnI wr w.heap.size v ((chgL zs0 (tiltG zs0 x1 x2)).take k) ∧ Below w.heap.size w wr) (fun _ i _ => zs0.length - (intOf i).toNat)
        case atStart => exact ⟨0, Nat.zero_le _, rfl, by simpa using OwnI.made w, (Below.refl _ _).alloc (Nat.le_refl _) _⟩
        case round =>
          obtain ⟨k, hk, rfl, ho, hb⟩ := hrel
          have HO := Lib.hid ho; have HBl := Lib.hid hb
          clear ho hb
          by_cases hlt : k < zs0.length
          · have hlt' : (k : Int) < (zs0.length : Int) := by omega
            have h00 : (0 : Int) ≤ (k : Int) := by omega
            have hR := H0.out.below HBl.out (Nat.le_refl _)
            obtain ⟨b, off, rfl, hbh, hbs, hc1⟩ := hR.at_ hlt
            clear hR
            have b1 := (rowB_true.1 HG0.out).1 _ (List.getElem_mem hlt)
            obtain ⟨b11, b12⟩ := b1
            have b2 := inB_true.1 HG1.out
            obtain ⟨b21, b22⟩ := b2
            have b3 := inB_true.1 HG2.out
            obtain ⟨b31, b32⟩ := b3
            obtain ⟨m1, m2⟩ := tilt_bd hlt hl.2 HG2.out
            have hlen : ((chgL zs0 (tiltG zs0 x1 x2)).take k).length < 17592186044416 := by simp; omega
            have HLn := Lib.hid hlen; clear hlen
            have HCM := Lib.hid (show zs0[k] + x1 + (k : Int) * x2 = (tiltG zs0 x1 x2) ⟨k, hlt⟩ from rfl)
            have HY := Lib.hid (show I64 (zs0[k] + x1 + (k : Int) * x2) by rw [HCM.out]; exact HI.out ⟨k, hlt⟩)
            have HT := Lib.hid (take_chg zs0 (tiltG zs0 x1 x2) k hlt)
            go_wp2_with (at_builtin; refine wpList_push rfl _ _ rfl w.heap.size _ _ rfl rfl HO.out HLn.out HY.out ?_; intro v1 w1 ho1 hb1)
            have ho1' : OwnI w1 w.heap.size v1 ((chgL zs0 (tiltG zs0 x1 x2)).take (k + 1)) := by rw [← HT.out, ← HCM.out]; exact ho1
            have HO1 := Lib.hid ho1'; have HB1 := Lib.hid hb1
            clear ho1 ho1' hb1 
            go_roundw
            case rel => exact ⟨k + 1, by omega, by go_num, HO1.out, HBl.out.trans HB1.out⟩
            case measure => simp [intOf]; omega
          · obtain rfl : k = zs0.length := by omega
            have ho := HO.out
            rw [List.take_of_length_le (by rw [HLl.out]; exact Nat.le_refl _)] at ho
            obtain ⟨A', c', rfl, hiw⟩ := ho.iw (by rw [HLl.out]; omega)
            have HIW := Lib.hid hiw
            clear hiw ho HO
            cases hr2 : rowB (chgL zs0 (tiltG zs0 x1 x2)) with
            | false =>
              have HM : Hid (tiltM zs0 x1 x2 = none) := by show _ = _; simp [tiltM, HG0.out, HG1.out, HG2.out,  hr2]
              have hc := l1Done_false A' c' _ _ (chgL zs0 (tiltG zs0 x1 x2)) wr HIW.out.toIR hr2
              have HC := Lib.hid hc; clear hc hr2
              go_wp2_with fail
              refine HC.out.mono ?_
              rintro e w5 ⟨A5, rfl, hb5⟩
              go_wp2
              go_ret2
              rw [HM.out]
              exact (retSB_none (below_then HBl.out (Nat.le_refl _) hb5)).toR
            | true =>
              have HM : Hid (tiltM zs0 x1 x2 = some (chgL zs0 (tiltG zs0 x1 x2))) := by show _ = _; simp [tiltM, HG0.out, HG1.out, HG2.out,  hr2]
              have hc := l1Done_true A' c' _ _ (chgL zs0 (tiltG zs0 x1 x2)) wr HIW.out.toIR hr2
              have HC := Lib.hid hc; clear hc hr2
              go_wp2_with fail
              refine HC.out.mono ?_
              rintro e w5 ⟨rfl, rfl⟩
              go_wp2
              go_ret2
              rw [HM.out]
              exact retRB_some rfl HIW.out.toIR.toAll HBl.out
end Go.Proofs.Ytlgagdplnpeklaa
