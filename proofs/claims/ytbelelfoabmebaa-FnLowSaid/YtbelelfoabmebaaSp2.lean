/-
  The model's functions that make a row entry by entry: RowTimes, RowTilt, RowSum, RowHigh, RowLow, RowBack as Lean functions. Conditions: the rows' cells are there.
-/
import Derived.Test.YtbelelfoabmebaaSp1
namespace Go.Proofs.Ytbelelfoabmebaa
open Go.RowKit

set_option maxRecDepth 100000 in
set_option maxHeartbeats 2000000 in
theorem specRowHigh_any (A0 : Option Addr) (c0 : Nat) (zs0 : List Int) (A1 : Option Addr) (c1 : Nat) (zs1 : List Int) (w : World) (h0 : IR w 0 w.heap.size A0 zs0) (h1 : IR w 0 w.heap.size A1 zs1) :
    Calls Try.prog 37 #[.slice A0 zs0.length c0, .slice A1 zs1.length c1] w (RetRB w (highM zs0 zs1)) := by
  have H0 := Lib.hid h0
  have H1 := Lib.hid h1
  clear h0
  clear h1
  cases hg0 : twoB zs0 zs1 with
  | false =>
    have HM : Hid (highM zs0 zs1 = none) := by show _ = _; simp [highM,  hg0]
    have HG0 := Lib.hid hg0; clear hg0
    go_enter Try.func37, Try.ntmps37
    go_wp2_with fail
    go_at_call 64; refine (l1Two_false _ _ zs0 _ _ zs1 _ _ _ _ _ H0.out H1.out HG0.out).mono ?_; rintro e w' ⟨rfl, rfl⟩
    go_wp2
    go_ret2
    rw [HM.out]
    exact retSB_none ((Below.refl _ _).alloc (Nat.le_refl _) _) |>.toR
  | true =>
    have HG0 := Lib.hid hg0; clear hg0
    have HI := Lib.hid (show ∀ x : Fin zs0.length, I64 ((highG zs0 zs1) x) from fun x => i64_of_fits (highG_fits HG0.out x))
    have hl := (rowB_true.1 (twoB_true HG0.out).1).2
    have hLl : (chgL zs0 (highG zs0 zs1)).length = zs0.length := by simp [chgL]
    have HLl := Lib.hid hLl; clear hLl
    go_enter Try.func37, Try.ntmps37
    go_wp2_with fail
    go_at_call 64; refine (l1Two_true _ _ zs0 _ _ zs1 _ _ _ _ _ H0.out H1.out HG0.out).mono ?_; rintro e w' ⟨rfl, rfl⟩
    go_wp2
    go_loopw [6, 7] (fun v i wr => ∃ k : Nat, k ≤ zs0.length ∧ i = .int .i64 k ∧ OwnI wr w.heap.size v ((chgL zs0 (highG zs0 zs1)).take k) ∧ Below w.heap.size w wr) (fun _ i _ => zs0.length - (intOf i).toNat)
    case atStart => exact ⟨0, Nat.zero_le _, rfl, by simpa using OwnI.made w, (Below.refl _ _).alloc (Nat.le_refl _) _⟩
    case round =>
      obtain ⟨k, hk, rfl, ho, hb⟩ := hrel
      have HO := Lib.hid ho; have HBl := Lib.hid hb
      clear ho hb
      by_cases hlt : k < zs0.length
      · have hlt' : (k : Int) < (zs0.length : Int) := by omega
        have h00 : (0 : Int) ≤ (k : Int) := by omega
        have ht := twoB_true HG0.out
        obtain ⟨hr0, hr1, hlen2⟩ := ht
        have hlt1 : k < zs1.length := by omega
        have hlt1' : (k : Int) < (zs1.length : Int) := by omega
        have HL2 := Lib.hid hlen2
        clear hlen2
        obtain ⟨b, off, rfl, hbh, hbs, hc1⟩ := (H0.out.below HBl.out (Nat.le_refl _)).at_ hlt
        obtain ⟨b', off', rfl, hbh', hbs', hc2⟩ := (H1.out.below HBl.out (Nat.le_refl _)).at_ hlt1
        obtain ⟨b11, b12⟩ := (rowB_true.1 hr0).1 _ (List.getElem_mem hlt)
        obtain ⟨b21, b22⟩ := (rowB_true.1 hr1).1 _ (List.getElem_mem hlt1)
        clear hr0 hr1
        have t0 : (k : Int).toNat = k := by omega
        have hlen : ((chgL zs0 (highG zs0 zs1)).take k).length < 17592186044416 := by simp; omega
        have HLn := Lib.hid hlen; clear hlen
        have HCM := Lib.hid (show (if zs0[k] < zs1[k] then zs1[k] else zs0[k]) = (highG zs0 zs1) ⟨k, hlt⟩ from by unfold highG; rw [getD_in hlt1]; rfl)
        have HY := Lib.hid (show I64 ((if zs0[k] < zs1[k] then zs1[k] else zs0[k])) by rw [HCM.out]; exact HI.out ⟨k, hlt⟩)
        have s2 : IntKind.i64.wrap ((if zs0[k] < zs1[k] then zs1[k] else zs0[k])) = (if zs0[k] < zs1[k] then zs1[k] else zs0[k]) := IntWalk.i64_in _ HY.out
        have HT := Lib.hid (take_chg zs0 (highG zs0 zs1) k hlt)
        go_wp2
        go_region_held3 (fun w' => w'.cell? ⟨b, off + k, none⟩ = some (.int .i64 zs0[k]) ∧ w'.cell? ⟨b', off' + k, none⟩ = some (.int .i64 zs1[k])) (first | exact ⟨q0, q1⟩ | go_keep)
          ((refine step_push (by rfl) (.tmp 20) (.tmp 30) (by rfl) w.heap.size _ _ (by rfl) (by rfl) HO.out HLn.out HY.out ?_; intro v1 w1 ho1 hb1; have q0 := (hb1.cell (p := ⟨b, off + k, none⟩) hbh).trans hc1; have q1 := (hb1.cell (p := ⟨b', off' + k, none⟩) hbh').trans hc2))
        have ho1' := ho1; clear ho1; have ho1 := ho1'; clear ho1'
        have ho1' : OwnI w1 w.heap.size v1 ((chgL zs0 (highG zs0 zs1)).take (k + 1)) := by rw [← HT.out, ← HCM.out]; exact ho1
        have HO1 := Lib.hid ho1'; have HB1 := Lib.hid hb1
        clear ho1 ho1' hb1 hc1 hc2 s2 t0
        go_wp2
        go_roundw
        case rel => exact ⟨k + 1, by omega, by go_num, HO1.out, HBl.out.trans HB1.out⟩
        case measure => simp [intOf]; omega
      · obtain rfl : k = zs0.length := by omega
        have ho := HO.out
        rw [List.take_of_length_le (by rw [HLl.out]; exact Nat.le_refl _)] at ho
        obtain ⟨A', c', rfl, hiw⟩ := ho.iw (by rw [HLl.out]; omega)
        have HIW := Lib.hid hiw
        clear hiw ho HO
        have HM : Hid (highM zs0 zs1 = some (chgL zs0 (highG zs0 zs1))) := by show _ = _; simp [highM, HG0.out]
        go_wp2
        go_ret2
        rw [HM.out]
        exact retRB_some rfl HIW.out.toIR.toAll HBl.out
set_option maxRecDepth 100000 in
set_option maxHeartbeats 2000000 in
theorem specRowLow_any (A0 : Option Addr) (c0 : Nat) (zs0 : List Int) (A1 : Option Addr) (c1 : Nat) (zs1 : List Int) (w : World) (h0 : IR w 0 w.heap.size A0 zs0) (h1 : IR w 0 w.heap.size A1 zs1) :
    Calls Try.prog 41 #[.slice A0 zs0.length c0, .slice A1 zs1.length c1] w (RetRB w (lowM zs0 zs1)) := by
  have H0 := Lib.hid h0
  have H1 := Lib.hid h1
  clear h0
  clear h1
  cases hg0 : twoB zs0 zs1 with
  | false =>
    have HM : Hid (lowM zs0 zs1 = none) := by show _ = _; simp [lowM,  hg0]
    have HG0 := Lib.hid hg0; clear hg0
    go_enter Try.func41, Try.ntmps41
    go_wp2_with fail
    go_at_call 64; refine (l1Two_false _ _ zs0 _ _ zs1 _ _ _ _ _ H0.out H1.out HG0.out).mono ?_; rintro e w' ⟨rfl, rfl⟩
    go_wp2
    go_ret2
    rw [HM.out]
    exact retSB_none ((Below.refl _ _).alloc (Nat.le_refl _) _) |>.toR
  | true =>
    have HG0 := Lib.hid hg0; clear hg0
    have HI := Lib.hid (show ∀ x : Fin zs0.length, I64 ((lowG zs0 zs1) x) from fun x => i64_of_fits (lowG_fits HG0.out x))
    have hl := (rowB_true.1 (twoB_true HG0.out).1).2
    have hLl : (chgL zs0 (lowG zs0 zs1)).length = zs0.length := by simp [chgL]
    have HLl := Lib.hid hLl; clear hLl
    go_enter Try.func41, Try.ntmps41
    go_wp2_with fail
    go_at_call 64; refine (l1Two_true _ _ zs0 _ _ zs1 _ _ _ _ _ H0.out H1.out HG0.out).mono ?_; rintro e w' ⟨rfl, rfl⟩
    go_wp2
    go_loopw [6, 7] (fun v i wr => ∃ k : Nat, k ≤ zs0.length ∧ i = .int .i64 k ∧ OwnI wr w.heap.size v ((chgL zs0 (lowG zs0 zs1)).take k) ∧ Below w.heap.size w wr) (fun _ i _ => zs0.length - (intOf i).toNat)
    case atStart => exact ⟨0, Nat.zero_le _, rfl, by simpa using OwnI.made w, (Below.refl _ _).alloc (Nat.le_refl _) _⟩
    case round =>
      obtain ⟨k, hk, rfl, ho, hb⟩ := hrel
      have HO := Lib.hid ho; have HBl := Lib.hid hb
      clear ho hb
      by_cases hlt : k < zs0.length
      · have hlt' : (k : Int) < (zs0.length : Int) := by omega
        have h00 : (0 : Int) ≤ (k : Int) := by omega
        have ht := twoB_true HG0.out
        obtain ⟨hr0, hr1, hlen2⟩ := ht
        have hlt1 : k < zs1.length := by omega
        have hlt1' : (k : Int) < (zs1.length : Int) := by omega
        have HL2 := Lib.hid hlen2
        clear hlen2
        obtain ⟨b, off, rfl, hbh, hbs, hc1⟩ := (H0.out.below HBl.out (Nat.le_refl _)).at_ hlt
        obtain ⟨b', off', rfl, hbh', hbs', hc2⟩ := (H1.out.below HBl.out (Nat.le_refl _)).at_ hlt1
        obtain ⟨b11, b12⟩ := (rowB_true.1 hr0).1 _ (List.getElem_mem hlt)
        obtain ⟨b21, b22⟩ := (rowB_true.1 hr1).1 _ (List.getElem_mem hlt1)
        clear hr0 hr1
        have t0 : (k : Int).toNat = k := by omega
        have hlen : ((chgL zs0 (lowG zs0 zs1)).take k).length < 17592186044416 := by simp; omega
        have HLn := Lib.hid hlen; clear hlen
        have HCM := Lib.hid (show (if zs1[k] < zs0[k] then zs1[k] else zs0[k]) = (lowG zs0 zs1) ⟨k, hlt⟩ from by unfold lowG; rw [getD_in hlt1]; rfl)
        have HY := Lib.hid (show I64 ((if zs1[k] < zs0[k] then zs1[k] else zs0[k])) by rw [HCM.out]; exact HI.out ⟨k, hlt⟩)
        have s2 : IntKind.i64.wrap ((if zs1[k] < zs0[k] then zs1[k] else zs0[k])) = (if zs1[k] < zs0[k] then zs1[k] else zs0[k]) := IntWalk.i64_in _ HY.out
        have HT := Lib.hid (take_chg zs0 (lowG zs0 zs1) k hlt)
        go_wp2
        go_region_held3 (fun w' => w'.cell? ⟨b, off + k, none⟩ = some (.int .i64 zs0[k]) ∧ w'.cell? ⟨b', off' + k, none⟩ = some (.int .i64 zs1[k])) (first | exact ⟨q0, q1⟩ | go_keep)
          ((refine step_push (by rfl) (.tmp 20) (.tmp 30) (by rfl) w.heap.size _ _ (by rfl) (by rfl) HO.out HLn.out HY.out ?_; intro v1 w1 ho1 hb1; have q0 := (hb1.cell (p := ⟨b, off + k, none⟩) hbh).trans hc1; have q1 := (hb1.cell (p := ⟨b', off' + k, none⟩) hbh').trans hc2))
        have ho1' := ho1; clear ho1; have ho1 := ho1'; clear ho1'
        have ho1' : OwnI w1 w.heap.size v1 ((chgL zs0 (lowG zs0 zs1)).take (k + 1)) := by rw [← HT.out, ← HCM.out]; exact ho1
        have HO1 := Lib.hid ho1'; have HB1 := Lib.hid hb1
        clear ho1 ho1' hb1 hc1 hc2 s2 t0
        go_wp2
        go_roundw
        case rel => exact ⟨k + 1, by omega, by go_num, HO1.out, HBl.out.trans HB1.out⟩
        case measure => simp [intOf]; omega
      · obtain rfl : k = zs0.length := by omega
        have ho := HO.out
        rw [List.take_of_length_le (by rw [HLl.out]; exact Nat.le_refl _)] at ho
        obtain ⟨A', c', rfl, hiw⟩ := ho.iw (by rw [HLl.out]; omega)
        have HIW := Lib.hid hiw
        clear hiw ho HO
        have HM : Hid (lowM zs0 zs1 = some (chgL zs0 (lowG zs0 zs1))) := by show _ = _; simp [lowM, HG0.out]
        go_wp2
        go_ret2
        rw [HM.out]
        exact retRB_some rfl HIW.out.toIR.toAll HBl.out
set_option maxRecDepth 100000 in
set_option maxHeartbeats 2000000 in
theorem specRowTilt_any (A0 : Option Addr) (c0 : Nat) (zs0 : List Int) (x1 : Int) (x2 : Int) (w : World) (h0 : IR w 0 w.heap.size A0 zs0) :
    Calls Try.prog 34 #[.slice A0 zs0.length c0, .int .i64 x1, .int .i64 x2] w (RetRB w (tiltM zs0 x1 x2)) := by
  have H0 := Lib.hid h0
  clear h0
  cases hg0 : rowB zs0 with
  | false =>
    have HM : Hid (tiltM zs0 x1 x2 = none) := by show _ = _; simp [tiltM,  hg0]
    have HG0 := Lib.hid hg0; clear hg0
    go_enter Try.func34, Try.ntmps34
    go_wp2_with fail
    go_at_call 15; refine (specRowIn_false _ _ _ _ zs0 _ H0.out HG0.out).mono ?_; rintro e w' ⟨rfl, rfl⟩
    go_wp2
    go_ret2
    rw [HM.out]
    exact retSB_none ((Below.refl _ _).alloc (Nat.le_refl _) _) |>.toR
  | true =>
    have HG0 := Lib.hid hg0; clear hg0
    cases hg1 : fits x1 with
    | false =>
      have HM : Hid (tiltM zs0 x1 x2 = none) := by show _ = _; simp [tiltM, HG0.out,  hg1]
      have HG1 := Lib.hid hg1; clear hg1
      go_enter Try.func34, Try.ntmps34
      go_wp2_with fail
      go_at_call 15; refine (specRowIn_true _ _ _ _ zs0 _ H0.out HG0.out).mono ?_; rintro e w' ⟨rfl, rfl⟩
      go_wp2_with fail
      go_at_call 50; refine (l6In_false _ _ _ _ HG1.out).mono ?_; rintro e w' ⟨rfl, rfl⟩
      go_wp2
      go_ret2
      rw [HM.out]
      exact retSB_none ((Below.refl _ _).alloc (Nat.le_refl _) _) |>.toR
    | true =>
      have HG1 := Lib.hid hg1; clear hg1
      cases hg2 : fits x2 with
      | false =>
        have HM : Hid (tiltM zs0 x1 x2 = none) := by show _ = _; simp [tiltM, HG0.out, HG1.out,  hg2]
        have HG2 := Lib.hid hg2; clear hg2
        go_enter Try.func34, Try.ntmps34
        go_wp2_with fail
        go_at_call 15; refine (specRowIn_true _ _ _ _ zs0 _ H0.out HG0.out).mono ?_; rintro e w' ⟨rfl, rfl⟩
        go_wp2_with fail
        go_at_call 50; refine (l6In_true _ _ _ _ HG1.out).mono ?_; rintro e w' ⟨rfl, rfl⟩
        go_wp2_with fail
        go_at_call 50; refine (l6In_false _ _ _ _ HG2.out).mono ?_; rintro e w' ⟨rfl, rfl⟩
        go_wp2
        go_ret2
        rw [HM.out]
        exact retSB_none ((Below.refl _ _).alloc (Nat.le_refl _) _) |>.toR
      | true =>
        have HG2 := Lib.hid hg2; clear hg2
        have HI := Lib.hid (show ∀ x : Fin zs0.length, I64 ((tiltG zs0 x1 x2) x) from tiltG_i64 HG0.out HG1.out HG2.out)
        have hl := (rowB_true.1 HG0.out).2
        have hLl : (chgL zs0 (tiltG zs0 x1 x2)).length = zs0.length := by simp [chgL]
        have HLl := Lib.hid hLl; clear hLl
        go_enter Try.func34, Try.ntmps34
        go_wp2_with fail
        go_at_call 15; refine (specRowIn_true _ _ _ _ zs0 _ H0.out HG0.out).mono ?_; rintro e w' ⟨rfl, rfl⟩
        go_wp2_with fail
        go_at_call 50; refine (l6In_true _ _ _ _ HG1.out).mono ?_; rintro e w' ⟨rfl, rfl⟩
        go_wp2_with fail
        go_at_call 50; refine (l6In_true _ _ _ _ HG2.out).mono ?_; rintro e w' ⟨rfl, rfl⟩
        go_wp2
        go_loopw [8, 9] (fun v i wr => ∃ k : Nat, k ≤ zs0.length ∧ i = .int .i64 k ∧ OwnI wr w.heap.size v ((chgL zs0 (tiltG zs0 x1 x2)).take k) ∧ Below w.heap.size w wr) (fun _ i _ => zs0.length - (intOf i).toNat)
        case atStart => exact ⟨0, Nat.zero_le _, rfl, by simpa using OwnI.made w, (Below.refl _ _).alloc (Nat.le_refl _) _⟩
        case round =>
          obtain ⟨k, hk, rfl, ho, hb⟩ := hrel
          have HO := Lib.hid ho; have HBl := Lib.hid hb
          clear ho hb
          by_cases hlt : k < zs0.length
          · have hlt' : (k : Int) < (zs0.length : Int) := by omega
            have h00 : (0 : Int) ≤ (k : Int) := by omega
            have hR := H0.out.below HBl.out (Nat.le_refl _)
            obtain ⟨b, off, rfl, hbh, hbs, hc1⟩ := hR.at_ hlt
            clear hR
            have b1 := (rowB_true.1 HG0.out).1 _ (List.getElem_mem hlt)
            obtain ⟨b11, b12⟩ := b1
            have b2 := inB_true.1 HG1.out
            obtain ⟨b21, b22⟩ := b2
            have b3 := inB_true.1 HG2.out
            obtain ⟨b31, b32⟩ := b3
            obtain ⟨m1, m2⟩ := tilt_bd hlt hl.2 HG2.out
            have hlen : ((chgL zs0 (tiltG zs0 x1 x2)).take k).length < 17592186044416 := by simp; omega
            have HLn := Lib.hid hlen; clear hlen
            have HCM := Lib.hid (show zs0[k] + x1 + (k : Int) * x2 = (tiltG zs0 x1 x2) ⟨k, hlt⟩ from rfl)
            have HY := Lib.hid (show I64 (zs0[k] + x1 + (k : Int) * x2) by rw [HCM.out]; exact HI.out ⟨k, hlt⟩)
            have HT := Lib.hid (take_chg zs0 (tiltG zs0 x1 x2) k hlt)
            go_wp2_with (at_builtin; refine wpList_push rfl _ _ rfl w.heap.size _ _ rfl rfl HO.out HLn.out HY.out ?_; intro v1 w1 ho1 hb1)
            have ho1' : OwnI w1 w.heap.size v1 ((chgL zs0 (tiltG zs0 x1 x2)).take (k + 1)) := by rw [← HT.out, ← HCM.out]; exact ho1
            have HO1 := Lib.hid ho1'; have HB1 := Lib.hid hb1
            clear ho1 ho1' hb1 
            go_roundw
            case rel => exact ⟨k + 1, by omega, by go_num, HO1.out, HBl.out.trans HB1.out⟩
            case measure => simp [intOf]; omega
          · obtain rfl : k = zs0.length := by omega
            have ho := HO.out
            rw [List.take_of_length_le (by rw [HLl.out]; exact Nat.le_refl _)] at ho
            obtain ⟨A', c', rfl, hiw⟩ := ho.iw (by rw [HLl.out]; omega)
            have HIW := Lib.hid hiw
            clear hiw ho HO
            cases hr2 : rowB (chgL zs0 (tiltG zs0 x1 x2)) with
            | false =>
              have HM : Hid (tiltM zs0 x1 x2 = none) := by show _ = _; simp [tiltM, HG0.out, HG1.out, HG2.out,  hr2]
              have hc := l1Done_false A' c' _ _ (chgL zs0 (tiltG zs0 x1 x2)) wr HIW.out.toIR hr2
              have HC := Lib.hid hc; clear hc hr2
              go_wp2_with fail
              refine HC.out.mono ?_
              rintro e w5 ⟨A5, rfl, hb5⟩
              go_wp2
              go_ret2
              rw [HM.out]
              exact (retSB_none (below_then HBl.out (Nat.le_refl _) hb5)).toR
            | true =>
              have HM : Hid (tiltM zs0 x1 x2 = some (chgL zs0 (tiltG zs0 x1 x2))) := by show _ = _; simp [tiltM, HG0.out, HG1.out, HG2.out,  hr2]
              have hc := l1Done_true A' c' _ _ (chgL zs0 (tiltG zs0 x1 x2)) wr HIW.out.toIR hr2
              have HC := Lib.hid hc; clear hc hr2
              go_wp2_with fail
              refine HC.out.mono ?_
              rintro e w5 ⟨rfl, rfl⟩
              go_wp2
              go_ret2
              rw [HM.out]
              exact retRB_some rfl HIW.out.toIR.toAll HBl.out
end Go.Proofs.Ytbelelfoabmebaa
