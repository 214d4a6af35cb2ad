/-
  HillFold of the model and of the program: two hills folded. Conditions: the lists' cells are there.
-/
import Derived.Test.YtnphmapiagiocaaHl1
import Derived.Test.YtnphmapiagiocaaHvMath
import Derived.Test.YtnphmapiagiocaaMathA
import Derived.Test.YtnphmapiagiocaaFrom
import Derived.Test.YtnphmapiagiocaaIter3
import Derived.Test.YtnphmapiagiocaaHeld
namespace Go.Proofs.Ytnphmapiagiocaa
open Go.RowKit Go.Shelf
attribute [local go_sem] Oper.semAt_some

def foldM (zs ys : List Int) : Option (List Int) := if hillB zs && hillB ys then doneM (foldHL zs ys) else none
theorem foldM_no {zs ys : List Int} (h : (hillB zs && hillB ys) = false) : foldM zs ys = none := by unfold foldM; rw [h]; rfl
theorem foldM_yes {zs ys : List Int} (h : (hillB zs && hillB ys) = true) : foldM zs ys = doneM (foldHL zs ys) := by unfold foldM; rw [h]; rfl


set_option maxRecDepth 100000 in
set_option maxHeartbeats 4000000 in
theorem specHillFold_any (A0 : Option Addr) (c0 : Nat) (zs0 : List Int) (A1 : Option Addr) (c1 : Nat) (zs1 : List Int) (w : World) (h0 : IR w 0 w.heap.size A0 zs0) (h1 : IR w 0 w.heap.size A1 zs1) :
    Calls Try.prog 29 #[.slice A0 zs0.length c0, .slice A1 zs1.length c1] w (RetRB w (foldM zs0 zs1)) := by
  have H0 := Lib.hid h0; have H1 := Lib.hid h1; clear h0 h1
  cases hh0 : hillB zs0 with
  | false =>
    have HM := Lib.hid (foldM_no (zs := zs0) (ys := zs1) (by rw [hh0]; rfl))
    have HR := Lib.hid hh0; clear hh0
    go_enter Try.func29, Try.ntmps29
    go_wp2_with fail
    refine (l4Hill_of _ _ _ _ zs0 _ H0.out HR.out).mono ?_; rintro e w' ⟨rfl, rfl⟩
    go_wp2
    go_ret2
    rw [HM.out]
    exact (retSB_none ((Below.refl _ _).alloc (Nat.le_refl _) _)).toR
  | true =>
  cases hh1 : hillB zs1 with
  | false =>
    have HM := Lib.hid (foldM_no (zs := zs0) (ys := zs1) (by rw [hh0, hh1]; rfl))
    have HR0 := Lib.hid hh0; have HR := Lib.hid hh1; clear hh0 hh1
    go_enter Try.func29, Try.ntmps29
    go_wp2_with fail
    refine (l4Hill_of _ _ _ _ zs0 _ H0.out HR0.out).mono ?_; rintro e w' ⟨rfl, rfl⟩
    go_wp2_with fail
    refine (l4Hill_of _ _ _ _ zs1 _ H1.out HR.out).mono ?_; rintro e w' ⟨rfl, rfl⟩
    go_wp2
    go_ret2
    rw [HM.out]
    exact (retSB_none ((Below.refl _ _).alloc (Nat.le_refl _) _)).toR
  | true =>
    have HM := Lib.hid (foldM_yes (zs := zs0) (ys := zs1) (by rw [hh0, hh1]; rfl))
    have hl0 := (rowB_true.1 (hill_true hh0).2).2
    have hl1 := (rowB_true.1 (hill_true hh1).2).2
    have HR0 := Lib.hid hh0; have HR1 := Lib.hid hh1; clear hh0 hh1
    have HLN := Lib.hid (fun i k => accL_len zs0 zs1 i k)
    obtain ⟨m, hm⟩ : ∃ m, zs0.length + zs1.length - 1 = m := ⟨_, rfl⟩
    have hm1 : (zs0.length : Int) + (zs1.length : Int) - 1 = (m : Int) := by omega
    have hmm : 1 ≤ m ∧ m ≤ 23 := by omega
    obtain ⟨hmm1, hmm2⟩ := hmm
    have hmk : (Instr.makeSlice 23 (.int .i64 (m : Int)) (.int .i64 (m : Int))).run Try.prog w = .ok (.slice (some ⟨w.heap.size, 0, none⟩) m m) (w.alloc (.cells (madeCells #[.int .i64 0] m) 3)) := by
      obtain ⟨i0, hi, hz0, hz1, hz2⟩ := info_parts info_int
      have hr := run_make (P := Try.prog) w 23 3 i0 (.int .i64 0) Try.underlying23 hi hz0 .i64 .i64 m m (by omega) (Int.le_refl _) (by rw [hz2]; omega) (by omega)
      rw [hz1] at hr
      simpa [Value.cells] using hr
    have hc0 := Cells.made w m 3
    rw [← hm, ← accL_zero] at hc0
    rw [hm] at hc0
    have HC0 := Lib.hid hc0; clear hc0
    have s1 : IntKind.i64.wrap ((zs0.length : Int) + (zs1.length : Int)) = (zs0.length : Int) + (zs1.length : Int) := IntWalk.i64_in _ (by omega)
    have s2 : IntKind.i64.wrap ((zs0.length : Int) + (zs1.length : Int) - 1) = (m : Int) := by rw [IntWalk.i64_in _ (by omega)]; exact hm1
    have s3 : IntKind.i64.wrap (m : Int) = (m : Int) := IntWalk.i64_in _ (by omega)
    refine (callsIn_wide (n := 6)).1 ?_
    refine callsIn_of_wp Try.func29 rfl trivial ?_
    simp only [Try.ntmps29, List.size_toArray, List.length_cons, List.length_nil, Nat.reduceAdd, Nat.reduceSub, Array.replicate_succ, Array.replicate_zero, List.push_toArray, List.append_toArray, List.nil_append, List.cons_append]
    gi_wp2_with fail
    refine ⟨trivial, ?_⟩
    gi_at_call 57
    refine (callsIn_wide.2 (l4Hill_of _ _ _ _ zs0 _ H0.out HR0.out)).mono ?_; rintro e w' ⟨rfl, rfl⟩
    gi_wp2_with fail
    refine ⟨trivial, ?_⟩
    gi_at_call 57
    refine (callsIn_wide.2 (l4Hill_of _ _ _ _ zs1 _ H1.out HR1.out)).mono ?_; rintro e w' ⟨rfl, rfl⟩
    gi_wp2
    clear hmk s1 s2 s3
    gi_loopw [7, 8] (fun i _ wr => ∃ k : Nat, k ≤ zs0.length ∧ i = .int .i64 (k : Int) ∧ Cells wr w.heap.size 0 (accL zs0 zs1 k 0) ∧ Below w.heap.size w wr ∧ wr.heap.size = w.heap.size + 1) (fun i _ _ => zs0.length - (intOf i).toNat)
    case atStart => exact ⟨0, Nat.zero_le _, rfl, HC0.out, (Below.refl _ _).alloc (Nat.le_refl _) _, World.size_alloc _ _⟩
    case round =>
      obtain ⟨i, hi, rfl, hc, hb, hs⟩ := hrel
      have HC := Lib.hid hc; have HB := Lib.hid hb; have HS := Lib.hid hs
      clear hc hb hs HC0
      by_cases hlt : i < zs0.length
      · obtain ⟨b, off, rfl, hbh, hbs, hcx⟩ := H0.out.at_ hlt
        have g1 := hill_bd HR0.out i
        rw [← getD_in hlt] at hcx
        have HAS := Lib.hid (fun (k : Nat) (hj : i + k < (accL zs0 zs1 i k).length) => accL_set zs0 zs1 hj)
        obtain ⟨x, hx⟩ : ∃ x, zs0.getD i 0 = x := ⟨_, rfl⟩
        rw [hx] at hcx g1 HAS
        have HG1 := Lib.hid g1
        clear hx g1
        have hlt' : (i : Int) < (zs0.length : Int) := by omega
        gi_wp2
        gi_loopw [8] (fun k' wr => ∃ k : Nat, k ≤ zs1.length ∧ k' = .int .i64 (k : Int) ∧ Cells wr w.heap.size 0 (accL zs0 zs1 i k) ∧ Below w.heap.size w wr ∧ wr.heap.size = w.heap.size + 1) (fun k _ => zs1.length - (intOf k).toNat)
        case atStart => exact ⟨0, Nat.zero_le _, rfl, HC.out, HB.out, HS.out⟩
        case round =>
          clear HC HB HS
          obtain ⟨k, hk, rfl, hc, hb, hs⟩ := hrel
          have HB := Lib.hid hb; have HS := Lib.hid hs
          clear hb hs
          by_cases hlt2 : k < zs1.length
          · obtain ⟨b', off', rfl, hbh', hbs', hcy⟩ := H1.out.at_ hlt2
            have g2 := hill_bd HR1.out k
            rw [← getD_in hlt2] at hcy
            have HAS2 := Lib.hid (HAS.out k)
            have hjl : i + k < (accL zs0 zs1 i k).length := by rw [HLN.out]; omega
            have g3 := accL_bd HR0.out HR1.out (i := i) (k := k) (by omega) hjl
            obtain ⟨y, hy⟩ : ∃ x, zs1.getD k 0 = x := ⟨_, rfl⟩
            rw [hy] at hcy g2 HAS2
            clear hy
            obtain ⟨hcv, hfv⟩ := hc (i + k) hjl
            rw [Nat.zero_add] at hcv hfv
            have HAS3 := Lib.hid (HAS2.out hjl)
            have hcn := Lib.hid (hc.set_ (i + k) hjl ((accL zs0 zs1 i k)[i + k] + x * y))
            rw [HAS3.out, Nat.zero_add] at hcn
            obtain ⟨v, hv⟩ : ∃ v, (accL zs0 zs1 i k)[i + k] = v := ⟨_, rfl⟩
            rw [hv] at hcv g3 hcn
            clear hv hc HAS2 HAS3
            have gm := fold_mul HG1.out g2
            obtain ⟨g31, g32⟩ := g3
            obtain ⟨gm1, gm2⟩ := gm
            clear g2
            have hcx' : wr.cell? ⟨b, off + i, none⟩ = some (.int .i64 x) := (HB.out.cell (p := ⟨b, off + i, none⟩) hbs).trans hcx
            have hcy' : wr.cell? ⟨b', off' + k, none⟩ = some (.int .i64 y) := (HB.out.cell (p := ⟨b', off' + k, none⟩) hbs').trans hcy
            have hlt2' : (k : Int) < (zs1.length : Int) := by omega
            have hik : IntKind.i64.wrap ((i : Int) + (k : Int)) = (i : Int) + (k : Int) := IntWalk.i64_in _ (by omega)
            have hik2 : (i : Int) + (k : Int) < (m : Int) := by omega
            have hik0 : (0 : Int) ≤ (i : Int) + (k : Int) := by omega
            have hikt : ((i : Int) + (k : Int)).toNat = i + k := by omega
            have i0 : (0 : Int) ≤ (i : Int) := by omega
            have k0 : (0 : Int) ≤ (k : Int) := by omega
            have it : (i : Int).toNat = i := by omega
            have kt : (k : Int).toNat = k := by omega
            have sm : IntKind.i64.wrap (x * y) = x * y := IntWalk.i64_in _ (by omega)
            have sa : IntKind.i64.wrap (v + x * y) = v + x * y := IntWalk.i64_in _ (by omega)
            have ne1 : b ≠ w.heap.size := Nat.ne_of_lt hbs
            have ne2 : b' ≠ w.heap.size := Nat.ne_of_lt hbs'
            have HNE := Lib.hid ne1; have HNE2 := Lib.hid ne2
            clear ne1 ne2 hbh hbh' hcx hcy
            gi_wp2
            have HQ1 : Hid ((wr.drew.setCell ⟨w.heap.size, i + k, none⟩ (.int .i64 (v + x * y))).cell? ⟨b, off + i, none⟩ = some (.int .i64 x)) := by
              show _ = _
              rw [World.cell?_setCell_other]
              · exact hcx'
              · intro e; injection e with e; exact HNE.out e.symm
            have HQ2 : Hid ((wr.drew.setCell ⟨w.heap.size, i + k, none⟩ (.int .i64 (v + x * y))).cell? ⟨b', off' + k, none⟩ = some (.int .i64 y)) := by
              show _ = _
              rw [World.cell?_setCell_other]
              · exact hcy'
              · intro e; injection e with e; exact HNE2.out e.symm
            refine region_anyS (fun W' => W'.cell? ⟨b, off + i, none⟩ = some (.int .i64 x) ∧ W'.cell? ⟨b', off' + k, none⟩ = some (.int .i64 y)) (by kernel_rfl) ?_
            have hS0 : wr.drew.cell? ⟨b, off + i, none⟩ = some (.int .i64 x) ∧ wr.drew.cell? ⟨b', off' + k, none⟩ = some (.int .i64 y) := ⟨hcx', hcy'⟩
            refine anyS_first 0 (v := .slice (some ⟨w.heap.size, 0, none⟩) m m) rfl (by kernel_rfl) (by kernel_rfl) (by kernel_rfl) (fun _ _ _ h => h) hS0 ⟨fun _ => rfl, .inl ⟨by rfl, fun W' hW' => (by go_simp)⟩⟩ ?_
            refine anyS_first 1 (v := .int .i64 (i : Int)) rfl (by kernel_rfl) (by kernel_rfl) (by kernel_rfl) (fun _ _ _ h => h) hS0 ⟨fun _ => rfl, .inl ⟨by rfl, fun W' hW' => (by go_simp)⟩⟩ ?_
            refine anyS_first 2 (v := .int .i64 (k : Int)) rfl (by kernel_rfl) (by kernel_rfl) (by kernel_rfl) (fun _ _ _ h => h) hS0 ⟨fun _ => rfl, .inl ⟨by rfl, fun W' hW' => (by go_simp)⟩⟩ ?_
            refine anyS_first 3 (v := .int .i64 ((i : Int) + (k : Int))) rfl (by kernel_rfl) (by kernel_rfl) (by kernel_rfl) (fun _ _ _ h => h) hS0 ⟨fun _ => rfl, .inl ⟨by rfl, fun W' hW' => (by go_simp)⟩⟩ ?_
            refine anyS_first 4 (v := .slice (some ⟨w.heap.size, 0, none⟩) m m) rfl (by kernel_rfl) (by kernel_rfl) (by kernel_rfl) (fun _ _ _ h => h) hS0 ⟨fun _ => rfl, .inl ⟨by rfl, fun W' hW' => (by go_simp)⟩⟩ ?_
            refine anyS_first 5 (v := .int .i64 (i : Int)) rfl (by kernel_rfl) (by kernel_rfl) (by kernel_rfl) (fun _ _ _ h => h) hS0 ⟨fun _ => rfl, .inl ⟨by rfl, fun W' hW' => (by go_simp)⟩⟩ ?_
            refine anyS_first 6 (v := .int .i64 (k : Int)) rfl (by kernel_rfl) (by kernel_rfl) (by kernel_rfl) (fun _ _ _ h => h) hS0 ⟨fun _ => rfl, .inl ⟨by rfl, fun W' hW' => (by go_simp)⟩⟩ ?_
            refine anyS_first 7 (v := .int .i64 ((i : Int) + (k : Int))) rfl (by kernel_rfl) (by kernel_rfl) (by kernel_rfl) (fun _ _ _ h => h) hS0 ⟨fun _ => rfl, .inl ⟨by rfl, fun W' hW' => (by go_simp)⟩⟩ ?_
            refine anyS_first 8 (v := .pointer (some ⟨w.heap.size, i + k, none⟩)) rfl (by kernel_rfl) (by kernel_rfl) (by kernel_rfl) (fun _ _ _ h => h) hS0 ⟨fun _ => rfl, .inl ⟨by rfl, fun W' hW' => (by go_simp)⟩⟩ ?_
            refine anyS_first 10 (v := .slice (some ⟨b, off, none⟩) zs0.length c0) rfl (by kernel_rfl) (by kernel_rfl) (by kernel_rfl) (fun _ _ _ h => h) hS0 ⟨fun _ => rfl, .inl ⟨by rfl, fun W' hW' => (by go_simp)⟩⟩ ?_
            refine anyS_first 11 (v := .int .i64 (i : Int)) rfl (by kernel_rfl) (by kernel_rfl) (by kernel_rfl) (fun _ _ _ h => h) hS0 ⟨fun _ => rfl, .inl ⟨by rfl, fun W' hW' => (by go_simp)⟩⟩ ?_
            refine anyS_first 12 (v := .pointer (some ⟨b, off + i, none⟩)) rfl (by kernel_rfl) (by kernel_rfl) (by kernel_rfl) (fun _ _ _ h => h) hS0 ⟨fun _ => rfl, .inl ⟨by rfl, fun W' hW' => (by go_simp)⟩⟩ ?_
            refine anyS_first 13 (v := .int .i64 x) rfl (by kernel_rfl) (by kernel_rfl) (by kernel_rfl) (fun _ _ _ h => h) hS0 ⟨fun _ => rfl, .inl ⟨by rfl, fun W' hW' => (by obtain ⟨e1, e2⟩ := hW'; go_simp)⟩⟩ ?_
            refine anyS_first 14 (v := .slice (some ⟨b', off', none⟩) zs1.length c1) rfl (by kernel_rfl) (by kernel_rfl) (by kernel_rfl) (fun _ _ _ h => h) hS0 ⟨fun _ => rfl, .inl ⟨by rfl, fun W' hW' => (by go_simp)⟩⟩ ?_
            refine anyS_first 15 (v := .int .i64 (k : Int)) rfl (by kernel_rfl) (by kernel_rfl) (by kernel_rfl) (fun _ _ _ h => h) hS0 ⟨fun _ => rfl, .inl ⟨by rfl, fun W' hW' => (by go_simp)⟩⟩ ?_
            refine anyS_first 16 (v := .pointer (some ⟨b', off' + k, none⟩)) rfl (by kernel_rfl) (by kernel_rfl) (by kernel_rfl) (fun _ _ _ h => h) hS0 ⟨fun _ => rfl, .inl ⟨by rfl, fun W' hW' => (by go_simp)⟩⟩ ?_
            refine anyS_first 17 (v := .int .i64 y) rfl (by kernel_rfl) (by kernel_rfl) (by kernel_rfl) (fun _ _ _ h => h) hS0 ⟨fun _ => rfl, .inl ⟨by rfl, fun W' hW' => (by obtain ⟨e1, e2⟩ := hW'; go_simp)⟩⟩ ?_
            refine anyS_first 18 (v := .int .i64 (x * y)) rfl (by kernel_rfl) (by kernel_rfl) (by kernel_rfl) (fun _ _ _ h => h) hS0 ⟨fun _ => rfl, .inl ⟨by rfl, fun W' hW' => (by go_simp)⟩⟩ ?_
            refine anyS_one 9 rfl (by kernel_rfl) hS0 ?_
            refine wpOpIn_step rfl fun K9 hK9 => ?_
            go_simp
            refine hK9 _ _ ?_
            clear hK9
            refine anyS_one 19 rfl (by kernel_rfl) hS0 ?_
            refine wpOpIn_step rfl fun K19 hK19 => ?_
            go_simp
            refine hK19 _ _ ?_
            clear hK19
            refine anyS_one 20 rfl (by kernel_rfl) hS0 ?_
            refine wpOpIn_step rfl fun K20 hK20 => ?_
            go_simp
            refine hK20 _ _ ?_
            clear hK20
            refine anyS_one 21 rfl (by kernel_rfl) hS0 ?_
            refine wpOpIn_step rfl fun K21 hK21 => ?_
            go_simp
            refine hK21 _ _ ?_
            clear hK21
            refine anyS_done (by kernel_rfl) ⟨HQ1.out, HQ2.out⟩ ?_
            gi_wp2
            go_roundw
            case rel => exact ⟨k + 1, by omega, by go_num, hcn.out, HB.out.drew.setCell (p := ⟨w.heap.size, i + k, none⟩) (Nat.le_refl _) _, by simpa [World.setCell] using HS.out⟩
            case measure => simp [intOf]; omega
          · obtain rfl : k = zs1.length := by omega
            have HC2 : Hid (Cells wr w.heap.size 0 (accL zs0 zs1 (i + 1) 0)) := by rw [← accL_next]; exact hc
            clear hc HAS HG1
            gi_wp2
            go_roundw
            case rel => exact ⟨i + 1, by omega, by go_num, HC2.out, HB.out, HS.out⟩
            case measure => simp [intOf]; omega
      · obtain rfl : i = zs0.length := by omega
        have HZ := Lib.hid (accL_i64 HR0.out HR1.out (i := zs0.length) (k := 0) (by omega))
        have HIW : Hid (IW wr w.heap.size wr.heap.size (some ⟨w.heap.size, 0, none⟩) (foldHL zs0 zs1)) := by
          rw [← accL_all]
          exact HC.out.iw rfl (Nat.le_refl _) (by rw [HS.out]; omega) (Nat.le_refl _) (by rw [HLN.out]; omega) HZ.out
        have HLF : Hid ((foldHL zs0 zs1).length = m) := by show _ = _; rw [fold_len]; exact hm
        clear HC HZ
        cases hr2 : rowB (foldHL zs0 zs1) with
        | false =>
          have HD : Hid (doneM (foldHL zs0 zs1) = none) := by show _ = _; simp [doneM, hr2]
          have hc := l1Done_false (some ⟨w.heap.size, 0, none⟩) m _ _ (foldHL zs0 zs1) wr HIW.out.toIR hr2
          rw [HLF.out] at hc
          have HC := Lib.hid hc; clear hc hr2
          gi_wp2_with fail
          refine ⟨trivial, ?_⟩
          gi_at_call 60
          refine (callsIn_wide.2 HC.out).mono ?_
          rintro e w5 ⟨A5, rfl, hb5⟩
          gi_wp2
          go_ret2
          rw [HM.out, HD.out]
          exact (retSB_none (below_then HB.out (Nat.le_refl _) hb5)).toR
        | true =>
          have HD : Hid (doneM (foldHL zs0 zs1) = some (foldHL zs0 zs1)) := doneM_row hr2
          have hc := l1Done_true (some ⟨w.heap.size, 0, none⟩) m _ _ (foldHL zs0 zs1) wr HIW.out.toIR hr2
          rw [HLF.out] at hc
          have HC := Lib.hid hc; clear hc hr2
          gi_wp2_with fail
          refine ⟨trivial, ?_⟩
          gi_at_call 60
          refine (callsIn_wide.2 HC.out).mono ?_
          rintro e w5 ⟨rfl, rfl⟩
          gi_wp2
          go_ret2
          rw [HM.out, HD.out]
          exact retRB_some HLF.out.symm HIW.out.toIR.toAll HB.out
end Go.Proofs.Ytnphmapiagiocaa
