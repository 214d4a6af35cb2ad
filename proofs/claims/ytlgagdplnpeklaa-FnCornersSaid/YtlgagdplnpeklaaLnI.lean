/-
  What hangs below a row (hang, LineHang), rows that lead back from falls (LineBack), and rows that are what hangs below them (LineWhole), in the program. Conditions: the cells are there.
-/
import Derived.Test.YtlgagdplnpeklaaLnH
import Derived.Test.YtlgagdplnpeklaaLn8
import Derived.Test.YtlgagdplnpeklaaChg
import Derived.Test.YtlgagdplnpeklaaLn4
namespace Go.Proofs.Ytlgagdplnpeklaa
open Go.RowKit Go.Shelf
attribute [local go_sem] Oper.semAt_some

theorem inB_not {lo hi x : Int} (h : ¬ (lo ≤ x ∧ x ≤ hi)) : inB lo hi x = false := by
  cases e : inB lo hi x with
  | false => rfl
  | true => exact absurd (inB_true.1 e) h
theorem hang_of {zs R : List Int} (hr : rowB zs = true) (hl : R.length = zs.length) (hm : ∀ j, j < zs.length → MostOf (Asked zs) (fun s => -(fallL zs s) + (j : Int) * s) (R.getD j 0)) : R = hangL zs := by
  apply List.ext_getElem
  · simp [hangL, hl]
  · intro j h1 h2
    have h := most_hang hr (by omega) (hm j (by omega))
    rw [getD_in h1] at h
    rw [h]; simp [hangL]
theorem back_of {fs R : List Int} {f : Int} {N : Nat} (h0 : 0 < fs.length) (hl : R.length = N) (hm : ∀ j, j < N → MostOf (fun s => f ≤ s ∧ s < f + (fs.length : Int)) (fun s => -(fs.getD (s - f).toNat 0) + (j : Int) * s) (R.getD j 0)) : R = backL N f fs := by
  apply List.ext_getElem
  · simp [backL, hl]
  · intro j h1 h2
    have h := most_back h0 (hm j (by omega))
    rw [getD_in h1] at h
    rw [h]; simp [backL]

set_option maxRecDepth 100000 in
set_option maxHeartbeats 2000000 in
theorem hang_any (A : Option Addr) (c m : Nat) (zs : List Int) (w : World) (h : IR w 0 w.heap.size A zs) (hr : rowB zs = true) (hm : m = zs.length) :
    Calls Try.prog 61 #[.slice A m c] w (RetS w (hangL zs)) := by
  subst hm
  have hl := (rowB_true.1 hr).2
  have hmm := @run_makeMap Try.prog
  have hg0 : w.grownBy (w.alloc (.map #[] 0)) (some w.heap.size) := World.grownBy.but (World.grownBy_alloc w _ none) _
  have HBK := Lib.hid (Bk.made w (fallL zs))
  have HI0 := Lib.hid (h.grown hg0 (Nat.le_refl _))
  have HR := Lib.hid hr; have H := Lib.hid h; have HG0 := Lib.hid hg0
  clear hr h hg0
  go_enter Try.func61, Try.ntmps61
  go_wp2_with fail
  refine (ask_any A c zs.length w.heap.size zs w.heap.size 0 (fun _ => False) (fallL zs) _ HI0.out (Nat.le_refl _) HR.out rfl HBK.out).mono ?_
  rintro e w2 ⟨rfl, hb2, hg2⟩
  have HB2 := Lib.hid hb2; have HG2 := Lib.hid (grown_trans HG0.out hg2)
  clear hb2 hg2
  go_wp2_with fail
  refine (greatest_any w.heap.size 400 zs.length (Asked zs) (fallL zs) w2 HB2.out hl.1 hl.2 (fun s hs => by have := asked_bd HR.out hs; omega) (fun s hs => by have a := asked_bd HR.out hs; have b := fall_bd HR.out (show -3000 ≤ s by omega) (show s ≤ 3000 by omega); omega)).mono ?_
  rintro e w3 ⟨A', c', R, rfl, hRl, hRm, hIW, hB⟩
  have hR := hang_of HR.out hRl hRm
  subst hR
  have HIW := Lib.hid hIW; have HB3 := Lib.hid hB; have HRl := Lib.hid hRl
  clear hIW hB hRl hRm
  go_wp2
  go_ret
  have hs2 := HG2.out.size
  exact ⟨A', c', by rw [HRl.out]; rfl, HIW.out.wide hs2 (Nat.le_refl _) (Nat.le_refl _), (grown_below HG2.out (Nat.le_refl _) (Nat.le_refl _)).trans (HB3.out.mono hs2)⟩

set_option maxHeartbeats 1000000 in
theorem implLineHang_any (A : Option Addr) (c : Nat) (zs : List Int) (w : World) (h : IR w 0 w.heap.size A zs) :
    Calls Try.prog 22 #[.slice A zs.length c] w (RetSB w (hangM zs)) := by
  have H := Lib.hid h; clear h
  cases hr : rowB zs with
  | false =>
    have HM : Hid (hangM zs = none) := by show _ = _; simp [hangM, hr]
    have HR := Lib.hid hr; clear hr
    go_enter Try.func22, Try.ntmps22
    go_wp2_with fail
    refine (isRow_false _ _ _ _ zs _ H.out HR.out).mono ?_; rintro e w1 ⟨rfl, bb⟩
    have HB := Lib.hid bb; clear bb
    go_wp2
    go_ret2
    rw [HM.out]; exact retSB_none HB.out
  | true =>
    have HM : Hid (hangM zs = some (hangL zs)) := by show _ = _; simp [hangM, hr]
    have HR := Lib.hid hr; clear hr
    go_enter Try.func22, Try.ntmps22
    go_wp2_with fail
    refine (isRow_true _ _ _ _ zs _ H.out HR.out).mono ?_; rintro e w1 ⟨rfl, bb⟩
    have HB := Lib.hid bb; have H1 := Lib.hid (H.out.grow bb).toAll; clear bb
    go_wp2_with fail
    refine (hang_any _ _ _ zs _ H1.out HR.out rfl).mono ?_; rintro e w2 ⟨A', c', rfl, hi, hb⟩
    have HI := Lib.hid hi; have HB2 := Lib.hid hb; clear hi hb
    go_wp2
    go_ret2
    rw [HM.out]
    exact retSB_some rfl (HI.out.wide HB.out.size (Nat.le_refl _) (Nat.le_refl _)) (below_then HB.out (Nat.le_refl _) HB2.out)
set_option maxRecDepth 100000 in
set_option maxHeartbeats 2000000 in
theorem backTail_any (fs : List Int) (n : Nat) (f : Int) (b : Nat) (w : World) (hn1 : 1 ≤ n) (hn2 : n ≤ 12) (hf1 : -100 ≤ f) (hf2 : f ≤ 100) (hl1 : 1 ≤ fs.length) (hl2 : fs.length ≤ 201) (hfit : fs.all fitsF = true) (hb : Bk w b fs.length (fun s => f ≤ s ∧ s < f + (fs.length : Int)) (fun s => fs.getD (s - f).toNat 0)) :
    Calls Try.prog 75 #[.map (some b), .int .i64 (n : Int)] w (RetS w (backL n f fs)) := by
  refine (greatest_any b fs.length n _ _ w hb hn1 hn2 (fun s hs => by omega) (fun s hs => ?_)).mono ?_
  · have hk : (s - f).toNat < fs.length := by omega
    rw [getD_in hk]
    have := List.all_eq_true.1 hfit _ (List.getElem_mem hk)
    have := inB_true.1 this
    omega
  · rintro e w3 ⟨A', c', R, rfl, hRl, hRm, hIW, hB⟩
    have hR := back_of (by omega) hRl hRm
    subst hR
    exact ⟨A', c', by rw [hRl], hIW, hB⟩
set_option maxRecDepth 100000 in
set_option maxHeartbeats 4000000 in
theorem implLineBack_any (n f : Int) (A : Option Addr) (c : Nat) (fs : List Int) (w : World) (h : IR w 0 w.heap.size A fs) :
    Calls Try.prog 37 #[.int .i64 n, .int .i64 f, .slice A fs.length c] w (RetSB w (lineBackM n f fs)) := by
  have hmm := @run_makeMap Try.prog
  have hlen := h.1
  have H := Lib.hid h; clear h
  by_cases hn1 : n < 1
  · have HM : Hid (lineBackM n f fs = none) := lineBackM_no (by rw [inB_not (show ¬ (1 ≤ n ∧ n ≤ 12) by omega)]; rfl)
    go_enter Try.func37, Try.ntmps37
    go_wp2
    go_ret2
    rw [HM.out]; exact retSB_none (Below.refl _ _)
  · by_cases hn2 : n > 12
    · have HM : Hid (lineBackM n f fs = none) := lineBackM_no (by rw [inB_not (show ¬ (1 ≤ n ∧ n ≤ 12) by omega)]; rfl)
      go_enter Try.func37, Try.ntmps37
      go_wp2
      go_ret2
      rw [HM.out]; exact retSB_none (Below.refl _ _)
    · cases hf : inB (-100) 100 f with
      | false =>
        have HM : Hid (lineBackM n f fs = none) := lineBackM_no (by simp [hf])
        have HF := Lib.hid hf; clear hf
        go_enter Try.func37, Try.ntmps37
        go_wp2_with fail
        refine (within_of _ 100 (by omega) (by omega) _ HF.out).mono ?_; rintro e w' ⟨rfl, rfl⟩
        go_wp2
        go_ret2
        rw [HM.out]; exact retSB_none (Below.refl _ _)
      | true =>
        obtain ⟨f1, f2⟩ := inB_true.1 hf
        have HF := Lib.hid hf; clear hf
        by_cases hl1 : (fs.length : Int) < 1
        · have HM : Hid (lineBackM n f fs = none) := lineBackM_no (by rw [inB_not (show ¬ (1 ≤ (fs.length : Int) ∧ (fs.length : Int) ≤ 201) by omega)]; simp)
          go_enter Try.func37, Try.ntmps37
          go_wp2_with fail
          refine (within_of _ 100 (by omega) (by omega) _ HF.out).mono ?_; rintro e w' ⟨rfl, rfl⟩
          go_wp2
          go_ret2
          rw [HM.out]; exact retSB_none (Below.refl _ _)
        · by_cases hl2 : (fs.length : Int) > 201
          · have HM : Hid (lineBackM n f fs = none) := lineBackM_no (by rw [inB_not (show ¬ (1 ≤ (fs.length : Int) ∧ (fs.length : Int) ≤ 201) by omega)]; simp)
            go_enter Try.func37, Try.ntmps37
            go_wp2_with fail
            refine (within_of _ 100 (by omega) (by omega) _ HF.out).mono ?_; rintro e w' ⟨rfl, rfl⟩
            go_wp2
            go_ret2
            rw [HM.out]; exact retSB_none (Below.refl _ _)
          · obtain ⟨N, rfl⟩ : ∃ N : Nat, n = (N : Int) := ⟨n.toNat, by omega⟩
            have hN1 : 1 ≤ N := by omega
            have hN2 : N ≤ 12 := by omega
            have hc1 : (inB 1 12 (N : Int) && inB (-100) 100 f && inB 1 201 (fs.length : Int)) = true := by
              rw [HF.out, show inB 1 12 (N : Int) = true from inB_true.2 (by omega), show inB 1 201 (fs.length : Int) = true from inB_true.2 (by omega)]; rfl
            have HC1 := Lib.hid hc1
            clear hc1
            go_enter Try.func37, Try.ntmps37
            go_wp2_with fail
            refine (within_of _ 100 (by omega) (by omega) _ HF.out).mono ?_; rintro e w' ⟨rfl, rfl⟩
            go_wp2
            go_loop [34] (fun i => ∃ k : Nat, k ≤ fs.length ∧ i = .int .i64 k ∧ ∀ j, j < k → fitsF (fs.getD j 0) = true) (fun i => fs.length - (intOf i).toNat)
            case atStart => exact ⟨0, Nat.zero_le _, rfl, fun j hj => by omega⟩
            case round =>
              obtain ⟨k, hk, rfl, hfit⟩ := hrel
              have HFit := Lib.hid hfit
              clear hfit
              by_cases hlt : k < fs.length
              · have hkl : (k : Int) < (fs.length : Int) := by omega
                obtain ⟨b0, off, rfl, _, _, hc⟩ := H.out.at_ hlt
                cases hx : fitsF fs[k] with
                | false =>
                  have HM : Hid (lineBackM (N : Int) f fs = none) := lineBackM_no (by rw [fitsF_not hlt hx]; simp)
                  have HX := Lib.hid hx; clear hx
                  go_wp2_with fail
                  refine (within_of _ 100000 (by omega) (by omega) _ HX.out).mono ?_; rintro e w' ⟨rfl, rfl⟩
                  go_wp2
                  go_ret2
                  rw [HM.out]; exact retSB_none (Below.refl _ _)
                | true =>
                  have HX := Lib.hid hx; clear hx
                  go_wp2_with fail
                  refine (within_of _ 100000 (by omega) (by omega) _ HX.out).mono ?_; rintro e w' ⟨rfl, rfl⟩
                  go_wp2
                  go_round
                  case rel =>
                    refine ⟨k + 1, by omega, by go_num, fun j hj => ?_⟩
                    by_cases e : j = k
                    · subst e; rw [getD_in hlt]; exact HX.out
                    · exact HFit.out j (by omega)
                  case measure => simp [intOf]; omega
              · obtain rfl : k = fs.length := by omega
                have hall : fs.all fitsF = true := fitsF_all HFit.out
                have HM : Hid (lineBackM (N : Int) f fs = if rowB (backL N f fs) then some (backL N f fs) else none) := by
                  show _ = _
                  have := HC1.out
                  simp only [lineBackM, this, hall, Bool.and_self, if_true, Int.toNat_natCast]
                have hg0 : w.grownBy (w.alloc (.map #[] 0)) (some w.heap.size) := World.grownBy.but (World.grownBy_alloc w _ none) _
                have HALL := Lib.hid hall
                have HBK := Lib.hid (Bk.made w (fun _ => 0))
                have HI0 := Lib.hid (H.out.grown hg0 (Nat.le_refl _))
                have HG0 := Lib.hid hg0
                clear hg0 hall
                go_wp2_with fail
                refine (tell_any A c w.heap.size fs f w.heap.size 0 (fun _ => False) (fun _ => 0) _ HI0.out (Nat.le_refl _) f1 f2 (by omega) HBK.out).mono ?_
                rintro e w2 ⟨rfl, hb2, hg2⟩
                have HB2 := Lib.hid hb2; have HG2 := Lib.hid (grown_trans HG0.out hg2)
                clear hb2 hg2
                go_wp2_with fail
                refine (backTail_any fs N f w.heap.size w2 hN1 hN2 f1 f2 (by omega) (by omega) HALL.out HB2.out).mono ?_
                rintro e w3 ⟨A', c', rfl, hIW, hB⟩
                have HIW := Lib.hid hIW; have HB3 := Lib.hid hB
                clear hIW hB
                cases hq : rowB (backL N f fs) with
                | false =>
                  have HQ := Lib.hid hq; clear hq
                  go_wp2_with fail
                  refine (checked_false _ _ _ _ _ _ HIW.out.toIR HQ.out).mono ?_; rintro e w4 ⟨rfl, bb⟩
                  have HB4 := Lib.hid bb; clear bb
                  go_wp2
                  go_ret2
                  rw [HM.out, HQ.out]
                  exact retSB_none (((grown_below HG2.out (Nat.le_refl _) (Nat.le_refl _)).trans (HB3.out.mono HG2.out.size)).trans (HB4.out.mono (Nat.le_trans HG2.out.size HB3.out.size)))
                | true =>
                  have HQ := Lib.hid hq; clear hq
                  go_wp2_with fail
                  refine (checked_true _ _ _ _ _ _ HIW.out.toIR HQ.out).mono ?_; rintro e w4 ⟨rfl, bb⟩
                  have HB4 := Lib.hid bb; have HIW4 := Lib.hid (HIW.out.grow bb); clear bb
                  go_wp2
                  go_ret2
                  rw [HM.out, HQ.out]
                  exact retSB_some rfl (HIW4.out.wide HG2.out.size HB4.out.size (Nat.le_refl _)) (((grown_below HG2.out (Nat.le_refl _) (Nat.le_refl _)).trans (HB3.out.mono HG2.out.size)).trans (HB4.out.mono (Nat.le_trans HG2.out.size HB3.out.size)))
end Go.Proofs.Ytlgagdplnpeklaa
