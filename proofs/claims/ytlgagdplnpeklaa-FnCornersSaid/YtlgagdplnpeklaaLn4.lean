/-
  The model's rows that lead back from falls: LineBack. Conditions: the falls' cells are there.
-/
import Derived.Test.YtlgagdplnpeklaaLn3
namespace Go.Proofs.Ytlgagdplnpeklaa
open Go.RowKit

/-- The greatest one over the first j numbers; 0 ahead of them. -/
def bestTo (fs : List Int) (f : Int) (i : Nat) : Nat → Int
  | 0 => 0
  | j + 1 => backTo fs f i j
theorem bestTo_end {fs : List Int} (f : Int) (i : Nat) (h : 0 < fs.length) : bestTo fs f i fs.length = backAt fs f i := by
  obtain ⟨m, hm⟩ : ∃ m, fs.length = m + 1 := ⟨fs.length - 1, by omega⟩
  unfold backAt; rw [hm]; rfl
theorem bestTo_first {fs : List Int} (f : Int) (i : Nat) (h : 0 < fs.length) : bestTo fs f i 1 = f * (i : Int) - fs[0] := by
  show backTo fs f i 0 = _
  rw [backTo, getD_in h]
theorem bestTo_next {fs : List Int} (f : Int) (i : Nat) {j : Nat} (h0 : 0 < j) (h : j < fs.length) : bestTo fs f i (j + 1) = if bestTo fs f i j < (f + (j : Int)) * (i : Int) - fs[j] then (f + (j : Int)) * (i : Int) - fs[j] else bestTo fs f i j := by
  obtain ⟨m, rfl⟩ : ∃ m, j = m + 1 := ⟨j - 1, by omega⟩
  show backTo fs f i (m + 1) = if backTo fs f i m < _ then _ else backTo fs f i m
  rw [backTo, getD_in h]
  have e : ((m + 1 : Nat) : Int) = (m : Int) + 1 := by omega
  rw [e]
  split <;> omega
theorem fk_bd {f : Int} {k i : Nat} (h1 : -100 ≤ f) (h2 : f ≤ 100) (hk : k ≤ 200) (hi : i < 12) : -3300 ≤ (f + (k : Int)) * (i : Int) ∧ (f + (k : Int)) * (i : Int) ≤ 3300 := by
  have p1 : 0 ≤ (300 + (f + (k : Int))) * (11 - (i : Int)) := Int.mul_nonneg (by omega) (by omega)
  have p2 : 0 ≤ (300 - (f + (k : Int))) * (11 - (i : Int)) := Int.mul_nonneg (by omega) (by omega)
  have p3 : 0 ≤ (300 + (f + (k : Int))) * (i : Int) := Int.mul_nonneg (by omega) (by omega)
  have p4 : 0 ≤ (300 - (f + (k : Int))) * (i : Int) := Int.mul_nonneg (by omega) (by omega)
  generalize f + (k : Int) = x at *
  simp only [Int.mul_sub, Int.sub_mul, Int.add_mul] at p1 p2 p3 p4
  constructor <;> omega
theorem bestTo_bd {fs : List Int} {f : Int} {i j : Nat} (h1 : -100 ≤ f) (h2 : f ≤ 100) (hl : fs.length ≤ 201) (hi : i < 12) (hj : j ≤ fs.length) (hf : ∀ k, k < j → fitsF (fs.getD k 0) = true) : -103300 ≤ bestTo fs f i j ∧ bestTo fs f i j ≤ 103300 := by
  cases j with
  | zero => simp [bestTo]
  | succ j =>
    obtain ⟨k, a, b⟩ := backTo_at fs f i j
    have c := fk_bd (i := i) (k := k) h1 h2 (by omega) hi
    have d := inB_true.1 (hf k (by omega))
    show -103300 ≤ backTo fs f i j ∧ backTo fs f i j ≤ 103300
    rw [b]; omega
theorem fitsF_all {fs : List Int} (h : ∀ k, k < fs.length → fitsF (fs.getD k 0) = true) : fs.all fitsF = true := by
  rw [List.all_eq_true]
  intro x hx
  obtain ⟨k, hk, rfl⟩ := List.getElem_of_mem hx
  have := h k hk
  rwa [getD_in hk] at this
theorem fitsF_not {fs : List Int} {k : Nat} (hk : k < fs.length) (h : fitsF fs[k] = false) : fs.all fitsF = false := by
  rw [List.all_eq_false]; exact ⟨fs[k], List.getElem_mem hk, by simp [h]⟩
theorem back_take (N : Nat) (f : Int) (fs : List Int) (k : Nat) (h : k < N) : (backL N f fs).take k ++ [backAt fs f k] = (backL N f fs).take (k + 1) := by
  have hl : k < (backL N f fs).length := by rw [back_len]; exact h
  rw [← take_snoc _ k hl, ← back_getD N f fs k h, getD_in hl]
theorem lineBackM_no {n f : Int} {fs : List Int} (h : (inB 1 12 n && inB (-100) 100 f && inB 1 201 (fs.length : Int) && fs.all fitsF) = false) : lineBackM n f fs = none := by
  unfold lineBackM; rw [h]; rfl

set_option maxHeartbeats 4000000 in
theorem specLineBack_any (n f : Int) (A : Option Addr) (c : Nat) (fs : List Int) (w : World) (h : IR w 0 w.heap.size A fs) :
    Calls Try.prog 38 #[.int .i64 n, .int .i64 f, .slice A fs.length c] w (RetRB w (lineBackM n f fs)) := by
  have H := Lib.hid h; clear h
  have HB0 := Lib.hid (show Below w.heap.size w (w.alloc (.cells #[] 3)) from (Below.refl _ _).alloc (Nat.le_refl _) _)
  cases hn : inB 1 12 n with
  | false =>
    have HM : Hid (lineBackM n f fs = none) := lineBackM_no (by simp [hn])
    have HN := Lib.hid hn; clear hn
    go_enter Try.func38, Try.ntmps38
    go_wp2_with fail
    refine (l6In_false _ _ _ _ HN.out).mono ?_; rintro e w' ⟨rfl, rfl⟩
    go_wp2
    go_ret2
    rw [HM.out]
    exact retSB_none HB0.out |>.toR
  | true =>
  have HN := Lib.hid hn; clear hn
  cases hf : inB (-100) 100 f with
  | false =>
    have HM : Hid (lineBackM n f fs = none) := lineBackM_no (by simp [hf])
    have HF := Lib.hid hf; clear hf
    go_enter Try.func38, Try.ntmps38
    go_wp2_with fail
    refine (l6In_true _ _ _ _ HN.out).mono ?_; rintro e w' ⟨rfl, rfl⟩
    go_wp2_with fail
    refine (l6In_false _ _ _ _ HF.out).mono ?_; rintro e w' ⟨rfl, rfl⟩
    go_wp2
    go_ret2
    rw [HM.out]
    exact retSB_none HB0.out |>.toR
  | true =>
  have HF := Lib.hid hf; clear hf
  cases hl : inB 1 201 (fs.length : Int) with
  | false =>
    have HM : Hid (lineBackM n f fs = none) := lineBackM_no (by simp [hl])
    have HL := Lib.hid hl; clear hl
    go_enter Try.func38, Try.ntmps38
    go_wp2_with fail
    refine (l6In_true _ _ _ _ HN.out).mono ?_; rintro e w' ⟨rfl, rfl⟩
    go_wp2_with fail
    refine (l6In_true _ _ _ _ HF.out).mono ?_; rintro e w' ⟨rfl, rfl⟩
    go_wp2_with fail
    refine (l6In_false _ _ _ _ HL.out).mono ?_; rintro e w' ⟨rfl, rfl⟩
    go_wp2
    go_ret2
    rw [HM.out]
    exact retSB_none HB0.out |>.toR
  | true =>
  have HL := Lib.hid hl; clear hl
  obtain ⟨n1, n2⟩ := inB_true.1 HN.out
  obtain ⟨f1, f2⟩ := inB_true.1 HF.out
  obtain ⟨l1', l2'⟩ := inB_true.1 HL.out
  have l1 : 0 < fs.length := by omega
  have l2 : fs.length ≤ 201 := by omega
  clear l1' l2'
  obtain ⟨N, hN⟩ : ∃ N : Nat, n = (N : Int) := ⟨n.toNat, by omega⟩
  subst hN
  have hN1 : 1 ≤ N := by omega
  have hN2 : N ≤ 12 := by omega
  have HM : Hid (fs.all fitsF = true → lineBackM (N : Int) f fs = if rowB (backL N f fs) then some (backL N f fs) else none) := by
    refine Lib.hid fun ha => ?_
    unfold lineBackM
    rw [HN.out, HF.out, HL.out, ha]
    simp
  have HMn : Hid (fs.all fitsF = false → lineBackM (N : Int) f fs = none) := Lib.hid fun ha => lineBackM_no (by simp [ha])
  have HLb := Lib.hid (back_len N f fs)
  go_enter Try.func38, Try.ntmps38
  go_wp2_with fail
  refine (l6In_true _ _ _ _ HN.out).mono ?_; rintro e w' ⟨rfl, rfl⟩
  go_wp2_with fail
  refine (l6In_true _ _ _ _ HF.out).mono ?_; rintro e w' ⟨rfl, rfl⟩
  go_wp2_with fail
  refine (l6In_true _ _ _ _ HL.out).mono ?_; rintro e w' ⟨rfl, rfl⟩
  go_wp2
  go_loopw [8, 9] (fun v i wr => ∃ k : Nat, k ≤ N ∧ i = .int .i64 (k : Int) ∧ OwnI wr w.heap.size v ((backL N f fs).take k) ∧ Below w.heap.size w wr ∧ Hid (0 < k → fs.all fitsF = true)) (fun _ i _ => N - (intOf i).toNat)
  case atStart => exact ⟨0, Nat.zero_le _, rfl, by simpa using OwnI.made w, HB0.out, Lib.hid (fun h => absurd h (by omega))⟩
  case round =>
    obtain ⟨k, hk, rfl, ho, hb, hall⟩ := hrel
    have HO := Lib.hid ho; have HBl := Lib.hid hb
    clear ho hb
    by_cases hlt : k < N
    · have hlt' : (k : Int) < (N : Int) := by omega
      have hk12 : k < 12 := by omega
      go_wp2
      go_loop [10, 11] (fun b j => ∃ m : Nat, m ≤ fs.length ∧ j = .int .i64 (m : Int) ∧ b = .int .i64 (bestTo fs f k m) ∧ Hid (∀ q, q < m → fitsF (fs.getD q 0) = true)) (fun _ j => fs.length - (intOf j).toNat)
      case atStart => exact ⟨0, Nat.zero_le _, rfl, rfl, Lib.hid (fun q hq => absurd hq (by omega))⟩
      case round =>
        obtain ⟨m, hm, rfl, rfl, hfit⟩ := hrel
        by_cases hmt : m < fs.length
        · have hmt' : (m : Int) < (fs.length : Int) := by omega
          obtain ⟨b, off, rfl, _, _, hc⟩ := (H.out.below HBl.out (Nat.le_refl _)).at_ hmt
          cases hq : inB (-100000) 100000 fs[m] with
          | false =>
            have HQ := Lib.hid hq; clear hq
            go_wp2_with fail
            refine (l6In_false _ _ _ _ HQ.out).mono ?_; rintro e w' ⟨rfl, rfl⟩
            go_wp2
            go_ret2
            rw [HMn.out (fitsF_not hmt HQ.out)]
            exact retSB_none (HBl.out.alloc HBl.out.size _) |>.toR
          | true =>
            have HQ := Lib.hid hq; clear hq
            obtain ⟨q1, q2⟩ := inB_true.1 HQ.out
            obtain ⟨p1, p2⟩ := fk_bd (k := m) f1 f2 (show m ≤ 200 by omega) hk12
            obtain ⟨e1, e2⟩ := bestTo_bd f1 f2 l2 hk12 hm hfit.out
            have hfit' : Hid (∀ q, q < m + 1 → fitsF (fs.getD q 0) = true) := Lib.hid fun q hq' => by
              by_cases c : q = m
              · subst c; rw [getD_in hmt]; exact HQ.out
              · exact hfit.out q (by omega)
            rcases Nat.eq_zero_or_pos m with h0 | h0
            · subst h0
              have HE := Lib.hid (bestTo_first f k l1)
              clear e1 e2
              rw [Nat.add_zero] at hc
              have ec : f + ((0 : Nat) : Int) = f := by omega
              rw [ec] at p1 p2
              clear ec
              go_wp2_with fail
              refine (l6In_true _ _ _ _ HQ.out).mono ?_; rintro e w' ⟨rfl, rfl⟩
              go_wp2
              go_round
              case rel => exact ⟨1, by omega, by go_num, by rw [HE.out], hfit'⟩
              case measure => simp [intOf]; omega
            · have HE := bestTo_next f k h0 hmt
              have hm0 : ((m : Int) == 0) = false := by rw [beq_eq_false_iff_ne]; omega
              by_cases hgt : bestTo fs f k m < (f + (m : Int)) * (k : Int) - fs[m]
              · rw [if_pos hgt] at HE
                replace HE := Lib.hid HE
                go_wp2_with fail
                refine (l6In_true _ _ _ _ HQ.out).mono ?_; rintro e w' ⟨rfl, rfl⟩
                go_wp2
                go_round
                case rel => exact ⟨m + 1, by omega, by go_num, by rw [HE.out], hfit'⟩
                case measure => simp [intOf]; omega
              · rw [if_neg hgt] at HE
                replace HE := Lib.hid HE
                go_wp2_with fail
                refine (l6In_true _ _ _ _ HQ.out).mono ?_; rintro e w' ⟨rfl, rfl⟩
                go_wp2
                go_round
                case rel => exact ⟨m + 1, by omega, by go_num, by rw [HE.out], hfit'⟩
                case measure => simp [intOf]; omega
        · obtain rfl : m = fs.length := by omega
          have HA := Lib.hid (fitsF_all hfit.out)
          have HY := Lib.hid (show I64 (bestTo fs f k fs.length) by have := bestTo_bd f1 f2 l2 hk12 hm hfit.out; exact ⟨by omega, by omega⟩)
          have HN' := Lib.hid (show (backL N f fs).take k ++ [bestTo fs f k fs.length] = (backL N f fs).take (k + 1) by rw [bestTo_end f k l1]; exact back_take N f fs k hlt)
          have HLn := Lib.hid (show ((backL N f fs).take k).length < 17592186044416 by rw [List.length_take]; omega)
          go_wp2_with (at_builtin; refine wpList_push rfl _ _ rfl w.heap.size _ _ rfl rfl HO.out HLn.out HY.out ?_; intro v1 w1 ho1 hb1)
          rw [HN'.out] at ho1
          have HO1 := Lib.hid ho1; have HB1 := Lib.hid hb1
          clear ho1 hb1
          go_roundw
          case rel => exact ⟨k + 1, by omega, by go_num, HO1.out, HBl.out.trans HB1.out, Lib.hid (fun _ => HA.out)⟩
          case measure => simp [intOf]; omega
    · obtain rfl : k = N := by omega
      have HA := Lib.hid (hall.out (by omega))
      have ho := HO.out
      rw [List.take_of_length_le (by rw [HLb.out]; exact Nat.le_refl _)] at ho
      obtain ⟨A', c', rfl, hiw⟩ := ho.iw (by rw [HLb.out]; omega)
      have HIW := Lib.hid hiw
      clear hiw ho HO
      cases hr2 : rowB (backL k f fs) with
      | false =>
        have HM2 : Hid (lineBackM (k : Int) f fs = none) := by show _ = _; rw [HM.out HA.out, hr2]; rfl
        have hc := l1Done_false A' c' _ _ (backL k f fs) wr HIW.out.toIR hr2
        have HC := Lib.hid hc; clear hc hr2
        go_wp2_with fail
        refine HC.out.mono ?_
        rintro e w5 ⟨A5, rfl, hb5⟩
        go_wp2
        go_ret2
        rw [HM2.out]
        exact (retSB_none (below_then HBl.out (Nat.le_refl _) hb5)).toR
      | true =>
        have HM2 : Hid (lineBackM (k : Int) f fs = some (backL k f fs)) := by show _ = _; rw [HM.out HA.out, hr2]; rfl
        have hc := l1Done_true A' c' _ _ (backL k f fs) wr HIW.out.toIR hr2
        have HC := Lib.hid hc; clear hc hr2
        go_wp2_with fail
        refine HC.out.mono ?_
        rintro e w5 ⟨rfl, rfl⟩
        go_wp2
        go_ret2
        rw [HM2.out]
        exact retRB_some rfl HIW.out.toIR.toAll HBl.out
end Go.Proofs.Ytlgagdplnpeklaa
