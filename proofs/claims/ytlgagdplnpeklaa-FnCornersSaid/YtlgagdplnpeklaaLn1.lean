/-
  The model's falls of rows: l2Fall, LineFall, LineFalls, LineMeets. Conditions: the rows' cells are there.
-/
import Derived.Test.YtlgagdplnpeklaaLineMath5
namespace Go.Proofs.Ytlgagdplnpeklaa
open Go.RowKit

theorem sk_bd {s : Int} {k n : Nat} (h1 : -3000 ≤ s) (h2 : s ≤ 3000) (hk : k < n) (hn : n ≤ 12) : -33000 ≤ s * (k : Int) ∧ s * (k : Int) ≤ 33000 := by
  have p1 : 0 ≤ (3000 + s) * (11 - (k : Int)) := Int.mul_nonneg (by omega) (by omega)
  have p2 : 0 ≤ (3000 - s) * (11 - (k : Int)) := Int.mul_nonneg (by omega) (by omega)
  have p3 : 0 ≤ (3000 + s) * (k : Int) := Int.mul_nonneg (by omega) (by omega)
  have p4 : 0 ≤ (3000 - s) * (k : Int) := Int.mul_nonneg (by omega) (by omega)
  simp only [Int.mul_sub, Int.sub_mul, Int.add_mul] at p1 p2 p3 p4
  constructor <;> omega
theorem fallTo_bd {zs : List Int} (hr : rowB zs = true) {s : Int} (h1 : -3000 ≤ s) (h2 : s ≤ 3000) {k : Nat} (hk : k < zs.length) : -34000 ≤ fallTo zs s k ∧ fallTo zs s k ≤ 34000 := by
  obtain ⟨j, h3, h4⟩ := fallTo_at zs s k
  have hl := (rowB_true.1 hr).2
  have a := sk_bd h1 h2 (show j < zs.length by omega) hl.2
  have b := row_getD hr j (by omega)
  rw [h4]; omega
theorem fallTo_next (zs : List Int) (s : Int) (k : Nat) (h : k + 1 < zs.length) : fallTo zs s (k + 1) = if fallTo zs s k < s * ((k : Int) + 1) - zs[k + 1] then s * ((k : Int) + 1) - zs[k + 1] else fallTo zs s k := by
  rw [fallTo, getD_in h]
  split <;> omega

set_option maxHeartbeats 1000000 in
theorem l2Fall_any (A : Option Addr) (c lo hi n : Nat) (zs : List Int) (s : Int) (w : World) (h : IR w lo hi A zs) (hr : rowB zs = true) (hs1 : -3000 ≤ s) (hs2 : s ≤ 3000) (hn : n = zs.length) :
    Calls Try.prog 64 #[.slice A n c, .int .i64 s] w fun e w' => e = .returned (.int .i64 (fallL zs s)) ∧ w = w' := by
  subst hn
  have hl := (rowB_true.1 hr).2
  have HR := Lib.hid hr; clear hr
  have h0 : 0 < zs.length := by omega
  obtain ⟨b, off, rfl, hbh, hbs, hc0⟩ := h.at_ h0
  have hk0 : zs[0] = zs.getD 0 0 := (getD_in h0).symm
  have hz0 := row_getD HR.out 0 h0
  rw [hk0, Nat.add_zero] at hc0
  obtain ⟨x0, hx0⟩ : ∃ x, x = zs.getD 0 0 := ⟨_, rfl⟩
  rw [← hx0] at hc0 hz0
  have HX := Lib.hid hx0
  obtain ⟨hz1, hz2⟩ := hz0
  have hcells := h.2.2.2 h0
  have HC := Lib.hid hcells
  clear hcells hk0 hx0
  have h0' : (0 : Int) < (zs.length : Int) := by omega
  go_enter Try.func64, Try.ntmps64
  go_wp2
  go_loop [5, 6] (fun m i => ∃ k : Nat, k + 1 ≤ zs.length ∧ i = .int .i64 ((k : Int) + 1) ∧ m = .int .i64 (fallTo zs s k)) (fun _ i => zs.length - (intOf i).toNat)
  case atStart => exact ⟨0, h0, rfl, by rw [fallTo, ← HX.out]; go_num⟩
  case round =>
    obtain ⟨k, hk, rfl, rfl⟩ := hrel
    clear hc0
    by_cases hlt : k + 1 < zs.length
    · have hlt' : (k : Int) + 1 < (zs.length : Int) := by omega
      obtain ⟨b', off', e, _, _, hc⟩ := h.at_ hlt
      injection e with e; injection e with e1 e2 _; subst e1; subst e2
      have b1 := row_getD HR.out (k + 1) hlt
      rw [getD_in hlt] at b1
      obtain ⟨b11, b12⟩ := b1
      obtain ⟨m1, m2⟩ := sk_bd hs1 hs2 hlt hl.2
      obtain ⟨f1, f2⟩ := fallTo_bd HR.out hs1 hs2 (show k < zs.length by omega)
      have HN := Lib.hid (fallTo_next zs s k hlt)
      have t1 : ((k : Int) + 1).toNat = k + 1 := by omega
      have k0 : (0 : Int) ≤ (k : Int) + 1 := by omega
      have ec : ((k + 1 : Nat) : Int) = (k : Int) + 1 := by omega
      rw [ec] at m1 m2
      clear ec
      go_wp2
      go_round
      case rel => exact ⟨k + 1, by omega, by go_num, by rw [HN.out]⟩
      case measure => simp [intOf]; omega
    · obtain rfl : k = zs.length - 1 := by omega
      have hlt' : ¬ (((zs.length - 1 : Nat) : Int) + 1 < (zs.length : Int)) := by omega
      go_wp2
      go_ret
      exact ⟨rfl, rfl⟩

theorem retInt {a b : Int} (h : a = b) : Ending.returned (.int .i64 a) = .returned (.int .i64 b) := by rw [h]
theorem retIB {a a' : Int} {b b' : Bool} (h : a = a') (k : b = b') : Ending.returned (.tuple #[.int .i64 a, .bool b]) = .returned (.tuple #[.int .i64 a', .bool b']) := by rw [h, k]
/-- What a number or none is told as. -/
def tellI (o : Option Int) : Value := .tuple #[.int .i64 (o.getD 0), .bool o.isSome]
/-- What two numbers or none are told as. -/
def tellII (o : Option (Int × Int)) : Value := .tuple #[.int .i64 (o.getD (0, 0)).1, .int .i64 (o.getD (0, 0)).2, .bool o.isSome]

set_option maxHeartbeats 1000000 in
theorem specLineFall_any (A : Option Addr) (c : Nat) (zs : List Int) (s : Int) (w : World) (h : IR w 0 w.heap.size A zs) :
    Calls Try.prog 24 #[.slice A zs.length c, .int .i64 s] w fun e w' => e = .returned (tellI (lineFallM zs s)) ∧ w = w' := by
  have H := Lib.hid h; clear h
  cases hr : rowB zs with
  | false =>
    have HM : Hid (lineFallM zs s = none) := by show _ = _; simp [lineFallM, hr]
    have HR := Lib.hid hr; clear hr
    go_enter Try.func24, Try.ntmps24
    go_wp2_with fail
    refine (specRowIn_false _ _ _ _ zs _ H.out HR.out).mono ?_; rintro e w' ⟨rfl, rfl⟩
    go_wp2
    go_ret2
    rw [HM.out]; exact ⟨rfl, rfl⟩
  | true =>
    have HR := Lib.hid hr; clear hr
    cases hs : inB (-3000) 3000 s with
    | false =>
      have HM : Hid (lineFallM zs s = none) := by show _ = _; simp [lineFallM, hs]
      have HS := Lib.hid hs; clear hs
      go_enter Try.func24, Try.ntmps24
      go_wp2_with fail
      refine (specRowIn_true _ _ _ _ zs _ H.out HR.out).mono ?_; rintro e w' ⟨rfl, rfl⟩
      go_wp2_with fail
      refine (l6In_false _ _ _ _ HS.out).mono ?_; rintro e w' ⟨rfl, rfl⟩
      go_wp2
      go_ret2
      rw [HM.out]; exact ⟨rfl, rfl⟩
    | true =>
      have HM : Hid (lineFallM zs s = some (fallL zs s)) := by show _ = _; simp [lineFallM, hs, HR.out]
      have HS := Lib.hid hs; clear hs
      go_enter Try.func24, Try.ntmps24
      go_wp2_with fail
      refine (specRowIn_true _ _ _ _ zs _ H.out HR.out).mono ?_; rintro e w' ⟨rfl, rfl⟩
      go_wp2_with fail
      refine (l6In_true _ _ _ _ HS.out).mono ?_; rintro e w' ⟨rfl, rfl⟩
      go_wp2_with fail
      refine (l2Fall_any _ _ _ _ _ zs s _ H.out HR.out (inB_true.1 HS.out).1 (inB_true.1 HS.out).2 rfl).mono ?_; rintro e w' ⟨rfl, rfl⟩
      go_wp2
      go_ret2
      rw [HM.out]; exact ⟨rfl, rfl⟩

theorem fallsM_no {zs : List Int} {f t : Int} (h : (rowB zs && inB (-100) 100 f && inB f 100 t) = false) : lineFallsM zs f t = none := by simp [lineFallsM, h]
theorem fall_i64 {zs : List Int} (hr : rowB zs = true) {s : Int} (h1 : -3000 ≤ s) (h2 : s ≤ 3000) : I64 (fallL zs s) := by
  have := fall_bd hr h1 h2
  exact ⟨by omega, by omega⟩

set_option maxHeartbeats 1000000 in
theorem specLineFalls_any (A : Option Addr) (c : Nat) (zs : List Int) (f t : Int) (w : World) (h : IR w 0 w.heap.size A zs) :
    Calls Try.prog 27 #[.slice A zs.length c, .int .i64 f, .int .i64 t] w (RetRB w (lineFallsM zs f t)) := by
  have H := Lib.hid h; clear h
  have hb0 : Below w.heap.size w (w.alloc (.cells #[] 3)) := (Below.refl _ _).alloc (Nat.le_refl _) _
  have HH := Lib.hid (H.out.grow hb0)
  clear hb0
  cases hr : rowB zs with
  | false =>
    have HM : Hid (lineFallsM zs f t = none) := fallsM_no (by simp [hr])
    have HR := Lib.hid hr; clear hr
    go_enter Try.func27, Try.ntmps27
    go_wp2_with fail
    refine (specRowIn_false _ _ _ _ zs _ HH.out HR.out).mono ?_; rintro e w' ⟨rfl, rfl⟩
    go_wp2
    go_ret2
    rw [HM.out]
    exact retSB_none ((Below.refl _ _).alloc (Nat.le_refl _) _) |>.toR
  | true =>
    have HR := Lib.hid hr; clear hr
    cases hs : inB (-100) 100 f with
    | false =>
      have HM : Hid (lineFallsM zs f t = none) := fallsM_no (by simp [hs])
      have HS := Lib.hid hs; clear hs
      go_enter Try.func27, Try.ntmps27
      go_wp2_with fail
      refine (specRowIn_true _ _ _ _ zs _ HH.out HR.out).mono ?_; rintro e w' ⟨rfl, rfl⟩
      go_wp2_with fail
      refine (l6In_false _ _ _ _ HS.out).mono ?_; rintro e w' ⟨rfl, rfl⟩
      go_wp2
      go_ret2
      rw [HM.out]
      exact retSB_none ((Below.refl _ _).alloc (Nat.le_refl _) _) |>.toR
    | true =>
      have HS := Lib.hid hs; clear hs
      cases ht : inB f 100 t with
      | false =>
        have HM : Hid (lineFallsM zs f t = none) := fallsM_no (by simp [ht])
        have HT := Lib.hid ht; clear ht
        go_enter Try.func27, Try.ntmps27
        go_wp2_with fail
        refine (specRowIn_true _ _ _ _ zs _ HH.out HR.out).mono ?_; rintro e w' ⟨rfl, rfl⟩
        go_wp2_with fail
        refine (l6In_true _ _ _ _ HS.out).mono ?_; rintro e w' ⟨rfl, rfl⟩
        go_wp2_with fail
        refine (l6In_false _ _ _ _ HT.out).mono ?_; rintro e w' ⟨rfl, rfl⟩
        go_wp2
        go_ret2
        rw [HM.out]
        exact retSB_none ((Below.refl _ _).alloc (Nat.le_refl _) _) |>.toR
      | true =>
        have HM : Hid (lineFallsM zs f t = some (fallsL zs f (t - f + 1).toNat)) := by show _ = _; simp [lineFallsM, ht, HS.out, HR.out]
        have HT := Lib.hid ht; clear ht
        obtain ⟨f1, f2⟩ := inB_true.1 HS.out
        obtain ⟨t1, t2⟩ := inB_true.1 HT.out
        obtain ⟨n, hn⟩ : ∃ n : Nat, n = (t - f + 1).toNat := ⟨_, rfl⟩
        have hn' : (n : Int) = t - f + 1 := by omega
        rw [← hn] at HM
        clear hn
        go_enter Try.func27, Try.ntmps27
        go_wp2_with fail
        refine (specRowIn_true _ _ _ _ zs _ HH.out HR.out).mono ?_; rintro e w' ⟨rfl, rfl⟩
        go_wp2_with fail
        refine (l6In_true _ _ _ _ HS.out).mono ?_; rintro e w' ⟨rfl, rfl⟩
        go_wp2_with fail
        refine (l6In_true _ _ _ _ HT.out).mono ?_; rintro e w' ⟨rfl, rfl⟩
        go_wp2
        go_loopw [8, 9] (fun v i wr => ∃ k : Nat, k ≤ n ∧ i = .int .i64 (f + (k : Int)) ∧ OwnI wr w.heap.size v (fallsL zs f k) ∧ Below w.heap.size w wr) (fun _ i _ => (t + 1 - intOf i).toNat)
        case atStart => exact ⟨0, Nat.zero_le _, by go_num, by simpa [fallsL] using OwnI.made w, (Below.refl _ _).alloc (Nat.le_refl _) _⟩
        case round =>
          obtain ⟨k, hk, rfl, ho, hb⟩ := hrel
          have HO := Lib.hid ho; have HBl := Lib.hid hb
          clear ho hb
          by_cases hlt : k < n
          · have hle : f + (k : Int) ≤ t := by omega
            have h1 : -3000 ≤ f + (k : Int) := by omega
            have h2 : f + (k : Int) ≤ 3000 := by omega
            have HY := Lib.hid (fall_i64 HR.out h1 h2)
            have HLn := Lib.hid (show (fallsL zs f k).length < 17592186044416 by rw [falls_len]; omega)
            have HN := Lib.hid (falls_snoc zs f k)
            go_wp2_with fail
            refine (l2Fall_any _ _ _ _ _ zs (f + (k : Int)) _ (H.out.below HBl.out (Nat.le_refl _)) HR.out h1 h2 rfl).mono ?_; rintro e w' ⟨rfl, rfl⟩
            go_wp2_with (at_builtin; refine wpList_push rfl _ _ rfl w.heap.size _ _ rfl rfl HO.out HLn.out HY.out ?_; intro v1 w1 ho1 hb1)
            rw [← HN.out] at ho1
            have HO1 := Lib.hid ho1; have HB1 := Lib.hid hb1
            clear ho1 hb1
            go_roundw
            case rel => exact ⟨k + 1, by omega, by go_num, HO1.out, HBl.out.trans HB1.out⟩
            case measure => simp [intOf]; omega
          · obtain rfl : k = n := by omega
            have hle : ¬ f + (k : Int) ≤ t := by omega
            have ho := HO.out
            obtain ⟨A', c', rfl, hiw⟩ := ho.iw (by rw [falls_len]; omega)
            have HIW := Lib.hid hiw
            have HLn := Lib.hid (falls_len zs f k)
            clear hiw ho HO
            go_wp2
            go_ret2
            rw [HM.out]
            exact retRB_some rfl HIW.out.toIR.toAll HBl.out

theorem meetsTo_bd {zs : List Int} (s : Int) {k : Nat} (hk : k ≤ 12) : (-1 ≤ (meetsTo zs s k).1 ∧ (meetsTo zs s k).1 ≤ 12) ∧ 0 ≤ (meetsTo zs s k).2 ∧ (meetsTo zs s k).2 ≤ 12 := by
  rcases meetsTo_spec zs s k with ⟨h1, _⟩ | ⟨i, l, h1, h2, h3, _⟩
  · rw [h1]; simp
  · rw [h1]; simp; omega
theorem meetsTo_hit {zs : List Int} {s : Int} {k : Nat} (h : s * (k : Int) - zs.getD k 0 = fallL zs s) : meetsTo zs s (k + 1) = (if (meetsTo zs s k).1 < 0 then (k : Int) else (meetsTo zs s k).1, (k : Int)) := by rw [meetsTo, if_pos h]
theorem meetsTo_skip {zs : List Int} {s : Int} {k : Nat} (h : ¬ s * (k : Int) - zs.getD k 0 = fallL zs s) : meetsTo zs s (k + 1) = meetsTo zs s k := by rw [meetsTo, if_neg h]

set_option maxHeartbeats 2000000 in
theorem specLineMeets_any (A : Option Addr) (c : Nat) (zs : List Int) (s : Int) (w : World) (h : IR w 0 w.heap.size A zs) :
    Calls Try.prog 31 #[.slice A zs.length c, .int .i64 s] w fun e w' => e = .returned (tellII (lineMeetsM zs s)) ∧ w = w' := by
  have H := Lib.hid h; clear h
  cases hr : rowB zs with
  | false =>
    have HM : Hid (lineMeetsM zs s = none) := by show _ = _; simp [lineMeetsM, hr]
    have HR := Lib.hid hr; clear hr
    go_enter Try.func31, Try.ntmps31
    go_wp2_with fail
    refine (specRowIn_false _ _ _ _ zs _ H.out HR.out).mono ?_; rintro e w' ⟨rfl, rfl⟩
    go_wp2
    go_ret3
    rw [HM.out]; exact ⟨rfl, rfl⟩
  | true =>
    have HR := Lib.hid hr; clear hr
    cases hs : inB (-3000) 3000 s with
    | false =>
      have HM : Hid (lineMeetsM zs s = none) := by show _ = _; simp [lineMeetsM, hs]
      have HS := Lib.hid hs; clear hs
      go_enter Try.func31, Try.ntmps31
      go_wp2_with fail
      refine (specRowIn_true _ _ _ _ zs _ H.out HR.out).mono ?_; rintro e w' ⟨rfl, rfl⟩
      go_wp2_with fail
      refine (l6In_false _ _ _ _ HS.out).mono ?_; rintro e w' ⟨rfl, rfl⟩
      go_wp2
      go_ret3
      rw [HM.out]; exact ⟨rfl, rfl⟩
    | true =>
      have HM : Hid (lineMeetsM zs s = some (meetsTo zs s zs.length)) := by show _ = _; simp [lineMeetsM, hs, HR.out]
      have HS := Lib.hid hs; clear hs
      obtain ⟨s1, s2⟩ := inB_true.1 HS.out
      have hl := (rowB_true.1 HR.out).2
      obtain ⟨F, hF⟩ : ∃ F, F = fallL zs s := ⟨_, rfl⟩
      have HF := Lib.hid hF; clear hF
      go_enter Try.func31, Try.ntmps31
      go_wp2_with fail
      refine (specRowIn_true _ _ _ _ zs _ H.out HR.out).mono ?_; rintro e w' ⟨rfl, rfl⟩
      go_wp2_with fail
      refine (l6In_true _ _ _ _ HS.out).mono ?_; rintro e w' ⟨rfl, rfl⟩
      go_wp2_with fail
      refine (l2Fall_any _ _ _ _ _ zs s _ H.out HR.out s1 s2 rfl).mono ?_; rintro e w' ⟨rfl, rfl⟩
      rw [← HF.out]
      go_wp2
      go_loop [8, 9, 10] (fun a b i => ∃ k : Nat, k ≤ zs.length ∧ i = .int .i64 (k : Int) ∧ a = .int .i64 (meetsTo zs s k).1 ∧ b = .int .i64 (meetsTo zs s k).2) (fun _ _ i => zs.length - (intOf i).toNat)
      case atStart => exact ⟨0, Nat.zero_le _, rfl, rfl, rfl⟩
      case round =>
        obtain ⟨k, hk, rfl, rfl, rfl⟩ := hrel
        have hmb := meetsTo_bd (zs := zs) s (show k ≤ 12 by omega)
        obtain ⟨a, ha⟩ : ∃ a, a = (meetsTo zs s k).1 := ⟨_, rfl⟩
        obtain ⟨b, hb⟩ : ∃ b, b = (meetsTo zs s k).2 := ⟨_, rfl⟩
        rw [← ha, ← hb] at hmb ⊢
        obtain ⟨⟨a1, a2⟩, b1, b2⟩ := hmb
        have HA := Lib.hid ha; have HB := Lib.hid hb
        clear ha hb
        by_cases hlt : k < zs.length
        · have hlt' : (k : Int) < (zs.length : Int) := by omega
          obtain ⟨b', off', rfl, _, _, hc⟩ := H.out.at_ hlt
          have g1 := row_getD HR.out k hlt
          rw [getD_in hlt] at g1
          obtain ⟨g11, g12⟩ := g1
          obtain ⟨m1, m2⟩ := sk_bd s1 s2 hlt hl.2
          by_cases he : s * (k : Int) - zs[k] = F
          · have HE := Lib.hid (show meetsTo zs s (k + 1) = (if a < 0 then (k : Int) else a, (k : Int)) by rw [HA.out]; exact meetsTo_hit (by rw [getD_in hlt, he, HF.out]))
            have hq : (s * (k : Int) - zs[k] == F) = true := by rw [beq_iff_eq]; exact he
            by_cases ha0 : a < 0
            · go_wp2
              go_round
              case rel => exact ⟨k + 1, by omega, by go_num, by rw [HE.out]; simp [ha0], by rw [HE.out]⟩
              case measure => simp [intOf]; omega
            · go_wp2
              go_round
              case rel => exact ⟨k + 1, by omega, by go_num, by rw [HE.out]; simp [ha0], by rw [HE.out]⟩
              case measure => simp [intOf]; omega
          · have HE := Lib.hid (show meetsTo zs s (k + 1) = meetsTo zs s k from meetsTo_skip (by rw [getD_in hlt, ← HF.out]; exact he))
            have hq : (s * (k : Int) - zs[k] == F) = false := by rw [beq_eq_false_iff_ne]; exact he
            go_wp2
            go_round
            case rel => exact ⟨k + 1, by omega, by go_num, by rw [HE.out, HA.out], by rw [HE.out, HB.out]⟩
            case measure => simp [intOf]; omega
        · obtain rfl : k = zs.length := by omega
          go_wp2
          go_ret3
          rw [HM.out]
          exact ⟨by rw [HA.out, HB.out]; rfl, rfl⟩
end Go.Proofs.Ytlgagdplnpeklaa
