/-
  RowPart of the program. Conditions: the row's cells are there; its capacity is at least its length.
-/
import Derived.Test.YtfkmnlhmldjieaaPart
namespace Go.Proofs.Ytfkmnlhmldjieaa
open Go.RowKit

set_option maxHeartbeats 400000 in
theorem isPlace_any (A : Option Addr) (n c : Nat) (i : Int) (w : World) : Calls Try.prog 60 #[.slice A n c, .int .i64 i] w fun e w' => e = .returned (.bool (inB 0 ((n : Int) - 1) i)) ∧ w = w' := by
  by_cases h1 : 0 ≤ i
  · by_cases h2 : i < (n : Int)
    · have H := Lib.hid (inB_true.2 (show 0 ≤ i ∧ i ≤ (n : Int) - 1 by omega))
      go_enter Try.func60, Try.ntmps60
      go_wp2
      go_ret
      exact ⟨ret_bool H.out.symm, rfl⟩
    · have H : Hid (inB 0 ((n : Int) - 1) i = false) := by show _ = _; simp [inB]; omega
      go_enter Try.func60, Try.ntmps60
      go_wp2
      go_ret
      exact ⟨ret_bool (by rw [H.out]), rfl⟩
  · have H : Hid (inB 0 ((n : Int) - 1) i = false) := by show _ = _; simp [inB, h1]
    go_enter Try.func60, Try.ntmps60
    go_wp2
    go_ret
    exact ⟨ret_bool H.out.symm, rfl⟩
theorem isPlace_b (b : Bool) (A : Option Addr) (n c : Nat) (i : Int) (w : World) (h : inB 0 ((n : Int) - 1) i = b) : Calls Try.prog 60 #[.slice A n c, .int .i64 i] w fun e w' => e = .returned (.bool b) ∧ w = w' := by
  have := isPlace_any A n c i w; rwa [h] at this

set_option maxHeartbeats 1000000 in
theorem implRowPart_any (A : Option Addr) (c : Nat) (zs : List Int) (x1 x2 : Int) (w : World) (h : IR w 0 w.heap.size A zs) (hc : zs.length ≤ c) (hc2 : c ≤ 9223372036854775807) :
    Calls Try.prog 30 #[.slice A zs.length c, .int .i64 x1, .int .i64 x2] w (RetSB w (partM zs x1 x2)) := by
  have H := Lib.hid h; clear h
  cases hr : rowB zs with
  | false =>
    have HM : Hid (partM zs x1 x2 = none) := by show _ = _; simp [partM, partOk, hr]
    have HR := Lib.hid hr; clear hr
    go_enter Try.func30, Try.ntmps30
    go_wp2_with fail
    refine (isRow_false _ _ _ _ zs _ H.out HR.out).mono ?_; rintro e w1 ⟨rfl, b1⟩
    go_wp2
    go_ret2
    rw [HM.out]
    exact retSB_none b1
  | true =>
    cases h1 : inB 0 ((zs.length : Int) - 1) x1 with
    | false =>
      have HM : Hid (partM zs x1 x2 = none) := by show _ = _; simp [partM, partOk, h1]
      have HR := Lib.hid hr; have H1 := Lib.hid h1; clear hr h1
      go_enter Try.func30, Try.ntmps30
      go_wp2_with fail
      refine (isRow_true _ _ _ _ zs _ H.out HR.out).mono ?_; rintro e w1 ⟨rfl, b1⟩
      have B1 := Lib.hid b1; clear b1
      go_wp2_with fail
      refine (isPlace_b false _ _ _ _ _ H1.out).mono ?_; rintro e w' ⟨rfl, rfl⟩
      go_wp2
      go_ret2
      rw [HM.out]
      exact retSB_none B1.out
    | true =>
      cases h2 : inB 0 ((zs.length : Int) - 1) x2 with
      | false =>
        have HM : Hid (partM zs x1 x2 = none) := by
          have hh : ¬ (0 ≤ x2 ∧ x2 ≤ (zs.length : Int) - 1) := inB_false h2
          have hh1 := inB_true.1 h1
          have : inB x1 ((zs.length : Int) - 1) x2 = false := by
            cases hq : inB x1 ((zs.length : Int) - 1) x2 with
            | false => rfl
            | true => have := inB_true.1 hq; exact absurd ⟨by omega, this.2⟩ hh
          show _ = _; simp [partM, partOk, this]
        have HR := Lib.hid hr; have H1 := Lib.hid h1; have H2 := Lib.hid h2; clear hr h1 h2
        go_enter Try.func30, Try.ntmps30
        go_wp2_with fail
        refine (isRow_true _ _ _ _ zs _ H.out HR.out).mono ?_; rintro e w1 ⟨rfl, b1⟩
        have B1 := Lib.hid b1; clear b1
        go_wp2_with fail
        refine (isPlace_b true _ _ _ _ _ H1.out).mono ?_; rintro e w' ⟨rfl, rfl⟩
        go_wp2_with fail
        refine (isPlace_b false _ _ _ _ _ H2.out).mono ?_; rintro e w' ⟨rfl, rfl⟩
        go_wp2
        go_ret2
        rw [HM.out]
        exact retSB_none B1.out
      | true =>
        have hh1 := inB_true.1 h1
        have hh2 := inB_true.1 h2
        obtain ⟨f, rfl⟩ := Int.eq_ofNat_of_zero_le hh1.1
        obtain ⟨t, rfl⟩ := Int.eq_ofNat_of_zero_le hh2.1
        have htl : t < zs.length := by omega
        have hfl : f < zs.length := by omega
        have HR := Lib.hid hr; have H1 := Lib.hid h1; have H2 := Lib.hid h2; clear hr h1 h2 hh1 hh2
        by_cases hlt : (t : Int) < (f : Int)
        · have HM : Hid (partM zs (f : Int) (t : Int) = none) := by
            have : inB (f : Int) ((zs.length : Int) - 1) (t : Int) = false := by simp [inB]; omega
            show _ = _; simp [partM, partOk, this]
          go_enter Try.func30, Try.ntmps30
          go_wp2_with fail
          refine (isRow_true _ _ _ _ zs _ H.out HR.out).mono ?_; rintro e w1 ⟨rfl, b1⟩
          have B1 := Lib.hid b1; clear b1
          go_wp2_with fail
          refine (isPlace_b true _ _ _ _ _ H1.out).mono ?_; rintro e w' ⟨rfl, rfl⟩
          go_wp2_with fail
          refine (isPlace_b true _ _ _ _ _ H2.out).mono ?_; rintro e w' ⟨rfl, rfl⟩
          go_wp2
          go_ret2
          rw [HM.out]
          exact retSB_none B1.out
        · have hft : f ≤ t := by omega
          have HM : Hid (partM zs (f : Int) (t : Int) = some (partL zs f t)) := by
            have : inB (f : Int) ((zs.length : Int) - 1) (t : Int) = true := inB_true.2 ⟨by omega, by omega⟩
            show _ = _; simp [partM, partOk, HR.out, H1.out, this]
          have hl := (rowB_true.1 HR.out).2
          obtain ⟨b, off, rfl, hlo, hhi, hcell⟩ := H.out.2.2.2 (by omega)
          clear hcell
          have e1 : (0 : Int) ≤ (f : Int) := by omega
          have e2 : (f : Int) ≤ (t : Int) + 1 := by omega
          have e3 : (t : Int) + 1 ≤ (c : Int) := by omega
          have e4 : ¬ c = f := by omega
          have e5 : (f : Int).toNat = f := by omega
          have e6 : ((t : Int) + 1).toNat = t + 1 := by omega
          have HLn := Lib.hid (partL_len zs f t htl)
          have HIP : Hid (∀ w1, Below w.heap.size w w1 → IR w1 0 w1.heap.size (some ⟨b, off + f, none⟩) (partL zs f t)) := by
            intro w1 hb
            have hi := H.out.grow hb
            refine ⟨by rw [HLn.out]; omega, fun y hy => H.out.2.1 y (List.mem_of_mem_take (List.mem_of_mem_drop hy)), Nat.le_refl _, fun _ => ?_⟩
            obtain ⟨b', off', e, h1, h2, h3⟩ := hi.2.2.2 (by omega)
            injection e with e; injection e with e1 e2 _; subst e1; subst e2
            refine ⟨b, off + f, rfl, Nat.zero_le _, Nat.lt_of_lt_of_le h2 hb.size, fun j hj => ?_⟩
            have hj2 : j < t + 1 - f := by rw [HLn.out] at hj; exact hj
            rw [partL_get zs f t j htl hj2, Nat.add_assoc]
            exact h3 (f + j) (by omega)
          go_enter Try.func30, Try.ntmps30
          go_wp2_with fail
          refine (isRow_true _ _ _ _ zs _ H.out HR.out).mono ?_; rintro e w1 ⟨rfl, b1⟩
          have B1 := Lib.hid b1; clear b1
          go_wp2_with fail
          refine (isPlace_b true _ _ _ _ _ H1.out).mono ?_; rintro e w' ⟨rfl, rfl⟩
          go_wp2_with fail
          refine (isPlace_b true _ _ _ _ _ H2.out).mono ?_; rintro e w' ⟨rfl, rfl⟩
          go_wp2_with fail
          refine (clone_any b (off + f) (t + 1 - f) _ _ _ (partL zs f t) _ HLn.out.symm (by omega) (HIP.out _ B1.out)).mono ?_
          rintro e w2 ⟨A', c', rfl, hi, hb⟩
          have HI := Lib.hid hi; have B2 := Lib.hid hb; clear hi hb
          go_wp2
          go_ret2
          rw [HM.out]
          exact retSB_some rfl (HI.out.wide B1.out.size (Nat.le_refl _) (Nat.le_refl _)) (below_then B1.out (Nat.le_refl _) B2.out)
end Go.Proofs.Ytfkmnlhmldjieaa
