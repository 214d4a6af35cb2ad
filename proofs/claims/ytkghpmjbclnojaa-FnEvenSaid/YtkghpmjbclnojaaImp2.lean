/-
  The program's functions that make a row entry by entry: RowSum, RowHigh, RowLow, RowTimes, RowTilt, RowBack. Conditions: the rows' cells are there.
-/
import Derived.Test.YtkghpmjbclnojaaSp1
namespace Go.Proofs.Ytkghpmjbclnojaa
open Go.RowKit

theorem isRow_true (A : Option Addr) (c lo hi : Nat) (zs : List Int) (w : World) (h : IR w lo hi A zs) (hr : rowB zs = true) :
    Calls Try.prog 97 #[.slice A zs.length c] w fun e w' => e = .returned (.bool true) ∧ Below w.heap.size w w' := by
  have := isRow_any A c zs w h.toAll; rwa [hr] at this
theorem isRow_false (A : Option Addr) (c lo hi : Nat) (zs : List Int) (w : World) (h : IR w lo hi A zs) (hr : rowB zs = false) :
    Calls Try.prog 97 #[.slice A zs.length c] w fun e w' => e = .returned (.bool false) ∧ Below w.heap.size w w' := by
  have := isRow_any A c zs w h.toAll; rwa [hr] at this

set_option maxHeartbeats 1000000 in
theorem isAlike_any (A0 : Option Addr) (c0 : Nat) (zs0 : List Int) (A1 : Option Addr) (c1 : Nat) (zs1 : List Int) (lo hi lo' hi' : Nat) (w : World) (h0 : IR w lo hi A0 zs0) (h1 : IR w lo' hi' A1 zs1) :
    Calls Try.prog 94 #[.slice A0 zs0.length c0, .slice A1 zs1.length c1] w fun e w' => e = .returned (.bool (twoB zs0 zs1)) ∧ Below w.heap.size w w' := by
  have H0 := Lib.hid h0; have H1 := Lib.hid h1
  clear h0 h1
  cases hr0 : rowB zs0 with
  | false =>
    have HM : Hid (twoB zs0 zs1 = false) := by show _ = _; simp [twoB, hr0]
    have HR0 := Lib.hid hr0; clear hr0
    go_enter Try.func94, Try.ntmps94
    go_wp2_with fail
    refine (isRow_false _ _ _ _ zs0 _ H0.out HR0.out).mono ?_; rintro e w1 ⟨rfl, b1⟩
    go_wp2
    go_ret
    exact ⟨ret_bool HM.out.symm, b1⟩
  | true =>
    have HR0 := Lib.hid hr0; clear hr0
    cases hr1 : rowB zs1 with
    | false =>
      have HM : Hid (twoB zs0 zs1 = false) := by show _ = _; simp [twoB, hr1]
      have HR1 := Lib.hid hr1; clear hr1
      go_enter Try.func94, Try.ntmps94
      go_wp2_with fail
      refine (isRow_true _ _ _ _ zs0 _ H0.out HR0.out).mono ?_; rintro e w1 ⟨rfl, b1⟩
      have B1 := Lib.hid b1; have H1' := Lib.hid (H1.out.grow b1); clear b1
      go_wp2_with fail
      refine (isRow_false _ _ _ _ zs1 _ H1'.out HR1.out).mono ?_; rintro e w2 ⟨rfl, b2⟩
      go_wp2
      go_ret
      exact ⟨ret_bool HM.out.symm, below_then B1.out (Nat.le_refl _) b2⟩
    | true =>
      have HR1 := Lib.hid hr1; clear hr1
      by_cases hl : zs0.length = zs1.length
      · have HM : Hid (twoB zs0 zs1 = true) := by show _ = _; simp [twoB, HR0.out, HR1.out, hl]
        have hb : ((zs0.length : Int) == (zs1.length : Int)) = true := by rw [beq_iff_eq]; omega
        clear hl
        go_enter Try.func94, Try.ntmps94
        go_wp2_with fail
        refine (isRow_true _ _ _ _ zs0 _ H0.out HR0.out).mono ?_; rintro e w1 ⟨rfl, b1⟩
        have B1 := Lib.hid b1; have H1' := Lib.hid (H1.out.grow b1); clear b1
        go_wp2_with fail
        refine (isRow_true _ _ _ _ zs1 _ H1'.out HR1.out).mono ?_; rintro e w2 ⟨rfl, b2⟩
        go_wp2
        go_ret
        exact ⟨ret_bool HM.out.symm, below_then B1.out (Nat.le_refl _) b2⟩
      · have HM : Hid (twoB zs0 zs1 = false) := by show _ = _; simp [twoB, hl]
        have hb : ((zs0.length : Int) == (zs1.length : Int)) = false := by rw [beq_eq_false_iff_ne]; omega
        clear hl
        go_enter Try.func94, Try.ntmps94
        go_wp2_with fail
        refine (isRow_true _ _ _ _ zs0 _ H0.out HR0.out).mono ?_; rintro e w1 ⟨rfl, b1⟩
        have B1 := Lib.hid b1; have H1' := Lib.hid (H1.out.grow b1); clear b1
        go_wp2_with fail
        refine (isRow_true _ _ _ _ zs1 _ H1'.out HR1.out).mono ?_; rintro e w2 ⟨rfl, b2⟩
        go_wp2
        go_ret
        exact ⟨ret_bool HM.out.symm, below_then B1.out (Nat.le_refl _) b2⟩

/-- What a function of two entries answers. -/
def JoinFn (jf : FuncId) (J : Int → Int → Int) : Prop := ∀ (x y : Int) (w : World), -1000 ≤ x → x ≤ 1000 → -1000 ≤ y → y ≤ 1000 → Calls Try.prog jf #[.int .i64 x, .int .i64 y] w fun e w' => e = .returned (.int .i64 (J x y)) ∧ w' = w

end Go.Proofs.Ytkghpmjbclnojaa
