/-
  The least number that lifts a row: MergeUnit of the model and of the program. Conditions: the row's cells are there.
-/
import Derived.Test.YtgbcpbooonincaaMergeMath3
import Derived.Test.YtgbcpbooonincaaLeast2
namespace Go.Proofs.Ytgbcpbooonincaa
open Go.RowKit

/-- What MergeUnit returns. -/
def unitV (zs : List Int) : Value := .tuple #[.int .i64 (unitL zs), .bool (unitOk zs)]
theorem unit_no {zs : List Int} (h : unitOk zs = false) : unitV zs = .tuple #[.int .i64 0, .bool false] := by
  unfold unitV unitL; rw [h]; rfl
theorem unit_yes {zs : List Int} (h : unitOk zs = true) : unitV zs = .tuple #[.int .i64 (0 - zs.getD (leastTo zs zs.length).1 0), .bool true] := by
  have hr := (unit_spec h).1
  unfold unitV unitL; rw [h]; simp [leastA, hr]
theorem unit_row {zs : List Int} (h : rowB zs = false) : unitOk zs = false := by unfold unitOk; rw [h]; rfl

set_option maxHeartbeats 1000000 in
theorem specMergeUnit_any (A : Option Addr) (c : Nat) (zs : List Int) (w : World) (h : IR w 0 w.heap.size A zs) :
    Calls Try.prog 15 #[.slice A zs.length c] w fun e w' => e = .returned (unitV zs) ∧ Below w.heap.size w w' := by
  have H := Lib.hid h; clear h
  cases hr : rowB zs with
  | false =>
    have HU := Lib.hid (unit_no (unit_row hr))
    have HR := Lib.hid hr; clear hr
    go_enter Try.func15, Try.ntmps15
    go_wp2_with fail
    refine (specRowIn_false _ _ _ _ zs _ H.out HR.out).mono ?_; rintro e w' ⟨rfl, rfl⟩
    go_wp2
    go_ret2
    exact ⟨(by rw [HU.out]; rfl), Below.refl _ _⟩
  | true =>
    have h0 : 0 < zs.length := (rowB_true.1 hr).2.1
    have b0 := row_getD hr _ (show (leastTo zs zs.length).1 < zs.length by have := (leastTo_lt zs (zs.length - 1)).1; rw [show zs.length - 1 + 1 = zs.length by omega] at this; omega)
    obtain ⟨b, off, rfl, _, _, hc⟩ := H.out.at_ h0
    rw [Nat.add_zero, ← getD_in h0] at hc
    obtain ⟨x, hx⟩ : ∃ x, zs.getD 0 0 = x := ⟨_, rfl⟩
    obtain ⟨v, hv⟩ : ∃ x, zs.getD (leastTo zs zs.length).1 0 = x := ⟨_, rfl⟩
    rw [hx] at hc
    rw [hv] at b0
    obtain ⟨b1, b2⟩ := b0
    have HV := Lib.hid hv
    have HR := Lib.hid hr
    have hq : (0 : Int) < (zs.length : Int) := by omega
    by_cases hx0 : x = 0
    · have hn : 0 - v = -v := by omega
      have HU : Hid (unitV zs = .tuple #[.int .i64 (-v), .bool true]) := by
        show _ = _
        rw [unit_yes (by unfold unitOk; rw [hr, hx, hx0]; rfl), hv, hn]
      clear hr hx hv h0 hn
      subst hx0
      go_enter Try.func15, Try.ntmps15
      go_wp2_with fail
      refine (specRowIn_true _ _ _ _ zs _ H.out HR.out).mono ?_; rintro e w' ⟨rfl, rfl⟩
      go_wp2_with fail
      refine (l1Least_any _ _ _ _ zs _ H.out HR.out).mono ?_; rintro e w' ⟨rfl, hb⟩
      rw [HV.out]
      have HB := Lib.hid hb; clear hb
      go_wp2
      go_ret2
      exact ⟨(by rw [HU.out]; rfl), HB.out⟩
    · have HU := Lib.hid (unit_no (zs := zs) (by unfold unitOk; rw [hr, hx]; simp [hx0]))
      clear hr hx hv h0
      go_enter Try.func15, Try.ntmps15
      go_wp2_with fail
      refine (specRowIn_true _ _ _ _ zs _ H.out HR.out).mono ?_; rintro e w' ⟨rfl, rfl⟩
      go_wp2
      go_ret2
      exact ⟨(by rw [HU.out]; rfl), Below.refl _ _⟩

set_option maxHeartbeats 1000000 in
theorem implMergeUnit_any (A : Option Addr) (c : Nat) (zs : List Int) (w : World) (h : IR w 0 w.heap.size A zs) :
    Calls Try.prog 16 #[.slice A zs.length c] w fun e w' => e = .returned (unitV zs) ∧ Below w.heap.size w w' := by
  have H := Lib.hid h; clear h
  cases hr : rowB zs with
  | false =>
    have HU := Lib.hid (unit_no (unit_row hr))
    have HR := Lib.hid hr; clear hr
    go_enter Try.func16, Try.ntmps16
    go_wp2_with fail
    refine (isRow_false _ _ _ _ zs _ H.out HR.out).mono ?_; rintro e w1 ⟨rfl, b1⟩
    have B1 := Lib.hid b1; clear b1
    go_wp2
    go_ret2
    exact ⟨(by rw [HU.out]; rfl), B1.out⟩
  | true =>
    have h0 : 0 < zs.length := (rowB_true.1 hr).2.1
    have b0 := row_getD hr _ (show (leastTo zs zs.length).1 < zs.length by have := (leastTo_lt zs (zs.length - 1)).1; rw [show zs.length - 1 + 1 = zs.length by omega] at this; omega)
    obtain ⟨x, hx⟩ : ∃ x, zs.getD 0 0 = x := ⟨_, rfl⟩
    obtain ⟨v, hv⟩ : ∃ x, zs.getD (leastTo zs zs.length).1 0 = x := ⟨_, rfl⟩
    rw [hv] at b0
    obtain ⟨b1, b2⟩ := b0
    have HV := Lib.hid hv
    have HR := Lib.hid hr
    have hq : (0 : Int) < (zs.length : Int) := by omega
    have hn : 0 - v = -v := by omega
    by_cases hx0 : x = 0
    · have HU : Hid (unitV zs = .tuple #[.int .i64 (-v), .bool true]) := by
        show _ = _
        rw [unit_yes (by unfold unitOk; rw [hr, hx, hx0]; rfl), hv, hn]
      clear hr hv hn
      subst hx0
      go_enter Try.func16, Try.ntmps16
      go_wp2_with fail
      refine (isRow_true _ _ _ _ zs _ H.out HR.out).mono ?_; rintro e w1 ⟨rfl, b3⟩
      have B1 := Lib.hid b3
      have H1 := Lib.hid (H.out.grow b3).toAll
      clear b3
      obtain ⟨b, off, rfl, _, _, hc⟩ := H1.out.at_ h0
      rw [Nat.add_zero, ← getD_in h0, hx] at hc
      clear hx h0
      go_wp2_with fail
      refine (least_any _ _ zs _ H1.out HR.out).mono ?_; rintro e w' ⟨rfl, hb⟩
      rw [HV.out]
      have HB := Lib.hid hb; clear hb
      go_wp2
      go_ret2
      exact ⟨(by rw [HU.out]; rfl), below_then B1.out (Nat.le_refl _) HB.out⟩
    · have HU := Lib.hid (unit_no (zs := zs) (by unfold unitOk; rw [hr, hx]; simp [hx0]))
      clear hr hv hn
      go_enter Try.func16, Try.ntmps16
      go_wp2_with fail
      refine (isRow_true _ _ _ _ zs _ H.out HR.out).mono ?_; rintro e w1 ⟨rfl, b3⟩
      have B1 := Lib.hid b3
      have H1 := Lib.hid (H.out.grow b3).toAll
      clear b3
      obtain ⟨b, off, rfl, _, _, hc⟩ := H1.out.at_ h0
      rw [Nat.add_zero, ← getD_in h0, hx] at hc
      clear hx h0
      go_wp2
      go_ret2
      exact ⟨(by rw [HU.out]; rfl), B1.out⟩
theorem specMergeUnit_v (A : Option Addr) (c : Nat) (zs : List Int) (w : World) (h : IR w 0 w.heap.size A zs) :
    Calls Try.prog 15 #[.slice A zs.length c] w fun e w' => e = .returned (.tuple #[.int .i64 (unitL zs), .bool (unitOk zs)]) ∧ Below w.heap.size w w' := specMergeUnit_any A c zs w h
theorem implMergeUnit_v (A : Option Addr) (c : Nat) (zs : List Int) (w : World) (h : IR w 0 w.heap.size A zs) :
    Calls Try.prog 16 #[.slice A zs.length c] w fun e w' => e = .returned (.tuple #[.int .i64 (unitL zs), .bool (unitOk zs)]) ∧ Below w.heap.size w w' := implMergeUnit_any A c zs w h
end Go.Proofs.Ytgbcpbooonincaa
