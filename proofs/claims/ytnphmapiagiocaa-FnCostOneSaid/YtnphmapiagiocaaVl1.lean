/-
  ValleyOne of the model and of the program: both answer whether the list is a row that never rises ahead of a fall. Conditions: the list's cells are there.
-/
import Derived.Test.YtnphmapiagiocaaHvMath
import Derived.Test.YtnphmapiagiocaaImp2
import Derived.Test.YtnphmapiagiocaaColl
namespace Go.Proofs.Ytnphmapiagiocaa
open Go.RowKit Go.Shelf

theorem riseB_get (zs : List Int) (k : Nat) (h : k + 1 < zs.length) : riseB zs (k + 1) = (riseB zs k || decide (zs[k] < zs[k + 1])) := by
  rw [riseB_succ, getD_in h, getD_in (show k < zs.length by omega)]
theorem oneB_get {zs : List Int} {k : Nat} (h : k + 1 < zs.length) (hr : riseB zs k = true) (hf : zs[k + 1] < zs[k]) : oneB zs = false :=
  oneB_false h hr (by rw [getD_in h, getD_in (show k < zs.length by omega)]; exact hf)
/-- No fall behind a rise among the first slopes. -/
def OneTo (zs : List Int) (k : Nat) : Prop := ∀ j, j < k → j + 1 < zs.length → ¬ (riseB zs j = true ∧ zs.getD (j + 1) 0 < zs.getD j 0)
theorem oneTo_zero (zs : List Int) : OneTo zs 0 := fun j hj => absurd hj (by omega)
theorem oneTo_succ {zs : List Int} {k : Nat} (h : OneTo zs k) (hk : k + 1 < zs.length) (hn : ¬ (riseB zs k = true ∧ zs[k + 1] < zs[k])) : OneTo zs (k + 1) := by
  intro j hj hj2
  by_cases e : j = k
  · subst e; rw [getD_in hj2, getD_in (show j < zs.length by omega)]; exact hn
  · exact h j (by omega) hj2
theorem oneTo_all {zs : List Int} {k : Nat} (h : OneTo zs k) (hk : zs.length ≤ k + 1) : oneB zs = true := by
  unfold oneB
  rw [List.all_eq_true]
  intro i hi
  have := h i (by have := List.mem_range.1 hi; omega) (by have := List.mem_range.1 hi; omega)
  cases e : riseB zs i with
  | false => rfl
  | true =>
    have : ¬ zs.getD (i + 1) 0 < zs.getD i 0 := fun c => this ⟨e, c⟩
    simp only [Bool.true_and, Bool.not_eq_true', decide_eq_false_iff_not]; exact this

set_option maxHeartbeats 4000000 in
theorem l4One_any (A : Option Addr) (c lo hi : Nat) (zs : List Int) (w : World) (h : IR w lo hi A zs) :
    Calls Try.prog 80 #[.slice A zs.length c] w fun e w' => e = .returned (.bool (oneB zs)) ∧ Below w.heap.size w w' := by
  have hl := h.1
  go_enter Try.func80, Try.ntmps80
  go_wp2
  go_loopw [3, 4] (fun r i wr => ∃ k m : Nat, i = .int .i64 ((k : Int) + 1) ∧ r = .bool (riseB zs k) ∧ wr = w.drewN m ∧ k ≤ zs.length ∧ Hid (OneTo zs k)) (fun _ i _ => zs.length + 1 - (intOf i).toNat)
  case atStart => exact ⟨0, 0, rfl, rfl, rfl, Nat.zero_le _, Lib.hid (oneTo_zero zs)⟩
  case round =>
    obtain ⟨k, m, rfl, rfl, rfl, hkl, hall⟩ := hrel
    by_cases hlt : k + 1 < zs.length
    · have i0 : k < zs.length := by omega
      obtain ⟨b, off, rfl, _, _, hc1⟩ := h.at_ hlt
      obtain ⟨b', off', e, _, _, hc0⟩ := h.at_ (k := k) (by omega)
      injection e with e; injection e with e1 e2 _; subst e1; subst e2
      have HN := Lib.hid (riseB_get zs k hlt)
      have HF := Lib.hid (fun hr hf => oneB_get (zs := zs) (k := k) hlt hr hf)
      have HS := Lib.hid (fun hn => oneTo_succ hall.out hlt hn)
      obtain ⟨x, hx⟩ : ∃ x, zs[k] = x := ⟨_, rfl⟩
      obtain ⟨y, hy⟩ : ∃ y, zs[k + 1] = y := ⟨_, rfl⟩
      rw [hx] at hc0 HN HF HS
      rw [hy] at hc1 HN HF HS
      clear hx hy
      have hlt1 : (k : Int) + 1 < (zs.length : Int) := by omega
      have hlt0 : (k : Int) < (zs.length : Int) := by omega
      have p0 : (0 : Int) ≤ (k : Int) := by omega
      have p1 : (0 : Int) ≤ (k : Int) + 1 := by omega
      have t0 : (k : Int).toNat = k := by omega
      have t1 : ((k : Int) + 1).toNat = k + 1 := by omega
      have s0 : IntKind.i64.wrap ((k : Int) + 1 - 1) = (k : Int) := by rw [IntWalk.i64_in _ (by omega)]; omega
      have s0' : IntKind.i64.wrap (k : Int) = (k : Int) := IntWalk.i64_in _ (by omega)
      cases hrk : riseB zs k with
      | true =>
        rw [hrk] at HN HF HS
        by_cases hcmp : y < x
        · have HO := Lib.hid (HF.out rfl hcmp)
          clear HN HF HS hall hrk
          go_wp2
          go_quiet (fail)
          clear t0 t1 s0 s0' hc0 hc1
          go_wp2
          go_ret
          exact ⟨ret_bool HO.out.symm, below_drawN (below_drawN (Below.refl _ _) _) _⟩
        · have HO := Lib.hid (HS.out (fun q => hcmp q.2))
          clear HF HS hall hrk
          go_wp2
          go_quiet (fail)
          go_wp2
          go_quiet (fail)
          clear t0 t1 s0 s0' hc0 hc1
          go_wp2
          go_roundw
          case rel => exact ⟨k + 1, _, by go_num, by rw [HN.out]; simp, rfl, by omega, HO⟩
          case measure => simp [intOf]; omega
      | false =>
        rw [hrk] at HN HF HS
        have HO := Lib.hid (HS.out (fun q => absurd q.1 (by simp)))
        clear HF HS hall hrk
        by_cases hcmp : x < y
        · go_wp2
          go_quiet (fail)
          go_wp2
          go_quiet (fail)
          clear t0 t1 s0 s0' hc0 hc1
          go_wp2
          go_roundw
          case rel => exact ⟨k + 1, _, by go_num, by rw [HN.out]; simp [hcmp], rfl, by omega, HO⟩
          case measure => simp [intOf]; omega
        · go_wp2
          go_quiet (fail)
          go_wp2
          go_quiet (fail)
          clear t0 t1 s0 s0' hc0 hc1
          go_wp2
          go_roundw
          case rel => exact ⟨k + 1, _, by go_num, by rw [HN.out]; simp, rfl, by omega, HO⟩
          case measure => simp [intOf]; omega
    · have hlt' : ¬ (k : Int) + 1 < (zs.length : Int) := by omega
      go_wp2
      go_ret
      exact ⟨ret_bool (oneTo_all hall.out (by omega)).symm, below_drawN (Below.refl _ _) _⟩

theorem specValleyOne_any (A : Option Addr) (c : Nat) (zs : List Int) (w : World) (h : IR w 0 w.heap.size A zs) :
    Calls Try.prog 49 #[.slice A zs.length c] w fun e w' => e = .returned (.bool (valleyOneB zs)) ∧ Below w.heap.size w w' := by
  have H := Lib.hid h; clear h
  cases hr : rowB zs with
  | false =>
    have HM : Hid (valleyOneB zs = false) := by show _ = _; simp [valleyOneB, hr]
    have HR := Lib.hid hr; clear hr
    go_enter Try.func49, Try.ntmps49
    go_wp2_with fail
    refine (specRowIn_false _ _ _ _ zs _ H.out HR.out).mono ?_; rintro e w' ⟨rfl, rfl⟩
    go_wp2
    go_ret
    exact ⟨ret_bool HM.out.symm, Below.refl _ _⟩
  | true =>
    have HM : Hid (valleyOneB zs = oneB zs) := by show _ = _; simp [valleyOneB, hr]
    have HR := Lib.hid hr; clear hr
    go_enter Try.func49, Try.ntmps49
    go_wp2_with fail
    refine (specRowIn_true _ _ _ _ zs _ H.out HR.out).mono ?_; rintro e w' ⟨rfl, rfl⟩
    go_wp2_with fail
    refine (l4One_any _ _ _ _ zs _ H.out).mono ?_; rintro e w' ⟨rfl, hb⟩
    go_wp2
    go_ret
    exact ⟨ret_bool (by rw [HM.out]), hb⟩
end Go.Proofs.Ytnphmapiagiocaa
