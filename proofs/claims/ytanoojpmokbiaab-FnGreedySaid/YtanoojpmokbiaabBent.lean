/-
  RowBent of the model and of the program: both answer whether the list is a row whose slopes never fall. Conditions: the list's cells are there.
-/
import Derived.Test.YtanoojpmokbiaabImp2
namespace Go.Proofs.Ytanoojpmokbiaab
open Go.RowKit

def bentB (zs : List Int) : Bool := (List.range (zs.length - 2)).all fun k => decide (zs.getD (k + 1) 0 - zs.getD k 0 ≤ zs.getD (k + 2) 0 - zs.getD (k + 1) 0)
def sortedB (xs : List Int) : Bool := (List.range (xs.length - 1)).all fun k => decide (xs.getD k 0 ≤ xs.getD (k + 1) 0)
theorem bentB_true {zs : List Int} (h : ∀ k, k + 2 < zs.length → zs.getD (k + 1) 0 - zs.getD k 0 ≤ zs.getD (k + 2) 0 - zs.getD (k + 1) 0) : bentB zs = true := by
  unfold bentB
  rw [List.all_eq_true]
  intro k hk
  simp only [List.mem_range] at hk
  exact decide_eq_true (h k (by omega))
theorem bentB_false {zs : List Int} {k : Nat} (hk : k + 2 < zs.length) (h : zs.getD (k + 2) 0 - zs.getD (k + 1) 0 < zs.getD (k + 1) 0 - zs.getD k 0) : bentB zs = false := by
  unfold bentB
  rw [List.all_eq_false]
  exact ⟨k, List.mem_range.2 (by omega), by simp only [decide_eq_true_eq]; omega⟩
theorem sortedB_true {xs : List Int} (h : ∀ k, k + 1 < xs.length → xs.getD k 0 ≤ xs.getD (k + 1) 0) : sortedB xs = true := by
  unfold sortedB
  rw [List.all_eq_true]
  intro k hk
  simp only [List.mem_range] at hk
  exact decide_eq_true (h k (by omega))
theorem sortedB_false {xs : List Int} {k : Nat} (hk : k + 1 < xs.length) (h : xs.getD (k + 1) 0 < xs.getD k 0) : sortedB xs = false := by
  unfold sortedB
  rw [List.all_eq_false]
  exact ⟨k, List.mem_range.2 (by omega), by simp only [decide_eq_true_eq]; omega⟩
theorem slopesL_getD (zs : List Int) (k : Nat) (h : k + 1 < zs.length) : (slopesL zs).getD k 0 = zs.getD (k + 1) 0 - zs.getD k 0 := by
  have hl := slopesL_len zs
  rw [getD_in (show k < (slopesL zs).length by omega), slopesL_get zs k h, getD_in h, getD_in (show k < zs.length by omega)]
theorem bentB_sorted (zs : List Int) : bentB zs = sortedB (slopesL zs) := by
  have hl := slopesL_len zs
  cases h : sortedB (slopesL zs) with
  | true =>
    refine bentB_true fun k hk => ?_
    unfold sortedB at h
    rw [List.all_eq_true] at h
    have := h k (List.mem_range.2 (by omega))
    rw [decide_eq_true_eq, slopesL_getD zs k (by omega), slopesL_getD zs (k + 1) (by omega)] at this
    exact this
  | false =>
    unfold sortedB at h
    rw [List.all_eq_false] at h
    obtain ⟨k, hk, hd⟩ := h
    simp only [List.mem_range] at hk
    rw [decide_eq_true_eq, slopesL_getD zs k (by omega), slopesL_getD zs (k + 1) (by omega)] at hd
    exact bentB_false (k := k) (by omega) (by have e : k + 1 + 1 = k + 2 := rfl; rw [e] at hd; omega)

set_option maxHeartbeats 2000000 in
theorem l1Bent_any (A : Option Addr) (c lo hi : Nat) (zs : List Int) (w : World) (h : IR w lo hi A zs) (hr : rowB zs = true) :
    Calls Try.prog 23 #[.slice A zs.length c] w fun e w' => e = .returned (.bool (bentB zs)) ∧ Below w.heap.size w w' := by
  have hl := h.1
  have HB := Lib.hid (rowB_true.1 hr).1
  have hl1 := (rowB_true.1 hr).2.1
  clear hr
  go_enter Try.func23, Try.ntmps23
  go_wp2
  go_loopw [3] (fun i wr => ∃ k m : Nat, i = .int .i64 ((k : Int) + 2) ∧ wr = w.drewN m ∧ k ≤ zs.length ∧ Hid (∀ j, j < k → j + 2 < zs.length → zs.getD (j + 1) 0 - zs.getD j 0 ≤ zs.getD (j + 2) 0 - zs.getD (j + 1) 0)) (fun i _ => zs.length + 2 - (intOf i).toNat)
  case atStart => exact ⟨0, 0, rfl, rfl, Nat.zero_le _, Lib.hid (fun j hj => absurd hj (by omega))⟩
  case round =>
    obtain ⟨k, m, rfl, rfl, hkl, hall⟩ := hrel
    by_cases hlt : k + 2 < zs.length
    · have i1 : k + 1 < zs.length := by omega
      have i0 : k < zs.length := by omega
      obtain ⟨b, off, rfl, _, _, hc2⟩ := h.at_ hlt
      obtain ⟨b', off', e, _, _, hc1⟩ := h.at_ (k := k + 1) (by omega)
      injection e with e; injection e with e1 e2 _; subst e1; subst e2
      obtain ⟨b', off', e, _, _, hc0⟩ := h.at_ (k := k) (by omega)
      injection e with e; injection e with e1 e2 _; subst e1; subst e2
      obtain ⟨b21, b22⟩ := HB.out _ (List.getElem_mem hlt)
      obtain ⟨b11, b12⟩ := HB.out _ (List.getElem_mem (show k + 1 < zs.length by omega))
      obtain ⟨b01, b02⟩ := HB.out _ (List.getElem_mem (show k < zs.length by omega))
      have g2 := Lib.hid (getD_in hlt); have g1 := Lib.hid (getD_in (show k + 1 < zs.length by omega)); have g0 := Lib.hid (getD_in (show k < zs.length by omega))
      have hlt2 : (k : Int) + 2 < (zs.length : Int) := by omega
      have hlt1 : (k : Int) + 1 < (zs.length : Int) := by omega
      have hlt0 : (k : Int) < (zs.length : Int) := by omega
      have p0 : (0 : Int) ≤ (k : Int) := by omega
      have p1 : (0 : Int) ≤ (k : Int) + 1 := by omega
      have p2 : (0 : Int) ≤ (k : Int) + 2 := by omega
      have t0 : (k : Int).toNat = k := by omega
      have t1 : ((k : Int) + 1).toNat = k + 1 := by omega
      have t2 : ((k : Int) + 2).toNat = k + 2 := by omega
      have s1 : IntKind.i64.wrap ((k : Int) + 2 - 1) = (k : Int) + 1 := by rw [IntWalk.i64_in _ (by omega)]; omega
      have s0 : IntKind.i64.wrap ((k : Int) + 2 - 2) = (k : Int) := by rw [IntWalk.i64_in _ (by omega)]; omega
      have s0' : IntKind.i64.wrap (k : Int) = (k : Int) := IntWalk.i64_in _ (by omega)
      have d1 : IntKind.i64.wrap ((zs[k + 2]'hlt) - (zs[k + 1]'i1)) = (zs[k + 2]'hlt) - (zs[k + 1]'i1) := IntWalk.i64_in _ (by omega)
      have d0 : IntKind.i64.wrap ((zs[k + 1]'i1) - (zs[k]'i0)) = (zs[k + 1]'i1) - (zs[k]'i0) := IntWalk.i64_in _ (by omega)
      by_cases hcmp : (zs[k + 2]'hlt) - (zs[k + 1]'i1) < (zs[k + 1]'i1) - (zs[k]'i0)
      · go_wp2
        go_quiet (fail)
        clear t0 t1 t2 s0 s0' s1 d0 d1 hc0 hc1 hc2
        go_wp2
        go_ret
        exact ⟨ret_bool (bentB_false hlt (by rw [g0.out, g1.out, g2.out]; exact hcmp)).symm, below_drawN (below_drawN (Below.refl _ _) _) _⟩
      · go_wp2
        go_quiet (fail)
        clear t0 t1 t2 s0 s0' s1 d0 d1 hc0 hc1 hc2
        go_wp2
        go_roundw
        case rel => exact ⟨k + 1, _, by go_num, rfl, by omega, Lib.hid (fun j hj hj2 => by
          by_cases hjk : j = k
          · subst hjk; rw [g0.out, g1.out, g2.out]; omega
          · exact hall.out j (by omega) hj2)⟩
        case measure => simp [intOf]; omega
    · have hlt' : ¬ (k : Int) + 2 < (zs.length : Int) := by omega
      go_wp2
      go_ret
      exact ⟨ret_bool (bentB_true fun j hj => hall.out j (by omega) hj).symm, below_drawN (Below.refl _ _) _⟩

set_option maxHeartbeats 400000 in
theorem less_any (x y : Int) (w : World) : Calls Try.prog 60 #[.int .i64 x, .int .i64 y] w fun e w' => e = .returned (.bool (decide (x < y))) ∧ w' = w := by
  have hn : ∀ (z : Int) (w : World), Calls Try.prog 65 #[.int .i64 z] w fun e w' => e = .returned (.bool false) ∧ w' = w := by
    intro z w
    go_enter Try.func65, Try.ntmps65
    go_wp2
    go_ret
    exact ⟨rfl, rfl⟩
  have HN := Lib.hid hn; clear hn
  go_enter Try.func60, Try.ntmps60
  go_wp2_with fail
  refine (HN.out x _).mono ?_; rintro e w' ⟨rfl, rfl⟩
  go_wp2
  go_ret
  exact ⟨rfl, rfl⟩

set_option maxHeartbeats 2000000 in
theorem isSorted_any (A : Option Addr) (c lo hi : Nat) (xs : List Int) (w : World) (h : IR w lo hi A xs) :
    Calls Try.prog 48 #[.slice A xs.length c] w fun e w' => e = .returned (.bool (sortedB xs)) ∧ Below w.heap.size w w' := by
  have hl := h.1
  have m1 : -9000000000000000000 ≤ (xs.length : Int) - 1 := by omega
  have m2 : (xs.length : Int) - 1 ≤ 9000000000000000000 := by omega
  go_enter Try.func48, Try.ntmps48
  go_wp2
  go_loopw [3] (fun i wr => ∃ (j : Int), i = .int .i64 j ∧ IR wr lo hi A xs ∧ Below w.heap.size w wr ∧ j ≤ (xs.length : Int) - 1 ∧ -1 ≤ j ∧ Hid (∀ k : Nat, j ≤ (k : Int) → k + 1 < xs.length → xs.getD k 0 ≤ xs.getD (k + 1) 0)) (fun i _ => (intOf i).toNat)
  case atStart => exact ⟨_, rfl, h, Below.refl _ _, Int.le_refl _, by omega, Lib.hid (fun k h1 h2 => by omega)⟩
  case round =>
    obtain ⟨j, rfl, hR, hb, hj1, hj2, hall⟩ := hrel
    have HR := Lib.hid hR; have HBl := Lib.hid hb
    clear hR hb
    by_cases hlt : 0 < j
    · obtain ⟨k, rfl⟩ : ∃ k : Nat, j = (k : Int) + 1 := ⟨(j - 1).toNat, by omega⟩
      have hk1 : k + 1 < xs.length := by omega
      have hk0 : k < xs.length := by omega
      obtain ⟨b, off, rfl, _, _, hc1⟩ := HR.out.at_ hk1
      obtain ⟨b', off', e, _, _, hc0⟩ := HR.out.at_ (k := k) (by omega)
      injection e with e; injection e with e1 e2 _; subst e1; subst e2
      have g1 := Lib.hid (getD_in hk1); have g0 := Lib.hid (getD_in (show k < xs.length by omega))
      have hlt1 : (k : Int) + 1 < (xs.length : Int) := by omega
      have hlt0 : (k : Int) < (xs.length : Int) := by omega
      have p0 : (0 : Int) ≤ (k : Int) := by omega
      have p1 : (0 : Int) ≤ (k : Int) + 1 := by omega
      have t0 : (k : Int).toNat = k := by omega
      have t1 : ((k : Int) + 1).toNat = k + 1 := by omega
      have s0' : IntKind.i64.wrap (k : Int) = (k : Int) := IntWalk.i64_in _ (by omega)
      by_cases hcmp : (xs[k + 1]'hk1) < (xs[k]'hk0)
      ·
        go_wp2
        go_quiet ((go_at_call 60; exact Calls.quiet_of_same (less_any _ _ _)))
        clear t0 t1 s0' hc0 hc1
        go_wp2
        go_ret
        exact ⟨ret_bool (sortedB_false hk1 (by rw [g0.out, g1.out]; exact hcmp)).symm, below_drawN HBl.out _⟩
      · go_wp2
        go_quiet ((go_at_call 60; exact Calls.quiet_of_same (less_any _ _ _)))
        clear t0 t1 s0' hc0 hc1
        go_wp2
        go_roundw
        case rel => exact ⟨(k : Int), by go_num, HR.out.drewN _, below_drawN HBl.out _, by omega, by omega, Lib.hid (fun q h1 h2 => by
          by_cases hq : q = k
          · subst hq; rw [g0.out, g1.out]; omega
          · exact hall.out q (by omega) h2)⟩
        case measure => simp [intOf]
    · go_wp2
      go_ret
      exact ⟨ret_bool (sortedB_true fun k hk => hall.out k (by omega) hk).symm, HBl.out⟩
end Go.Proofs.Ytanoojpmokbiaab
