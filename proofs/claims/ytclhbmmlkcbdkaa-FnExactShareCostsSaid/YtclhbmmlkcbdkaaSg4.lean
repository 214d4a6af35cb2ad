/-
  ShareCosts of the program. Conditions: the rows' cells are there.
-/
import Derived.Test.YtclhbmmlkcbdkaaSg3
import Derived.Test.YtclhbmmlkcbdkaaSs3
import Derived.Test.YtclhbmmlkcbdkaaChg
namespace Go.Proofs.Ytclhbmmlkcbdkaa
open Go.RowKit

theorem cells_below {w w' : World} {b : Nat} {xs : List Int} (h : Cells w b 0 xs) (hb : Below w.heap.size w w') (hs : b < w.heap.size) : Cells w' b 0 xs := fun j hj =>
  ⟨(hb.cell (p := ⟨b, 0 + j, none⟩) hs).trans (h j hj).1, (World.frozen?_of_block (hb.block b hs)).trans (h j hj).2⟩
theorem costsM_no {rs : List (List Int)} (h : givenB rs = false ∨ 12 ≤ mostL rs) : costsM rs = none := by
  unfold costsM
  rcases h with h | h
  · rw [h]; rfl
  · rw [decide_eq_false (show ¬ mostL rs + 1 ≤ 12 by omega)]; simp
theorem costsM_yes {rs : List (List Int)} (h1 : givenB rs = true) (h2 : mostL rs < 12) : costsM rs = doneM (costsL rs) := by
  unfold costsM
  rw [h1, decide_eq_true (show mostL rs + 1 ≤ 12 by omega)]
  rfl
theorem least_cost {rs : List (List Int)} (h : givenB rs = true) {k : Nat} (hk : k < (costsL rs).length) : (comb (0, [], 0) (tryL rs (k : Int))).1 = (costsL rs)[k] ∧ (k : Int) ≤ mostL rs := by
  obtain ⟨g1, g2, g3⟩ := given_true.1 h
  obtain ⟨c1, c2⟩ := costs_is g1 g3
  have hm := most_le h
  have hkm : (k : Int) ≤ mostL rs := by omega
  have hok : shareOk rs (k : Int) = true := by unfold shareOk; rw [h, inB_true.2 ⟨by omega, hkm⟩]; rfl
  refine ⟨?_, hkm⟩
  rw [share_found hok, ← c2 k hk, getD_at hk]

set_option maxRecDepth 100000 in
set_option maxHeartbeats 2000000 in
theorem implShareCosts_any (A : Option Addr) (c : Nat) (rs : List (List Int)) (w : World) (h : IRR w 0 w.heap.size A rs) :
    Calls Try.prog 39 #[.slice A rs.length c] w (RetSB w (costsM rs)) := by
  have H := Lib.hid h
  clear h
  have hmk : ∀ (n : Nat), n ≤ 17592186044416 → ∀ w : World, (Instr.makeSlice 87 (.int .i64 (n : Int)) (.int .i64 (n : Int))).run Try.prog w = .ok (.slice (some ⟨w.heap.size, 0, none⟩) n n) (w.alloc (.cells (madeCells #[.int .i64 0] n) 3)) := by
    intro n hn w
    obtain ⟨i0, hi, hz0, hz1, hz2⟩ := info_parts info_int
    have hr := run_make (P := Try.prog) w 87 3 i0 (.int .i64 0) Try.underlying87 hi hz0 .i64 .i64 n n (by omega) (Int.le_refl _) (by rw [hz2]; omega) (by omega)
    rw [hz1] at hr
    simpa [Value.cells] using hr
  have HMK := Lib.hid hmk
  clear hmk
  go_enter Try.func39, Try.ntmps39
  cases hg : givenB rs with
  | false =>
    have HM := Lib.hid (costsM_no (.inl hg))
    have HG := Lib.hid hg
    clear hg
    go_wp2_with fail
    refine (areRows_of H.out HG.out rfl).mono ?_
    rintro e w1 ⟨rfl, hb⟩
    have HB := Lib.hid hb
    clear hb
    go_wp2
    go_ret2
    rw [HM.out]
    exact retSB_none HB.out
  | true =>
    have HG := Lib.hid hg
    have hml := most_le hg
    have hfit := given_fit hg
    have HGT := Lib.hid (given_true.1 hg)
    have HFT := Lib.hid hfit
    clear hg hfit
    go_wp2_with fail
    refine (areRows_of H.out HG.out rfl).mono ?_
    rintro e w1 ⟨rfl, hb⟩
    have HB := Lib.hid hb
    have H2 := Lib.hid (H.out.grow hb)
    have HMO := Lib.hid (most_any A c _ _ rs w1 H2.out (fun r hr => (HFT.out r hr).2) HGT.out.2.2)
    clear hb
    obtain ⟨M, hM⟩ : ∃ M, mostL rs = M := ⟨_, rfl⟩
    rw [hM] at hml HMO
    go_wp2_with fail
    refine HMO.out.mono ?_
    rintro e w2 ⟨rfl, rfl⟩
    by_cases h12 : 12 ≤ M
    · have HM := Lib.hid (costsM_no (rs := rs) (.inr (by rw [hM]; exact h12)))
      clear hM
      go_wp2
      go_ret2
      rw [HM.out]
      exact retSB_none HB.out
    · have HM := Lib.hid (costsM_yes HG.out (by rw [hM]; omega))
      have h12' : ¬ (12 : Int) ≤ M := h12
      obtain ⟨c1, c2⟩ := costs_is HGT.out.1 HGT.out.2.2
      have HLC := Lib.hid (fun k hk => least_cost HG.out (k := k) hk)
      obtain ⟨n, hn⟩ : ∃ n : Nat, (n : Int) = M + 1 := ⟨(M + 1).toNat, by omega⟩
      have hcl : (costsL rs).length = n := by rw [c1, hM]; omega
      have HCL := Lib.hid hcl
      have s0 : IntKind.i64.wrap (M + 1) = (n : Int) := by rw [hn]; exact IntWalk.i64_in _ (by omega)
      have hn12 : n ≤ 12 := by omega
      have hn1 : 1 ≤ n := by omega
      have hmk := HMK.out n (by omega) w2
      clear hM c1 c2 hn
      go_wp2_with fail
      refine HMO.out.mono ?_
      rintro e w9 ⟨rfl, h9⟩
      subst h9
      go_wp2
      clear hmk
      go_loopw [22] (fun x wr => ∃ k : Nat, k ≤ n ∧ x = .int .i64 (k : Int) ∧ Cells wr w9.heap.size 0 (fillTo (costsL rs) k) ∧ Below w9.heap.size w9 wr ∧ w9.heap.size < wr.heap.size) (fun x _ => n - (intOf x).toNat)
      case atStart => exact ⟨0, Nat.zero_le _, rfl, by rw [fillTo_zero, HCL.out]; exact Cells.made _ _ _, (Below.refl _ _).alloc (Nat.le_refl _) _, by simp⟩
      case round =>
        clear HMO
        obtain ⟨k, hk, rfl, hcs, hbl, hsz⟩ := hrel
        have HC := Lib.hid hcs; have HBW := Lib.hid hbl
        clear hcs hbl
        by_cases hkn : k < n
        · have hkn' : (k : Int) < (n : Int) := by omega
          have k0 : (0 : Int) ≤ (k : Int) := by omega
          have hkl : k < (costsL rs).length := by rw [HCL.out]; exact hkn
          obtain ⟨g1, g2⟩ := HLC.out k hkl
          have HL := Lib.hid (leastS_any A c rs.length (k : Int) rs wr ((H2.out.below HBW.out H2.out.2.1).toAll) HFT.out rfl (by have := HGT.out.2.1; omega) HGT.out.2.2 ⟨by omega, by omega⟩)
          rw [g1] at HL
          obtain ⟨y, hy⟩ : ∃ y, (costsL rs)[k] = y := ⟨_, rfl⟩
          rw [hy] at HL
          have HY := Lib.hid hy
          clear g1 g2 hy
          go_wp2_with fail
          refine HL.out.mono ?_
          rintro e w3 ⟨A3, c3, rfl, hi3, hb3⟩
          have hcs3 := cells_below HC.out hb3 hsz
          have hf := hcs3.fillAt hkl
          rw [Nat.zero_add] at hf
          obtain ⟨f1, f2⟩ := hf
          have hcn := hcs3.fill hkl
          rw [Nat.zero_add, HY.out] at hcn
          have HCN := Lib.hid hcn; have HB3 := Lib.hid (HBW.out.trans (hb3.mono HBW.out.size)); have HS3 := Lib.hid (Nat.lt_of_lt_of_le hsz hb3.size)
          have hrc := run_cheap0 y (comb (0, [], 0) (tryL rs (k : Int))).2.2 A3 (comb (0, [], 0) (tryL rs (k : Int))).2.1.length c3
          clear hb3 hi3 hcs3 hcn HL HC
          unfold cheapV
          go_wp2
          go_roundw
          case rel => exact ⟨k + 1, by omega, by go_num, HCN.out, HB3.out.setCell (p := ⟨w9.heap.size, k, none⟩) (Nat.le_refl _) _, by simpa [World.setCell] using HS3.out⟩
          case measure => simp [intOf]; omega
        · obtain rfl : k = n := by omega
          have hkn' : ¬ (k : Int) < (k : Int) := by omega
          have hfa := fillTo_all (costsL rs)
          have hcs := HC.out
          rw [← HCL.out, hfa] at hcs
          have HBT := Lib.hid (HB.out.trans (HBW.out.mono HB.out.size))
          obtain ⟨g1, g2, g3⟩ := given_true.1 HG.out
          have hz : ∀ z, z ∈ costsL rs → I64 z := fun z hz => by
            have h := (fold_facts HG.out rs.length (Nat.le_refl _)).1
            rw [foldTo_all] at h
            obtain ⟨j, hj, rfl⟩ := List.getElem_of_mem hz
            have := h j
            rw [getD_at hj] at this
            exact ⟨by omega, by omega⟩
          have hiw : IW wr w.heap.size wr.heap.size (some ⟨w9.heap.size, 0, none⟩) (costsL rs) := Cells.iw hcs HCL.out HB.out.size hsz (Nat.le_refl _) (by omega) hz
          have HIW := Lib.hid hiw
          clear hcs hfa hz hiw g1 g2 g3
          have hle := HCL.out
          cases hrow : rowB (costsL rs) with
          | false =>
            have HC := Lib.hid (checked_false (some ⟨w9.heap.size, 0, none⟩) k _ _ (costsL rs) wr HIW.out.toIR hrow)
            rw [HCL.out] at HC
            have HM2 : Hid (costsM rs = none) := by show _ = _; rw [HM.out]; unfold doneM; rw [hrow]; rfl
            clear hrow hle
            go_wp2_with fail
            refine HC.out.mono ?_
            rintro e w4 ⟨rfl, hb4⟩
            have HB4 := Lib.hid (HBT.out.trans (hb4.mono HBT.out.size))
            clear hb4
            go_wp2
            go_ret2
            rw [HM2.out]
            exact retSB_none HB4.out
          | true =>
            have HC := Lib.hid (checked_true (some ⟨w9.heap.size, 0, none⟩) k _ _ (costsL rs) wr HIW.out.toIR hrow)
            rw [HCL.out] at HC
            have HM2 : Hid (costsM rs = some (costsL rs)) := by show _ = _; rw [HM.out]; unfold doneM; rw [hrow]; rfl
            clear hrow hle
            go_wp2_with fail
            refine HC.out.mono ?_
            rintro e w4 ⟨rfl, hb4⟩
            have HB4 := Lib.hid (HBT.out.trans (hb4.mono HBT.out.size))
            have HI4 := Lib.hid ((HIW.out.below hb4 (Nat.le_refl _)).wide (Nat.le_refl _) hb4.size (Nat.le_refl _))
            clear hb4
            go_wp2
            go_ret2
            rw [HM2.out]
            exact retSB_some HCL.out.symm HI4.out HB4.out
end Go.Proofs.Ytclhbmmlkcbdkaa
