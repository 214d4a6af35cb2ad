/-
  ShareTry and ShareAll of the program. Conditions: the rows' cells are there.
-/
import Derived.Test.YtclhbmmlkcbdkaaSg2
namespace Go.Proofs.Ytclhbmmlkcbdkaa
open Go.RowKit

set_option maxRecDepth 100000 in
theorem run_cheap (c q : Int) (A : Option Addr) (n k : Nat) (W : World) : (Instr.field 76 (.agg #[.int .i64 c, .slice A n k, .int .i64 q]) 2).run Try.prog W = .ok (.int .i64 q) W := by kernel_rfl
set_option maxRecDepth 100000 in
theorem run_cheap0 (c q : Int) (A : Option Addr) (n k : Nat) (W : World) : (Instr.field 76 (.agg #[.int .i64 c, .slice A n k, .int .i64 q]) 0).run Try.prog W = .ok (.int .i64 c) W := by kernel_rfl
set_option maxRecDepth 100000 in
set_option maxHeartbeats 1000000 in
theorem implShareAll_any (A : Option Addr) (c : Nat) (rs : List (List Int)) (n : Int) (w : World) (h : IRR w 0 w.heap.size A rs) :
    Calls Try.prog 41 #[.slice A rs.length c, .int .i64 n] w (RetIB w (shareOk rs n) (shareAllL rs n)) := by
  have H := Lib.hid h
  clear h
  go_enter Try.func41, Try.ntmps41
  cases hg : shareOk rs n with
  | false =>
    have HM := Lib.hid (share_not hg)
    have HG := Lib.hid hg
    clear hg
    go_wp2_with fail
    refine (canShare_of H.out HG.out rfl).mono ?_
    rintro e w1 ⟨rfl, hb⟩
    have HB := Lib.hid hb
    clear hb
    go_wp2
    go_ret2
    rw [HM.out.2.2]
    exact ⟨rfl, HB.out⟩
  | true =>
    have HM := Lib.hid (share_yes hg)
    have HG := Lib.hid hg
    obtain ⟨f1, f2, f3, f4⟩ := share_facts hg
    have HF := Lib.hid f1; have HFD := Lib.hid (share_found hg)
    clear hg f1
    go_wp2_with fail
    refine (canShare_of H.out HG.out rfl).mono ?_
    rintro e w1 ⟨rfl, hb⟩
    have HB := Lib.hid hb
    have HL := Lib.hid (leastS_any A c rs.length n rs w1 (H.out.grow hb).toAll HF.out rfl f2 f3 f4)
    rw [HFD.out] at HL
    clear hb
    go_wp2_with fail
    refine HL.out.mono ?_
    rintro e w2 ⟨A2, c2, rfl, hi2, hb2⟩
    have HB2 := Lib.hid hb2
    clear hb2 hi2
    unfold cheapV
    have hrc := run_cheap (tryL rs n).1 (tryL rs n).2.2 A2 (tryL rs n).2.1.length c2
    go_wp2
    go_ret2
    rw [HM.out.2.2]
    exact ⟨rfl, HB.out.trans (HB2.out.mono HB.out.size)⟩

set_option maxRecDepth 100000 in
set_option maxHeartbeats 1000000 in
theorem implShareTry_any (A : Option Addr) (c : Nat) (rs : List (List Int)) (n : Int) (w : World) (h : IRR w 0 w.heap.size A rs) :
    Calls Try.prog 29 #[.slice A rs.length c, .int .i64 n] w (RetCL w (shareC rs n) (shareM rs n)) := by
  have H := Lib.hid h
  clear h
  go_enter Try.func29, Try.ntmps29
  cases hg : shareOk rs n with
  | false =>
    have HM := Lib.hid (share_not hg)
    have HG := Lib.hid hg
    clear hg
    go_wp2_with fail
    refine (canShare_of H.out HG.out rfl).mono ?_
    rintro e w1 ⟨rfl, hb⟩
    have HB := Lib.hid hb
    clear hb
    go_wp2
    go_ret3
    rw [HM.out.1, HM.out.2.1]
    exact retCL_none HB.out
  | true =>
    have HM := Lib.hid (share_yes hg)
    have HG := Lib.hid hg
    obtain ⟨f1, f2, f3, f4⟩ := share_facts hg
    have HF := Lib.hid f1; have HFD := Lib.hid (share_found hg)
    clear hg f1
    go_wp2_with fail
    refine (canShare_of H.out HG.out rfl).mono ?_
    rintro e w1 ⟨rfl, hb⟩
    have HB := Lib.hid hb
    have HL := Lib.hid (leastS_any A c rs.length n rs w1 (H.out.grow hb).toAll HF.out rfl f2 f3 f4)
    rw [HFD.out] at HL
    clear hb
    go_wp2_with fail
    refine HL.out.mono ?_
    rintro e w2 ⟨A2, c2, rfl, hi2, hb2⟩
    have HI2 := Lib.hid hi2
    have bN := BX.new w2 76 (cheapV 0 none 0 0 0)
    have bP := bN.put (cheapV (tryL rs n).1 A2 (tryL rs n).2.1.length c2 (tryL rs n).2.2)
    have p0 := bP.cell 0; have p1 := bP.cell 1
    have HB2 := Lib.hid (below_setRow ((HB.out.trans (hb2.mono HB.out.size)).alloc (Nat.le_trans HB.out.size hb2.size) (.cells (cheapV 0 none 0 0 0) 76)) (Nat.le_trans HB.out.size hb2.size) (cheapV (tryL rs n).1 A2 (tryL rs n).2.1.length c2 (tryL rs n).2.2))
    have HI3 : Hid (IW ((w2.alloc (.cells (cheapV 0 none 0 0 0) 76)).setRow w2.heap.size (cheapV (tryL rs n).1 A2 (tryL rs n).2.1.length c2 (tryL rs n).2.2)) w.heap.size ((w2.alloc (.cells (cheapV 0 none 0 0 0) 76)).setRow w2.heap.size (cheapV (tryL rs n).1 A2 (tryL rs n).2.1.length c2 (tryL rs n).2.2)).heap.size A2 (tryL rs n).2.1) := by
      have hs := HB.out.size
      exact (IW.below (C := w2.heap.size) HI2.out (below_setRow ((Below.refl _ w2).alloc (Nat.le_refl _) _) (Nat.le_refl _) _) (Nat.le_refl _)).wide hs (by simp [World.setRow]) (Nat.le_refl _)
    obtain ⟨W3, hW3⟩ : ∃ W3, (w2.alloc (.cells (cheapV 0 none 0 0 0) 76)).setRow w2.heap.size (cheapV (tryL rs n).1 A2 (tryL rs n).2.1.length c2 (tryL rs n).2.2) = W3 := ⟨_, rfl⟩
    rw [hW3] at p0 p1 HB2 HI3
    replace p0 : W3.cell? ⟨w2.heap.size, 0, none⟩ = some (.int .i64 (tryL rs n).1) := p0
    replace p1 : W3.cell? ⟨w2.heap.size, 1, none⟩ = some (.slice A2 (tryL rs n).2.1.length c2) := p1
    have HW3 := Lib.hid hW3
    clear hb2 hi2 HL bP hW3
    go_wp2_with (first | (refine wpList_alX rfl rfl zeroT_cheap ?_) | (refine wpList_stX rfl _ _ rfl rfl rfl bN rowT_cheap (cheapV_size _ _ _ _ _) (cheapV_size _ _ _ _ _) (cheapV_one _ _ _ _ _) ?_))
    rw [HW3.out]
    clear HW3 bN
    go_quiet (fail)
    go_wp2
    go_ret3
    rw [HM.out.1, HM.out.2.1]
    exact ⟨A2, c2, rfl, HI3.out.drewN _, below_drawN HB2.out _⟩
end Go.Proofs.Ytclhbmmlkcbdkaa
