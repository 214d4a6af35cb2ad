/-
  The law FnSplitFirst walked: for all codes it returns true, and nothing that lay before has turned. Conditions: none but those of its row.
-/
import Derived.Test.YtfkmnlhmldjieaaScE
import Derived.Test.YtfkmnlhmldjieaaDrawSp2
import Derived.Test.YtfkmnlhmldjieaaSamE
namespace Go.Proofs.Ytfkmnlhmldjieaa
open Go.RowKit

set_option maxHeartbeats 1500000 in
set_option maxRecDepth 100000 in
theorem lawFnSplitFirst_any (A0 : Option Addr) (c0 : Nat) (bs : List Int) (w : World) (h0 : BR w w.heap.size A0 bs) (hc : bs.length ≤ c0) (hc2 : c0 ≤ 9000000000000000000) :
    Calls Try.prog 5 #[.slice A0 bs.length c0] w fun e w' => e = .returned (.bool true) ∧ Below w.heap.size w w' := by
  by_cases hbig : (1048576 : Int) < (bs.length : Int)
  · clear h0
    go_enter Try.func5, Try.ntmps5
    go_wp2
    go_ret
    exact ⟨rfl, Below.refl _ _⟩
  have H0 := Lib.hid h0
  clear h0
  have BB := Lib.hid (Below.refl w.heap.size w)
  go_enter Try.func5, Try.ntmps5
  go_wp2_with fail
  refine (DrawSplitFirst_any _ _ bs _ H0.out hc hc2).mono ?_
  rintro e w1 ⟨A, c, zs, s, k, rfl, ⟨hz, hcap⟩, -, hx, iw, bb⟩
  replace BB := Lib.hid (below_then BB.out (Nat.le_refl _) bb)
  have Z := Lib.hid iw.toAll
  clear bb
  clear iw
  have HCP := Lib.hid (show zs.length ≤ c ∧ c ≤ maxLen from ⟨hcap.1, by unfold maxLen; have := hcap.2; omega⟩)
  clear hcap
  have HX := Lib.hid hx
  clear hx
  go_wp2_with fail
  refine (implSplitFirst_any _ _ zs s k HX.out _ Z.out.toAll HCP.out).mono ?_
  rintro e w2 ⟨A2, c2, rfl, iw, bb⟩
  replace BB := Lib.hid (below_then BB.out (Nat.le_refl _) bb)
  replace Z := Lib.hid (Z.out.grow bb)
  have G := Lib.hid iw.toAll
  clear bb
  clear iw
  go_wp2_with fail
  refine (specSplitFirst_any _ _ zs s k HX.out _ Z.out.toAll).mono ?_
  rintro e w3 ⟨A3, c3, rfl, iw, bb⟩
  replace BB := Lib.hid (below_then BB.out (Nat.le_refl _) bb)
  replace Z := Lib.hid (Z.out.grow bb)
  replace G := Lib.hid (G.out.grow bb)
  have V := Lib.hid iw.toAll
  clear bb
  clear iw
  obtain ⟨o, hm⟩ : ∃ o, splitFirstM zs s k = o := ⟨_, rfl⟩
  rw [hm] at G V
  rw [hm]
  cases o with
  | none =>
    clear hm
    replace G : Hid (IR w3 _ _ A2 []) := G
    replace V : Hid (IR w3 _ _ A3 []) := V
    go_wp2_with fail
    refine (sameInts_b _ _ _ _ _ _ _ _ _ _ [] _ G.out V.out rfl rfl).mono ?_
    rintro e w4 ⟨rfl, bb⟩
    replace BB := Lib.hid (below_then BB.out (Nat.le_refl _) bb)
    replace G := Lib.hid (G.out.grow bb)
    replace V := Lib.hid (V.out.grow bb)
    clear bb
    go_wp2_with fail
    refine (sameInts_b _ _ _ _ _ _ _ _ _ _ [] _ G.out V.out rfl rfl).mono ?_
    rintro e w5 ⟨rfl, bb⟩
    replace BB := Lib.hid (below_then BB.out (Nat.le_refl _) bb)
    replace G := Lib.hid (G.out.grow bb)
    replace V := Lib.hid (V.out.grow bb)
    clear bb
    go_wp2
    go_ret
    exact ⟨rfl, BB.out⟩
  | some out =>
    have e1 : (some out).getD [] = out := rfl
    rw [e1]
    replace G : Hid (IR w3 _ _ A2 out) := G
    replace V : Hid (IR w3 _ _ A3 out) := V
    have HM := Lib.hid hm
    clear hm e1
    go_wp2_with fail
    refine (sameInts_b _ _ _ _ _ _ _ _ _ _ out _ G.out V.out rfl rfl).mono ?_
    rintro e w4 ⟨rfl, bb⟩
    replace BB := Lib.hid (below_then BB.out (Nat.le_refl _) bb)
    replace Z := Lib.hid (Z.out.grow bb)
    replace G := Lib.hid (G.out.grow bb)
    replace V := Lib.hid (V.out.grow bb)
    clear bb
    clear V
    have hk : leastOkB zs s k = true := by
      have := HM.out
      unfold splitFirstM at this
      split at this
      · assumption
      · cases this
    have hout : splitFirst zs (sqB s) k.toNat = out := by
      have := HM.out
      unfold splitFirstM at this
      rw [hk] at this
      injection this
    obtain ⟨hg, hin⟩ := Bool.and_eq_true_iff.1 (show (givenS zs s && inB 1 (zs.length : Int) k) = true from hk)
    have hx1 := inB_true.1 hin
    have hl := (rowB_true.1 (given_row hg)).2
    obtain ⟨q1, q2, q3, q4⟩ := split_first_law (a := zs) (sq := sqB s) (k := k.toNat) (by omega) (by omega)
    rw [hout] at q1 q2 q3 q4
    have HVC : Hid (splitCostV zs s out = .tuple #[.int .i64 (splitLeast zs (sqB s) k.toNat), .bool true]) := Lib.hid (by
      unfold splitCostV splitOkB; rw [hg, segOk_true.2 q1, ← q2]; rfl)
    have HVL : Hid (splitLeastV zs s k = .tuple #[.int .i64 (splitLeast zs (sqB s) k.toNat), .bool true]) := Lib.hid (by unfold splitLeastV; rw [hk]; rfl)
    generalize splitLeast zs (sqB s) k.toNat = E at HVC HVL
    have HLEN : Hid ((out.length : Int) = k ∧ out.length ≤ 12) := Lib.hid ⟨by omega, by omega⟩
    have HASC := Lib.hid q4
    clear hk hout hg hin hx1 hl q1 q2 q3 q4
    go_wp2_with fail
    refine (implSplitCost_any _ _ zs s _ _ out _ Z.out.toAll G.out.toAll HCP.out).mono ?_
    rintro e w5 ⟨rfl, bb⟩
    replace BB := Lib.hid (below_then BB.out (Nat.le_refl _) bb)
    replace Z := Lib.hid (Z.out.grow bb)
    replace G := Lib.hid (G.out.grow bb)
    clear bb
    rw [HVC.out]
    go_wp2_with fail
    refine (implSplitLeast_any _ _ zs s k HX.out _ Z.out.toAll HCP.out).mono ?_
    rintro e w6 ⟨rfl, bb⟩
    replace BB := Lib.hid (below_then BB.out (Nat.le_refl _) bb)
    replace Z := Lib.hid (Z.out.grow bb)
    replace G := Lib.hid (G.out.grow bb)
    clear bb
    rw [HVL.out]
    go_wp2
    go_loopw [14] (fun i wr => ∃ j : Nat, (j = 0 → out.length = 0) ∧ j ≤ out.length + 1 ∧ 1 ≤ j ∧ i = .int .i64 (j : Int) ∧ IR wr 0 wr.heap.size A2 out ∧ Below w.heap.size w wr) (fun i _ => out.length + 1 - (intOf i).toNat)
    case atStart => exact ⟨1, fun h => absurd h (by omega), by omega, Nat.le_refl _, rfl, G.out.toAll, BB.out⟩
    case round =>
      clear G Z BB
      obtain ⟨j, -, hj, hj1, rfl, hg, hb⟩ := hrel
      have G := Lib.hid hg; have BB := Lib.hid hb
      have hl12 := HLEN.out.2
      clear hg hb
      by_cases hlt : j < out.length
      · have hlt' : (j : Int) < (out.length : Int) := by omega
        obtain ⟨b, off, rfl, _, _, hc1⟩ := G.out.at_ hlt
        obtain ⟨b', o', e, _, _, hc2⟩ := G.out.at_ (k := j - 1) (by omega)
        injection e with e; injection e with e1 e2 _; subst e1; subst e2
        have has := HASC.out (j - 1) (by omega)
        rw [show j - 1 + 1 = j by omega, getD_in hlt, getD_in (by omega)] at has
        have s1 : IntKind.i64.wrap ((j : Int) - 1) = (j : Int) - 1 := IntWalk.i64_in _ (by omega)
        have s2 : IntKind.i64.wrap ((j : Int) + 1) = (j : Int) + 1 := IntWalk.i64_in _ (by omega)
        have z1 : ((j : Int) - 1).toNat = j - 1 := by omega
        have z2 : (0 : Int) ≤ (j : Int) - 1 := by omega
        have z3 : (j : Int) - 1 < (out.length : Int) := by omega
        have HLT := Lib.hid hlt
        generalize out[j] = x at hc1 has
        generalize out[j - 1] = y at hc2 has
        have hn : decide (x ≤ y) = false := decide_eq_false (by omega)
        have hn2 : ¬ x ≤ y := by omega
        clear hlt
        go_wp2
        go_quiet (fail)
        go_wp2
        go_roundw
        case rel => exact ⟨j + 1, fun h => absurd h (by omega), by have := HLT.out; omega, by omega, by go_num, G.out.drewN _, below_drawN BB.out _⟩
        case measure => have := HLT.out; simp [intOf]; omega
      · have hlt' : ¬ (j : Int) < (out.length : Int) := by omega
        have hlk := HLEN.out.1
        have hlkb : ((out.length : Int) == k) = true := by simpa using hlk
        clear hlk
        go_wp2
        go_ret
        exact ⟨rfl, BB.out⟩
end Go.Proofs.Ytfkmnlhmldjieaa
