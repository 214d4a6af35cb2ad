/-
  The law FnSplitCost walked: for all codes it returns true, and nothing that lay before has turned. Conditions: none but those of its row.
-/
import Derived.Test.YtfkmnlhmldjieaaScE
import Derived.Test.YtfkmnlhmldjieaaDrawSp2
namespace Go.Proofs.Ytfkmnlhmldjieaa
open Go.RowKit

set_option maxHeartbeats 1500000 in
set_option maxRecDepth 100000 in
theorem lawFnSplitCost_any (A0 : Option Addr) (c0 : Nat) (bs : List Int) (w : World) (h0 : BR w w.heap.size A0 bs) (hc : bs.length ≤ c0) (hc2 : c0 ≤ 9000000000000000000) :
    Calls Try.prog 3 #[.slice A0 bs.length c0] w fun e w' => e = .returned (.bool true) ∧ Below w.heap.size w w' := by
  by_cases hbig : (1048576 : Int) < (bs.length : Int)
  · clear h0
    go_enter Try.func3, Try.ntmps3
    go_wp2
    go_ret
    exact ⟨rfl, Below.refl _ _⟩
  have H0 := Lib.hid h0
  clear h0
  have BB := Lib.hid (Below.refl w.heap.size w)
  go_enter Try.func3, Try.ntmps3
  go_wp2_with fail
  refine (DrawSplitCost_any _ _ bs _ H0.out hc hc2).mono ?_
  rintro e w1 ⟨A, c, zs, s, A1, c1, ys, rfl, ⟨hz, hcap⟩, -, hy, iw, iw2, bb⟩
  replace BB := Lib.hid (below_then BB.out (Nat.le_refl _) bb)
  have Z := Lib.hid iw.toAll
  have Y := Lib.hid iw2.toAll
  clear bb
  clear iw iw2
  have HCP := Lib.hid (show zs.length ≤ c ∧ c ≤ maxLen from ⟨hcap.1, by unfold maxLen; have := hcap.2; omega⟩)
  clear hcap
  cases hk : splitOkB zs s ys with
  | false =>
    have HVT : Hid (splitCostV zs s ys = .tuple #[.int .i64 0, .bool false]) := Lib.hid (by unfold splitCostV; rw [hk]; rfl)
    clear hk
    go_wp2_with fail
    refine (implSplitCost_any _ _ zs s _ _ ys _ Z.out.toAll Y.out.toAll HCP.out).mono ?_
    rintro e w2 ⟨rfl, bb⟩
    replace BB := Lib.hid (below_then BB.out (Nat.le_refl _) bb)
    replace Z := Lib.hid (Z.out.grow bb)
    replace Y := Lib.hid (Y.out.grow bb)
    clear bb
    rw [HVT.out]
    go_wp2_with fail
    refine (specSplitCost_any _ _ zs s _ _ ys _ Z.out.toAll Y.out.toAll).mono ?_
    rintro e w3 ⟨rfl, bb⟩
    replace BB := Lib.hid (below_then BB.out (Nat.le_refl _) bb)
    replace Z := Lib.hid (Z.out.grow bb)
    replace Y := Lib.hid (Y.out.grow bb)
    clear bb
    rw [HVT.out]
    go_wp2
    go_ret
    exact ⟨rfl, BB.out⟩
  | true =>
    obtain ⟨hg, hsg⟩ := Bool.and_eq_true_iff.1 (show (givenS zs s && segOk 0 ys (zs.length : Int)) = true from hk)
    have hl := (rowB_true.1 (given_row hg)).2
    obtain ⟨q1, q2, q3⟩ := split_cost_law (sq := sqB s) (by omega) (segOk_true.1 hsg)
    have HVT : Hid (splitCostV zs s ys = .tuple #[.int .i64 (splitCost zs (sqB s) ys), .bool true]) := Lib.hid (by unfold splitCostV; rw [hk]; rfl)
    have HVL : Hid (splitLeastV zs s (ys.length : Int) = .tuple #[.int .i64 (splitLeast zs (sqB s) ys.length), .bool true]) := Lib.hid (by
      unfold splitLeastV leastOkB; rw [hg, show inB 1 (zs.length : Int) (ys.length : Int) = true from inB_true.2 ⟨by omega, by omega⟩, Int.toNat_natCast]; rfl)
    have HXX : Hid (I64 (ys.length : Int)) := ⟨by omega, by omega⟩
    generalize splitCost zs (sqB s) ys = C at HVT q3
    generalize splitLeast zs (sqB s) ys.length = E at HVL q3
    clear hk hg hsg hl q1 q2
    go_wp2_with fail
    refine (implSplitCost_any _ _ zs s _ _ ys _ Z.out.toAll Y.out.toAll HCP.out).mono ?_
    rintro e w2 ⟨rfl, bb⟩
    replace BB := Lib.hid (below_then BB.out (Nat.le_refl _) bb)
    replace Z := Lib.hid (Z.out.grow bb)
    replace Y := Lib.hid (Y.out.grow bb)
    clear bb
    rw [HVT.out]
    go_wp2_with fail
    refine (specSplitCost_any _ _ zs s _ _ ys _ Z.out.toAll Y.out.toAll).mono ?_
    rintro e w3 ⟨rfl, bb⟩
    replace BB := Lib.hid (below_then BB.out (Nat.le_refl _) bb)
    replace Z := Lib.hid (Z.out.grow bb)
    replace Y := Lib.hid (Y.out.grow bb)
    clear bb
    rw [HVT.out]
    go_wp2_with fail
    refine (implSplitLeast_any _ _ zs s (ys.length : Int) HXX.out _ Z.out.toAll HCP.out).mono ?_
    rintro e w4 ⟨rfl, bb⟩
    replace BB := Lib.hid (below_then BB.out (Nat.le_refl _) bb)
    replace Z := Lib.hid (Z.out.grow bb)
    replace Y := Lib.hid (Y.out.grow bb)
    clear bb
    rw [HVL.out]
    go_wp2
    go_ret
    exact ⟨rfl, BB.out⟩
end Go.Proofs.Ytfkmnlhmldjieaa
