/-
  The law FnSplitLeast walked: for all codes it returns true, and nothing that lay before has turned. Conditions: none but those of its row.
-/
import Derived.Test.YtfkmnlhmldjieaaScE
import Derived.Test.YtfkmnlhmldjieaaDrawSp2
import Derived.Test.YtfkmnlhmldjieaaChgE
namespace Go.Proofs.Ytfkmnlhmldjieaa
open Go.RowKit

theorem row_rev8 {zs : List Int} (h : rowB zs = true) : rowB zs.reverse = true := by
  obtain ⟨h1, h2, h3⟩ := rowB_true.1 h
  exact rowB_true.2 ⟨fun z hz => h1 z (List.mem_reverse.1 hz), by rw [List.length_reverse]; exact h2, by rw [List.length_reverse]; exact h3⟩

set_option maxHeartbeats 1500000 in
set_option maxRecDepth 100000 in
theorem lawFnSplitLeast_any (A0 : Option Addr) (c0 : Nat) (bs : List Int) (w : World) (h0 : BR w w.heap.size A0 bs) (hc : bs.length ≤ c0) (hc2 : c0 ≤ 9000000000000000000) :
    Calls Try.prog 4 #[.slice A0 bs.length c0] w fun e w' => e = .returned (.bool true) ∧ Below w.heap.size w w' := by
  by_cases hbig : (1048576 : Int) < (bs.length : Int)
  · clear h0
    go_enter Try.func4, Try.ntmps4
    go_wp2
    go_ret
    exact ⟨rfl, Below.refl _ _⟩
  have H0 := Lib.hid h0
  clear h0
  have BB := Lib.hid (Below.refl w.heap.size w)
  go_enter Try.func4, Try.ntmps4
  go_wp2_with fail
  refine (DrawSplitLeast_any _ _ bs _ H0.out hc hc2).mono ?_
  rintro e w1 ⟨A, c, zs, s, k, rfl, ⟨hz, hcap⟩, -, hx, iw, bb⟩
  replace BB := Lib.hid (below_then BB.out (Nat.le_refl _) bb)
  have Z := Lib.hid iw.toAll
  clear bb
  clear iw
  have HCP := Lib.hid (show zs.length ≤ c ∧ c ≤ maxLen from ⟨hcap.1, by unfold maxLen; have := hcap.2; omega⟩)
  clear hcap
  have HX := Lib.hid hx
  clear hx
  cases hk : leastOkB zs s k with
  | false =>
    have HVT : Hid (splitLeastV zs s k = .tuple #[.int .i64 0, .bool false]) := Lib.hid (by unfold splitLeastV; rw [hk]; rfl)
    clear hk
    go_wp2_with fail
    refine (implSplitLeast_any _ _ zs s k HX.out _ Z.out.toAll HCP.out).mono ?_
    rintro e w2 ⟨rfl, bb⟩
    replace BB := Lib.hid (below_then BB.out (Nat.le_refl _) bb)
    replace Z := Lib.hid (Z.out.grow bb)
    clear bb
    rw [HVT.out]
    go_wp2_with fail
    refine (specSplitLeast_any _ _ zs s k HX.out _ Z.out.toAll).mono ?_
    rintro e w3 ⟨rfl, bb⟩
    replace BB := Lib.hid (below_then BB.out (Nat.le_refl _) bb)
    replace Z := Lib.hid (Z.out.grow bb)
    clear bb
    rw [HVT.out]
    go_wp2
    go_ret
    exact ⟨rfl, BB.out⟩
  | true =>
    obtain ⟨hg, hin⟩ := Bool.and_eq_true_iff.1 (show (givenS zs s && inB 1 (zs.length : Int) k) = true from hk)
    have hx1 := inB_true.1 hin
    obtain ⟨q1, q2, q3⟩ := split_least_law (a := zs) (sq := sqB s) (k := k.toNat) (by omega) (by omega)
    have hrow := given_row hg
    have HL12 := Lib.hid (rowB_true.1 hrow).2.2
    have HBM : Hid (backM zs = some zs.reverse) := Lib.hid (by unfold backM; rw [hrow]; rfl)
    have HVT : Hid (splitLeastV zs s k = .tuple #[.int .i64 (splitLeast zs (sqB s) k.toNat), .bool true]) := Lib.hid (by unfold splitLeastV; rw [hk]; rfl)
    have HVR : Hid (splitLeastV zs.reverse s k = .tuple #[.int .i64 (splitLeast zs (sqB s) k.toNat), .bool true]) := Lib.hid (by
      have hgr : givenS zs.reverse s = true := by
        unfold givenS at hg ⊢; rw [row_rev8 hrow]; exact (Bool.and_eq_true_iff.1 hg).2
      unfold splitLeastV leastOkB
      rw [hgr, List.length_reverse, hin, q1]; rfl)
    have HQ3 : Hid (s.toList = [119] → ¬ k < (zs.length : Int) → splitLeast zs (sqB s) k.toNat = 0) := Lib.hid fun e1 e2 => q3 (by unfold sqB; rw [e1]; rfl) (by omega)
    generalize splitLeast zs (sqB s) k.toNat = E at HVT HVR q2 HQ3
    have HRL : Hid (zs.reverse.length ≤ 12) := Lib.hid (by rw [List.length_reverse]; exact HL12.out)
    generalize zs.reverse = rs at HBM HVR HRL
    clear hk hg hin hx1 q1 q3 hrow
    go_wp2_with fail
    refine (implSplitLeast_any _ _ zs s k HX.out _ Z.out.toAll HCP.out).mono ?_
    rintro e w2 ⟨rfl, bb⟩
    replace BB := Lib.hid (below_then BB.out (Nat.le_refl _) bb)
    replace Z := Lib.hid (Z.out.grow bb)
    clear bb
    rw [HVT.out]
    go_wp2_with fail
    refine (specSplitLeast_any _ _ zs s k HX.out _ Z.out.toAll).mono ?_
    rintro e w3 ⟨rfl, bb⟩
    replace BB := Lib.hid (below_then BB.out (Nat.le_refl _) bb)
    replace Z := Lib.hid (Z.out.grow bb)
    clear bb
    rw [HVT.out]
    go_wp2_with fail
    refine (implRowBack_capE8 _ _ zs _ Z.out.toAll).mono ?_
    rintro e w4 ⟨A5, c5, rfl, hcap5, iw, bb⟩
    replace BB := Lib.hid (below_then BB.out (Nat.le_refl _) bb)
    replace Z := Lib.hid (Z.out.grow bb)
    have X := Lib.hid iw.toAll
    clear bb
    clear iw
    rw [HBM.out] at X
    rw [HBM.out]
    have e1 : (some rs).getD [] = rs := rfl
    rw [e1]
    replace X : Hid (IR w4 _ _ A5 rs) := X
    clear e1
    rw [HBM.out, Option.getD_some] at hcap5
    have HC5 := Lib.hid (show rs.length ≤ c5 ∧ c5 ≤ maxLen from ⟨Nat.le_of_eq hcap5, by have hl12 := HRL.out; unfold maxLen; omega⟩)
    clear hcap5
    go_wp2_with fail
    refine (implSplitLeast_any _ _ rs s k HX.out _ X.out.toAll HC5.out).mono ?_
    rintro e w5 ⟨rfl, bb⟩
    replace BB := Lib.hid (below_then BB.out (Nat.le_refl _) bb)
    replace Z := Lib.hid (Z.out.grow bb)
    replace X := Lib.hid (X.out.grow bb)
    clear bb
    rw [HVR.out]
    by_cases e1 : s.toList = [119]
    · by_cases e2 : k < (zs.length : Int)
      · skip
        have e1b : (s.toList != [119]) = false := by rw [e1]; rfl
        go_wp2
        go_ret
        exact ⟨rfl, BB.out⟩
      · skip
        have e3 := HQ3.out e1 (by omega)
        have e1b : (s.toList != [119]) = false := by rw [e1]; rfl
        have e2b : decide (k < (zs.length : Int)) = false := decide_eq_false e2
        subst e3
        go_wp2
        go_ret
        exact ⟨rfl, BB.out⟩
    · skip
      have e1b : (s.toList != [119]) = true := by simpa using e1
      go_wp2
      go_ret
      exact ⟨rfl, BB.out⟩
end Go.Proofs.Ytfkmnlhmldjieaa
