/-
  The law FnSplitMany walked: for all codes it returns true, and nothing that lay before has turned. Conditions: none but those of its row.
-/
import Derived.Test.YtfkmnlhmldjieaaScC
import Derived.Test.YtfkmnlhmldjieaaDrawSp2
import Derived.Test.YtfkmnlhmldjieaaPart2
namespace Go.Proofs.Ytfkmnlhmldjieaa
open Go.RowKit

set_option maxHeartbeats 1500000 in
set_option maxRecDepth 100000 in
theorem lawFnSplitMany_any (A0 : Option Addr) (c0 : Nat) (bs : List Int) (w : World) (h0 : BR w w.heap.size A0 bs) (hc : bs.length ≤ c0) (hc2 : c0 ≤ 9000000000000000000) :
    Calls Try.prog 8 #[.slice A0 bs.length c0] w fun e w' => e = .returned (.bool true) ∧ Below w.heap.size w w' := by
  by_cases hbig : (1048576 : Int) < (bs.length : Int)
  · clear h0
    go_enter Try.func8, Try.ntmps8
    go_wp2
    go_ret
    exact ⟨rfl, Below.refl _ _⟩
  have H0 := Lib.hid h0
  clear h0
  have BB := Lib.hid (Below.refl w.heap.size w)
  go_enter Try.func8, Try.ntmps8
  go_wp2_with fail
  refine (DrawSplitMany_any _ _ bs _ H0.out hc hc2).mono ?_
  rintro e w1 ⟨A, c, zs, k, rfl, ⟨hz, hcap⟩, hx, iw, bb⟩
  replace BB := Lib.hid (below_then BB.out (Nat.le_refl _) bb)
  have Z := Lib.hid iw.toAll
  clear bb
  clear iw
  have HCP := Lib.hid hcap
  clear hcap
  have HX := Lib.hid hx
  clear hx
  cases hk : manyOkB zs k with
  | false =>
    have HVT : Hid (splitManyV zs k = .tuple #[.int .i64 0, .bool false]) := Lib.hid (by unfold splitManyV; rw [hk]; rfl)
    clear hk
    go_wp2_with fail
    refine (implSplitMany_any _ _ zs k HX.out _ Z.out.toAll).mono ?_
    rintro e w2 ⟨rfl, bb⟩
    replace BB := Lib.hid (below_then BB.out (Nat.le_refl _) bb)
    replace Z := Lib.hid (Z.out.grow bb)
    clear bb
    rw [HVT.out]
    go_wp2_with fail
    refine (specSplitMany_any _ _ zs k HX.out _ Z.out.toAll).mono ?_
    rintro e w3 ⟨rfl, bb⟩
    replace BB := Lib.hid (below_then BB.out (Nat.le_refl _) bb)
    replace Z := Lib.hid (Z.out.grow bb)
    clear bb
    rw [HVT.out]
    go_wp2
    go_ret
    exact ⟨rfl, BB.out⟩
  | true =>
    obtain ⟨hrow, hin⟩ := Bool.and_eq_true_iff.1 (show (rowB zs && inB 1 (zs.length : Int) k) = true from hk)
    have hx1 := inB_true.1 hin
    have hl := (rowB_true.1 hrow).2
    obtain ⟨m, hm⟩ : ∃ m : Nat, k = (m : Int) + 1 := ⟨(k - 1).toNat, by omega⟩
    have HVT : Hid (splitManyV zs k = .tuple #[.int .i64 (chooseN (zs.length - 1) m : Int), .bool true]) := Lib.hid (by
      unfold splitManyV; rw [hk, show k.toNat - 1 = m by omega]; rfl)
    have hb1 := choose_le (zs.length - 1) (by omega) m (by omega)
    by_cases k1 : k = 1
    · have hv : (chooseN (zs.length - 1) m : Int) = 1 := by rw [show m = 0 by omega, choose_zero]; rfl
      rw [hv] at HVT
      have k1b : (k == 1) = true := by simpa using k1
      clear hk hrow hin hx1 hl hm hb1 k1 hv
      go_wp2_with fail
      refine (implSplitMany_any _ _ zs k HX.out _ Z.out.toAll).mono ?_
      rintro e w2 ⟨rfl, bb⟩
      replace BB := Lib.hid (below_then BB.out (Nat.le_refl _) bb)
      replace Z := Lib.hid (Z.out.grow bb)
      clear bb
      rw [HVT.out]
      go_wp2_with fail
      refine (specSplitMany_any _ _ zs k HX.out _ Z.out.toAll).mono ?_
      rintro e w3 ⟨rfl, bb⟩
      replace BB := Lib.hid (below_then BB.out (Nat.le_refl _) bb)
      replace Z := Lib.hid (Z.out.grow bb)
      clear bb
      rw [HVT.out]
      go_wp2
      go_ret
      exact ⟨rfl, BB.out⟩
    · have k1b : (k == 1) = false := by rw [beq_eq_false_iff_ne]; exact k1
      by_cases k2 : k = (zs.length : Int)
      · have hv : (chooseN (zs.length - 1) m : Int) = 1 := by rw [show m = zs.length - 1 by omega, choose_self]; rfl
        rw [hv] at HVT
        have k2b : (k == (zs.length : Int)) = true := by simpa using k2
        clear hk hrow hin hx1 hl hm hb1 k1 k2 hv
        go_wp2_with fail
        refine (implSplitMany_any _ _ zs k HX.out _ Z.out.toAll).mono ?_
        rintro e w2 ⟨rfl, bb⟩
        replace BB := Lib.hid (below_then BB.out (Nat.le_refl _) bb)
        replace Z := Lib.hid (Z.out.grow bb)
        clear bb
        rw [HVT.out]
        go_wp2_with fail
        refine (specSplitMany_any _ _ zs k HX.out _ Z.out.toAll).mono ?_
        rintro e w3 ⟨rfl, bb⟩
        replace BB := Lib.hid (below_then BB.out (Nat.le_refl _) bb)
        replace Z := Lib.hid (Z.out.grow bb)
        clear bb
        rw [HVT.out]
        go_wp2
        go_ret
        exact ⟨rfl, BB.out⟩
      · have k2b : (k == (zs.length : Int)) = false := by rw [beq_eq_false_iff_ne]; exact k2
        have hpm : partM zs 1 ((zs.length : Int) - 1) = some (partL zs 1 (zs.length - 1)) := by
          unfold partM partOk
          rw [hrow, show inB 0 ((zs.length : Int) - 1) 1 = true from inB_true.2 ⟨by omega, by omega⟩, show inB 1 ((zs.length : Int) - 1) ((zs.length : Int) - 1) = true from inB_true.2 ⟨by omega, by omega⟩, if_pos (by rfl), show ((zs.length : Int) - 1).toNat = zs.length - 1 by omega]; rfl
        obtain ⟨-, -, -, -, -, prow, plen, -, -⟩ := partM_some hpm
        have HPM := Lib.hid hpm
        generalize partL zs 1 (zs.length - 1) = b at prow plen HPM
        have law := split_many_law (n := zs.length) (k := m + 1) (by omega) (by omega)
        have HB1 : Hid (splitManyV b k = .tuple #[.int .i64 (chooseN (zs.length - 2) m : Int), .bool true]) := Lib.hid (by
          unfold splitManyV manyOkB
          rw [prow, show inB 1 (b.length : Int) k = true from inB_true.2 ⟨by omega, by omega⟩, show b.length - 1 = zs.length - 2 by omega, show k.toNat - 1 = m by omega]; rfl)
        have HB2 : Hid (splitManyV b (k - 1) = .tuple #[.int .i64 (chooseN (zs.length - 2) (m - 1) : Int), .bool true]) := Lib.hid (by
          unfold splitManyV manyOkB
          rw [prow, show inB 1 (b.length : Int) (k - 1) = true from inB_true.2 ⟨by omega, by omega⟩, show b.length - 1 = zs.length - 2 by omega, show (k - 1).toNat - 1 = m - 1 by omega]; rfl)
        have hb2 := choose_le (zs.length - 2) (by omega) m (by omega)
        have hb3 := choose_le (zs.length - 2) (by omega) (m - 1) (by omega)
        rw [show m + 1 - 1 = m by omega, show m + 1 - 2 = m - 1 by omega] at law
        generalize chooseN (zs.length - 1) m = u at HVT law hb1
        generalize chooseN (zs.length - 2) m = v at HB1 law hb2
        generalize chooseN (zs.length - 2) (m - 1) = y at HB2 law hb3
        have s1 : IntKind.i64.wrap ((v : Int) + (y : Int)) = (u : Int) := by rw [IntWalk.i64_in _ (by omega)]; omega
        have s2 : IntKind.i64.wrap (k - 1) = k - 1 := IntWalk.i64_in _ (by omega)
        have s3 : IntKind.i64.wrap ((zs.length : Int) - 1) = (zs.length : Int) - 1 := IntWalk.i64_in _ (by omega)
        have HX2 : Hid (I64 (k - 1)) := ⟨by omega, by omega⟩
        clear hk hrow hin hx1 hl hm hb1 hb2 hb3 law k1 k2 hpm prow plen
        go_wp2_with fail
        refine (implSplitMany_any _ _ zs k HX.out _ Z.out.toAll).mono ?_
        rintro e w2 ⟨rfl, bb⟩
        replace BB := Lib.hid (below_then BB.out (Nat.le_refl _) bb)
        replace Z := Lib.hid (Z.out.grow bb)
        clear bb
        rw [HVT.out]
        go_wp2_with fail
        refine (specSplitMany_any _ _ zs k HX.out _ Z.out.toAll).mono ?_
        rintro e w3 ⟨rfl, bb⟩
        replace BB := Lib.hid (below_then BB.out (Nat.le_refl _) bb)
        replace Z := Lib.hid (Z.out.grow bb)
        clear bb
        rw [HVT.out]
        go_wp2_with fail
        refine (implRowPart_any _ _ zs 1 ((zs.length : Int) - 1) _ Z.out.toAll HCP.out.1 HCP.out.2).mono ?_
        rintro e w4 ⟨A5, c5, rfl, iw, bb⟩
        replace BB := Lib.hid (below_then BB.out (Nat.le_refl _) bb)
        replace Z := Lib.hid (Z.out.grow bb)
        have X := Lib.hid iw.toAll
        clear bb
        clear iw
        rw [HPM.out] at X
        rw [HPM.out]
        have e1 : (some b).getD [] = b := rfl
        rw [e1]
        replace X : Hid (IR w4 _ _ A5 b) := X
        clear e1
        go_wp2_with fail
        refine (implSplitMany_any _ _ b k HX.out _ X.out.toAll).mono ?_
        rintro e w5 ⟨rfl, bb⟩
        replace BB := Lib.hid (below_then BB.out (Nat.le_refl _) bb)
        replace Z := Lib.hid (Z.out.grow bb)
        replace X := Lib.hid (X.out.grow bb)
        clear bb
        rw [HB1.out]
        go_wp2_with fail
        refine (implSplitMany_any _ _ b (k - 1) HX2.out _ X.out.toAll).mono ?_
        rintro e w6 ⟨rfl, bb⟩
        replace BB := Lib.hid (below_then BB.out (Nat.le_refl _) bb)
        replace Z := Lib.hid (Z.out.grow bb)
        replace X := Lib.hid (X.out.grow bb)
        clear bb
        rw [HB2.out]
        go_wp2
        go_ret
        exact ⟨rfl, BB.out⟩
end Go.Proofs.Ytfkmnlhmldjieaa
