/-
  The law FnBackAll walked: for all codes it returns true, and nothing that lay before has turned. Conditions: none but those of its row.
-/
import Derived.Test.YtlgagdplnpeklaaDrawOne
import Derived.Test.YtlgagdplnpeklaaSame
import Derived.Test.YtlgagdplnpeklaaMath
import Derived.Test.YtlgagdplnpeklaaLnM
import Derived.Test.YtlgagdplnpeklaaDrawBack
namespace Go.Proofs.Ytlgagdplnpeklaa
open Go.RowKit

set_option maxHeartbeats 4000000 in
set_option maxRecDepth 100000 in
theorem lawFnBackAll_any (A0 : Option Addr) (c0 : Nat) (bs : List Int) (w : World) (h0 : BR w w.heap.size A0 bs) (hc : bs.length ≤ c0) (hc2 : c0 ≤ 9000000000000000000) :
    Calls Try.prog 11 #[.slice A0 bs.length c0] w fun e w' => e = .returned (.bool true) ∧ Below w.heap.size w w' := by
  by_cases hbig : (1048576 : Int) < (bs.length : Int)
  · clear h0
    go_enter Try.func11, Try.ntmps11
    go_wp2
    go_ret
    exact ⟨rfl, Below.refl _ _⟩
  have H0 := Lib.hid h0
  clear h0
  have BB := Lib.hid (Below.refl w.heap.size w)
  go_enter Try.func11, Try.ntmps11
  go_wp2_with fail
  refine (DrawLineBack_any _ _ bs _ H0.out hc hc2).mono ?_
  rintro e w1 ⟨n, f, A, c, fs, rfl, iw, bb⟩
  replace BB := Lib.hid (below_then BB.out (Nat.le_refl _) bb)
  have Z := Lib.hid iw.toAll
  clear bb
  clear iw
  go_wp2_with fail
  refine (implLineBack_any n f _ _ fs _ Z.out.toAll).mono ?_
  rintro e w2 ⟨A2, c2, rfl, iw, bb⟩
  replace BB := Lib.hid (below_then BB.out (Nat.le_refl _) bb)
  replace Z := Lib.hid (Z.out.grow bb)
  have G := Lib.hid iw.toAll
  clear bb
  clear iw
  go_wp2_with fail
  refine (specLineBack_any n f _ _ fs _ Z.out.toAll).mono ?_
  rintro e w3 ⟨A3, c3, rfl, iw, bb⟩
  replace BB := Lib.hid (below_then BB.out (Nat.le_refl _) bb)
  replace Z := Lib.hid (Z.out.grow bb)
  replace G := Lib.hid (G.out.grow bb)
  have V := Lib.hid iw.toAll
  clear bb
  clear iw
  obtain ⟨o, hm⟩ : ∃ o, lineBackM n f fs = o := ⟨_, rfl⟩
  rw [hm] at G V
  rw [hm]
  cases o with
  | none =>
    clear hm
    replace G : Hid (IR w3 _ _ A2 []) := G
    replace V : Hid (IR w3 _ _ A3 []) := V
    go_wp2_with fail
    refine (sameInts_b _ _ _ _ _ _ _ _ _ _ [] _ G.out V.out rfl rfl).mono ?_
    rintro e w4 ⟨rfl, bb⟩
    replace BB := Lib.hid (below_then BB.out (Nat.le_refl _) bb)
    replace G := Lib.hid (G.out.grow bb)
    replace V := Lib.hid (V.out.grow bb)
    clear bb
    go_wp2_with fail
    refine (sameInts_b _ _ _ _ _ _ _ _ _ _ [] _ G.out V.out rfl rfl).mono ?_
    rintro e w5 ⟨rfl, bb⟩
    replace BB := Lib.hid (below_then BB.out (Nat.le_refl _) bb)
    replace G := Lib.hid (G.out.grow bb)
    replace V := Lib.hid (V.out.grow bb)
    clear bb
    go_wp2
    go_ret
    exact ⟨rfl, BB.out⟩
  | some out =>
    have e1 : (some out).getD [] = out := rfl
    rw [e1]
    replace G : Hid (IR w3 _ _ A2 out) := G
    replace V : Hid (IR w3 _ _ A3 out) := V
    have HM := Lib.hid hm
    clear hm e1
    go_wp2_with fail
    refine (sameInts_b _ _ _ _ _ _ _ _ _ _ out _ G.out V.out rfl rfl).mono ?_
    rintro e w4 ⟨rfl, bb⟩
    replace BB := Lib.hid (below_then BB.out (Nat.le_refl _) bb)
    replace Z := Lib.hid (Z.out.grow bb)
    replace G := Lib.hid (G.out.grow bb)
    replace V := Lib.hid (V.out.grow bb)
    clear bb
    clear V
    obtain ⟨⟨n1, n2⟩, ⟨f1, f2⟩, ⟨l1, l2⟩, hfs, ho, hro⟩ := lineBackM_some HM.out
    have HFS := Lib.hid hfs
    obtain ⟨m, hm⟩ : ∃ m, fs.length = m := ⟨_, rfl⟩
    rw [hm] at l1 l2
    have L1 := Lib.hid hm
    have HB : Hid ((rowB out && bentB out) = true) := by show _ = _; rw [hro, ho, back_bent _ _ _ (by omega)]; rfl
    have HN : Hid ((out.length : Int) = n) := by show _ = _; rw [ho, back_len]; omega
    have HF : Hid (∀ j : Nat, j < m → lineFallM out (f + (j : Int)) = some (fallL out (f + (j : Int))) ∧ fallL out (f + (j : Int)) ≤ fs.getD j 0) := by
      intro j hj
      refine ⟨fallM_row hro (by omega) (by omega), ?_⟩
      rw [ho]
      exact back_fall n.toNat f fs (by omega) j (by omega)
    clear HM hfs ho hro hm
    rw [L1.out]
    go_wp2
    go_loopw [10] (fun i wr => ∃ j : Nat, j ≤ m ∧ i = .int .i64 j ∧ (IR wr 0 wr.heap.size A fs ∧ IR wr 0 wr.heap.size A2 out) ∧ Below w.heap.size w wr) (fun i _ => m - (intOf i).toNat)
    case atStart => exact ⟨0, Nat.zero_le _, rfl, ⟨Z.out.toAll, G.out.toAll⟩, BB.out⟩
    case round =>
      clear Z G BB
      obtain ⟨j, hj, rfl, ⟨hz1, hz2⟩, hbb⟩ := hrel
      have Z := Lib.hid hz1; have G := Lib.hid hz2; have BB := Lib.hid hbb
      clear hz1 hz2 hbb
      by_cases hlt : j < m
      · obtain ⟨g1, g2⟩ := HF.out j hlt
        obtain ⟨x, hx⟩ : ∃ x, fallL out (f + (j : Int)) = x := ⟨_, rfl⟩
        rw [hx] at g1 g2
        have G1 := Lib.hid g1
        clear g1 hx
        go_wp2_with fail
        refine (implFall_of _ _ _ _ out _ _ G.out G1.out rfl).mono ?_
        rintro e w5 ⟨rfl, bb⟩
        replace BB := Lib.hid (below_then BB.out (Nat.le_refl _) bb)
        replace Z := Lib.hid (Z.out.grow bb)
        replace G := Lib.hid (G.out.grow bb)
        clear bb
        have hjl : j < fs.length := by rw [L1.out]; exact hlt
        obtain ⟨b0, off, rfl, _, _, hcj⟩ := Z.out.at_ hjl
        rw [getD_in hjl] at g2
        have hlt' : (j : Int) < (m : Int) := by omega
        have hng : ¬ fs[j] < x := by omega
        go_wp2
        go_roundw
        case rel => exact ⟨j + 1, by omega, by go_num, ⟨Z.out.toAll, G.out.toAll⟩, BB.out⟩
        case measure => simp [intOf]; omega
      · obtain rfl : j = m := by omega
        go_wp2_with fail
        refine (implBent_of _ _ _ _ out _ G.out HB.out rfl).mono ?_
        rintro e w5 ⟨rfl, bb⟩
        replace BB := Lib.hid (below_then BB.out (Nat.le_refl _) bb)
        replace Z := Lib.hid (Z.out.grow bb)
        replace G := Lib.hid (G.out.grow bb)
        clear bb
        have hq := HN.out
        go_wp2
        go_ret
        exact ⟨rfl, BB.out⟩
end Go.Proofs.Ytlgagdplnpeklaa
