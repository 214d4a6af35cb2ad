/-
  The law FnLow walked: for all codes it returns true, and nothing that lay before has turned. Conditions: none but those of its row.
-/
import Derived.Test.YtbelelfoabmebaaDrawTwo
import Derived.Test.YtbelelfoabmebaaSame
import Derived.Test.YtbelelfoabmebaaMath
import Derived.Test.YtbelelfoabmebaaImp3
import Derived.Test.YtbelelfoabmebaaSp2
namespace Go.Proofs.Ytbelelfoabmebaa
open Go.RowKit

set_option maxHeartbeats 1000000 in
theorem DrawRowLow_any (A : Option Addr) (c : Nat) (bs : List Int) (w : World) (h : BR w w.heap.size A bs) (hc : bs.length ≤ c) (hc2 : c ≤ 9000000000000000000) :
    Calls Try.prog 39 #[.slice A bs.length c] w (TwoPost w 9) := by
  have H := Lib.hid h
  clear h
  go_enter Try.func39, Try.ntmps39
  go_wp2_with fail
  refine (l91Two_any A c bs _ H.out hc hc2).mono ?_
  rintro e w1 ⟨A1, c1, zs, A2, c2, zs2, rfl, hz, hz2, hi, hi2, hb⟩
  have I0 := Lib.hid hi; have J0 := Lib.hid hi2; have B0 := Lib.hid hb
  clear hi hi2 hb
  go_wp2
  go_ret2
  exact ⟨A1, c1, zs, A2, c2, zs2, rfl, hz, hz2, I0.out, J0.out, B0.out⟩

set_option maxHeartbeats 4000000 in
set_option maxRecDepth 100000 in
theorem lawFnLow_any (A0 : Option Addr) (c0 : Nat) (bs : List Int) (w : World) (h0 : BR w w.heap.size A0 bs) (hc : bs.length ≤ c0) (hc2 : c0 ≤ 9000000000000000000) :
    Calls Try.prog 10 #[.slice A0 bs.length c0] w fun e w' => e = .returned (.bool true) ∧ Below w.heap.size w w' := by
  by_cases hbig : (1048576 : Int) < (bs.length : Int)
  · clear h0
    go_enter Try.func10, Try.ntmps10
    go_wp2
    go_ret
    exact ⟨rfl, Below.refl _ _⟩
  have H0 := Lib.hid h0
  clear h0
  have BB := Lib.hid (Below.refl w.heap.size w)
  go_enter Try.func10, Try.ntmps10
  go_wp2_with fail
  refine (DrawRowLow_any _ _ bs _ H0.out hc hc2).mono ?_
  rintro e w1 ⟨A, c, za, B, d, zb, rfl, hza, hzb, iwa, iwb, bb⟩
  replace BB := Lib.hid (below_then BB.out (Nat.le_refl _) bb)
  have ZA := Lib.hid iwa.toAll
  have ZB := Lib.hid iwb.toAll
  clear bb
  clear iwa iwb hza hzb
  go_wp2_with fail
  refine (implRowLow_any _ _ za _ _ zb _ ZA.out.toAll ZB.out.toAll).mono ?_
  rintro e w2 ⟨A2, c2, rfl, iw, bb⟩
  replace BB := Lib.hid (below_then BB.out (Nat.le_refl _) bb)
  replace ZA := Lib.hid (ZA.out.grow bb)
  replace ZB := Lib.hid (ZB.out.grow bb)
  have G := Lib.hid iw.toAll
  clear bb
  clear iw
  go_wp2_with fail
  refine (specRowLow_any _ _ za _ _ zb _ ZA.out.toAll ZB.out.toAll).mono ?_
  rintro e w3 ⟨A3, c3, rfl, iw, bb⟩
  replace BB := Lib.hid (below_then BB.out (Nat.le_refl _) bb)
  replace ZA := Lib.hid (ZA.out.grow bb)
  replace ZB := Lib.hid (ZB.out.grow bb)
  replace G := Lib.hid (G.out.grow bb)
  have V := Lib.hid iw.toAll
  clear bb
  clear iw
  obtain ⟨o, hm⟩ : ∃ o, lowM za zb = o := ⟨_, rfl⟩
  rw [hm] at G V
  rw [hm]
  cases o with
  | none =>
    clear hm
    replace G : Hid (IR w3 _ _ A2 []) := G
    replace V : Hid (IR w3 _ _ A3 []) := V
    go_wp2_with fail
    refine (sameInts_b _ _ _ _ _ _ _ _ _ _ [] _ G.out V.out rfl rfl).mono ?_
    rintro e w4 ⟨rfl, bb⟩
    replace BB := Lib.hid (below_then BB.out (Nat.le_refl _) bb)
    replace G := Lib.hid (G.out.grow bb)
    replace V := Lib.hid (V.out.grow bb)
    clear bb
    go_wp2_with fail
    refine (sameInts_b _ _ _ _ _ _ _ _ _ _ [] _ G.out V.out rfl rfl).mono ?_
    rintro e w5 ⟨rfl, bb⟩
    replace BB := Lib.hid (below_then BB.out (Nat.le_refl _) bb)
    replace G := Lib.hid (G.out.grow bb)
    replace V := Lib.hid (V.out.grow bb)
    clear bb
    go_wp2
    go_ret
    exact ⟨rfl, BB.out⟩
  | some out =>
    have e1 : (some out).getD [] = out := rfl
    rw [e1]
    replace G : Hid (IR w3 _ _ A2 out) := G
    replace V : Hid (IR w3 _ _ A3 out) := V
    have HM := Lib.hid hm
    clear hm e1
    go_wp2_with fail
    refine (sameInts_b _ _ _ _ _ _ _ _ _ _ out _ G.out V.out rfl rfl).mono ?_
    rintro e w4 ⟨rfl, bb⟩
    replace BB := Lib.hid (below_then BB.out (Nat.le_refl _) bb)
    replace ZA := Lib.hid (ZA.out.grow bb)
    replace ZB := Lib.hid (ZB.out.grow bb)
    replace G := Lib.hid (G.out.grow bb)
    replace V := Lib.hid (V.out.grow bb)
    clear bb
    clear V
    have F1 := Lib.hid (low_under HM.out).1
    have F2 := Lib.hid (low_under HM.out).2
    obtain ⟨h, hh⟩ := highM_of_low HM.out
    have FM := Lib.hid hh
    obtain ⟨e1, e2, e3, hE⟩ := high_low HM.out hh
    have HE := Lib.hid hE
    obtain ⟨n, hn⟩ : ∃ n, out.length = n := ⟨_, rfl⟩
    have hn12 : n ≤ 12 := by have := (rowB_true.1 (lowM_some HM.out).2.1).2; omega
    have L1 := Lib.hid hn
    have L2 : Hid (h.length = n) := by show _ = _; omega
    have L3 : Hid (za.length = n) := by show _ = _; omega
    have L4 : Hid (zb.length = n) := by show _ = _; omega
    clear HM hh hE hn e1 e2 e3
    go_wp2_with fail
    refine (implRowHigh_any _ _ za _ _ zb _ ZA.out.toAll ZB.out.toAll).mono ?_
    rintro e w5 ⟨A5, c5, rfl, iw, bb⟩
    replace BB := Lib.hid (below_then BB.out (Nat.le_refl _) bb)
    replace ZA := Lib.hid (ZA.out.grow bb)
    replace ZB := Lib.hid (ZB.out.grow bb)
    replace G := Lib.hid (G.out.grow bb)
    have X := Lib.hid iw.toAll
    clear bb
    clear iw
    rw [FM.out] at X
    rw [FM.out]
    have e1 : (some h).getD [] = h := rfl
    rw [e1]
    replace X : Hid (IR w5 _ _ A5 h) := X
    clear e1
    rw [L2.out, L1.out, L3.out, L4.out]
    go_wp2
    go_loopw [11] (fun i wr => ∃ j m : Nat, j ≤ n ∧ i = .int .i64 j ∧ wr = World.drewN w5 m) (fun i _ => n - (intOf i).toNat)
    case atStart => exact ⟨0, 0, Nat.zero_le _, rfl, rfl⟩
    case round =>
      obtain ⟨j, m, hj, rfl, rfl⟩ := hrel
      by_cases hlt : j < n
      · have hj1 : j < out.length := by rw [L1.out]; exact hlt
        have hj2 : j < h.length := by rw [L2.out]; exact hlt
        have hj3 : j < za.length := by rw [L3.out]; exact hlt
        have hj4 : j < zb.length := by rw [L4.out]; exact hlt
        obtain ⟨b1, o1, rfl, _, _, hc1⟩ := G.out.at_ hj1
        obtain ⟨b2, o2, rfl, _, _, hc2'⟩ := X.out.at_ hj2
        obtain ⟨b3, o3, rfl, _, _, hc3⟩ := ZA.out.at_ hj3
        obtain ⟨b4, o4, rfl, _, _, hc4⟩ := ZB.out.at_ hj4
        obtain ⟨hy, ⟨u1, v1⟩, ⟨u2, v2⟩, ⟨u3, v3⟩, u4, v4⟩ := HE.out j hj1 hj2 hj3 hj4
        obtain ⟨x1, hx1⟩ : ∃ x, out[j]'hj1 = x := ⟨_, rfl⟩
        obtain ⟨x2, hx2⟩ : ∃ x, h[j]'hj2 = x := ⟨_, rfl⟩
        obtain ⟨x3, hx3⟩ : ∃ x, za[j]'hj3 = x := ⟨_, rfl⟩
        obtain ⟨x4, hx4⟩ : ∃ x, zb[j]'hj4 = x := ⟨_, rfl⟩
        rw [hx1] at hc1 hy u1 v1
        rw [hx2] at hc2' hy u2 v2
        rw [hx3] at hc3 hy u3 v3
        rw [hx4] at hc4 hy u4 v4
        have s1 : IntKind.i64.wrap (x1 + x2) = x1 + x2 := IntWalk.i64_in _ (by omega)
        have s2 : IntKind.i64.wrap (x3 + x4) = x1 + x2 := by rw [hy]; exact IntWalk.i64_in _ (by omega)
        have hlt' : (j : Int) < (n : Int) := by omega
        have q0 : (0 : Int) ≤ (j : Int) := by omega
        clear hx1 hx2 hx3 hx4 hy hj1 hj2 hj3 hj4
        go_wp2
        go_quiet (fail)
        go_wp2
        go_roundw
        case rel => exact ⟨j + 1, _, by omega, by go_num, rfl⟩
        case measure => simp [intOf]; omega
      · obtain rfl : j = n := by omega
        replace BB := Lib.hid (below_drawN BB.out m)
        replace ZA := Lib.hid (ZA.out.drewN m)
        replace ZB := Lib.hid (ZB.out.drewN m)
        replace G := Lib.hid (G.out.drewN m)
        replace X := Lib.hid (X.out.drewN m)
        have hjj : ¬ (j : Int) < (j : Int) := by omega
        go_wp2_with fail
        refine (implBelow_of _ _ _ _ out _ _ _ _ za _ G.out ZA.out F1.out L1.out.symm L3.out.symm).mono ?_
        rintro e w6 ⟨rfl, bb⟩
        replace BB := Lib.hid (below_then BB.out (Nat.le_refl _) bb)
        replace ZA := Lib.hid (ZA.out.grow bb)
        replace ZB := Lib.hid (ZB.out.grow bb)
        replace G := Lib.hid (G.out.grow bb)
        replace X := Lib.hid (X.out.grow bb)
        clear bb
        go_wp2_with fail
        refine (implBelow_of _ _ _ _ out _ _ _ _ zb _ G.out ZB.out F2.out L1.out.symm L4.out.symm).mono ?_
        rintro e w7 ⟨rfl, bb⟩
        replace BB := Lib.hid (below_then BB.out (Nat.le_refl _) bb)
        replace ZA := Lib.hid (ZA.out.grow bb)
        replace ZB := Lib.hid (ZB.out.grow bb)
        replace G := Lib.hid (G.out.grow bb)
        replace X := Lib.hid (X.out.grow bb)
        clear bb
        go_wp2
        go_ret
        exact ⟨rfl, BB.out⟩
end Go.Proofs.Ytbelelfoabmebaa
