/-
  The law FnRaise walked: for all codes it returns true, and nothing that lay before has turned. Conditions: none but those of its row.
-/
import Derived.Test.YtnphmapiagiocaaDrawHill
import Derived.Test.YtnphmapiagiocaaHl2
import Derived.Test.YtnphmapiagiocaaHl4
import Derived.Test.YtnphmapiagiocaaSame
import Derived.StillTailTactics
namespace Go.Proofs.Ytnphmapiagiocaa
open Go.RowKit

set_option maxHeartbeats 1000000 in
theorem DrawHillRaise_any (A : Option Addr) (c : Nat) (bs : List Int) (w : World) (h : BR w w.heap.size A bs) (hc : bs.length ≤ c) (hc2 : c ≤ 9000000000000000000) :
    Calls Try.prog 35 #[.slice A bs.length c] w (OnePost w 8) := by
  have H := Lib.hid h
  clear h
  go_enter Try.func35, Try.ntmps35
  go_wp2_with fail
  refine (l6Open_any A c bs _ H.out hc hc2).mono ?_
  rintro e w1 ⟨rfl, hr, hb⟩
  have B0 := Lib.hid hb; have R0 := Lib.hid hr
  have hs := hb.size
  clear hb hr
  go_wp2_with fail
  refine (l91Hill_any w.heap.size 0 7 _ R0.out (by omega) (by omega)).mono ?_
  rintro e w2 ⟨A2, c2, zs, p', rfl, hz, hi, hb, hr, -, hcap⟩
  have I0 := Lib.hid (hi.wide hs (Nat.le_refl _) (Nat.le_refl _))
  replace B0 := Lib.hid (B0.out.trans (hb.toBelow hs (Nat.le_refl _)))
  have HZ := Lib.hid (And.intro hz hcap)
  clear hi hb hr hz hcap
  go_wp2
  go_ret
  exact ⟨A2, c2, zs, rfl, HZ.out, I0.out, B0.out⟩

theorem implHillRound_of {q : Bool} {n lo hi : Nat} (A : Option Addr) (c : Nat) (zs : List Int) (w : World) (h : IR w lo hi A zs) (hn : n = zs.length) (hq : hillRoundB zs = q) :
    Calls Try.prog 24 #[.slice A n c] w fun e w' => e = .returned (.bool q) ∧ Below w.heap.size w w' := by subst hn; subst hq; exact implHillRound_any A c zs w h.toAll

theorem raise_ends {zs out : List Int} (h : raiseM zs = some out) : hillB zs = true ∧ rowB zs = true ∧ rowB out = true ∧ out.length = zs.length ∧ out.getD 0 0 = zs.getD 0 0 ∧ out.getD (zs.length - 1) 0 = zs.getD (zs.length - 1) 0 ∧ (hillRoundB zs = true → hillRoundB out = true) := by
  cases hh : hillB zs with
  | false => rw [raise_no hh] at h; cases h
  | true =>
    rw [raise_yes hh] at h
    obtain ⟨h1, rfl⟩ := doneM_some h
    obtain ⟨hn, hr⟩ := hill_true hh
    refine ⟨rfl, hr, h1, raise_len _, ?_, ?_, fun hq => ?_⟩
    · rw [raise_getD, choose_zero]; omega
    · rw [raise_getD, choose_self]; omega
    · have hro : roundB zs = true := by unfold hillRoundB at hq; rw [Bool.and_eq_true] at hq; exact hq.2
      obtain ⟨g1, g2⟩ := raise_rd hr hn ((roundB_iff hn).1 hro)
      unfold hillRoundB hillB
      rw [g1, h1, (roundB_iff g1).2 g2]; rfl

set_option maxHeartbeats 1500000 in
set_option maxRecDepth 100000 in
theorem lawFnRaise_any (A0 : Option Addr) (c0 : Nat) (bs : List Int) (w : World) (h0 : BR w w.heap.size A0 bs) (hc : bs.length ≤ c0) (hc2 : c0 ≤ 9000000000000000000) :
    Calls Try.prog 10 #[.slice A0 bs.length c0] w fun e w' => e = .returned (.bool true) ∧ Below w.heap.size w w' := by
  by_cases hbig : (1048576 : Int) < (bs.length : Int)
  · clear h0
    go_enter Try.func10, Try.ntmps10
    go_wp2
    go_ret
    exact ⟨rfl, Below.refl _ _⟩
  have H0 := Lib.hid h0
  clear h0
  have BB := Lib.hid (Below.refl w.heap.size w)
  go_enter Try.func10, Try.ntmps10
  go_wp2_with fail
  refine (DrawHillRaise_any _ _ bs _ H0.out hc hc2).mono ?_
  rintro e w1 ⟨A, c, zs, rfl, hz, iw, bb⟩
  replace BB := Lib.hid (below_then BB.out (Nat.le_refl _) bb)
  have Z := Lib.hid iw.toAll
  clear bb
  have HK := Lib.hid hz.2
  clear iw hz
  go_wp2_with fail
  refine (implHillRaise_any _ _ zs _ Z.out.toAll).mono ?_
  rintro e w2 ⟨A2, c2, rfl, iw, bb⟩
  replace BB := Lib.hid (below_then BB.out (Nat.le_refl _) bb)
  replace Z := Lib.hid (Z.out.grow bb)
  have G := Lib.hid iw.toAll
  clear bb
  clear iw
  go_wp2_with fail
  refine (specHillRaise_any _ _ zs _ Z.out.toAll).mono ?_
  rintro e w3 ⟨A3, c3, rfl, iw, bb⟩
  replace BB := Lib.hid (below_then BB.out (Nat.le_refl _) bb)
  replace Z := Lib.hid (Z.out.grow bb)
  replace G := Lib.hid (G.out.grow bb)
  have V := Lib.hid iw.toAll
  clear bb
  clear iw
  obtain ⟨o, hm⟩ : ∃ o, raiseM zs = o := ⟨_, rfl⟩
  rw [hm] at G V
  rw [hm]
  cases o with
  | none =>
    clear hm
    replace G : Hid (IR w3 _ _ A2 []) := G
    replace V : Hid (IR w3 _ _ A3 []) := V
    go_wp2_with fail
    refine (sameInts_b _ _ _ _ _ _ _ _ _ _ [] _ G.out V.out rfl rfl).mono ?_
    rintro e w4 ⟨rfl, bb⟩
    replace BB := Lib.hid (below_then BB.out (Nat.le_refl _) bb)
    replace G := Lib.hid (G.out.grow bb)
    replace V := Lib.hid (V.out.grow bb)
    clear bb
    go_wp2_with fail
    refine (sameInts_b _ _ _ _ _ _ _ _ _ _ [] _ G.out V.out rfl rfl).mono ?_
    rintro e w5 ⟨rfl, bb⟩
    replace BB := Lib.hid (below_then BB.out (Nat.le_refl _) bb)
    replace G := Lib.hid (G.out.grow bb)
    replace V := Lib.hid (V.out.grow bb)
    clear bb
    go_wp2
    go_ret
    exact ⟨rfl, BB.out⟩
  | some out =>
    have e1 : (some out).getD [] = out := rfl
    rw [e1]
    replace G : Hid (IR w3 _ _ A2 out) := G
    replace V : Hid (IR w3 _ _ A3 out) := V
    have HM := Lib.hid hm
    clear hm e1
    go_wp2_with fail
    refine (sameInts_b _ _ _ _ _ _ _ _ _ _ out _ G.out V.out rfl rfl).mono ?_
    rintro e w4 ⟨rfl, bb⟩
    replace BB := Lib.hid (below_then BB.out (Nat.le_refl _) bb)
    replace Z := Lib.hid (Z.out.grow bb)
    replace G := Lib.hid (G.out.grow bb)
    replace V := Lib.hid (V.out.grow bb)
    clear bb
    clear V
    obtain ⟨-, hrw, -, hlo, h0, h1, hq⟩ := raise_ends HM.out
    obtain ⟨n, hn⟩ : ∃ n, zs.length = n := ⟨_, rfl⟩
    have hl := (rowB_true.1 hrw).2
    rw [hn] at hlo h1 hl
    have HN := Lib.hid hn; have HLO := Lib.hid hlo
    have ha0 : 0 < zs.length := by omega
    obtain ⟨m, hm⟩ : ∃ m, n - 1 = m := ⟨_, rfl⟩
    rw [hm] at h1
    have ha1 : m < zs.length := by omega
    have hb0 : 0 < out.length := by omega
    have hb1 : m < out.length := by omega
    rw [getD_in ha0, getD_in hb0] at h0
    rw [getD_in ha1, getD_in hb1] at h1
    obtain ⟨b, off, rfl, _, _, hz0⟩ := Z.out.at_ ha0
    obtain ⟨_, _, e, _, _, hz1⟩ := Z.out.at_ ha1
    injection e with e; injection e with e3 e4 _; subst e3; subst e4
    obtain ⟨b', off', rfl, _, _, ho0⟩ := G.out.at_ hb0
    obtain ⟨_, _, e, _, _, ho1⟩ := G.out.at_ hb1
    injection e with e; injection e with e3 e4 _; subst e3; subst e4
    rw [h0] at ho0
    rw [h1] at ho1
    obtain ⟨x, hx⟩ : ∃ x, zs[0]'ha0 = x := ⟨_, rfl⟩
    obtain ⟨y, hy⟩ : ∃ x, zs[m]'ha1 = x := ⟨_, rfl⟩
    rw [hx] at hz0 ho0
    rw [hy] at hz1 ho1
    rw [Nat.add_zero] at hz0 ho0
    obtain ⟨p, hp⟩ : ∃ p, hillRoundB zs = p := ⟨_, rfl⟩
    obtain ⟨q, hqq⟩ : ∃ q, hillRoundB out = q := ⟨_, rfl⟩
    have HP := Lib.hid hp; have HQ := Lib.hid hqq
    have HO : Imp2 p true q := fun h3 _ => by rw [← hqq]; exact hq (by rw [hp, h3])
    have s1 : IntKind.i64.wrap ((n : Int) - 1) = (m : Int) := by rw [show (n : Int) - 1 = (m : Int) by omega]; exact IntWalk.i64_in _ (by omega)
    have q0 : (0 : Int) < (n : Int) := by omega
    have q00 : 0 < n := by omega
    have q1 : (0 : Int) ≤ (m : Int) := by omega
    have q2 : (m : Int) < (n : Int) := by omega
    have q22 : m < n := by omega
    clear hm HM hrw hl hn hlo h0 h1 hx hy hp hqq hq ha0 ha1 hb0 hb1
    rw [HN.out, HLO.out]
    cases p with
    | false =>
      go_wp2
      go_still_tail 22, (by kernel_rfl)
      change wpList _ _ _ _ _ (World.drew w4)
      obtain ⟨w5, hwd⟩ : ∃ x, x = World.drew w4 := ⟨_, rfl⟩
      rw [← hwd]
      replace BB : Hid (Below w.heap.size w w5) := by rw [hwd]; exact below_drawN BB.out 1
      replace Z := Lib.hid (Z.out.drewN 1)
      rw [show World.drewN w4 1 = w5 from hwd.symm] at Z
      replace G := Lib.hid (G.out.drewN 1)
      rw [show World.drewN w4 1 = w5 from hwd.symm] at G
      clear hwd
      go_wp2_with fail
      refine (implHillRound_of _ _ zs _ Z.out HN.out.symm HP.out).mono ?_
      rintro e w6 ⟨rfl, bb⟩
      replace BB := Lib.hid (below_then BB.out (Nat.le_refl _) bb)
      replace Z := Lib.hid (Z.out.grow bb)
      replace G := Lib.hid (G.out.grow bb)
      clear bb
      go_wp2
      go_ret
      exact ⟨rfl, BB.out⟩
    | true =>
      go_wp2
      go_still_tail 22, (by kernel_rfl)
      change wpList _ _ _ _ _ (World.drew w4)
      obtain ⟨w5, hwd⟩ : ∃ x, x = World.drew w4 := ⟨_, rfl⟩
      rw [← hwd]
      replace BB : Hid (Below w.heap.size w w5) := by rw [hwd]; exact below_drawN BB.out 1
      replace Z := Lib.hid (Z.out.drewN 1)
      rw [show World.drewN w4 1 = w5 from hwd.symm] at Z
      replace G := Lib.hid (G.out.drewN 1)
      rw [show World.drewN w4 1 = w5 from hwd.symm] at G
      clear hwd
      go_wp2_with fail
      refine (implHillRound_of _ _ zs _ Z.out HN.out.symm HP.out).mono ?_
      rintro e w6 ⟨rfl, bb⟩
      replace BB := Lib.hid (below_then BB.out (Nat.le_refl _) bb)
      replace Z := Lib.hid (Z.out.grow bb)
      replace G := Lib.hid (G.out.grow bb)
      clear bb
      go_wp2_with fail
      refine (implHillRound_of _ _ out _ G.out HLO.out.symm HQ.out).mono ?_
      rintro e w7 ⟨rfl, bb⟩
      replace BB := Lib.hid (below_then BB.out (Nat.le_refl _) bb)
      replace Z := Lib.hid (Z.out.grow bb)
      replace G := Lib.hid (G.out.grow bb)
      clear bb
      have hqt := HO rfl rfl
      subst hqt
      go_wp2
      go_ret
      exact ⟨rfl, BB.out⟩
end Go.Proofs.Ytnphmapiagiocaa
