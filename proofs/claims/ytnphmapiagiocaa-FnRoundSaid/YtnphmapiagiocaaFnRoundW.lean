/-
  The law FnRound walked: for all codes it returns true, and nothing that lay before has turned. Conditions: none but those of its row.
-/
import Derived.Test.YtnphmapiagiocaaDrawHill
import Derived.Test.YtnphmapiagiocaaHl2
import Derived.Test.YtnphmapiagiocaaVl2
import Derived.Test.YtnphmapiagiocaaChgC
namespace Go.Proofs.Ytnphmapiagiocaa
open Go.RowKit

set_option maxHeartbeats 1000000 in
theorem DrawHillRound_any (A : Option Addr) (c : Nat) (bs : List Int) (w : World) (h : BR w w.heap.size A bs) (hc : bs.length ≤ c) (hc2 : c ≤ 9000000000000000000) :
    Calls Try.prog 23 #[.slice A bs.length c] w (OnePost w 9) := by
  have H := Lib.hid h
  clear h
  go_enter Try.func23, Try.ntmps23
  go_wp2_with fail
  refine (l6Open_any A c bs _ H.out hc hc2).mono ?_
  rintro e w1 ⟨rfl, hr, hb⟩
  have B0 := Lib.hid hb; have R0 := Lib.hid hr
  have hs := hb.size
  clear hb hr
  go_wp2_with fail
  refine (l91Hill_any w.heap.size 0 8 _ R0.out (by omega) (by omega)).mono ?_
  rintro e w2 ⟨A2, c2, zs, p', rfl, hz, hi, hb, hr, -, hcap⟩
  have I0 := Lib.hid (hi.wide hs (Nat.le_refl _) (Nat.le_refl _))
  replace B0 := Lib.hid (B0.out.trans (hb.toBelow hs (Nat.le_refl _)))
  have HZ := Lib.hid (And.intro hz hcap)
  clear hi hb hr hz hcap
  go_wp2
  go_ret
  exact ⟨A2, c2, zs, rfl, HZ.out, I0.out, B0.out⟩

theorem turned_of (A : Option Addr) (n c : Nat) (zs ts : List Int) (w : World) (h : IR w 0 w.heap.size A zs) (hr : rowB zs = true) (hn : n = zs.length) (ht : negL zs = ts) :
    Calls Try.prog 26 #[.slice A n c] w (RetSC w ts) := by subst ht; exact turned_any A n c zs w h hr hn

set_option maxHeartbeats 1500000 in
set_option maxRecDepth 100000 in
theorem lawFnRound_any (A0 : Option Addr) (c0 : Nat) (bs : List Int) (w : World) (h0 : BR w w.heap.size A0 bs) (hc : bs.length ≤ c0) (hc2 : c0 ≤ 9000000000000000000) :
    Calls Try.prog 7 #[.slice A0 bs.length c0] w fun e w' => e = .returned (.bool true) ∧ Below w.heap.size w w' := by
  by_cases hbig : (1048576 : Int) < (bs.length : Int)
  · clear h0
    go_enter Try.func7, Try.ntmps7
    go_wp2
    go_ret
    exact ⟨rfl, Below.refl _ _⟩
  have H0 := Lib.hid h0
  clear h0
  have BB := Lib.hid (Below.refl w.heap.size w)
  go_enter Try.func7, Try.ntmps7
  go_wp2_with fail
  refine (DrawHillRound_any _ _ bs _ H0.out hc hc2).mono ?_
  rintro e w1 ⟨A, c, zs, rfl, hz, iw, bb⟩
  replace BB := Lib.hid (below_then BB.out (Nat.le_refl _) bb)
  have Z := Lib.hid iw.toAll
  clear bb
  have HK := Lib.hid hz.2
  clear iw hz
  go_wp2_with fail
  refine (implHillRound_any _ _ zs _ Z.out.toAll).mono ?_
  rintro e w2 ⟨rfl, bb⟩
  replace BB := Lib.hid (below_then BB.out (Nat.le_refl _) bb)
  replace Z := Lib.hid (Z.out.grow bb)
  clear bb
  go_wp2_with fail
  refine (specHillRound_any _ _ zs _ Z.out.toAll).mono ?_
  rintro e w3 ⟨rfl, bb⟩
  replace BB := Lib.hid (below_then BB.out (Nat.le_refl _) bb)
  replace Z := Lib.hid (Z.out.grow bb)
  clear bb
  cases hr : hillRoundB zs with
  | false =>
    clear hr
    go_wp2
    go_ret
    exact ⟨rfl, BB.out⟩
  | true =>
    obtain ⟨hh, hro⟩ : hillB zs = true ∧ roundB zs = true := by unfold hillRoundB at hr; rwa [Bool.and_eq_true] at hr
    obtain ⟨hn, hrw⟩ := hill_true hh
    have hrd := (roundB_iff hn).1 hro
    have FM : Hid (backM zs = some zs.reverse) := by show _ = _; simp [backM, hrw]
    have HR1 : Hid (hillRoundB zs.reverse = true) := by show _ = _; unfold hillRoundB hillB; rw [nn_back hn, rowB_reverse hrw, (roundB_iff (nn_back hn)).2 (rd_back hrd)]; rfl
    have HRW : Hid (rowB zs = true) := hrw
    have HV1 : Hid (valleyOneB (negL zs) = true) := by show _ = _; unfold valleyOneB; rw [neg_row hrw, (oneB_iff _).2 (rd_one hn hrd)]; rfl
    obtain ⟨ts, hts⟩ : ∃ ts, negL zs = ts := ⟨_, rfl⟩
    rw [hts] at HV1
    have HTS := Lib.hid hts
    clear hts hr hh hro hn hrw hrd
    obtain ⟨ys, hys⟩ : ∃ ys, zs.reverse = ys := ⟨_, rfl⟩
    rw [hys] at FM HR1
    clear hys
    go_wp2_with fail
    refine (implRowBack_cap _ _ zs _ Z.out.toAll).mono ?_
    rintro e w4 ⟨A5, c5, rfl, hcp, iw, bb⟩
    replace BB := Lib.hid (below_then BB.out (Nat.le_refl _) bb)
    replace Z := Lib.hid (Z.out.grow bb)
    have X := Lib.hid iw.toAll
    clear bb
    have HC5 := Lib.hid hcp
    clear iw hcp
    rw [FM.out] at HC5
    rw [FM.out] at X
    rw [FM.out]
    have e1 : (some ys).getD [] = ys := rfl
    rw [e1]
    replace X : Hid (IR w4 _ _ A5 ys) := X
    clear e1
    replace HC5 : Hid (ys.length ≤ c5) := HC5
    go_wp2_with fail
    refine (implHillRound_any _ _ ys _ X.out.toAll).mono ?_
    rintro e w5 ⟨rfl, bb⟩
    replace BB := Lib.hid (below_then BB.out (Nat.le_refl _) bb)
    replace Z := Lib.hid (Z.out.grow bb)
    replace X := Lib.hid (X.out.grow bb)
    clear bb
    rw [HR1.out]
    go_wp2_with fail
    refine (turned_of _ _ _ zs ts _ Z.out.toAll HRW.out rfl HTS.out).mono ?_
    rintro e w6 ⟨A6, c6, rfl, -, iw, bb⟩
    replace BB := Lib.hid (below_then BB.out (Nat.le_refl _) bb)
    replace Z := Lib.hid (Z.out.grow bb)
    replace X := Lib.hid (X.out.grow bb)
    have T := Lib.hid iw.toAll
    clear bb
    clear iw
    go_wp2_with fail
    refine (implValleyOne_any _ _ ts _ T.out.toAll).mono ?_
    rintro e w7 ⟨rfl, bb⟩
    replace BB := Lib.hid (below_then BB.out (Nat.le_refl _) bb)
    replace Z := Lib.hid (Z.out.grow bb)
    replace X := Lib.hid (X.out.grow bb)
    replace T := Lib.hid (T.out.grow bb)
    clear bb
    rw [HV1.out]
    go_wp2
    go_ret
    exact ⟨rfl, BB.out⟩
end Go.Proofs.Ytnphmapiagiocaa
