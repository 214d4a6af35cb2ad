/-
  The law FnBetweenAll walked: for all codes it returns true, and nothing that lay before has turned. Conditions: none but those of its row.
-/
import Derived.Test.YtlgagdplnpeklaaDrawOne
import Derived.Test.YtlgagdplnpeklaaSame
import Derived.Test.YtlgagdplnpeklaaMath
import Derived.Test.YtlgagdplnpeklaaLnM
import Derived.Test.YtlgagdplnpeklaaDrawBetween
namespace Go.Proofs.Ytlgagdplnpeklaa
open Go.RowKit

set_option maxHeartbeats 4000000 in
set_option maxRecDepth 100000 in
theorem lawFnBetweenAll_any (A0 : Option Addr) (c0 : Nat) (bs : List Int) (w : World) (h0 : BR w w.heap.size A0 bs) (hc : bs.length ≤ c0) (hc2 : c0 ≤ 9000000000000000000) :
    Calls Try.prog 15 #[.slice A0 bs.length c0] w fun e w' => e = .returned (.bool true) ∧ Below w.heap.size w w' := by
  by_cases hbig : (1048576 : Int) < (bs.length : Int)
  · clear h0
    go_enter Try.func15, Try.ntmps15
    go_wp2
    go_ret
    exact ⟨rfl, Below.refl _ _⟩
  have H0 := Lib.hid h0
  clear h0
  have BB := Lib.hid (Below.refl w.heap.size w)
  go_enter Try.func15, Try.ntmps15
  go_wp2_with fail
  refine (DrawLineBetween_any _ _ bs _ H0.out hc hc2).mono ?_
  rintro e w1 ⟨A, c, za, B, d, zb, rfl, hza, hzb, iwa, iwb, bb⟩
  replace BB := Lib.hid (below_then BB.out (Nat.le_refl _) bb)
  have ZA := Lib.hid iwa.toAll
  have ZB := Lib.hid iwb.toAll
  clear bb
  clear iwa iwb hza hzb
  go_wp2_with fail
  refine (implLineBetween_v _ _ za _ _ zb _ ZA.out.toAll ZB.out.toAll).mono ?_
  rintro e w2 ⟨rfl, bb⟩
  replace BB := Lib.hid (below_then BB.out (Nat.le_refl _) bb)
  replace ZA := Lib.hid (ZA.out.grow bb)
  replace ZB := Lib.hid (ZB.out.grow bb)
  clear bb
  go_wp2_with fail
  refine (specLineBetween_v _ _ za _ _ zb _ ZA.out.toAll ZB.out.toAll).mono ?_
  rintro e w3 ⟨rfl, bb⟩
  replace BB := Lib.hid (below_then BB.out (Nat.le_refl _) bb)
  replace ZA := Lib.hid (ZA.out.grow bb)
  replace ZB := Lib.hid (ZB.out.grow bb)
  clear bb
  obtain ⟨x, hx⟩ : ∃ x, betwA za zb = x := ⟨_, rfl⟩
  obtain ⟨y, hy⟩ : ∃ y, betwB za zb = y := ⟨_, rfl⟩
  obtain ⟨q, hq⟩ : ∃ q, betwC za zb = q := ⟨_, rfl⟩
  rw [hx, hy, hq]
  obtain ⟨b1, hb1⟩ : ∃ b, belowB za zb = b := ⟨_, rfl⟩
  have HB1 := Lib.hid hb1
  have hqq : q = (belowB za zb && bentB zb && bentB (turnL za)) := by rw [← hq]; exact betweenM_iff za zb
  have HQQ := Lib.hid hqq
  clear hx hy hq hqq
  go_wp2_with fail
  refine (implBelow_of _ _ _ _ za _ _ _ _ zb _ ZA.out ZB.out HB1.out rfl rfl).mono ?_
  rintro e w4 ⟨rfl, bb⟩
  replace BB := Lib.hid (below_then BB.out (Nat.le_refl _) bb)
  replace ZA := Lib.hid (ZA.out.grow bb)
  replace ZB := Lib.hid (ZB.out.grow bb)
  clear bb
  cases b1 with
  | false =>
    have e : q = false := by rw [HQQ.out, hb1]; rfl
    subst e
    clear HQQ hb1
    go_wp2
    go_ret
    exact ⟨rfl, BB.out⟩
  | true =>
    obtain ⟨h2, -⟩ := belowB_true.1 hb1
    obtain ⟨hra, hrb, -⟩ := twoB_true h2
    obtain ⟨b2, hb2⟩ : ∃ b, bentB zb = b := ⟨_, rfl⟩
    obtain ⟨b3, hb3⟩ : ∃ b, bentB (turnL za) = b := ⟨_, rfl⟩
    have HB2 : Hid ((rowB zb && bentB zb) = b2) := by show _ = _; rw [hrb, hb2]; rfl
    have HB3 : Hid ((rowB (turnL za) && bentB (turnL za)) = b3) := by show _ = _; rw [row_turn hra, hb3]; rfl
    have hqq := HQQ.out
    rw [hb1, hb2, hb3, Bool.true_and] at hqq
    have HQ3 := Lib.hid hqq
    have HRA := Lib.hid hra
    clear HQQ hqq hb1 h2 hra hrb hb2 hb3
    go_wp2_with fail
    refine (implBent_of _ _ _ _ zb _ ZB.out HB2.out rfl).mono ?_
    rintro e w5 ⟨rfl, bb⟩
    replace BB := Lib.hid (below_then BB.out (Nat.le_refl _) bb)
    replace ZA := Lib.hid (ZA.out.grow bb)
    replace ZB := Lib.hid (ZB.out.grow bb)
    clear bb
    cases b2 with
    | false =>
      have e : q = false := by rw [HQ3.out]; rfl
      subst e
      clear HQ3
      go_wp2
      go_ret
      exact ⟨rfl, BB.out⟩
    | true =>
      have e : q = b3 := by rw [HQ3.out, Bool.true_and]
      subst e
      clear HQ3
      go_wp2_with fail
      refine (turned_any _ _ _ _ za _ ZA.out HRA.out).mono ?_
      rintro e w6 ⟨A5, c5, rfl, iw, bb⟩
      replace BB := Lib.hid (below_then BB.out (Nat.le_refl _) bb)
      replace ZA := Lib.hid (ZA.out.grow bb)
      replace ZB := Lib.hid (ZB.out.grow bb)
      have X := Lib.hid iw.toAll
      clear bb
      clear iw
      go_wp2_with fail
      refine (implBent_of _ _ _ _ (turnL za) _ X.out HB3.out rfl).mono ?_
      rintro e w7 ⟨rfl, bb⟩
      replace BB := Lib.hid (below_then BB.out (Nat.le_refl _) bb)
      replace ZA := Lib.hid (ZA.out.grow bb)
      replace ZB := Lib.hid (ZB.out.grow bb)
      replace X := Lib.hid (X.out.grow bb)
      clear bb
      cases q with
      | false =>
        go_wp2
        go_ret
        exact ⟨rfl, BB.out⟩
      | true =>
        go_wp2
        go_ret
        exact ⟨rfl, BB.out⟩
end Go.Proofs.Ytlgagdplnpeklaa
