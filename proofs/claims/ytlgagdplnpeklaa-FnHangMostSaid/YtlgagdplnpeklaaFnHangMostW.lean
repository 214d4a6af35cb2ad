/-
  The law FnHangMost walked: for all codes it returns true, and nothing that lay before has turned. Conditions: none but those of its row.
-/
import Derived.Test.YtlgagdplnpeklaaDrawOne
import Derived.Test.YtlgagdplnpeklaaSame
import Derived.Test.YtlgagdplnpeklaaMath
import Derived.Test.YtlgagdplnpeklaaLnM
import Derived.Test.YtlgagdplnpeklaaDrawBelow
namespace Go.Proofs.Ytlgagdplnpeklaa
open Go.RowKit

set_option maxHeartbeats 4000000 in
set_option maxRecDepth 100000 in
theorem lawFnHangMost_any (A0 : Option Addr) (c0 : Nat) (bs : List Int) (w : World) (h0 : BR w w.heap.size A0 bs) (hc : bs.length ≤ c0) (hc2 : c0 ≤ 9000000000000000000) :
    Calls Try.prog 9 #[.slice A0 bs.length c0] w fun e w' => e = .returned (.bool true) ∧ Below w.heap.size w w' := by
  by_cases hbig : (1048576 : Int) < (bs.length : Int)
  · clear h0
    go_enter Try.func9, Try.ntmps9
    go_wp2
    go_ret
    exact ⟨rfl, Below.refl _ _⟩
  have H0 := Lib.hid h0
  clear h0
  have BB := Lib.hid (Below.refl w.heap.size w)
  go_enter Try.func9, Try.ntmps9
  go_wp2_with fail
  refine (DrawRowBelow_any _ _ bs _ H0.out hc hc2).mono ?_
  rintro e w1 ⟨A, c, za, B, d, zb, rfl, hza, hzb, iwa, iwb, bb⟩
  replace BB := Lib.hid (below_then BB.out (Nat.le_refl _) bb)
  have ZA := Lib.hid iwa.toAll
  have ZB := Lib.hid iwb.toAll
  clear bb
  clear iwa iwb hza hzb
  obtain ⟨q, hq⟩ : ∃ q, belowB za zb = q := ⟨_, rfl⟩
  have HQ := Lib.hid hq
  go_wp2_with fail
  refine (implBelow_of _ _ _ _ za _ _ _ _ zb _ ZA.out ZB.out HQ.out rfl rfl).mono ?_
  rintro e w2 ⟨rfl, bb⟩
  replace BB := Lib.hid (below_then BB.out (Nat.le_refl _) bb)
  replace ZA := Lib.hid (ZA.out.grow bb)
  replace ZB := Lib.hid (ZB.out.grow bb)
  clear bb
  go_wp2_with fail
  refine (specBelow_of _ _ _ _ za _ _ _ _ zb _ ZA.out ZB.out HQ.out rfl rfl).mono ?_
  rintro e w3 ⟨rfl, bb⟩
  replace BB := Lib.hid (below_then BB.out (Nat.le_refl _) bb)
  replace ZA := Lib.hid (ZA.out.grow bb)
  replace ZB := Lib.hid (ZB.out.grow bb)
  clear bb
  cases q with
  | false =>
    go_wp2
    go_ret
    exact ⟨rfl, BB.out⟩
  | true =>
    obtain ⟨h2, hle⟩ := belowB_true.1 hq
    obtain ⟨hra, hrb, hl⟩ := twoB_true h2
    have FM := Lib.hid (hangM_row hrb)
    obtain ⟨p, hp⟩ : ∃ p, bentB za = p := ⟨_, rfl⟩
    have HA : Hid ((rowB za && bentB za) = p) := by show _ = _; rw [hra, hp]; rfl
    have HO : Imp2 p true (belowB za (hangL zb)) := fun h3 _ => bent_below hq (by rw [hp, h3])
    clear h2 hle hra hrb hl hp hq
    go_wp2_with fail
    refine (implLineHang_any _ _ zb _ ZB.out.toAll).mono ?_
    rintro e w4 ⟨A5, c5, rfl, iw, bb⟩
    replace BB := Lib.hid (below_then BB.out (Nat.le_refl _) bb)
    replace ZA := Lib.hid (ZA.out.grow bb)
    replace ZB := Lib.hid (ZB.out.grow bb)
    have X := Lib.hid iw.toAll
    clear bb
    clear iw
    rw [FM.out] at X
    rw [FM.out]
    have e1 : (some (hangL zb)).getD [] = (hangL zb) := rfl
    rw [e1]
    replace X : Hid (IR w4 _ _ A5 (hangL zb)) := X
    clear e1
    go_wp2_with fail
    refine (implBent_of _ _ _ _ za _ ZA.out HA.out rfl).mono ?_
    rintro e w5 ⟨rfl, bb⟩
    replace BB := Lib.hid (below_then BB.out (Nat.le_refl _) bb)
    replace ZA := Lib.hid (ZA.out.grow bb)
    replace ZB := Lib.hid (ZB.out.grow bb)
    replace X := Lib.hid (X.out.grow bb)
    clear bb
    cases p with
    | false =>
      go_wp2
      go_ret
      exact ⟨rfl, BB.out⟩
    | true =>
      go_wp2_with fail
      refine (implBelow_of _ _ _ _ za _ _ _ _ (hangL zb) _ ZA.out X.out (HO rfl rfl) rfl rfl).mono ?_
      rintro e w6 ⟨rfl, bb⟩
      replace BB := Lib.hid (below_then BB.out (Nat.le_refl _) bb)
      replace ZA := Lib.hid (ZA.out.grow bb)
      replace ZB := Lib.hid (ZB.out.grow bb)
      replace X := Lib.hid (X.out.grow bb)
      clear bb
      go_wp2
      go_ret
      exact ⟨rfl, BB.out⟩
end Go.Proofs.Ytlgagdplnpeklaa
