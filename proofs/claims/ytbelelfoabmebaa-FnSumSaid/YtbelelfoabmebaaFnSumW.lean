/-
  The law FnSum walked: for all codes it returns true, and nothing that lay before has turned. Conditions: none but those of its row.
-/
import Derived.Test.YtbelelfoabmebaaDrawTwo
import Derived.Test.YtbelelfoabmebaaSame
import Derived.Test.YtbelelfoabmebaaMath
import Derived.Test.YtbelelfoabmebaaImp3
import Derived.Test.YtbelelfoabmebaaSp1
namespace Go.Proofs.Ytbelelfoabmebaa
open Go.RowKit

set_option maxHeartbeats 1000000 in
theorem DrawRowSum_any (A : Option Addr) (c : Nat) (bs : List Int) (w : World) (h : BR w w.heap.size A bs) (hc : bs.length ≤ c) (hc2 : c ≤ 9000000000000000000) :
    Calls Try.prog 24 #[.slice A bs.length c] w (TwoPost w 9) := by
  have H := Lib.hid h
  clear h
  go_enter Try.func24, Try.ntmps24
  go_wp2_with fail
  refine (l91Two_any A c bs _ H.out hc hc2).mono ?_
  rintro e w1 ⟨A1, c1, zs, A2, c2, zs2, rfl, hz, hz2, hi, hi2, hb⟩
  have I0 := Lib.hid hi; have J0 := Lib.hid hi2; have B0 := Lib.hid hb
  clear hi hi2 hb
  go_wp2
  go_ret2
  exact ⟨A1, c1, zs, A2, c2, zs2, rfl, hz, hz2, I0.out, J0.out, B0.out⟩

set_option maxHeartbeats 4000000 in
set_option maxRecDepth 100000 in
theorem lawFnSum_any (A0 : Option Addr) (c0 : Nat) (bs : List Int) (w : World) (h0 : BR w w.heap.size A0 bs) (hc : bs.length ≤ c0) (hc2 : c0 ≤ 9000000000000000000) :
    Calls Try.prog 5 #[.slice A0 bs.length c0] w fun e w' => e = .returned (.bool true) ∧ Below w.heap.size w w' := by
  by_cases hbig : (1048576 : Int) < (bs.length : Int)
  · clear h0
    go_enter Try.func5, Try.ntmps5
    go_wp2
    go_ret
    exact ⟨rfl, Below.refl _ _⟩
  have H0 := Lib.hid h0
  clear h0
  have BB := Lib.hid (Below.refl w.heap.size w)
  go_enter Try.func5, Try.ntmps5
  go_wp2_with fail
  refine (DrawRowSum_any _ _ bs _ H0.out hc hc2).mono ?_
  rintro e w1 ⟨A, c, za, B, d, zb, rfl, hza, hzb, iwa, iwb, bb⟩
  replace BB := Lib.hid (below_then BB.out (Nat.le_refl _) bb)
  have ZA := Lib.hid iwa.toAll
  have ZB := Lib.hid iwb.toAll
  clear bb
  clear iwa iwb hza hzb
  go_wp2_with fail
  refine (implRowSum_any _ _ za _ _ zb _ ZA.out.toAll ZB.out.toAll).mono ?_
  rintro e w2 ⟨A2, c2, rfl, iw, bb⟩
  replace BB := Lib.hid (below_then BB.out (Nat.le_refl _) bb)
  replace ZA := Lib.hid (ZA.out.grow bb)
  replace ZB := Lib.hid (ZB.out.grow bb)
  have G := Lib.hid iw.toAll
  clear bb
  clear iw
  go_wp2_with fail
  refine (specRowSum_any _ _ za _ _ zb _ ZA.out.toAll ZB.out.toAll).mono ?_
  rintro e w3 ⟨A3, c3, rfl, iw, bb⟩
  replace BB := Lib.hid (below_then BB.out (Nat.le_refl _) bb)
  replace ZA := Lib.hid (ZA.out.grow bb)
  replace ZB := Lib.hid (ZB.out.grow bb)
  replace G := Lib.hid (G.out.grow bb)
  have V := Lib.hid iw.toAll
  clear bb
  clear iw
  obtain ⟨o, hm⟩ : ∃ o, sumM za zb = o := ⟨_, rfl⟩
  rw [hm] at G V
  rw [hm]
  cases o with
  | none =>
    clear hm
    replace G : Hid (IR w3 _ _ A2 []) := G
    replace V : Hid (IR w3 _ _ A3 []) := V
    go_wp2_with fail
    refine (sameInts_b _ _ _ _ _ _ _ _ _ _ [] _ G.out V.out rfl rfl).mono ?_
    rintro e w4 ⟨rfl, bb⟩
    replace BB := Lib.hid (below_then BB.out (Nat.le_refl _) bb)
    replace G := Lib.hid (G.out.grow bb)
    replace V := Lib.hid (V.out.grow bb)
    clear bb
    go_wp2_with fail
    refine (sameInts_b _ _ _ _ _ _ _ _ _ _ [] _ G.out V.out rfl rfl).mono ?_
    rintro e w5 ⟨rfl, bb⟩
    replace BB := Lib.hid (below_then BB.out (Nat.le_refl _) bb)
    replace G := Lib.hid (G.out.grow bb)
    replace V := Lib.hid (V.out.grow bb)
    clear bb
    go_wp2
    go_ret
    exact ⟨rfl, BB.out⟩
  | some out =>
    have e1 : (some out).getD [] = out := rfl
    rw [e1]
    replace G : Hid (IR w3 _ _ A2 out) := G
    replace V : Hid (IR w3 _ _ A3 out) := V
    have HM := Lib.hid hm
    clear hm e1
    go_wp2_with fail
    refine (sameInts_b _ _ _ _ _ _ _ _ _ _ out _ G.out V.out rfl rfl).mono ?_
    rintro e w4 ⟨rfl, bb⟩
    replace BB := Lib.hid (below_then BB.out (Nat.le_refl _) bb)
    replace ZA := Lib.hid (ZA.out.grow bb)
    replace ZB := Lib.hid (ZB.out.grow bb)
    replace G := Lib.hid (G.out.grow bb)
    replace V := Lib.hid (V.out.grow bb)
    clear bb
    clear V
    have FM := Lib.hid (sum_turn HM.out)
    obtain ⟨h2, hro, ho⟩ := sumM_some HM.out
    obtain ⟨hra, hrb, hl⟩ := twoB_true h2
    obtain ⟨p, hp⟩ : ∃ p, bentB za = p := ⟨_, rfl⟩
    obtain ⟨q, hq⟩ : ∃ q, bentB zb = q := ⟨_, rfl⟩
    have HA : Hid ((rowB za && bentB za) = p) := by show _ = _; rw [hra, hp]; rfl
    have HB : Hid ((rowB zb && bentB zb) = q) := by show _ = _; rw [hrb, hq]; rfl
    have HO : Imp2 p q (rowB out && bentB out) := by
      intro h3 h4
      rw [hro, ho, bent_sum hl (by rw [hp, h3]) (by rw [hq, h4])]; rfl
    clear HM h2 hro ho hra hrb hl hp hq
    go_wp2_with fail
    refine (implRowSum_any _ _ zb _ _ za _ ZB.out.toAll ZA.out.toAll).mono ?_
    rintro e w5 ⟨A5, c5, rfl, iw, bb⟩
    replace BB := Lib.hid (below_then BB.out (Nat.le_refl _) bb)
    replace ZA := Lib.hid (ZA.out.grow bb)
    replace ZB := Lib.hid (ZB.out.grow bb)
    replace G := Lib.hid (G.out.grow bb)
    have X := Lib.hid iw.toAll
    clear bb
    clear iw
    rw [FM.out] at X
    rw [FM.out]
    have e1 : (some out).getD [] = out := rfl
    rw [e1]
    replace X : Hid (IR w5 _ _ A5 out) := X
    clear e1
    go_wp2_with fail
    refine (sameInts_b _ _ _ _ _ _ _ _ _ _ out _ X.out G.out rfl rfl).mono ?_
    rintro e w6 ⟨rfl, bb⟩
    replace BB := Lib.hid (below_then BB.out (Nat.le_refl _) bb)
    replace ZA := Lib.hid (ZA.out.grow bb)
    replace ZB := Lib.hid (ZB.out.grow bb)
    replace G := Lib.hid (G.out.grow bb)
    replace X := Lib.hid (X.out.grow bb)
    clear bb
    go_wp2_with fail
    refine (implBent_of _ _ _ _ za _ ZA.out HA.out rfl).mono ?_
    rintro e w7 ⟨rfl, bb⟩
    replace BB := Lib.hid (below_then BB.out (Nat.le_refl _) bb)
    replace ZA := Lib.hid (ZA.out.grow bb)
    replace ZB := Lib.hid (ZB.out.grow bb)
    replace G := Lib.hid (G.out.grow bb)
    replace X := Lib.hid (X.out.grow bb)
    clear bb
    cases p with
    | false =>
      go_wp2
      go_ret
      exact ⟨rfl, BB.out⟩
    | true =>
      go_wp2_with fail
      refine (implBent_of _ _ _ _ zb _ ZB.out HB.out rfl).mono ?_
      rintro e w8 ⟨rfl, bb⟩
      replace BB := Lib.hid (below_then BB.out (Nat.le_refl _) bb)
      replace ZA := Lib.hid (ZA.out.grow bb)
      replace ZB := Lib.hid (ZB.out.grow bb)
      replace G := Lib.hid (G.out.grow bb)
      replace X := Lib.hid (X.out.grow bb)
      clear bb
      cases q with
      | false =>
        go_wp2
        go_ret
        exact ⟨rfl, BB.out⟩
      | true =>
        go_wp2_with fail
        refine (implBent_of _ _ _ _ out _ G.out (HO rfl rfl) rfl).mono ?_
        rintro e w9 ⟨rfl, bb⟩
        replace BB := Lib.hid (below_then BB.out (Nat.le_refl _) bb)
        replace ZA := Lib.hid (ZA.out.grow bb)
        replace ZB := Lib.hid (ZB.out.grow bb)
        replace G := Lib.hid (G.out.grow bb)
        replace X := Lib.hid (X.out.grow bb)
        clear bb
        go_wp2
        go_ret
        exact ⟨rfl, BB.out⟩
end Go.Proofs.Ytbelelfoabmebaa
