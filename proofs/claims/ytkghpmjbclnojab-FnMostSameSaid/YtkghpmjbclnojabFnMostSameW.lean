/-
  The law FnMostSame walked: for all codes it returns true, and nothing that lay before has turned. Conditions: none but those of its row.
-/
import Derived.Test.YtkghpmjbclnojabDrawEv
import Derived.Test.YtkghpmjbclnojabEvB
import Derived.Test.YtkghpmjbclnojabSame
namespace Go.Proofs.Ytkghpmjbclnojab
open Go.RowKit

theorem same_most {a b : List Int} (h : evenIsB a b = true) : mostM a = some (mostEv a) ∧ mostM b = some (mostEv a) ∧ rowB a = true ∧ rowB b = true ∧ stepsV a ≤ stepsV b := by
  obtain ⟨h1, h2, h3⟩ := evenIs_true.1 h
  have he := most_same h3.1 h3.2.1
  refine ⟨by simp [mostM, h1], by simp [mostM, h2, he], h1, h2, ?_⟩
  unfold stepsV
  rw [if_pos h1, if_pos h2]
  exact steps_mono (row_pos h1) h3

set_option maxHeartbeats 1500000 in
set_option maxRecDepth 100000 in
theorem lawFnMostSame_any (A0 : Option Addr) (c0 : Nat) (bs : List Int) (w : World) (h0 : BR w w.heap.size A0 bs) (hc : bs.length ≤ c0) (hc2 : c0 ≤ 9000000000000000000) :
    Calls Try.prog 9 #[.slice A0 bs.length c0] w fun e w' => e = .returned (.bool true) ∧ Below w.heap.size w w' := by
  by_cases hbig : (1048576 : Int) < (bs.length : Int)
  · clear h0
    go_enter Try.func9, Try.ntmps9
    go_wp2
    go_ret
    exact ⟨rfl, Below.refl _ _⟩
  have H0 := Lib.hid h0
  clear h0
  have BB := Lib.hid (Below.refl w.heap.size w)
  go_enter Try.func9, Try.ntmps9
  go_wp2_with fail
  refine (DrawEvenIs_any _ _ bs _ H0.out hc hc2).mono ?_
  rintro e w1 ⟨A, c, za, B, d, zb, rfl, hza, hzb, iwa, iwb, bb⟩
  replace BB := Lib.hid (below_then BB.out (Nat.le_refl _) bb)
  have ZA := Lib.hid iwa.toAll
  have ZB := Lib.hid iwb.toAll
  clear bb
  clear iwa iwb hza hzb
  go_wp2_with fail
  refine (implEvenIs_any _ _ za _ _ zb _ ZA.out.toAll ZB.out.toAll).mono ?_
  rintro e w2 ⟨rfl, bb⟩
  replace BB := Lib.hid (below_then BB.out (Nat.le_refl _) bb)
  replace ZA := Lib.hid (ZA.out.grow bb)
  replace ZB := Lib.hid (ZB.out.grow bb)
  clear bb
  go_wp2_with fail
  refine (specEvenIs_any _ _ za _ _ zb _ ZA.out.toAll ZB.out.toAll).mono ?_
  rintro e w3 ⟨rfl, bb⟩
  replace BB := Lib.hid (below_then BB.out (Nat.le_refl _) bb)
  replace ZA := Lib.hid (ZA.out.grow bb)
  replace ZB := Lib.hid (ZB.out.grow bb)
  clear bb
  cases hr : evenIsB za zb with
  | false =>
    clear hr
    go_wp2
    go_ret
    exact ⟨rfl, BB.out⟩
  | true =>
    have F1 := Lib.hid (same_most hr).1
    have F2 := Lib.hid (same_most hr).2.1
    have R1 := Lib.hid (same_most hr).2.2.1
    have R2 := Lib.hid (same_most hr).2.2.2.1
    have hle := (same_most hr).2.2.2.2
    clear hr
    go_wp2_with fail
    refine (implEvenMost_any _ _ za _ ZA.out.toAll).mono ?_
    rintro e w4 ⟨A5, c5, rfl, iw, bb⟩
    replace BB := Lib.hid (below_then BB.out (Nat.le_refl _) bb)
    replace ZA := Lib.hid (ZA.out.grow bb)
    replace ZB := Lib.hid (ZB.out.grow bb)
    have X := Lib.hid iw.toAll
    clear bb
    clear iw
    rw [F1.out] at X
    rw [F1.out]
    have e1 : (some (mostEv za)).getD [] = (mostEv za) := rfl
    rw [e1]
    replace X : Hid (IR w4 _ _ A5 (mostEv za)) := X
    clear e1
    go_wp2_with fail
    refine (implEvenMost_any _ _ zb _ ZB.out.toAll).mono ?_
    rintro e w5 ⟨A6, c6, rfl, iw, bb⟩
    replace BB := Lib.hid (below_then BB.out (Nat.le_refl _) bb)
    replace ZA := Lib.hid (ZA.out.grow bb)
    replace ZB := Lib.hid (ZB.out.grow bb)
    replace X := Lib.hid (X.out.grow bb)
    have V := Lib.hid iw.toAll
    clear bb
    clear iw
    rw [F2.out] at V
    rw [F2.out]
    have e1 : (some (mostEv za)).getD [] = (mostEv za) := rfl
    rw [e1]
    replace V : Hid (IR w5 _ _ A6 (mostEv za)) := V
    clear e1
    obtain ⟨mo, hmo⟩ : ∃ mo, mostEv za = mo := ⟨_, rfl⟩
    rw [hmo] at X V
    rw [hmo]
    clear hmo F1 F2
    go_wp2_with fail
    refine (implEvenSteps_any _ _ za _ ZA.out.toAll).mono ?_
    rintro e w6 ⟨rfl, bb⟩
    replace BB := Lib.hid (below_then BB.out (Nat.le_refl _) bb)
    replace ZA := Lib.hid (ZA.out.grow bb)
    replace ZB := Lib.hid (ZB.out.grow bb)
    replace X := Lib.hid (X.out.grow bb)
    replace V := Lib.hid (V.out.grow bb)
    clear bb
    rw [R1.out]
    obtain ⟨s, hs⟩ : ∃ s, stepsV za = s := ⟨_, rfl⟩
    rw [hs] at hle
    rw [hs]
    clear hs
    go_wp2_with fail
    refine (implEvenSteps_any _ _ zb _ ZB.out.toAll).mono ?_
    rintro e w7 ⟨rfl, bb⟩
    replace BB := Lib.hid (below_then BB.out (Nat.le_refl _) bb)
    replace ZA := Lib.hid (ZA.out.grow bb)
    replace ZB := Lib.hid (ZB.out.grow bb)
    replace X := Lib.hid (X.out.grow bb)
    replace V := Lib.hid (V.out.grow bb)
    clear bb
    rw [R2.out]
    obtain ⟨t, ht⟩ : ∃ t, stepsV zb = t := ⟨_, rfl⟩
    rw [ht] at hle
    rw [ht]
    clear ht
    have hd := decide_eq_true hle
    go_wp2_with fail
    refine (sameInts_b _ _ _ _ _ _ _ _ _ _ mo _ X.out V.out rfl rfl).mono ?_
    rintro e w8 ⟨rfl, bb⟩
    replace BB := Lib.hid (below_then BB.out (Nat.le_refl _) bb)
    replace ZA := Lib.hid (ZA.out.grow bb)
    replace ZB := Lib.hid (ZB.out.grow bb)
    replace X := Lib.hid (X.out.grow bb)
    replace V := Lib.hid (V.out.grow bb)
    clear bb
    go_wp2
    go_ret
    exact ⟨rfl, BB.out⟩
end Go.Proofs.Ytkghpmjbclnojab
