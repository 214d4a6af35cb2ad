/-
  The law FnValley walked: for all codes it returns true, and nothing that lay before has turned. Conditions: none but those of its row.
-/
import Derived.Test.YtnphmapiagiocaaDrawOne
import Derived.Test.YtnphmapiagiocaaMathA
import Derived.Test.YtnphmapiagiocaaVlc
import Derived.Test.YtnphmapiagiocaaVl2
import Derived.Test.YtnphmapiagiocaaChgC
namespace Go.Proofs.Ytnphmapiagiocaa
open Go.RowKit

set_option maxHeartbeats 1000000 in
theorem DrawRowBent_any (A : Option Addr) (c : Nat) (bs : List Int) (w : World) (h : BR w w.heap.size A bs) (hc : bs.length ≤ c) (hc2 : c ≤ 9000000000000000000) :
    Calls Try.prog 11 #[.slice A bs.length c] w (OnePost w 10) := by
  have H := Lib.hid h
  clear h
  go_enter Try.func11, Try.ntmps11
  go_wp2_with fail
  refine (l91One_any A c bs _ H.out hc hc2).mono ?_
  rintro e w1 ⟨A1, c1, zs, rfl, hz, hi, hb⟩
  have I0 := Lib.hid hi; have B0 := Lib.hid hb; have HZ := Lib.hid hz
  clear hi hb hz
  go_wp2
  go_ret
  exact ⟨A1, c1, zs, rfl, HZ.out, I0.out, B0.out⟩

set_option maxHeartbeats 1500000 in
set_option maxRecDepth 100000 in
theorem lawFnValley_any (A0 : Option Addr) (c0 : Nat) (bs : List Int) (w : World) (h0 : BR w w.heap.size A0 bs) (hc : bs.length ≤ c0) (hc2 : c0 ≤ 9000000000000000000) :
    Calls Try.prog 3 #[.slice A0 bs.length c0] w fun e w' => e = .returned (.bool true) ∧ Below w.heap.size w w' := by
  by_cases hbig : (1048576 : Int) < (bs.length : Int)
  · clear h0
    go_enter Try.func3, Try.ntmps3
    go_wp2
    go_ret
    exact ⟨rfl, Below.refl _ _⟩
  have H0 := Lib.hid h0
  clear h0
  have BB := Lib.hid (Below.refl w.heap.size w)
  go_enter Try.func3, Try.ntmps3
  go_wp2_with fail
  refine (DrawRowBent_any _ _ bs _ H0.out hc hc2).mono ?_
  rintro e w1 ⟨A, c, zs, rfl, hz, iw, bb⟩
  replace BB := Lib.hid (below_then BB.out (Nat.le_refl _) bb)
  have Z := Lib.hid iw.toAll
  clear bb
  have HK := Lib.hid hz.2
  clear iw hz
  go_wp2_with fail
  refine (implRowBent_any _ _ zs _ Z.out.toAll).mono ?_
  rintro e w2 ⟨rfl, bb⟩
  replace BB := Lib.hid (below_then BB.out (Nat.le_refl _) bb)
  replace Z := Lib.hid (Z.out.grow bb)
  clear bb
  go_wp2_with fail
  refine (specRowBent_any _ _ zs _ Z.out.toAll).mono ?_
  rintro e w3 ⟨rfl, bb⟩
  replace BB := Lib.hid (below_then BB.out (Nat.le_refl _) bb)
  replace Z := Lib.hid (Z.out.grow bb)
  clear bb
  obtain ⟨p, hp⟩ : ∃ p, (rowB zs && bentB zs) = p := ⟨_, rfl⟩
  rw [hp]
  cases p with
  | false =>
    clear hp
    go_wp2
    go_ret
    exact ⟨rfl, BB.out⟩
  | true =>
    rw [Bool.and_eq_true] at hp
    obtain ⟨hr, hb⟩ := hp
    have hone := bent_one hb
    have FM : Hid (backM zs = some zs.reverse) := by show _ = _; simp [backM, hr]
    have HRW : Hid (rowB zs = true) := hr
    have HCI : Hid (costI zs = 0) := by show _ = _; unfold costI; rw [hr, if_pos rfl]; exact (cost_zero hr).2 hone
    have HV1 : Hid (valleyOneB zs = true) := by show _ = _; unfold valleyOneB; rw [hr, (oneB_iff zs).2 hone]; rfl
    have HV2 : Hid (valleyOneB zs.reverse = true) := by show _ = _; unfold valleyOneB; rw [rowB_reverse hr, (oneB_iff _).2 (one_back hone)]; rfl
    clear hr hb hone
    obtain ⟨ys, hys⟩ : ∃ ys, zs.reverse = ys := ⟨_, rfl⟩
    rw [hys] at FM HV2
    clear hys
    go_wp2_with fail
    refine (implRowBack_cap _ _ zs _ Z.out.toAll).mono ?_
    rintro e w4 ⟨A5, c5, rfl, hcp, iw, bb⟩
    replace BB := Lib.hid (below_then BB.out (Nat.le_refl _) bb)
    replace Z := Lib.hid (Z.out.grow bb)
    have X := Lib.hid iw.toAll
    clear bb
    have HC5 := Lib.hid hcp
    clear iw hcp
    rw [FM.out] at HC5
    rw [FM.out] at X
    rw [FM.out]
    have e1 : (some ys).getD [] = ys := rfl
    rw [e1]
    replace X : Hid (IR w4 _ _ A5 ys) := X
    clear e1
    replace HC5 : Hid (ys.length ≤ c5) := HC5
    go_wp2_with fail
    refine (implValleyCost_any _ c zs _ Z.out.toAll HK.out.1).mono ?_
    rintro e w5 ⟨rfl, bb⟩
    replace BB := Lib.hid (below_then BB.out (Nat.le_refl _) bb)
    replace Z := Lib.hid (Z.out.grow bb)
    replace X := Lib.hid (X.out.grow bb)
    clear bb
    rw [HCI.out, HRW.out]
    go_wp2_with fail
    refine (implValleyOne_any _ _ zs _ Z.out.toAll).mono ?_
    rintro e w6 ⟨rfl, bb⟩
    replace BB := Lib.hid (below_then BB.out (Nat.le_refl _) bb)
    replace Z := Lib.hid (Z.out.grow bb)
    replace X := Lib.hid (X.out.grow bb)
    clear bb
    rw [HV1.out]
    go_wp2_with fail
    refine (implValleyOne_any _ _ ys _ X.out.toAll).mono ?_
    rintro e w7 ⟨rfl, bb⟩
    replace BB := Lib.hid (below_then BB.out (Nat.le_refl _) bb)
    replace Z := Lib.hid (Z.out.grow bb)
    replace X := Lib.hid (X.out.grow bb)
    clear bb
    rw [HV2.out]
    go_wp2
    go_ret
    exact ⟨rfl, BB.out⟩
end Go.Proofs.Ytnphmapiagiocaa
