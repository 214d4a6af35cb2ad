/-
  The law FnCost walked: for all codes it returns true, and nothing that lay before has turned. Conditions: none but those of its row.
-/
import Derived.Test.YtnphmapiagiocaaDrawOne
import Derived.Test.YtnphmapiagiocaaMathA
import Derived.Test.YtnphmapiagiocaaVlc
import Derived.Test.YtnphmapiagiocaaVl2
import Derived.Test.YtnphmapiagiocaaChgC
namespace Go.Proofs.Ytnphmapiagiocaa
open Go.RowKit

set_option maxHeartbeats 1000000 in
theorem DrawValleyCost_any (A : Option Addr) (c : Nat) (bs : List Int) (w : World) (h : BR w w.heap.size A bs) (hc : bs.length ≤ c) (hc2 : c ≤ 9000000000000000000) :
    Calls Try.prog 21 #[.slice A bs.length c] w (OnePost w 10) := by
  have H := Lib.hid h
  clear h
  go_enter Try.func21, Try.ntmps21
  go_wp2_with fail
  refine (l91One_any A c bs _ H.out hc hc2).mono ?_
  rintro e w1 ⟨A1, c1, zs, rfl, hz, hi, hb⟩
  have I0 := Lib.hid hi; have B0 := Lib.hid hb; have HZ := Lib.hid hz
  clear hi hb hz
  go_wp2
  go_ret
  exact ⟨A1, c1, zs, rfl, HZ.out, I0.out, B0.out⟩

set_option maxHeartbeats 1500000 in
set_option maxRecDepth 100000 in
theorem lawFnCost_any (A0 : Option Addr) (c0 : Nat) (bs : List Int) (w : World) (h0 : BR w w.heap.size A0 bs) (hc : bs.length ≤ c0) (hc2 : c0 ≤ 9000000000000000000) :
    Calls Try.prog 5 #[.slice A0 bs.length c0] w fun e w' => e = .returned (.bool true) ∧ Below w.heap.size w w' := by
  by_cases hbig : (1048576 : Int) < (bs.length : Int)
  · clear h0
    go_enter Try.func5, Try.ntmps5
    go_wp2
    go_ret
    exact ⟨rfl, Below.refl _ _⟩
  have H0 := Lib.hid h0
  clear h0
  have BB := Lib.hid (Below.refl w.heap.size w)
  go_enter Try.func5, Try.ntmps5
  go_wp2_with fail
  refine (DrawValleyCost_any _ _ bs _ H0.out hc hc2).mono ?_
  rintro e w1 ⟨A, c, zs, rfl, hz, iw, bb⟩
  replace BB := Lib.hid (below_then BB.out (Nat.le_refl _) bb)
  have Z := Lib.hid iw.toAll
  clear bb
  have HK := Lib.hid hz.2
  clear iw hz
  go_wp2_with fail
  refine (implValleyCost_any _ c zs _ Z.out.toAll HK.out.1).mono ?_
  rintro e w2 ⟨rfl, bb⟩
  replace BB := Lib.hid (below_then BB.out (Nat.le_refl _) bb)
  replace Z := Lib.hid (Z.out.grow bb)
  clear bb
  go_wp2_with fail
  refine (specValleyCost_any _ _ zs _ Z.out.toAll).mono ?_
  rintro e w3 ⟨rfl, bb⟩
  replace BB := Lib.hid (below_then BB.out (Nat.le_refl _) bb)
  replace Z := Lib.hid (Z.out.grow bb)
  clear bb
  cases hr : rowB zs with
  | false =>
    obtain ⟨x, hx⟩ : ∃ x, costI zs = x := ⟨_, rfl⟩
    rw [hx]
    clear hx hr
    go_wp2
    go_ret
    exact ⟨rfl, BB.out⟩
  | true =>
    have FM : Hid (backM zs = some zs.reverse) := by show _ = _; simp [backM, hr]
    have HRW : Hid (rowB zs.reverse = true) := rowB_reverse hr
    have HCB : Hid (costI zs.reverse = costI zs) := by show _ = _; unfold costI; rw [hr, rowB_reverse hr, cost_back]
    obtain ⟨x, hx⟩ : ∃ x, costI zs = x := ⟨_, rfl⟩
    have hxc : x = costL zs := by rw [← hx]; unfold costI; rw [hr]; rfl
    have hx0 : 0 ≤ x := by rw [hxc]; exact cost_nonneg zs
    have HVO : Hid (valleyOneB zs = (x == 0)) := by
      show _ = _
      unfold valleyOneB
      rw [hr, Bool.true_and, hxc]
      by_cases h0 : costL zs = 0
      · rw [h0, (oneB_iff zs).2 ((cost_zero hr).1 h0)]; rfl
      · cases ho : oneB zs with
        | false => exact (beq_eq_false_iff_ne.2 h0).symm
        | true => exact absurd ((cost_zero hr).2 ((oneB_iff zs).1 ho)) h0
    rw [hx] at HCB
    rw [hx]
    clear hx hxc hr
    obtain ⟨ys, hys⟩ : ∃ ys, zs.reverse = ys := ⟨_, rfl⟩
    rw [hys] at FM HRW HCB
    clear hys
    go_wp2_with fail
    refine (implRowBack_cap _ _ zs _ Z.out.toAll).mono ?_
    rintro e w4 ⟨A5, c5, rfl, hcp, iw, bb⟩
    replace BB := Lib.hid (below_then BB.out (Nat.le_refl _) bb)
    replace Z := Lib.hid (Z.out.grow bb)
    have X := Lib.hid iw.toAll
    clear bb
    have HC5 := Lib.hid hcp
    clear iw hcp
    rw [FM.out] at HC5
    rw [FM.out] at X
    rw [FM.out]
    have e1 : (some ys).getD [] = ys := rfl
    rw [e1]
    replace X : Hid (IR w4 _ _ A5 ys) := X
    clear e1
    replace HC5 : Hid (ys.length ≤ c5) := HC5
    go_wp2_with fail
    refine (implValleyCost_any _ c5 ys _ X.out.toAll HC5.out).mono ?_
    rintro e w5 ⟨rfl, bb⟩
    replace BB := Lib.hid (below_then BB.out (Nat.le_refl _) bb)
    replace Z := Lib.hid (Z.out.grow bb)
    replace X := Lib.hid (X.out.grow bb)
    clear bb
    rw [HCB.out, HRW.out]
    go_wp2_with fail
    refine (implValleyOne_any _ _ zs _ Z.out.toAll).mono ?_
    rintro e w6 ⟨rfl, bb⟩
    replace BB := Lib.hid (below_then BB.out (Nat.le_refl _) bb)
    replace Z := Lib.hid (Z.out.grow bb)
    replace X := Lib.hid (X.out.grow bb)
    clear bb
    rw [HVO.out]
    by_cases h0 : x = 0
    · have hq : (x == 0) = true := beq_iff_eq.2 h0
      go_wp2
      go_ret
      exact ⟨rfl, BB.out⟩
    · have hq : (x == 0) = false := beq_eq_false_iff_ne.2 h0
      go_wp2
      go_ret
      exact ⟨rfl, BB.out⟩
end Go.Proofs.Ytnphmapiagiocaa
