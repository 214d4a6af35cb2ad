/-
  The law FnSearch walked: for all codes it returns true, and nothing that lay before has turned. Conditions: none but those of its row.
-/
import Derived.Test.YtnphmapiagiocaaDrawHill
import Derived.Test.YtnphmapiagiocaaVl3
namespace Go.Proofs.Ytnphmapiagiocaa
open Go.RowKit

set_option maxHeartbeats 1000000 in
theorem DrawValleySearch_any (A : Option Addr) (c : Nat) (bs : List Int) (w : World) (h : BR w w.heap.size A bs) (hc : bs.length ≤ c) (hc2 : c ≤ 9000000000000000000) :
    Calls Try.prog 17 #[.slice A bs.length c] w (OnePost w 12) := by
  have H := Lib.hid h
  clear h
  go_enter Try.func17, Try.ntmps17
  go_wp2_with fail
  refine (l91Valley_any A c bs _ H.out hc hc2).mono ?_
  rintro e w1 ⟨A1, c1, zs, rfl, hz, hi, hb⟩
  have I0 := Lib.hid hi; have B0 := Lib.hid hb; have HZ := Lib.hid hz
  clear hi hb hz
  go_wp2
  go_ret
  exact ⟨A1, c1, zs, rfl, HZ.out, I0.out, B0.out⟩

set_option maxHeartbeats 1500000 in
set_option maxRecDepth 100000 in
theorem lawFnSearch_any (A0 : Option Addr) (c0 : Nat) (bs : List Int) (w : World) (h0 : BR w w.heap.size A0 bs) (hc : bs.length ≤ c0) (hc2 : c0 ≤ 9000000000000000000) :
    Calls Try.prog 4 #[.slice A0 bs.length c0] w fun e w' => e = .returned (.bool true) ∧ Below w.heap.size w w' := by
  by_cases hbig : (1048576 : Int) < (bs.length : Int)
  · clear h0
    go_enter Try.func4, Try.ntmps4
    go_wp2
    go_ret
    exact ⟨rfl, Below.refl _ _⟩
  have H0 := Lib.hid h0
  clear h0
  have BB := Lib.hid (Below.refl w.heap.size w)
  go_enter Try.func4, Try.ntmps4
  go_wp2_with fail
  refine (DrawValleySearch_any _ _ bs _ H0.out hc hc2).mono ?_
  rintro e w1 ⟨A, c, zs, rfl, hz, iw, bb⟩
  replace BB := Lib.hid (below_then BB.out (Nat.le_refl _) bb)
  have Z := Lib.hid iw.toAll
  clear bb
  clear iw hz
  go_wp2_with fail
  refine (implValleySearch_any _ _ zs _ Z.out.toAll).mono ?_
  rintro e w2 ⟨rfl, bb⟩
  replace BB := Lib.hid (below_then BB.out (Nat.le_refl _) bb)
  replace Z := Lib.hid (Z.out.grow bb)
  clear bb
  go_wp2_with fail
  refine (specValleySearch_any _ _ zs _ Z.out.toAll).mono ?_
  rintro e w3 ⟨rfl, bb⟩
  replace BB := Lib.hid (below_then BB.out (Nat.le_refl _) bb)
  replace Z := Lib.hid (Z.out.grow bb)
  clear bb
  cases hr : valleyOneB zs with
  | false =>
    obtain ⟨x, hx⟩ : ∃ x, searchI zs = x := ⟨_, rfl⟩
    rw [hx]
    clear hx hr
    go_wp2
    go_ret
    exact ⟨rfl, BB.out⟩
  | true =>
    have hrb := (valleyOneB_true hr).1
    have h0 : 0 < zs.length := by have := (rowB_true.1 hrb).2; omega
    have hs : leastB zs = searchI zs := by
      rw [searchI_yes hr]
      unfold leastB
      rw [if_pos hrb]
      rfl
    obtain ⟨x, hx⟩ : ∃ x, searchI zs = x := ⟨_, rfl⟩
    rw [hx] at hs
    rw [hx]
    have HS := Lib.hid hs
    have HRB := Lib.hid hrb
    obtain ⟨y, hy⟩ : ∃ x, leastA zs = x := ⟨_, rfl⟩
    obtain ⟨z, hz⟩ : ∃ x, leastC zs = x := ⟨_, rfl⟩
    have HY := Lib.hid hy
    have HC := Lib.hid hz
    clear hrb h0 hs hx hr hy hz
    go_wp2_with fail
    refine (implRowLeast_any _ _ zs _ Z.out.toAll).mono ?_
    rintro e w4 ⟨rfl, bb⟩
    replace BB := Lib.hid (below_then BB.out (Nat.le_refl _) bb)
    replace Z := Lib.hid (Z.out.grow bb)
    clear bb
    rw [HY.out, HS.out, HC.out, HRB.out]
    go_wp2
    go_ret
    exact ⟨rfl, BB.out⟩
end Go.Proofs.Ytnphmapiagiocaa
