/-
  The law FnWhole walked: for all codes it returns true, and nothing that lay before has turned. Conditions: none but those of its row.
-/
import Derived.Test.YtlgagdplnpeklaaDrawOne
import Derived.Test.YtlgagdplnpeklaaSame
import Derived.Test.YtlgagdplnpeklaaMath
import Derived.Test.YtlgagdplnpeklaaLnM
namespace Go.Proofs.Ytlgagdplnpeklaa
open Go.RowKit

set_option maxHeartbeats 1000000 in
theorem DrawRowIn_any (A : Option Addr) (c : Nat) (bs : List Int) (w : World) (h : BR w w.heap.size A bs) (hc : bs.length ≤ c) (hc2 : c ≤ 9000000000000000000) :
    Calls Try.prog 47 #[.slice A bs.length c] w (OnePost w 14) := by
  have H := Lib.hid h
  clear h
  go_enter Try.func47, Try.ntmps47
  go_wp2_with fail
  refine (l6Open_any A c bs _ H.out hc hc2).mono ?_
  rintro e w1 ⟨rfl, hr, hb⟩
  have B0 := Lib.hid hb; have R0 := Lib.hid hr
  have hs := hb.size
  clear hb hr
  go_wp2_with fail
  refine (l91Some_any w.heap.size 0 13 _ R0.out (by omega) (by omega)).mono ?_
  rintro e w2 ⟨A2, c2, zs, p', rfl, hz, hi, hb, hr, -, hcap⟩
  have I0 := Lib.hid (hi.wide hs (Nat.le_refl _) (Nat.le_refl _))
  replace B0 := Lib.hid (B0.out.trans (hb.toBelow hs (Nat.le_refl _)))
  have HZ := Lib.hid (And.intro hz hcap)
  clear hi hb hr hz hcap
  go_wp2
  go_ret
  exact ⟨A2, c2, zs, rfl, HZ.out, I0.out, B0.out⟩

set_option maxHeartbeats 4000000 in
set_option maxRecDepth 100000 in
theorem lawFnWhole_any (A0 : Option Addr) (c0 : Nat) (bs : List Int) (w : World) (h0 : BR w w.heap.size A0 bs) (hc : bs.length ≤ c0) (hc2 : c0 ≤ 9000000000000000000) :
    Calls Try.prog 16 #[.slice A0 bs.length c0] w fun e w' => e = .returned (.bool true) ∧ Below w.heap.size w w' := by
  by_cases hbig : (1048576 : Int) < (bs.length : Int)
  · clear h0
    go_enter Try.func16, Try.ntmps16
    go_wp2
    go_ret
    exact ⟨rfl, Below.refl _ _⟩
  have H0 := Lib.hid h0
  clear h0
  have BB := Lib.hid (Below.refl w.heap.size w)
  go_enter Try.func16, Try.ntmps16
  go_wp2_with fail
  refine (DrawRowIn_any _ _ bs _ H0.out hc hc2).mono ?_
  rintro e w1 ⟨A, c, zs, rfl, hz, iw, bb⟩
  replace BB := Lib.hid (below_then BB.out (Nat.le_refl _) bb)
  have Z := Lib.hid iw.toAll
  clear bb
  clear iw hz
  go_wp2_with fail
  refine (implRowIn_any _ _ zs _ Z.out.toAll).mono ?_
  rintro e w2 ⟨rfl, bb⟩
  replace BB := Lib.hid (below_then BB.out (Nat.le_refl _) bb)
  replace Z := Lib.hid (Z.out.grow bb)
  clear bb
  go_wp2_with fail
  refine (specRowIn_b _ _ zs _ Z.out.toAll).mono ?_
  rintro e w3 ⟨rfl, bb⟩
  replace BB := Lib.hid (below_then BB.out (Nat.le_refl _) bb)
  replace Z := Lib.hid (Z.out.grow bb)
  clear bb
  cases hr : rowB zs with
  | false =>
    clear hr
    go_wp2
    go_ret
    exact ⟨rfl, BB.out⟩
  | true =>
    obtain ⟨q, hq⟩ : ∃ q, (rowB zs && bentB zs) = q := ⟨_, rfl⟩
    have HW : Hid (wholeB zs = q) := by show _ = _; rw [whole_bent, hq]
    have HQ := Lib.hid hq
    clear hq hr
    go_wp2_with fail
    refine (implLineWhole_any _ _ zs _ Z.out.toAll).mono ?_
    rintro e w4 ⟨rfl, bb⟩
    replace BB := Lib.hid (below_then BB.out (Nat.le_refl _) bb)
    replace Z := Lib.hid (Z.out.grow bb)
    clear bb
    rw [HW.out]
    go_wp2_with fail
    refine (implBent_of _ _ _ _ zs _ Z.out HQ.out rfl).mono ?_
    rintro e w5 ⟨rfl, bb⟩
    replace BB := Lib.hid (below_then BB.out (Nat.le_refl _) bb)
    replace Z := Lib.hid (Z.out.grow bb)
    clear bb
    cases q with
    | false =>
      go_wp2
      go_ret
      exact ⟨rfl, BB.out⟩
    | true =>
      go_wp2
      go_ret
      exact ⟨rfl, BB.out⟩
end Go.Proofs.Ytlgagdplnpeklaa
