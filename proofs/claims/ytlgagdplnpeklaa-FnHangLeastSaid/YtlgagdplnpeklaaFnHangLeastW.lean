/-
  The law FnHangLeast walked: for all codes it returns true, and nothing that lay before has turned. Conditions: none but those of its row.
-/
import Derived.Test.YtlgagdplnpeklaaDrawOne
import Derived.Test.YtlgagdplnpeklaaSame
import Derived.Test.YtlgagdplnpeklaaMath
import Derived.Test.YtlgagdplnpeklaaLnM
import Derived.Test.YtlgagdplnpeklaaMath2
namespace Go.Proofs.Ytlgagdplnpeklaa
open Go.RowKit

set_option maxHeartbeats 1000000 in
theorem DrawLineHang_any (A : Option Addr) (c : Nat) (bs : List Int) (w : World) (h : BR w w.heap.size A bs) (hc : bs.length ≤ c) (hc2 : c ≤ 9000000000000000000) :
    Calls Try.prog 33 #[.slice A bs.length c] w (OnePost w 10) := by
  have H := Lib.hid h
  clear h
  go_enter Try.func33, Try.ntmps33
  go_wp2_with fail
  refine (l91One_any A c bs _ H.out hc hc2).mono ?_
  rintro e w1 ⟨A1, c1, zs, rfl, hz, hi, hb⟩
  have I0 := Lib.hid hi; have B0 := Lib.hid hb; have HZ := Lib.hid hz
  clear hi hb hz
  go_wp2
  go_ret
  exact ⟨A1, c1, zs, rfl, HZ.out, I0.out, B0.out⟩

set_option maxHeartbeats 4000000 in
set_option maxRecDepth 100000 in
theorem lawFnHangLeast_any (A0 : Option Addr) (c0 : Nat) (bs : List Int) (w : World) (h0 : BR w w.heap.size A0 bs) (hc : bs.length ≤ c0) (hc2 : c0 ≤ 9000000000000000000) :
    Calls Try.prog 10 #[.slice A0 bs.length c0] w fun e w' => e = .returned (.bool true) ∧ Below w.heap.size w w' := by
  by_cases hbig : (1048576 : Int) < (bs.length : Int)
  · clear h0
    go_enter Try.func10, Try.ntmps10
    go_wp2
    go_ret
    exact ⟨rfl, Below.refl _ _⟩
  have H0 := Lib.hid h0
  clear h0
  have BB := Lib.hid (Below.refl w.heap.size w)
  go_enter Try.func10, Try.ntmps10
  go_wp2_with fail
  refine (DrawLineHang_any _ _ bs _ H0.out hc hc2).mono ?_
  rintro e w1 ⟨A, c, zs, rfl, hz, iw, bb⟩
  replace BB := Lib.hid (below_then BB.out (Nat.le_refl _) bb)
  have Z := Lib.hid iw.toAll
  clear bb
  clear iw hz
  go_wp2_with fail
  refine (implLineHang_any _ _ zs _ Z.out.toAll).mono ?_
  rintro e w2 ⟨A2, c2, rfl, iw, bb⟩
  replace BB := Lib.hid (below_then BB.out (Nat.le_refl _) bb)
  replace Z := Lib.hid (Z.out.grow bb)
  have G := Lib.hid iw.toAll
  clear bb
  clear iw
  go_wp2_with fail
  refine (specLineHang_any _ _ zs _ Z.out.toAll).mono ?_
  rintro e w3 ⟨A3, c3, rfl, iw, bb⟩
  replace BB := Lib.hid (below_then BB.out (Nat.le_refl _) bb)
  replace Z := Lib.hid (Z.out.grow bb)
  replace G := Lib.hid (G.out.grow bb)
  have V := Lib.hid iw.toAll
  clear bb
  clear iw
  obtain ⟨o, hm⟩ : ∃ o, hangM zs = o := ⟨_, rfl⟩
  rw [hm] at G V
  rw [hm]
  cases o with
  | none =>
    clear hm
    replace G : Hid (IR w3 _ _ A2 []) := G
    replace V : Hid (IR w3 _ _ A3 []) := V
    go_wp2_with fail
    refine (sameInts_b _ _ _ _ _ _ _ _ _ _ [] _ G.out V.out rfl rfl).mono ?_
    rintro e w4 ⟨rfl, bb⟩
    replace BB := Lib.hid (below_then BB.out (Nat.le_refl _) bb)
    replace G := Lib.hid (G.out.grow bb)
    replace V := Lib.hid (V.out.grow bb)
    clear bb
    go_wp2_with fail
    refine (sameInts_b _ _ _ _ _ _ _ _ _ _ [] _ G.out V.out rfl rfl).mono ?_
    rintro e w5 ⟨rfl, bb⟩
    replace BB := Lib.hid (below_then BB.out (Nat.le_refl _) bb)
    replace G := Lib.hid (G.out.grow bb)
    replace V := Lib.hid (V.out.grow bb)
    clear bb
    go_wp2
    go_ret
    exact ⟨rfl, BB.out⟩
  | some out =>
    have e1 : (some out).getD [] = out := rfl
    rw [e1]
    replace G : Hid (IR w3 _ _ A2 out) := G
    replace V : Hid (IR w3 _ _ A3 out) := V
    have HM := Lib.hid hm
    clear hm e1
    go_wp2_with fail
    refine (sameInts_b _ _ _ _ _ _ _ _ _ _ out _ G.out V.out rfl rfl).mono ?_
    rintro e w4 ⟨rfl, bb⟩
    replace BB := Lib.hid (below_then BB.out (Nat.le_refl _) bb)
    replace Z := Lib.hid (Z.out.grow bb)
    replace G := Lib.hid (G.out.grow bb)
    replace V := Lib.hid (V.out.grow bb)
    clear bb
    clear V
    obtain ⟨hr, ho⟩ := hangM_some HM.out
    obtain ⟨q1, q2, q3⟩ := least_hang hr
    rw [← ho] at q1 q2 q3
    have HR1 := Lib.hid hr
    have HR2 : Hid (rowB out = true) := by show _ = _; rw [ho]; exact hang_row hr
    obtain ⟨a1, ha1⟩ : ∃ x, leastA zs = x := ⟨_, rfl⟩
    obtain ⟨a2, ha2⟩ : ∃ x, leastB zs = x := ⟨_, rfl⟩
    obtain ⟨a3, ha3⟩ : ∃ x, leastC zs = x := ⟨_, rfl⟩
    obtain ⟨b2, hb2⟩ : ∃ x, leastB out = x := ⟨_, rfl⟩
    obtain ⟨b3, hb3⟩ : ∃ x, leastC out = x := ⟨_, rfl⟩
    rw [ha1] at q1
    rw [ha2, hb2] at q2
    rw [ha3, hb3] at q3
    have Q1 := Lib.hid q1; have HA1 := Lib.hid ha1; have HA2 := Lib.hid ha2; have HA3 := Lib.hid ha3; have HB2 := Lib.hid hb2; have HB3 := Lib.hid hb3
    clear HM hr ho q1 ha1 ha2 ha3 hb2 hb3
    go_wp2_with fail
    refine (implRowLeast_any _ _ zs _ Z.out.toAll).mono ?_
    rintro e w5 ⟨rfl, bb⟩
    replace BB := Lib.hid (below_then BB.out (Nat.le_refl _) bb)
    replace Z := Lib.hid (Z.out.grow bb)
    replace G := Lib.hid (G.out.grow bb)
    clear bb
    rw [HA1.out, HA2.out, HA3.out, HR1.out]
    go_wp2_with fail
    refine (implRowLeast_any _ _ out _ G.out.toAll).mono ?_
    rintro e w6 ⟨rfl, bb⟩
    replace BB := Lib.hid (below_then BB.out (Nat.le_refl _) bb)
    replace Z := Lib.hid (Z.out.grow bb)
    replace G := Lib.hid (G.out.grow bb)
    clear bb
    rw [Q1.out, HB2.out, HB3.out, HR2.out]
    go_wp2
    go_ret
    exact ⟨rfl, BB.out⟩
end Go.Proofs.Ytlgagdplnpeklaa
