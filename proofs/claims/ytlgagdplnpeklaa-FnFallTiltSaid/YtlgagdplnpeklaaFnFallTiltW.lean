/-
  The law FnFallTilt walked: for all codes it returns true, and nothing that lay before has turned. Conditions: none but those of its row.
-/
import Derived.Test.YtlgagdplnpeklaaDrawOne
import Derived.Test.YtlgagdplnpeklaaSame
import Derived.Test.YtlgagdplnpeklaaMath
import Derived.Test.YtlgagdplnpeklaaLnM
import Derived.Test.YtlgagdplnpeklaaDrawNum
namespace Go.Proofs.Ytlgagdplnpeklaa
open Go.RowKit

set_option maxRecDepth 100000 in
set_option maxHeartbeats 2000000 in
theorem DrawRowTilt_any (A : Option Addr) (c : Nat) (bs : List Int) (w : World) (h : BR w w.heap.size A bs) (hc : bs.length ≤ c) (hc2 : c ≤ 9000000000000000000) :
    Calls Try.prog 51 #[.slice A bs.length c] w (ListNum2Post w 9) := by
  have H := Lib.hid h
  clear h
  go_enter Try.func51, Try.ntmps51
  go_wp2_with fail
  refine (l6Open_any A c bs _ H.out hc hc2).mono ?_
  rintro e w1 ⟨rfl, hr, hb⟩
  have B0 := Lib.hid hb; have R0 := Lib.hid hr
  have hs := hb.size
  clear hb hr
  go_wp2_with fail
  refine (l91Some_any w.heap.size 0 8 _ R0.out (by omega) (by omega)).mono ?_
  rintro e w2 ⟨A2, c2, zs, p2, rfl, hz, hi, hb, hr, hp2, hcap⟩
  have HK := Lib.hid hcap
  clear hcap
  have hs1 : w.heap.size < w1.heap.size := R0.out.lt
  have I0 := Lib.hid hi
  replace B0 := Lib.hid (B0.out.trans (hb.toBelow hs (Nat.le_refl _)))
  replace R0 := Lib.hid hr
  have hs2 := B0.out.size
  clear hi hb hr hs
  go_wp2_with fail
  refine (pick_any w.heap.size _ _ _ R0.out (by omega) (by omega)).mono ?_
  rintro e w3 ⟨v0, rfl, v00, v01, -, hb, hs, hr⟩
  have v02 := v01 (by omega)
  replace I0 := Lib.hid (I0.out.but hb (by have := I0.out.2.2.1; omega) (.inl hs1))
  replace B0 := Lib.hid (B0.out.trans (hb.toBelow hs2 (Nat.le_refl _)))
  replace R0 := Lib.hid hr
  have hs2 := B0.out.size
  clear hb hs hr v01
  go_wp2_with fail
  refine (pick_any w.heap.size _ _ _ R0.out (by omega) (by omega)).mono ?_
  rintro e w4 ⟨v1, rfl, v10, v11, -, hb, hs, hr⟩
  have v12 := v11 (by omega)
  replace I0 := Lib.hid (I0.out.but hb (by have := I0.out.2.2.1; omega) (.inl hs1))
  replace B0 := Lib.hid (B0.out.trans (hb.toBelow hs2 (Nat.le_refl _)))
  replace R0 := Lib.hid hr
  have hs2 := B0.out.size
  clear hb hs hr v11
  go_wp2_with fail
  refine (pick_any w.heap.size _ _ _ R0.out (by omega) (by omega)).mono ?_
  rintro e w5 ⟨v2, rfl, v20, v21, -, hb, hs, hr⟩
  have v22 := v21 (by omega)
  replace I0 := Lib.hid (I0.out.but hb (by have := I0.out.2.2.1; omega) (.inl hs1))
  replace B0 := Lib.hid (B0.out.trans (hb.toBelow hs2 (Nat.le_refl _)))
  replace R0 := Lib.hid hr
  have hs2 := B0.out.size
  clear hb hs hr v21
  have HX0 : Hid (I64 (v0 - 10)) := ⟨by omega, by omega⟩
  have HX1 : Hid (I64 (v1 - 10 + v2 / 23 * 1000)) := ⟨by omega, by omega⟩
  go_wp2
  go_ret3
  exact ⟨A2, c2, zs, v0 - 10, v1 - 10 + v2 / 23 * 1000, rfl, ⟨hz, HK.out⟩, HX0.out, HX1.out, I0.out.wide (Nat.le_of_lt hs1) I0.out.2.2.1 (Nat.le_refl _), B0.out⟩

set_option maxHeartbeats 4000000 in
set_option maxRecDepth 100000 in
theorem lawFnFallTilt_any (A0 : Option Addr) (c0 : Nat) (bs : List Int) (w : World) (h0 : BR w w.heap.size A0 bs) (hc : bs.length ≤ c0) (hc2 : c0 ≤ 9000000000000000000) :
    Calls Try.prog 17 #[.slice A0 bs.length c0] w fun e w' => e = .returned (.bool true) ∧ Below w.heap.size w w' := by
  by_cases hbig : (1048576 : Int) < (bs.length : Int)
  · clear h0
    go_enter Try.func17, Try.ntmps17
    go_wp2
    go_ret
    exact ⟨rfl, Below.refl _ _⟩
  have H0 := Lib.hid h0
  clear h0
  have BB := Lib.hid (Below.refl w.heap.size w)
  go_enter Try.func17, Try.ntmps17
  go_wp2_with fail
  refine (DrawRowTilt_any _ _ bs _ H0.out hc hc2).mono ?_
  rintro e w1 ⟨A, c, zs, f, s, rfl, hz, hf, hs, iw, bb⟩
  replace BB := Lib.hid (below_then BB.out (Nat.le_refl _) bb)
  have Z := Lib.hid iw.toAll
  clear bb
  clear iw hz hf hs
  go_wp2_with fail
  refine (implRowTilt_any _ _ zs _ _ _ Z.out.toAll).mono ?_
  rintro e w2 ⟨A2, c2, rfl, iw, bb⟩
  replace BB := Lib.hid (below_then BB.out (Nat.le_refl _) bb)
  replace Z := Lib.hid (Z.out.grow bb)
  have G := Lib.hid iw.toAll
  clear bb
  clear iw
  go_wp2_with fail
  refine (specRowTilt_any _ _ zs _ _ _ Z.out.toAll).mono ?_
  rintro e w3 ⟨A3, c3, rfl, iw, bb⟩
  replace BB := Lib.hid (below_then BB.out (Nat.le_refl _) bb)
  replace Z := Lib.hid (Z.out.grow bb)
  replace G := Lib.hid (G.out.grow bb)
  have V := Lib.hid iw.toAll
  clear bb
  clear iw
  obtain ⟨o, hm⟩ : ∃ o, tiltM zs f s = o := ⟨_, rfl⟩
  rw [hm] at G V
  rw [hm]
  cases o with
  | none =>
    clear hm
    replace G : Hid (IR w3 _ _ A2 []) := G
    replace V : Hid (IR w3 _ _ A3 []) := V
    go_wp2_with fail
    refine (sameInts_b _ _ _ _ _ _ _ _ _ _ [] _ G.out V.out rfl rfl).mono ?_
    rintro e w4 ⟨rfl, bb⟩
    replace BB := Lib.hid (below_then BB.out (Nat.le_refl _) bb)
    replace G := Lib.hid (G.out.grow bb)
    replace V := Lib.hid (V.out.grow bb)
    clear bb
    go_wp2_with fail
    refine (sameInts_b _ _ _ _ _ _ _ _ _ _ [] _ G.out V.out rfl rfl).mono ?_
    rintro e w5 ⟨rfl, bb⟩
    replace BB := Lib.hid (below_then BB.out (Nat.le_refl _) bb)
    replace G := Lib.hid (G.out.grow bb)
    replace V := Lib.hid (V.out.grow bb)
    clear bb
    go_wp2
    go_ret
    exact ⟨rfl, BB.out⟩
  | some out =>
    have e1 : (some out).getD [] = out := rfl
    rw [e1]
    replace G : Hid (IR w3 _ _ A2 out) := G
    replace V : Hid (IR w3 _ _ A3 out) := V
    have HM := Lib.hid hm
    clear hm e1
    go_wp2_with fail
    refine (sameInts_b _ _ _ _ _ _ _ _ _ _ out _ G.out V.out rfl rfl).mono ?_
    rintro e w4 ⟨rfl, bb⟩
    replace BB := Lib.hid (below_then BB.out (Nat.le_refl _) bb)
    replace Z := Lib.hid (Z.out.grow bb)
    replace G := Lib.hid (G.out.grow bb)
    replace V := Lib.hid (V.out.grow bb)
    clear bb
    clear V
    by_cases hlo : s < -100
    · go_wp2
      go_ret
      exact ⟨rfl, BB.out⟩
    by_cases hhi : 100 < s
    · go_wp2
      go_ret
      exact ⟨rfl, BB.out⟩
    obtain ⟨hr, hf, hs, hro, -⟩ := tiltM_some HM.out
    obtain ⟨f1, f2⟩ := inB_true.1 hf
    have e := fall_tilt HM.out
    have F1 : Hid (lineFallM zs 0 = some (fallL zs 0)) := fallM_row hr (by omega) (by omega)
    have F2 : Hid (lineFallM out s = some (fallL zs 0 - f)) := by show _ = _; rw [fallM_row hro (by omega) (by omega), e]
    have hb := fall_bd hr (s := 0) (by omega) (by omega)
    obtain ⟨y, hy⟩ : ∃ y, fallL zs 0 = y := ⟨_, rfl⟩
    rw [hy] at F1 F2 hb
    obtain ⟨y1, y2⟩ := hb
    clear HM hr hf hs hro e hy
    go_wp2_with fail
    refine (implFall_of _ _ _ _ out _ _ G.out F2.out rfl).mono ?_
    rintro e w5 ⟨rfl, bb⟩
    replace BB := Lib.hid (below_then BB.out (Nat.le_refl _) bb)
    replace Z := Lib.hid (Z.out.grow bb)
    replace G := Lib.hid (G.out.grow bb)
    clear bb
    go_wp2_with fail
    refine (implFall_of _ _ _ _ zs _ _ Z.out F1.out rfl).mono ?_
    rintro e w6 ⟨rfl, bb⟩
    replace BB := Lib.hid (below_then BB.out (Nat.le_refl _) bb)
    replace Z := Lib.hid (Z.out.grow bb)
    replace G := Lib.hid (G.out.grow bb)
    clear bb
    go_wp2
    go_ret
    exact ⟨rfl, BB.out⟩
end Go.Proofs.Ytlgagdplnpeklaa
