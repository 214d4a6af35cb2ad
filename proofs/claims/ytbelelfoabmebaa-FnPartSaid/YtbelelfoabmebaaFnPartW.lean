/-
  The law FnPart walked: for all codes it returns true, and nothing that lay before has turned. Conditions: none but those of its row.
-/
import Derived.Test.YtbelelfoabmebaaDrawNum
import Derived.Test.YtbelelfoabmebaaSame
import Derived.Test.YtbelelfoabmebaaMath
import Derived.Test.YtbelelfoabmebaaPart2
import Derived.StillTailTactics
namespace Go.Proofs.Ytbelelfoabmebaa
open Go.RowKit

set_option maxRecDepth 100000 in
set_option maxHeartbeats 4000000 in
theorem DrawRowPart_any (A : Option Addr) (c : Nat) (bs : List Int) (w : World) (h : BR w w.heap.size A bs) (hc : bs.length ≤ c) (hc2 : c ≤ 9000000000000000000) :
    Calls Try.prog 45 #[.slice A bs.length c] w (ListNum2Post w 9) := by
  have H := Lib.hid h
  clear h
  go_enter Try.func45, Try.ntmps45
  go_wp2_with fail
  refine (l6Open_any A c bs _ H.out hc hc2).mono ?_
  rintro e w1 ⟨rfl, hr, hb⟩
  have B0 := Lib.hid hb; have R0 := Lib.hid hr
  have hs := hb.size
  clear hb hr
  go_wp2_with fail
  refine (l91Some_any w.heap.size 0 8 _ R0.out (by omega) (by omega)).mono ?_
  rintro e w2 ⟨A2, c2, zs, p2, rfl, hz, hi, hb, hr, hp2, hcap⟩
  have HK := Lib.hid hcap
  clear hcap
  have hs1 : w.heap.size < w1.heap.size := R0.out.lt
  have I0 := Lib.hid hi
  replace B0 := Lib.hid (B0.out.trans (hb.toBelow hs (Nat.le_refl _)))
  replace R0 := Lib.hid hr
  have hs2 := B0.out.size
  clear hi hb hr hs
  by_cases h1 : (zs.length : Int) ≤ 1
  · skip
    go_wp2_with fail
    refine (pick_any w.heap.size _ _ _ R0.out (by omega) (by omega)).mono ?_
    rintro e w3 ⟨v0, rfl, v00, v01, -, hb, hs, hr⟩
    have v02 := v01 (by omega)
    replace I0 := Lib.hid (I0.out.but hb (by have := I0.out.2.2.1; omega) (.inl hs1))
    replace B0 := Lib.hid (B0.out.trans (hb.toBelow hs2 (Nat.le_refl _)))
    replace R0 := Lib.hid hr
    have hs2 := B0.out.size
    clear hb hs hr v01
    have h2 : (zs.length : Int) - v0 ≤ 1 := by omega
    go_wp2_with fail
    refine (pick_any w.heap.size _ _ _ R0.out (by omega) (by omega)).mono ?_
    rintro e w4 ⟨v1, rfl, v10, v11, -, hb, hs, hr⟩
    have v12 := v11 (by omega)
    replace I0 := Lib.hid (I0.out.but hb (by have := I0.out.2.2.1; omega) (.inl hs1))
    replace B0 := Lib.hid (B0.out.trans (hb.toBelow hs2 (Nat.le_refl _)))
    replace R0 := Lib.hid hr
    have hs2 := B0.out.size
    clear hb hs hr v11
    go_wp2_with fail
    refine (pick_any w.heap.size _ _ _ R0.out (by omega) (by omega)).mono ?_
    rintro e w5 ⟨v2, rfl, v20, v21, -, hb, hs, hr⟩
    have v22 := v21 (by omega)
    replace I0 := Lib.hid (I0.out.but hb (by have := I0.out.2.2.1; omega) (.inl hs1))
    replace B0 := Lib.hid (B0.out.trans (hb.toBelow hs2 (Nat.le_refl _)))
    replace R0 := Lib.hid hr
    have hs2 := B0.out.size
    clear hb hs hr v21
    go_wp2_with fail
    refine (pick_any w.heap.size _ _ _ R0.out (by omega) (by omega)).mono ?_
    rintro e w6 ⟨v3, rfl, v30, v31, -, hb, hs, hr⟩
    have v32 := v31 (by omega)
    replace I0 := Lib.hid (I0.out.but hb (by have := I0.out.2.2.1; omega) (.inl hs1))
    replace B0 := Lib.hid (B0.out.trans (hb.toBelow hs2 (Nat.le_refl _)))
    replace R0 := Lib.hid hr
    have hs2 := B0.out.size
    clear hb hs hr v31
    have HX0 : Hid (I64 v0) := ⟨by omega, by omega⟩
    have HX1 : Hid (I64 (v0 + v1 + v2 / 23 - v3 / 23)) := ⟨by omega, by omega⟩
    go_wp2
    go_ret3
    exact ⟨A2, c2, zs, v0, v0 + v1 + v2 / 23 - v3 / 23, rfl, ⟨hz, HK.out⟩, HX0.out, HX1.out, I0.out.wide (Nat.le_of_lt hs1) I0.out.2.2.1 (Nat.le_refl _), B0.out⟩
  · skip
    go_wp2_with fail
    refine (pick_any w.heap.size _ _ _ R0.out (by omega) (by omega)).mono ?_
    rintro e w3 ⟨v0, rfl, v00, v01, -, hb, hs, hr⟩
    have v02 := v01 (by omega)
    replace I0 := Lib.hid (I0.out.but hb (by have := I0.out.2.2.1; omega) (.inl hs1))
    replace B0 := Lib.hid (B0.out.trans (hb.toBelow hs2 (Nat.le_refl _)))
    replace R0 := Lib.hid hr
    have hs2 := B0.out.size
    clear hb hs hr v01
    by_cases h2 : (zs.length : Int) - v0 ≤ 1
    · skip
      go_wp2_with fail
      refine (pick_any w.heap.size _ _ _ R0.out (by omega) (by omega)).mono ?_
      rintro e w4 ⟨v1, rfl, v10, v11, -, hb, hs, hr⟩
      have v12 := v11 (by omega)
      replace I0 := Lib.hid (I0.out.but hb (by have := I0.out.2.2.1; omega) (.inl hs1))
      replace B0 := Lib.hid (B0.out.trans (hb.toBelow hs2 (Nat.le_refl _)))
      replace R0 := Lib.hid hr
      have hs2 := B0.out.size
      clear hb hs hr v11
      go_wp2_with fail
      refine (pick_any w.heap.size _ _ _ R0.out (by omega) (by omega)).mono ?_
      rintro e w5 ⟨v2, rfl, v20, v21, -, hb, hs, hr⟩
      have v22 := v21 (by omega)
      replace I0 := Lib.hid (I0.out.but hb (by have := I0.out.2.2.1; omega) (.inl hs1))
      replace B0 := Lib.hid (B0.out.trans (hb.toBelow hs2 (Nat.le_refl _)))
      replace R0 := Lib.hid hr
      have hs2 := B0.out.size
      clear hb hs hr v21
      go_wp2_with fail
      refine (pick_any w.heap.size _ _ _ R0.out (by omega) (by omega)).mono ?_
      rintro e w6 ⟨v3, rfl, v30, v31, -, hb, hs, hr⟩
      have v32 := v31 (by omega)
      replace I0 := Lib.hid (I0.out.but hb (by have := I0.out.2.2.1; omega) (.inl hs1))
      replace B0 := Lib.hid (B0.out.trans (hb.toBelow hs2 (Nat.le_refl _)))
      replace R0 := Lib.hid hr
      have hs2 := B0.out.size
      clear hb hs hr v31
      have HX0 : Hid (I64 v0) := ⟨by omega, by omega⟩
      have HX1 : Hid (I64 (v0 + v1 + v2 / 23 - v3 / 23)) := ⟨by omega, by omega⟩
      go_wp2
      go_ret3
      exact ⟨A2, c2, zs, v0, v0 + v1 + v2 / 23 - v3 / 23, rfl, ⟨hz, HK.out⟩, HX0.out, HX1.out, I0.out.wide (Nat.le_of_lt hs1) I0.out.2.2.1 (Nat.le_refl _), B0.out⟩
    · skip
      go_wp2_with fail
      refine (pick_any w.heap.size _ _ _ R0.out (by omega) (by omega)).mono ?_
      rintro e w4 ⟨v1, rfl, v10, v11, -, hb, hs, hr⟩
      have v12 := v11 (by omega)
      replace I0 := Lib.hid (I0.out.but hb (by have := I0.out.2.2.1; omega) (.inl hs1))
      replace B0 := Lib.hid (B0.out.trans (hb.toBelow hs2 (Nat.le_refl _)))
      replace R0 := Lib.hid hr
      have hs2 := B0.out.size
      clear hb hs hr v11
      go_wp2_with fail
      refine (pick_any w.heap.size _ _ _ R0.out (by omega) (by omega)).mono ?_
      rintro e w5 ⟨v2, rfl, v20, v21, -, hb, hs, hr⟩
      have v22 := v21 (by omega)
      replace I0 := Lib.hid (I0.out.but hb (by have := I0.out.2.2.1; omega) (.inl hs1))
      replace B0 := Lib.hid (B0.out.trans (hb.toBelow hs2 (Nat.le_refl _)))
      replace R0 := Lib.hid hr
      have hs2 := B0.out.size
      clear hb hs hr v21
      go_wp2_with fail
      refine (pick_any w.heap.size _ _ _ R0.out (by omega) (by omega)).mono ?_
      rintro e w6 ⟨v3, rfl, v30, v31, -, hb, hs, hr⟩
      have v32 := v31 (by omega)
      replace I0 := Lib.hid (I0.out.but hb (by have := I0.out.2.2.1; omega) (.inl hs1))
      replace B0 := Lib.hid (B0.out.trans (hb.toBelow hs2 (Nat.le_refl _)))
      replace R0 := Lib.hid hr
      have hs2 := B0.out.size
      clear hb hs hr v31
      have HX0 : Hid (I64 v0) := ⟨by omega, by omega⟩
      have HX1 : Hid (I64 (v0 + v1 + v2 / 23 - v3 / 23)) := ⟨by omega, by omega⟩
      go_wp2
      go_ret3
      exact ⟨A2, c2, zs, v0, v0 + v1 + v2 / 23 - v3 / 23, rfl, ⟨hz, HK.out⟩, HX0.out, HX1.out, I0.out.wide (Nat.le_of_lt hs1) I0.out.2.2.1 (Nat.le_refl _), B0.out⟩

set_option maxHeartbeats 4000000 in
set_option maxRecDepth 100000 in
theorem lawFnPart_any (A0 : Option Addr) (c0 : Nat) (bs : List Int) (w : World) (h0 : BR w w.heap.size A0 bs) (hc : bs.length ≤ c0) (hc2 : c0 ≤ 9000000000000000000) :
    Calls Try.prog 12 #[.slice A0 bs.length c0] w fun e w' => e = .returned (.bool true) ∧ Below w.heap.size w w' := by
  by_cases hbig : (1048576 : Int) < (bs.length : Int)
  · clear h0
    go_enter Try.func12, Try.ntmps12
    go_wp2
    go_ret
    exact ⟨rfl, Below.refl _ _⟩
  have H0 := Lib.hid h0
  clear h0
  have BB := Lib.hid (Below.refl w.heap.size w)
  go_enter Try.func12, Try.ntmps12
  go_wp2_with fail
  refine (DrawRowPart_any _ _ bs _ H0.out hc hc2).mono ?_
  rintro e w1 ⟨A, c, zs, f, t, rfl, hz, hf, ht, iw, bb⟩
  replace BB := Lib.hid (below_then BB.out (Nat.le_refl _) bb)
  have Z := Lib.hid iw.toAll
  clear bb
  have HK := Lib.hid hz.2
  clear iw hz hf ht
  go_wp2_with fail
  refine (implRowPart_any _ _ zs _ _ _ Z.out.toAll HK.out.1 HK.out.2).mono ?_
  rintro e w2 ⟨A2, c2, rfl, iw, bb⟩
  replace BB := Lib.hid (below_then BB.out (Nat.le_refl _) bb)
  replace Z := Lib.hid (Z.out.grow bb)
  have G := Lib.hid iw.toAll
  clear bb
  clear iw
  go_wp2_with fail
  refine (specRowPart_any _ _ zs _ _ _ Z.out.toAll HK.out.1 HK.out.2).mono ?_
  rintro e w3 ⟨A3, c3, rfl, iw, bb⟩
  replace BB := Lib.hid (below_then BB.out (Nat.le_refl _) bb)
  replace Z := Lib.hid (Z.out.grow bb)
  replace G := Lib.hid (G.out.grow bb)
  have V := Lib.hid iw.toAll
  clear bb
  clear iw
  obtain ⟨o, hm⟩ : ∃ o, partM zs f t = o := ⟨_, rfl⟩
  rw [hm] at G V
  rw [hm]
  cases o with
  | none =>
    clear hm
    replace G : Hid (IR w3 _ _ A2 []) := G
    replace V : Hid (IR w3 _ _ A3 []) := V
    go_wp2_with fail
    refine (sameInts_b _ _ _ _ _ _ _ _ _ _ [] _ G.out V.out rfl rfl).mono ?_
    rintro e w4 ⟨rfl, bb⟩
    replace BB := Lib.hid (below_then BB.out (Nat.le_refl _) bb)
    replace G := Lib.hid (G.out.grow bb)
    replace V := Lib.hid (V.out.grow bb)
    clear bb
    go_wp2_with fail
    refine (sameInts_b _ _ _ _ _ _ _ _ _ _ [] _ G.out V.out rfl rfl).mono ?_
    rintro e w5 ⟨rfl, bb⟩
    replace BB := Lib.hid (below_then BB.out (Nat.le_refl _) bb)
    replace G := Lib.hid (G.out.grow bb)
    replace V := Lib.hid (V.out.grow bb)
    clear bb
    go_wp2
    go_ret
    exact ⟨rfl, BB.out⟩
  | some out =>
    have e1 : (some out).getD [] = out := rfl
    rw [e1]
    replace G : Hid (IR w3 _ _ A2 out) := G
    replace V : Hid (IR w3 _ _ A3 out) := V
    have HM := Lib.hid hm
    clear hm e1
    go_wp2_with fail
    refine (sameInts_b _ _ _ _ _ _ _ _ _ _ out _ G.out V.out rfl rfl).mono ?_
    rintro e w4 ⟨rfl, bb⟩
    replace BB := Lib.hid (below_then BB.out (Nat.le_refl _) bb)
    replace Z := Lib.hid (Z.out.grow bb)
    replace G := Lib.hid (G.out.grow bb)
    replace V := Lib.hid (V.out.grow bb)
    clear bb
    clear V
    obtain ⟨hr, f0, ft, tl, -, hro, hL, hB, hG⟩ := partM_some HM.out
    have hl := rowB_true.1 hr
    have hf1 : f.toNat < zs.length := by omega
    have ho0 : 0 < out.length := by omega
    obtain ⟨b, off, rfl, _, _, hcz⟩ := Z.out.at_ hf1
    obtain ⟨b', off', rfl, _, _, hco⟩ := G.out.at_ ho0
    rw [Nat.add_zero] at hco
    rw [getD_in ho0, getD_in hf1] at hG
    rw [hG] at hco
    obtain ⟨x, hx⟩ : ∃ x, zs[f.toNat] = x := ⟨_, rfl⟩
    rw [hx] at hcz hco
    obtain ⟨p, hp⟩ : ∃ p, bentB zs = p := ⟨_, rfl⟩
    have HA : Hid ((rowB zs && bentB zs) = p) := by show _ = _; rw [hr, hp]; rfl
    have HO : Imp2 p true (rowB out && bentB out) := by
      intro h3 h4
      rw [hro, hB (by rw [hp, h3])]; rfl
    have s1 : IntKind.i64.wrap (t - f) = t - f := IntWalk.i64_in _ (by omega)
    have s2 : IntKind.i64.wrap (t - f + 1) = t - f + 1 := IntWalk.i64_in _ (by omega)
    have q1 : f < (zs.length : Int) := by omega
    have q2 : 0 < t - f + 1 := by omega
    clear HM hr hl hro hB hG hx hp hf1 ho0
    cases p with
    | false =>
      go_wp2
      go_still_tail 19, (by kernel_rfl)
      change wpList _ _ _ _ _ (World.drew w4)
      obtain ⟨w5, hwd⟩ : ∃ x, x = World.drew w4 := ⟨_, rfl⟩
      rw [← hwd]
      replace BB : Hid (Below w.heap.size w w5) := by rw [hwd]; exact below_drawN BB.out 1
      replace Z := Lib.hid (Z.out.drewN 1)
      rw [show World.drewN w4 1 = w5 from hwd.symm] at Z
      replace G := Lib.hid (G.out.drewN 1)
      rw [show World.drewN w4 1 = w5 from hwd.symm] at G
      clear hwd
      go_wp2_with fail
      refine (implBent_of _ _ _ _ zs _ Z.out HA.out rfl).mono ?_
      rintro e w6 ⟨rfl, bb⟩
      replace BB := Lib.hid (below_then BB.out (Nat.le_refl _) bb)
      replace Z := Lib.hid (Z.out.grow bb)
      replace G := Lib.hid (G.out.grow bb)
      clear bb
      go_wp2
      go_ret
      exact ⟨rfl, BB.out⟩
    | true =>
      go_wp2
      go_still_tail 19, (by kernel_rfl)
      change wpList _ _ _ _ _ (World.drew w4)
      obtain ⟨w5, hwd⟩ : ∃ x, x = World.drew w4 := ⟨_, rfl⟩
      rw [← hwd]
      replace BB : Hid (Below w.heap.size w w5) := by rw [hwd]; exact below_drawN BB.out 1
      replace Z := Lib.hid (Z.out.drewN 1)
      rw [show World.drewN w4 1 = w5 from hwd.symm] at Z
      replace G := Lib.hid (G.out.drewN 1)
      rw [show World.drewN w4 1 = w5 from hwd.symm] at G
      clear hwd
      go_wp2_with fail
      refine (implBent_of _ _ _ _ zs _ Z.out HA.out rfl).mono ?_
      rintro e w6 ⟨rfl, bb⟩
      replace BB := Lib.hid (below_then BB.out (Nat.le_refl _) bb)
      replace Z := Lib.hid (Z.out.grow bb)
      replace G := Lib.hid (G.out.grow bb)
      clear bb
      go_wp2_with fail
      refine (implBent_of _ _ _ _ out _ G.out (HO rfl rfl) rfl).mono ?_
      rintro e w7 ⟨rfl, bb⟩
      replace BB := Lib.hid (below_then BB.out (Nat.le_refl _) bb)
      replace Z := Lib.hid (Z.out.grow bb)
      replace G := Lib.hid (G.out.grow bb)
      clear bb
      go_wp2
      go_ret
      exact ⟨rfl, BB.out⟩
end Go.Proofs.Ytbelelfoabmebaa
