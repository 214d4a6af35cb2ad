/-
  The law FnTimes walked: for all codes it returns true, and nothing that lay before has turned. Conditions: none but those of its row.
-/
import Derived.Test.YtbelelfoabmebaaDrawNum
import Derived.Test.YtbelelfoabmebaaSame
import Derived.Test.YtbelelfoabmebaaMath
import Derived.Test.YtbelelfoabmebaaColl
namespace Go.Proofs.Ytbelelfoabmebaa
open Go.RowKit

set_option maxRecDepth 100000 in
set_option maxHeartbeats 2000000 in
theorem DrawRowTimes_any (A : Option Addr) (c : Nat) (bs : List Int) (w : World) (h : BR w w.heap.size A bs) (hc : bs.length ≤ c) (hc2 : c ≤ 9000000000000000000) :
    Calls Try.prog 27 #[.slice A bs.length c] w (ListNumPost w 9) := by
  have H := Lib.hid h
  clear h
  go_enter Try.func27, Try.ntmps27
  go_wp2_with fail
  refine (l6Open_any A c bs _ H.out hc hc2).mono ?_
  rintro e w1 ⟨rfl, hr, hb⟩
  have B0 := Lib.hid hb; have R0 := Lib.hid hr
  have hs := hb.size
  clear hb hr
  go_wp2_with fail
  refine (l91Some_any w.heap.size 0 8 _ R0.out (by omega) (by omega)).mono ?_
  rintro e w2 ⟨A2, c2, zs, p2, rfl, hz, hi, hb, hr, hp2, hcap⟩
  have HK := Lib.hid hcap
  clear hcap
  have hs1 : w.heap.size < w1.heap.size := R0.out.lt
  have I0 := Lib.hid hi
  replace B0 := Lib.hid (B0.out.trans (hb.toBelow hs (Nat.le_refl _)))
  replace R0 := Lib.hid hr
  have hs2 := B0.out.size
  clear hi hb hr hs
  go_wp2_with fail
  refine (pick_any w.heap.size _ _ _ R0.out (by omega) (by omega)).mono ?_
  rintro e w3 ⟨v0, rfl, v00, v01, -, hb, hs, hr⟩
  have v02 := v01 (by omega)
  replace I0 := Lib.hid (I0.out.but hb (by have := I0.out.2.2.1; omega) (.inl hs1))
  replace B0 := Lib.hid (B0.out.trans (hb.toBelow hs2 (Nat.le_refl _)))
  replace R0 := Lib.hid hr
  have hs2 := B0.out.size
  clear hb hs hr v01
  go_wp2_with fail
  refine (pick_any w.heap.size _ _ _ R0.out (by omega) (by omega)).mono ?_
  rintro e w4 ⟨v1, rfl, v10, v11, -, hb, hs, hr⟩
  have v12 := v11 (by omega)
  replace I0 := Lib.hid (I0.out.but hb (by have := I0.out.2.2.1; omega) (.inl hs1))
  replace B0 := Lib.hid (B0.out.trans (hb.toBelow hs2 (Nat.le_refl _)))
  replace R0 := Lib.hid hr
  have hs2 := B0.out.size
  clear hb hs hr v11
  have HX0 : Hid (I64 (v0 - 6 + v1 / 23 * 995)) := ⟨by omega, by omega⟩
  go_wp2
  go_ret2
  exact ⟨A2, c2, zs, v0 - 6 + v1 / 23 * 995, rfl, ⟨hz, HK.out⟩, HX0.out, I0.out.wide (Nat.le_of_lt hs1) I0.out.2.2.1 (Nat.le_refl _), B0.out⟩

set_option maxHeartbeats 4000000 in
set_option maxRecDepth 100000 in
theorem lawFnTimes_any (A0 : Option Addr) (c0 : Nat) (bs : List Int) (w : World) (h0 : BR w w.heap.size A0 bs) (hc : bs.length ≤ c0) (hc2 : c0 ≤ 9000000000000000000) :
    Calls Try.prog 6 #[.slice A0 bs.length c0] w fun e w' => e = .returned (.bool true) ∧ Below w.heap.size w w' := by
  by_cases hbig : (1048576 : Int) < (bs.length : Int)
  · clear h0
    go_enter Try.func6, Try.ntmps6
    go_wp2
    go_ret
    exact ⟨rfl, Below.refl _ _⟩
  have H0 := Lib.hid h0
  clear h0
  have BB := Lib.hid (Below.refl w.heap.size w)
  go_enter Try.func6, Try.ntmps6
  go_wp2_with fail
  refine (DrawRowTimes_any _ _ bs _ H0.out hc hc2).mono ?_
  rintro e w1 ⟨A, c, zs, k, rfl, hz, hk, iw, bb⟩
  replace BB := Lib.hid (below_then BB.out (Nat.le_refl _) bb)
  have Z := Lib.hid iw.toAll
  clear bb
  clear iw hz hk
  go_wp2_with fail
  refine (implRowTimes_any _ _ zs _ _ Z.out.toAll).mono ?_
  rintro e w2 ⟨A2, c2, rfl, iw, bb⟩
  replace BB := Lib.hid (below_then BB.out (Nat.le_refl _) bb)
  replace Z := Lib.hid (Z.out.grow bb)
  have G := Lib.hid iw.toAll
  clear bb
  clear iw
  go_wp2_with fail
  refine (specRowTimes_any _ _ zs _ _ Z.out.toAll).mono ?_
  rintro e w3 ⟨A3, c3, rfl, iw, bb⟩
  replace BB := Lib.hid (below_then BB.out (Nat.le_refl _) bb)
  replace Z := Lib.hid (Z.out.grow bb)
  replace G := Lib.hid (G.out.grow bb)
  have V := Lib.hid iw.toAll
  clear bb
  clear iw
  obtain ⟨o, hm⟩ : ∃ o, timesM zs k = o := ⟨_, rfl⟩
  rw [hm] at G V
  rw [hm]
  cases o with
  | none =>
    clear hm
    replace G : Hid (IR w3 _ _ A2 []) := G
    replace V : Hid (IR w3 _ _ A3 []) := V
    go_wp2_with fail
    refine (sameInts_b _ _ _ _ _ _ _ _ _ _ [] _ G.out V.out rfl rfl).mono ?_
    rintro e w4 ⟨rfl, bb⟩
    replace BB := Lib.hid (below_then BB.out (Nat.le_refl _) bb)
    replace G := Lib.hid (G.out.grow bb)
    replace V := Lib.hid (V.out.grow bb)
    clear bb
    go_wp2_with fail
    refine (sameInts_b _ _ _ _ _ _ _ _ _ _ [] _ G.out V.out rfl rfl).mono ?_
    rintro e w5 ⟨rfl, bb⟩
    replace BB := Lib.hid (below_then BB.out (Nat.le_refl _) bb)
    replace G := Lib.hid (G.out.grow bb)
    replace V := Lib.hid (V.out.grow bb)
    clear bb
    go_wp2
    go_ret
    exact ⟨rfl, BB.out⟩
  | some out =>
    have e1 : (some out).getD [] = out := rfl
    rw [e1]
    replace G : Hid (IR w3 _ _ A2 out) := G
    replace V : Hid (IR w3 _ _ A3 out) := V
    have HM := Lib.hid hm
    clear hm e1
    go_wp2_with fail
    refine (sameInts_b _ _ _ _ _ _ _ _ _ _ out _ G.out V.out rfl rfl).mono ?_
    rintro e w4 ⟨rfl, bb⟩
    replace BB := Lib.hid (below_then BB.out (Nat.le_refl _) bb)
    replace Z := Lib.hid (Z.out.grow bb)
    replace G := Lib.hid (G.out.grow bb)
    replace V := Lib.hid (V.out.grow bb)
    clear bb
    clear V
    obtain ⟨hr, hk, hro, ho⟩ := timesM_some HM.out
    obtain ⟨k1, k2⟩ := inB_true.1 hk
    obtain ⟨hlo, hTS⟩ := times_slopes HM.out
    have TS := Lib.hid hTS
    obtain ⟨p, hp⟩ : ∃ p, bentB zs = p := ⟨_, rfl⟩
    have HA : Hid ((rowB zs && bentB zs) = p) := by show _ = _; rw [hr, hp]; rfl
    have HO : Imp2 p (decide (0 ≤ k)) (rowB out && bentB out) := by
      intro h3 h4
      rw [hro, ho, bent_times (of_decide_eq_true h4) (by rw [hp, h3])]; rfl
    have F1 : Hid (rowSlopesM zs = some (slopesL zs)) := by show _ = _; simp [rowSlopesM, hr]
    have F2 : Hid (rowSlopesM out = some (slopesL out)) := by show _ = _; simp [rowSlopesM, hro]
    obtain ⟨n, hn⟩ : ∃ n, zs.length - 1 = n := ⟨_, rfl⟩
    have hn12 : n ≤ 12 := by have := (rowB_true.1 hr).2; omega
    have L1 : Hid ((slopesL zs).length = n) := by show _ = _; rw [slopesL_len]; exact hn
    have L2 : Hid ((slopesL out).length = n) := by show _ = _; rw [slopesL_len, hlo]; exact hn
    clear HM hr hk hro ho hlo hTS hp hn
    go_wp2_with fail
    refine (implRowSlopes_any _ _ zs _ Z.out.toAll).mono ?_
    rintro e w5 ⟨A5, c5, rfl, iw, bb⟩
    replace BB := Lib.hid (below_then BB.out (Nat.le_refl _) bb)
    replace Z := Lib.hid (Z.out.grow bb)
    replace G := Lib.hid (G.out.grow bb)
    have S := Lib.hid iw.toAll
    clear bb
    clear iw
    rw [F1.out] at S
    rw [F1.out]
    have e1 : (some (slopesL zs)).getD [] = (slopesL zs) := rfl
    rw [e1]
    replace S : Hid (IR w5 _ _ A5 (slopesL zs)) := S
    clear e1
    rw [L1.out]
    go_wp2_with fail
    refine (implRowSlopes_any _ _ out _ G.out.toAll).mono ?_
    rintro e w6 ⟨A6, c6, rfl, iw, bb⟩
    replace BB := Lib.hid (below_then BB.out (Nat.le_refl _) bb)
    replace Z := Lib.hid (Z.out.grow bb)
    replace G := Lib.hid (G.out.grow bb)
    replace S := Lib.hid (S.out.grow bb)
    have T := Lib.hid iw.toAll
    clear bb
    clear iw
    rw [F2.out] at T
    rw [F2.out]
    have e1 : (some (slopesL out)).getD [] = (slopesL out) := rfl
    rw [e1]
    replace T : Hid (IR w6 _ _ A6 (slopesL out)) := T
    clear e1
    rw [L2.out]
    go_wp2
    go_loopw [13] (fun i wr => ∃ j m : Nat, j ≤ n ∧ i = .int .i64 j ∧ wr = World.drewN w6 m) (fun i _ => n - (intOf i).toNat)
    case atStart => exact ⟨0, 0, Nat.zero_le _, rfl, rfl⟩
    case round =>
      obtain ⟨j, m, hj, rfl, rfl⟩ := hrel
      by_cases hlt : j < n
      · have hj1 : j < (slopesL zs).length := by rw [L1.out]; exact hlt
        have hj2 : j < (slopesL out).length := by rw [L2.out]; exact hlt
        obtain ⟨b, off, rfl, _, _, hcs⟩ := S.out.at_ hj1
        obtain ⟨b', off', rfl, _, _, hct⟩ := T.out.at_ hj2
        obtain ⟨hy, hy1, hy2⟩ := TS.out j hj1 hj2
        obtain ⟨X, hX⟩ : ∃ X, (slopesL zs)[j]'hj1 = X := ⟨_, rfl⟩
        obtain ⟨Y, hY⟩ : ∃ Y, (slopesL out)[j]'hj2 = Y := ⟨_, rfl⟩
        rw [hX] at hcs hy
        rw [hY] at hct hy hy1 hy2
        have s1 : IntKind.i64.wrap (k * X) = Y := by rw [← hy]; exact IntWalk.i64_in _ (by omega)
        have hlt' : (j : Int) < (n : Int) := by omega
        have hge : ¬ (n : Int) ≤ (j : Int) := by omega
        have q0 : (0 : Int) ≤ (j : Int) := by omega
        clear hX hY hy hj1 hj2
        go_wp2
        go_quiet (fail)
        go_wp2
        go_roundw
        case rel => exact ⟨j + 1, _, by omega, by go_num, rfl⟩
        case measure => simp [intOf]; omega
      · obtain rfl : j = n := by omega
        replace BB := Lib.hid (below_drawN BB.out m)
        replace Z := Lib.hid (Z.out.drewN m)
        replace G := Lib.hid (G.out.drewN m)
        replace S := Lib.hid (S.out.drewN m)
        replace T := Lib.hid (T.out.drewN m)
        have hjj : ¬ (j : Int) < (j : Int) := by omega
        go_wp2_with fail
        refine (implBent_of _ _ _ _ zs _ Z.out HA.out rfl).mono ?_
        rintro e w7 ⟨rfl, bb⟩
        replace BB := Lib.hid (below_then BB.out (Nat.le_refl _) bb)
        replace Z := Lib.hid (Z.out.grow bb)
        replace G := Lib.hid (G.out.grow bb)
        replace S := Lib.hid (S.out.grow bb)
        replace T := Lib.hid (T.out.grow bb)
        clear bb
        cases p with
        | false =>
          go_wp2
          go_ret
          exact ⟨rfl, BB.out⟩
        | true =>
          by_cases hk0 : k < 0
          · go_wp2
            go_ret
            exact ⟨rfl, BB.out⟩
          · have HK := Lib.hid (HO rfl (decide_eq_true (by omega)))
            go_wp2_with fail
            refine (implBent_of _ _ _ _ out _ G.out HK.out rfl).mono ?_
            rintro e w8 ⟨rfl, bb⟩
            replace BB := Lib.hid (below_then BB.out (Nat.le_refl _) bb)
            replace Z := Lib.hid (Z.out.grow bb)
            replace G := Lib.hid (G.out.grow bb)
            replace S := Lib.hid (S.out.grow bb)
            replace T := Lib.hid (T.out.grow bb)
            clear bb
            go_wp2
            go_ret
            exact ⟨rfl, BB.out⟩
end Go.Proofs.Ytbelelfoabmebaa
