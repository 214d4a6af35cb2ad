/-
  The law FnFalls walked: for all codes it returns true, and nothing that lay before has turned. Conditions: none but those of its row.
-/
import Derived.Test.YtlgagdplnpeklaaDrawOne
import Derived.Test.YtlgagdplnpeklaaSame
import Derived.Test.YtlgagdplnpeklaaMath
import Derived.Test.YtlgagdplnpeklaaLnM
import Derived.Test.YtlgagdplnpeklaaDrawNum
namespace Go.Proofs.Ytlgagdplnpeklaa
open Go.RowKit

set_option maxRecDepth 100000 in
set_option maxHeartbeats 2000000 in
theorem DrawLineFalls_any (A : Option Addr) (c : Nat) (bs : List Int) (w : World) (h : BR w w.heap.size A bs) (hc : bs.length ≤ c) (hc2 : c ≤ 9000000000000000000) :
    Calls Try.prog 25 #[.slice A bs.length c] w (ListNum2Post w 9) := by
  have H := Lib.hid h
  clear h
  go_enter Try.func25, Try.ntmps25
  go_wp2_with fail
  refine (l6Open_any A c bs _ H.out hc hc2).mono ?_
  rintro e w1 ⟨rfl, hr, hb⟩
  have B0 := Lib.hid hb; have R0 := Lib.hid hr
  have hs := hb.size
  clear hb hr
  go_wp2_with fail
  refine (l91Some_any w.heap.size 0 8 _ R0.out (by omega) (by omega)).mono ?_
  rintro e w2 ⟨A2, c2, zs, p2, rfl, hz, hi, hb, hr, hp2, hcap⟩
  have HK := Lib.hid hcap
  clear hcap
  have hs1 : w.heap.size < w1.heap.size := R0.out.lt
  have I0 := Lib.hid hi
  replace B0 := Lib.hid (B0.out.trans (hb.toBelow hs (Nat.le_refl _)))
  replace R0 := Lib.hid hr
  have hs2 := B0.out.size
  clear hi hb hr hs
  go_wp2_with fail
  refine (pick_any w.heap.size _ _ _ R0.out (by omega) (by omega)).mono ?_
  rintro e w3 ⟨v0, rfl, v00, v01, -, hb, hs, hr⟩
  have v02 := v01 (by omega)
  replace I0 := Lib.hid (I0.out.but hb (by have := I0.out.2.2.1; omega) (.inl hs1))
  replace B0 := Lib.hid (B0.out.trans (hb.toBelow hs2 (Nat.le_refl _)))
  replace R0 := Lib.hid hr
  have hs2 := B0.out.size
  clear hb hs hr v01
  go_wp2_with fail
  refine (pick_any w.heap.size _ _ _ R0.out (by omega) (by omega)).mono ?_
  rintro e w4 ⟨v1, rfl, v10, v11, -, hb, hs, hr⟩
  have v12 := v11 (by omega)
  replace I0 := Lib.hid (I0.out.but hb (by have := I0.out.2.2.1; omega) (.inl hs1))
  replace B0 := Lib.hid (B0.out.trans (hb.toBelow hs2 (Nat.le_refl _)))
  replace R0 := Lib.hid hr
  have hs2 := B0.out.size
  clear hb hs hr v11
  go_wp2_with fail
  refine (pick_any w.heap.size _ _ _ R0.out (by omega) (by omega)).mono ?_
  rintro e w5 ⟨v2, rfl, v20, v21, -, hb, hs, hr⟩
  have v22 := v21 (by omega)
  replace I0 := Lib.hid (I0.out.but hb (by have := I0.out.2.2.1; omega) (.inl hs1))
  replace B0 := Lib.hid (B0.out.trans (hb.toBelow hs2 (Nat.le_refl _)))
  replace R0 := Lib.hid hr
  have hs2 := B0.out.size
  clear hb hs hr v21
  have HX0 : Hid (I64 (v0 - 20)) := ⟨by omega, by omega⟩
  have HX1 : Hid (I64 (v0 - 20 + v1 - v2 / 23 * 3)) := ⟨by omega, by omega⟩
  go_wp2
  go_ret3
  exact ⟨A2, c2, zs, v0 - 20, v0 - 20 + v1 - v2 / 23 * 3, rfl, ⟨hz, HK.out⟩, HX0.out, HX1.out, I0.out.wide (Nat.le_of_lt hs1) I0.out.2.2.1 (Nat.le_refl _), B0.out⟩

set_option maxHeartbeats 4000000 in
set_option maxRecDepth 100000 in
theorem lawFnFalls_any (A0 : Option Addr) (c0 : Nat) (bs : List Int) (w : World) (h0 : BR w w.heap.size A0 bs) (hc : bs.length ≤ c0) (hc2 : c0 ≤ 9000000000000000000) :
    Calls Try.prog 6 #[.slice A0 bs.length c0] w fun e w' => e = .returned (.bool true) ∧ Below w.heap.size w w' := by
  by_cases hbig : (1048576 : Int) < (bs.length : Int)
  · clear h0
    go_enter Try.func6, Try.ntmps6
    go_wp2
    go_ret
    exact ⟨rfl, Below.refl _ _⟩
  have H0 := Lib.hid h0
  clear h0
  have BB := Lib.hid (Below.refl w.heap.size w)
  go_enter Try.func6, Try.ntmps6
  go_wp2_with fail
  refine (DrawLineFalls_any _ _ bs _ H0.out hc hc2).mono ?_
  rintro e w1 ⟨A, c, zs, f, t, rfl, hz, hf, ht, iw, bb⟩
  replace BB := Lib.hid (below_then BB.out (Nat.le_refl _) bb)
  have Z := Lib.hid iw.toAll
  clear bb
  clear iw hz hf ht
  go_wp2_with fail
  refine (implLineFalls_any _ _ zs _ _ _ Z.out.toAll).mono ?_
  rintro e w2 ⟨A2, c2, rfl, iw, bb⟩
  replace BB := Lib.hid (below_then BB.out (Nat.le_refl _) bb)
  replace Z := Lib.hid (Z.out.grow bb)
  have G := Lib.hid iw.toAll
  clear bb
  clear iw
  go_wp2_with fail
  refine (specLineFalls_any _ _ zs _ _ _ Z.out.toAll).mono ?_
  rintro e w3 ⟨A3, c3, rfl, iw, bb⟩
  replace BB := Lib.hid (below_then BB.out (Nat.le_refl _) bb)
  replace Z := Lib.hid (Z.out.grow bb)
  replace G := Lib.hid (G.out.grow bb)
  have V := Lib.hid iw.toAll
  clear bb
  clear iw
  obtain ⟨o, hm⟩ : ∃ o, lineFallsM zs f t = o := ⟨_, rfl⟩
  rw [hm] at G V
  rw [hm]
  cases o with
  | none =>
    clear hm
    replace G : Hid (IR w3 _ _ A2 []) := G
    replace V : Hid (IR w3 _ _ A3 []) := V
    go_wp2_with fail
    refine (sameInts_b _ _ _ _ _ _ _ _ _ _ [] _ G.out V.out rfl rfl).mono ?_
    rintro e w4 ⟨rfl, bb⟩
    replace BB := Lib.hid (below_then BB.out (Nat.le_refl _) bb)
    replace G := Lib.hid (G.out.grow bb)
    replace V := Lib.hid (V.out.grow bb)
    clear bb
    go_wp2_with fail
    refine (sameInts_b _ _ _ _ _ _ _ _ _ _ [] _ G.out V.out rfl rfl).mono ?_
    rintro e w5 ⟨rfl, bb⟩
    replace BB := Lib.hid (below_then BB.out (Nat.le_refl _) bb)
    replace G := Lib.hid (G.out.grow bb)
    replace V := Lib.hid (V.out.grow bb)
    clear bb
    go_wp2
    go_ret
    exact ⟨rfl, BB.out⟩
  | some out =>
    have e1 : (some out).getD [] = out := rfl
    rw [e1]
    replace G : Hid (IR w3 _ _ A2 out) := G
    replace V : Hid (IR w3 _ _ A3 out) := V
    have HM := Lib.hid hm
    clear hm e1
    go_wp2_with fail
    refine (sameInts_b _ _ _ _ _ _ _ _ _ _ out _ G.out V.out rfl rfl).mono ?_
    rintro e w4 ⟨rfl, bb⟩
    replace BB := Lib.hid (below_then BB.out (Nat.le_refl _) bb)
    replace Z := Lib.hid (Z.out.grow bb)
    replace G := Lib.hid (G.out.grow bb)
    replace V := Lib.hid (V.out.grow bb)
    clear bb
    clear V
    obtain ⟨hr, ⟨f1, f2⟩, ⟨t1, t2⟩, ho⟩ := fallsM_some HM.out
    have hl := (rowB_true.1 hr).2
    obtain ⟨n, hn⟩ : ∃ n, (t - f + 1).toNat = n := ⟨_, rfl⟩
    rw [hn] at ho
    have hnn : (n : Int) = t - f + 1 := by omega
    have HLo : Hid (out.length = n) := by show _ = _; rw [ho, falls_len]
    have HD : Hid (∀ j, 0 < j → j < n → (0 ≤ out.getD j 0 - out.getD (j - 1) 0 ∧ out.getD j 0 - out.getD (j - 1) 0 ≤ (zs.length : Int) - 1) ∧ (-1000 ≤ out.getD j 0 ∧ out.getD j 0 ≤ 34000) ∧ (-1000 ≤ out.getD (j - 1) 0 ∧ out.getD (j - 1) 0 ≤ 34000)) := by
      intro j h1 h2
      rw [ho, falls_getD _ _ _ _ h2, falls_getD _ _ _ _ (show j - 1 < n by omega)]
      have e : f + (j : Int) = (f + ((j - 1 : Nat) : Int)) + 1 := by omega
      have g := fall_step zs (f + ((j - 1 : Nat) : Int)) (by omega)
      rw [← e] at g
      exact ⟨g, fall_bd hr (by omega) (by omega), fall_bd hr (by omega) (by omega)⟩
    have HD2 : Hid (∀ j, 1 < j → j < n → out.getD (j - 1) 0 - out.getD (j - 2) 0 ≤ out.getD j 0 - out.getD (j - 1) 0 ∧ (-1000 ≤ out.getD (j - 2) 0 ∧ out.getD (j - 2) 0 ≤ 34000)) := by
      intro j h1 h2
      rw [ho, falls_getD _ _ _ _ h2, falls_getD _ _ _ _ (show j - 1 < n by omega), falls_getD _ _ _ _ (show j - 2 < n by omega)]
      have e : f + (j : Int) = (f + ((j - 1 : Nat) : Int)) + 1 := by omega
      have e2 : f + ((j - 2 : Nat) : Int) = (f + ((j - 1 : Nat) : Int)) - 1 := by omega
      have g := fall_bent zs (f + ((j - 1 : Nat) : Int)) (by omega)
      rw [← e, ← e2] at g
      exact ⟨by omega, fall_bd hr (by omega) (by omega)⟩
    clear HM hr ho hn
    rw [HLo.out]
    obtain ⟨nz, hnz⟩ : ∃ nz : Int, (zs.length : Int) = nz := ⟨_, rfl⟩
    have hnz12 : nz ≤ 12 := by omega
    rw [hnz] at HD
    go_wp2
    go_loopw [10] (fun i wr => ∃ j m : Nat, 1 ≤ j ∧ j ≤ n ∧ i = .int .i64 j ∧ wr = World.drewN w4 m) (fun i _ => n - (intOf i).toNat)
    case atStart => exact ⟨1, 0, Nat.le_refl _, by omega, rfl, rfl⟩
    case round =>
      obtain ⟨j, m, hj0, hj, rfl, rfl⟩ := hrel
      by_cases hlt : j < n
      · obtain ⟨⟨d1, d2⟩, ⟨d3, d4⟩, d5, d6⟩ := HD.out j (by omega) hlt
        have i0 : j < out.length := by rw [HLo.out]; exact hlt
        have i1 : j - 1 < out.length := by omega
        obtain ⟨b, off, hA2, _, _, hc0⟩ := G.out.at_ i0
        obtain ⟨b', off', hA2', _, _, hc1⟩ := G.out.at_ i1
        rw [hA2] at hA2'
        injection hA2' with e; injection e with e1 e2 _; subst e1; subst e2
        subst hA2
        rw [getD_in i0] at d1 d2 d3 d4
        rw [getD_in i1] at d1 d2 d5 d6
        have hlt0 : (j : Int) < (n : Int) := by omega
        have hlt1 : (j : Int) - 1 < (n : Int) := by omega
        have p0 : (0 : Int) ≤ (j : Int) := by omega
        have p1 : (0 : Int) ≤ (j : Int) - 1 := by omega
        have t0 : (j : Int).toNat = j := by omega
        have t1' : ((j : Int) - 1).toNat = j - 1 := by omega
        have s1 : IntKind.i64.wrap ((j : Int) - 1) = (j : Int) - 1 := IntWalk.i64_in _ (by omega)
        obtain ⟨x0, hx0⟩ : ∃ x, out[j]'i0 = x := ⟨_, rfl⟩
        obtain ⟨x1, hx1⟩ : ∃ x, out[j - 1]'i1 = x := ⟨_, rfl⟩
        have HX0 := Lib.hid (getD_in i0); have HX1 := Lib.hid (getD_in i1)
        rw [hx0] at d1 d2 d3 d4 hc0 HX0
        rw [hx1] at d1 d2 d5 d6 hc1 HX1
        clear hx0 hx1 i0 i1
        have s2 : IntKind.i64.wrap (x0 - x1) = x0 - x1 := IntWalk.i64_in _ (by omega)
        have n1 : ¬ x0 - x1 < 0 := by omega
        have s3 : IntKind.i64.wrap (nz - 1) = nz - 1 := IntWalk.i64_in _ (by omega)
        have n2 : ¬ nz - 1 < x0 - x1 := by omega
        have dn1 : decide (x0 - x1 < 0) = false := decide_eq_false n1
        have dn2 : decide (nz - 1 < x0 - x1) = false := decide_eq_false n2
        by_cases hj1 : 1 < j
        · obtain ⟨e1, e2, e3⟩ := HD2.out j hj1 hlt
          have i2 : j - 2 < out.length := by rw [HLo.out]; omega
          obtain ⟨b', off', e, _, _, hc2'⟩ := G.out.at_ i2
          injection e with e; injection e with e4 e5 _; subst e4; subst e5
          have g2 := getD_in i2
          obtain ⟨x2, hx2⟩ : ∃ x, out[j - 2]'i2 = x := ⟨_, rfl⟩
          rw [hx2] at hc2' g2
          rw [HX0.out, HX1.out, g2] at e1
          rw [g2] at e2 e3
          clear hx2 i2 g2
          have q1 : (1 : Int) < (j : Int) := by omega
          have hd1 : decide ((1 : Int) < (j : Int)) = true := decide_eq_true q1
          have hlt2 : (j : Int) - 2 < (n : Int) := by omega
          have p2 : (0 : Int) ≤ (j : Int) - 2 := by omega
          have t2' : ((j : Int) - 2).toNat = j - 2 := by omega
          have s4 : IntKind.i64.wrap ((j : Int) - 2) = (j : Int) - 2 := IntWalk.i64_in _ (by omega)
          have s5 : IntKind.i64.wrap (x1 - x2) = x1 - x2 := IntWalk.i64_in _ (by omega)
          have n3 : ¬ x0 - x1 < x1 - x2 := by omega
          have dn3 : decide (x0 - x1 < x1 - x2) = false := decide_eq_false n3
          go_wp2
          go_quiet (fail)
          go_wp2
          go_quiet (fail)
          clear t0 t1' t2'
          go_wp2
          go_roundw
          case rel => exact ⟨j + 1, _, by omega, by omega, by go_num, rfl⟩
          case measure => simp [intOf]; omega
        · have q1 : ¬ (1 : Int) < (j : Int) := by omega
          have hd1 : decide ((1 : Int) < (j : Int)) = false := decide_eq_false q1
          go_wp2
          go_quiet (fail)
          go_wp2
          go_quiet (fail)
          clear t0 t1'
          go_wp2
          go_roundw
          case rel => exact ⟨j + 1, _, by omega, by omega, by go_num, rfl⟩
          case measure => simp [intOf]; omega
      · obtain rfl : j = n := by omega
        have hnn2 : IntKind.i64.wrap (t - f) = t - f := IntWalk.i64_in _ (by omega)
        have hnn3 : ((j : Int) == t - f + 1) = true := beq_iff_eq.2 hnn
        go_wp2
        go_ret
        exact ⟨rfl, below_drawN BB.out m⟩
end Go.Proofs.Ytlgagdplnpeklaa
