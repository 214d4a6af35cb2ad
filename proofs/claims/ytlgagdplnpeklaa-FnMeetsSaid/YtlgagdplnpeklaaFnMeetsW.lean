/-
  The law FnMeets walked: for all codes it returns true, and nothing that lay before has turned. Conditions: none but those of its row.
-/
import Derived.Test.YtlgagdplnpeklaaDrawOne
import Derived.Test.YtlgagdplnpeklaaSame
import Derived.Test.YtlgagdplnpeklaaMath
import Derived.Test.YtlgagdplnpeklaaLnM
import Derived.Test.YtlgagdplnpeklaaDrawNum
namespace Go.Proofs.Ytlgagdplnpeklaa
open Go.RowKit

set_option maxRecDepth 100000 in
set_option maxHeartbeats 2000000 in
theorem l91Slope_any (A : Option Addr) (c : Nat) (bs : List Int) (w : World) (h : BR w w.heap.size A bs) (hc : bs.length ≤ c) (hc2 : c ≤ 9000000000000000000) :
    Calls Try.prog 62 #[.slice A bs.length c] w (ListNumPost w 10) := by
  have H := Lib.hid h
  clear h
  go_enter Try.func62, Try.ntmps62
  go_wp2_with fail
  refine (l6Open_any A c bs _ H.out hc hc2).mono ?_
  rintro e w1 ⟨rfl, hr, hb⟩
  have B0 := Lib.hid hb; have R0 := Lib.hid hr
  have hs := hb.size
  clear hb hr
  go_wp2_with fail
  refine (l91Some_any w.heap.size 0 9 _ R0.out (by omega) (by omega)).mono ?_
  rintro e w2 ⟨A2, c2, zs, p2, rfl, hz, hi, hb, hr, hp2, hcap⟩
  have HK := Lib.hid hcap
  clear hcap
  have hs1 : w.heap.size < w1.heap.size := R0.out.lt
  have I0 := Lib.hid hi
  replace B0 := Lib.hid (B0.out.trans (hb.toBelow hs (Nat.le_refl _)))
  replace R0 := Lib.hid hr
  have hs2 := B0.out.size
  clear hi hb hr hs
  go_wp2_with fail
  refine (pick_any w.heap.size _ _ _ R0.out (by omega) (by omega)).mono ?_
  rintro e w3 ⟨v0, rfl, v00, v01, -, hb, hs, hr⟩
  have v02 := v01 (by omega)
  replace I0 := Lib.hid (I0.out.but hb (by have := I0.out.2.2.1; omega) (.inl hs1))
  replace B0 := Lib.hid (B0.out.trans (hb.toBelow hs2 (Nat.le_refl _)))
  replace R0 := Lib.hid hr
  have hs2 := B0.out.size
  clear hb hs hr v01
  go_wp2_with fail
  refine (pick_any w.heap.size _ _ _ R0.out (by omega) (by omega)).mono ?_
  rintro e w4 ⟨v1, rfl, v10, v11, -, hb, hs, hr⟩
  have v12 := v11 (by omega)
  replace I0 := Lib.hid (I0.out.but hb (by have := I0.out.2.2.1; omega) (.inl hs1))
  replace B0 := Lib.hid (B0.out.trans (hb.toBelow hs2 (Nat.le_refl _)))
  replace R0 := Lib.hid hr
  have hs2 := B0.out.size
  clear hb hs hr v11
  have HX0 : Hid (I64 (v0 - 12 + v1 / 23 * 3000)) := ⟨by omega, by omega⟩
  go_wp2
  go_ret2
  exact ⟨A2, c2, zs, v0 - 12 + v1 / 23 * 3000, rfl, ⟨hz, HK.out⟩, HX0.out, I0.out.wide (Nat.le_of_lt hs1) I0.out.2.2.1 (Nat.le_refl _), B0.out⟩
set_option maxHeartbeats 1000000 in
theorem DrawLineMeets_any (A : Option Addr) (c : Nat) (bs : List Int) (w : World) (h : BR w w.heap.size A bs) (hc : bs.length ≤ c) (hc2 : c ≤ 9000000000000000000) :
    Calls Try.prog 29 #[.slice A bs.length c] w (ListNumPost w 10) := by
  have H := Lib.hid h
  clear h
  go_enter Try.func29, Try.ntmps29
  go_wp2_with fail
  refine (l91Slope_any A c bs _ H.out hc hc2).mono ?_
  rintro e w1 ⟨A1, c1, zs, x, rfl, hz, hx, hi, hb⟩
  have I0 := Lib.hid hi; have B0 := Lib.hid hb; have HZ := Lib.hid hz; have HX := Lib.hid hx
  clear hi hb hz hx
  go_wp2
  go_ret2
  exact ⟨A1, c1, zs, x, rfl, HZ.out, HX.out, I0.out, B0.out⟩

set_option maxHeartbeats 4000000 in
set_option maxRecDepth 100000 in
theorem lawFnMeets_any (A0 : Option Addr) (c0 : Nat) (bs : List Int) (w : World) (h0 : BR w w.heap.size A0 bs) (hc : bs.length ≤ c0) (hc2 : c0 ≤ 9000000000000000000) :
    Calls Try.prog 7 #[.slice A0 bs.length c0] w fun e w' => e = .returned (.bool true) ∧ Below w.heap.size w w' := by
  by_cases hbig : (1048576 : Int) < (bs.length : Int)
  · clear h0
    go_enter Try.func7, Try.ntmps7
    go_wp2
    go_ret
    exact ⟨rfl, Below.refl _ _⟩
  have H0 := Lib.hid h0
  clear h0
  have BB := Lib.hid (Below.refl w.heap.size w)
  go_enter Try.func7, Try.ntmps7
  go_wp2_with fail
  refine (DrawLineMeets_any _ _ bs _ H0.out hc hc2).mono ?_
  rintro e w1 ⟨A, c, zs, s, rfl, hz, hs, iw, bb⟩
  replace BB := Lib.hid (below_then BB.out (Nat.le_refl _) bb)
  have Z := Lib.hid iw.toAll
  clear bb
  clear iw hz hs
  go_wp2_with fail
  refine (implLineMeets_v _ _ zs _ _ Z.out.toAll).mono ?_
  rintro e w2 ⟨rfl, bb⟩
  replace BB := Lib.hid (below_then BB.out (Nat.le_refl _) bb)
  replace Z := Lib.hid (Z.out.grow bb)
  clear bb
  go_wp2_with fail
  refine (specLineMeets_v _ _ zs _ _ Z.out.toAll).mono ?_
  rintro e w3 ⟨rfl, bb⟩
  replace BB := Lib.hid (below_then BB.out (Nat.le_refl _) bb)
  replace Z := Lib.hid (Z.out.grow bb)
  clear bb
  obtain ⟨o, ho⟩ : ∃ o, lineMeetsM zs s = o := ⟨_, rfl⟩
  rw [meetA, meetB, meetC, ho]
  cases o with
  | none =>
    clear ho
    have e1 : ((none : Option (Int × Int)).getD (0, 0)).1 = 0 := rfl
    have e2 : ((none : Option (Int × Int)).getD (0, 0)).2 = 0 := rfl
    have e3 : (none : Option (Int × Int)).isSome = false := rfl
    rw [e1, e2, e3]
    clear e1 e2 e3
    go_wp2
    go_ret
    exact ⟨rfl, BB.out⟩
  | some o2 =>
    obtain ⟨x, y⟩ := o2
    have HF := Lib.hid ho
    clear ho
    have e1 : ((some (x, y)).getD (0, 0)).1 = x := rfl
    have e2 : ((some (x, y)).getD (0, 0)).2 = y := rfl
    have e3 : (some (x, y)).isSome = true := rfl
    rw [e1, e2, e3]
    clear e1 e2 e3
    obtain ⟨hr, ⟨s1, s2⟩, hxy⟩ := meetsM_some HF.out
    have hl := (rowB_true.1 hr).2
    obtain ⟨i, k, hm, hik, hk, hmi, hmk, -⟩ := meets_spec zs s (by omega)
    rw [hm] at hxy
    obtain ⟨rfl, rfl⟩ := Prod.mk.inj hxy
    have HR := Lib.hid hr
    have FF : Hid (lineFallM zs s = some (fallL zs s)) := fallM_row hr s1 s2
    obtain ⟨q, p1, p2, hp1, hp2, hq, hQ⟩ := meets_next hk hmk
    have HP1 := Lib.hid hp1; have HP2 := Lib.hid hp2; have HQ0 := Lib.hid hq; have HQ := Lib.hid hQ
    obtain ⟨p, hp⟩ : ∃ p, bentB zs = p := ⟨_, rfl⟩
    have HA : Hid ((rowB zs && bentB zs) = p) := by show _ = _; rw [hr, hp]; rfl
    have HMid : Hid (p = true → ∀ j : Nat, i ≤ j → j ≤ k → s * (j : Int) - zs.getD j 0 = fallL zs s) := fun h j h1 h2 => meets_mid (by rw [hp]; exact h) hk hik hmi hmk j h1 h2
    have hb := fall_bd hr s1 s2
    obtain ⟨F, hF⟩ : ∃ F, fallL zs s = F := ⟨_, rfl⟩
    rw [hF] at FF HMid hb
    obtain ⟨g1, g2⟩ := hb
    clear HF hr hxy hm hmi hmk hp1 hp2 hq hQ hp hF
    have ss : IntKind.i64.wrap (s + 1) = s + 1 := IntWalk.i64_in _ (by omega)
    go_wp2_with fail
    refine (implLineMeets_v _ _ zs (s + 1) _ Z.out.toAll).mono ?_
    rintro e w4 ⟨rfl, bb⟩
    replace BB := Lib.hid (below_then BB.out (Nat.le_refl _) bb)
    replace Z := Lib.hid (Z.out.grow bb)
    clear bb
    rw [HP1.out, HP2.out, HQ0.out]
    go_wp2_with fail
    refine (implFall_of _ _ _ _ zs _ _ Z.out FF.out rfl).mono ?_
    rintro e w5 ⟨rfl, bb⟩
    replace BB := Lib.hid (below_then BB.out (Nat.le_refl _) bb)
    replace Z := Lib.hid (Z.out.grow bb)
    clear bb
    have hik' : (i : Int) ≤ (k : Int) := by omega
    go_wp2
    go_loopw [16] (fun v wr => ∃ j : Nat, i ≤ j ∧ j ≤ k + 1 ∧ v = .int .i64 j ∧ IR wr 0 wr.heap.size A zs ∧ Below w.heap.size w wr) (fun v _ => k + 1 - (intOf v).toNat)
    case atStart => exact ⟨i, Nat.le_refl _, by omega, rfl, Z.out.toAll, BB.out⟩
    case round =>
      clear Z BB
      obtain ⟨j, hj1, hj2, rfl, hz, hbb⟩ := hrel
      have Z := Lib.hid hz; have BB := Lib.hid hbb
      clear hz hbb
      by_cases hlt : j ≤ k
      · have hjk : (j : Int) ≤ (k : Int) := by omega
        have hjl : j < zs.length := by omega
        go_wp2_with fail
        refine (implBent_of _ _ _ _ zs _ Z.out HA.out rfl).mono ?_
        rintro e w6 ⟨rfl, bb⟩
        replace BB := Lib.hid (below_then BB.out (Nat.le_refl _) bb)
        replace Z := Lib.hid (Z.out.grow bb)
        clear bb
        cases p with
        | false =>
          have hQ := HQ.out
          cases q with
          | false =>
            clear hQ
            go_wp2
            go_ret
            exact ⟨rfl, BB.out⟩
          | true =>
            obtain ⟨n1, n2⟩ := hQ rfl
            go_wp2
            go_ret
            exact ⟨rfl, BB.out⟩
        | true =>
          have hmj := HMid.out rfl j hj1 hlt
          obtain ⟨b0, off, rfl, _, _, hcj⟩ := Z.out.at_ hjl
          obtain ⟨y1, y2⟩ := row_getD HR.out j hjl
          obtain ⟨m1, m2⟩ := sk_bd s1 s2 hjl hl.2
          rw [getD_in hjl] at hmj y1 y2
          have hjl' : (j : Int) < (zs.length : Int) := by omega
          have hne : (s * (j : Int) - zs[j] != F) = false := by rw [hmj]; simp
          go_wp2
          go_roundw
          case rel => exact ⟨j + 1, by omega, by omega, by go_num, Z.out.toAll, BB.out⟩
          case measure => simp [intOf]; omega
      · have hjk : ¬ (j : Int) ≤ (k : Int) := by omega
        have hQ := HQ.out
        cases q with
        | false =>
          clear hQ
          go_wp2
          go_ret
          exact ⟨rfl, BB.out⟩
        | true =>
          obtain ⟨n1, n2⟩ := hQ rfl
          go_wp2
          go_ret
          exact ⟨rfl, BB.out⟩
end Go.Proofs.Ytlgagdplnpeklaa
