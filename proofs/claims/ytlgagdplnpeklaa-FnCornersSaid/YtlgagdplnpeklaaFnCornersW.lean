/-
  The law FnCorners walked: for all codes it returns true, and nothing that lay before has turned. Conditions: none but those of its row.
-/
import Derived.Test.YtlgagdplnpeklaaDrawOne
import Derived.Test.YtlgagdplnpeklaaSame
import Derived.Test.YtlgagdplnpeklaaMath
import Derived.Test.YtlgagdplnpeklaaLnM
import Derived.Test.YtlgagdplnpeklaaMath2
namespace Go.Proofs.Ytlgagdplnpeklaa
open Go.RowKit

set_option maxHeartbeats 1000000 in
theorem DrawLineCorners_any (A : Option Addr) (c : Nat) (bs : List Int) (w : World) (h : BR w w.heap.size A bs) (hc : bs.length ≤ c) (hc2 : c ≤ 9000000000000000000) :
    Calls Try.prog 40 #[.slice A bs.length c] w (OnePost w 10) := by
  have H := Lib.hid h
  clear h
  go_enter Try.func40, Try.ntmps40
  go_wp2_with fail
  refine (l91One_any A c bs _ H.out hc hc2).mono ?_
  rintro e w1 ⟨A1, c1, zs, rfl, hz, hi, hb⟩
  have I0 := Lib.hid hi; have B0 := Lib.hid hb; have HZ := Lib.hid hz
  clear hi hb hz
  go_wp2
  go_ret
  exact ⟨A1, c1, zs, rfl, HZ.out, I0.out, B0.out⟩

set_option maxHeartbeats 4000000 in
set_option maxRecDepth 100000 in
theorem lawFnCorners_any (A0 : Option Addr) (c0 : Nat) (bs : List Int) (w : World) (h0 : BR w w.heap.size A0 bs) (hc : bs.length ≤ c0) (hc2 : c0 ≤ 9000000000000000000) :
    Calls Try.prog 13 #[.slice A0 bs.length c0] w fun e w' => e = .returned (.bool true) ∧ Below w.heap.size w w' := by
  by_cases hbig : (1048576 : Int) < (bs.length : Int)
  · clear h0
    go_enter Try.func13, Try.ntmps13
    go_wp2
    go_ret
    exact ⟨rfl, Below.refl _ _⟩
  have H0 := Lib.hid h0
  clear h0
  have BB := Lib.hid (Below.refl w.heap.size w)
  go_enter Try.func13, Try.ntmps13
  go_wp2_with fail
  refine (DrawLineCorners_any _ _ bs _ H0.out hc hc2).mono ?_
  rintro e w1 ⟨A, c, zs, rfl, hz, iw, bb⟩
  replace BB := Lib.hid (below_then BB.out (Nat.le_refl _) bb)
  have Z := Lib.hid iw.toAll
  clear bb
  clear iw hz
  go_wp2_with fail
  refine (implLineCorners_any _ _ zs _ Z.out.toAll).mono ?_
  rintro e w2 ⟨A2, c2, rfl, iw, bb⟩
  replace BB := Lib.hid (below_then BB.out (Nat.le_refl _) bb)
  replace Z := Lib.hid (Z.out.grow bb)
  have G := Lib.hid iw.toAll
  clear bb
  clear iw
  go_wp2_with fail
  refine (specLineCorners_any _ _ zs _ Z.out.toAll).mono ?_
  rintro e w3 ⟨A3, c3, rfl, iw, bb⟩
  replace BB := Lib.hid (below_then BB.out (Nat.le_refl _) bb)
  replace Z := Lib.hid (Z.out.grow bb)
  replace G := Lib.hid (G.out.grow bb)
  have V := Lib.hid iw.toAll
  clear bb
  clear iw
  obtain ⟨o, hm⟩ : ∃ o, cornersM zs = o := ⟨_, rfl⟩
  rw [hm] at G V
  rw [hm]
  cases o with
  | none =>
    clear hm
    replace G : Hid (IR w3 _ _ A2 []) := G
    replace V : Hid (IR w3 _ _ A3 []) := V
    go_wp2_with fail
    refine (sameInts_b _ _ _ _ _ _ _ _ _ _ [] _ G.out V.out rfl rfl).mono ?_
    rintro e w4 ⟨rfl, bb⟩
    replace BB := Lib.hid (below_then BB.out (Nat.le_refl _) bb)
    replace G := Lib.hid (G.out.grow bb)
    replace V := Lib.hid (V.out.grow bb)
    clear bb
    go_wp2_with fail
    refine (sameInts_b _ _ _ _ _ _ _ _ _ _ [] _ G.out V.out rfl rfl).mono ?_
    rintro e w5 ⟨rfl, bb⟩
    replace BB := Lib.hid (below_then BB.out (Nat.le_refl _) bb)
    replace G := Lib.hid (G.out.grow bb)
    replace V := Lib.hid (V.out.grow bb)
    clear bb
    go_wp2
    go_ret
    exact ⟨rfl, BB.out⟩
  | some out =>
    have e1 : (some out).getD [] = out := rfl
    rw [e1]
    replace G : Hid (IR w3 _ _ A2 out) := G
    replace V : Hid (IR w3 _ _ A3 out) := V
    have HM := Lib.hid hm
    clear hm e1
    go_wp2_with fail
    refine (sameInts_b _ _ _ _ _ _ _ _ _ _ out _ G.out V.out rfl rfl).mono ?_
    rintro e w4 ⟨rfl, bb⟩
    replace BB := Lib.hid (below_then BB.out (Nat.le_refl _) bb)
    replace Z := Lib.hid (Z.out.grow bb)
    replace G := Lib.hid (G.out.grow bb)
    replace V := Lib.hid (V.out.grow bb)
    clear bb
    clear V
    obtain ⟨hr, ho, x, i, k, hx, hi, hk, m1, m2, c0, c1, c2, c3, cup, cbd, cln⟩ := corners_facts HM.out
    have HX := Lib.hid hx; have HI := Lib.hid hi; have HK := Lib.hid hk; have HR := Lib.hid hr
    have h12 : zs.length ≤ 12 := (rowB_true.1 hr).2.2
    have hz1 : 1 ≤ zs.length := (rowB_true.1 hr).2.1
    obtain ⟨n, hn⟩ : ∃ n, out.length = n := ⟨_, rfl⟩
    have HN := Lib.hid hn
    rw [hn] at c0 c2 m1 m2 cup cbd cln
    have n12 : n ≤ 12 := by omega
    have C1 := Lib.hid c1; have C2 := Lib.hid c2; have M1 := Lib.hid m1; have M2 := Lib.hid m2; have CU := Lib.hid cup; have CB := Lib.hid cbd
    obtain ⟨q, hq⟩ : ∃ q, (rowB zs && bentB zs) = q := ⟨_, rfl⟩
    rw [hn, hq] at c3
    have HQ := Lib.hid hq; have C3 := Lib.hid c3
    obtain ⟨lz, hlz⟩ : ∃ lz, zs.length = lz := ⟨_, rfl⟩
    rw [hlz] at h12 hz1 C2 C3
    have HLZ := Lib.hid hlz
    clear HM hr ho hx hi hk m1 m2 c1 c2 c3 cup cbd hn hq hlz
    go_wp2_with fail
    refine (implRowLeast_any _ _ zs _ Z.out.toAll).mono ?_
    rintro e w5 ⟨rfl, bb⟩
    replace BB := Lib.hid (below_then BB.out (Nat.le_refl _) bb)
    replace Z := Lib.hid (Z.out.grow bb)
    replace G := Lib.hid (G.out.grow bb)
    clear bb
    rw [HX.out, HI.out, HK.out, HR.out, HN.out]
    go_wp2
    go_loopw [12, 13, 14] (fun a b v wr => ∃ (j m : Nat) (b1 b2 : Bool), j ≤ n ∧ v = .int .i64 j ∧ a = .bool b1 ∧ b = .bool b2 ∧ wr = World.drewN w5 m ∧ (b1 = true ↔ ∃ t, t < j ∧ out.getD t 0 = (i : Int)) ∧ (b2 = true ↔ ∃ t, t < j ∧ out.getD t 0 = (k : Int))) (fun _ _ v _ => n - (intOf v).toNat)
    case atStart => exact ⟨0, 0, false, false, Nat.zero_le _, rfl, rfl, rfl, rfl, by simp, by simp⟩
    case round =>
      obtain ⟨j, m, b1, b2, hj, rfl, rfl, rfl, rfl, hb1, hb2⟩ := hrel
      have HB1 := Lib.hid hb1; have HB2 := Lib.hid hb2
      clear hb1 hb2
      by_cases hlt : j < n
      · have i0 : j < out.length := by rw [HN.out]; exact hlt
        obtain ⟨b, off, hA2, _, _, hc0⟩ := G.out.at_ i0
        have HG0 := Lib.hid (getD_in i0)
        obtain ⟨y, hy⟩ : ∃ y, out[j]'i0 = y := ⟨_, rfl⟩
        rw [hy] at hc0 HG0
        have hbd := CB.out j hlt
        rw [HG0.out] at hbd
        obtain ⟨y1, y2⟩ := hbd
        have hlt0 : (j : Int) < (n : Int) := by omega
        have p0 : (0 : Int) ≤ (j : Int) := by omega
        have t0 : (j : Int).toNat = j := by omega
        have N1 : Hid ((b1 || (y == (i : Int))) = true ↔ ∃ t, t < j + 1 ∧ out.getD t 0 = (i : Int)) := or_seen HB1.out HG0.out
        have N2 : Hid ((b2 || (y == (k : Int))) = true ↔ ∃ t, t < j + 1 ∧ out.getD t 0 = (k : Int)) := or_seen HB2.out HG0.out
        by_cases hj1 : 0 < j
        · have i1 : j - 1 < out.length := by omega
          obtain ⟨b', off', hA2', _, _, hc1⟩ := G.out.at_ i1
          rw [hA2] at hA2'
          injection hA2' with e; injection e with e1 e2 _; subst e1; subst e2
          subst hA2
          have hup := CU.out (j - 1) (by omega)
          rw [show j - 1 + 1 = j by omega, HG0.out, getD_in i1] at hup
          have hbd := CB.out (j - 1) (by omega)
          rw [getD_in i1] at hbd
          obtain ⟨z1, z2⟩ := hbd
          obtain ⟨y0, hy0⟩ : ∃ y, out[j - 1]'i1 = y := ⟨_, rfl⟩
          rw [hy0] at hc1 hup z1 z2
          have q1 : (0 : Int) < (j : Int) := by omega
          have hd1 : decide ((0 : Int) < (j : Int)) = true := decide_eq_true q1
          have hlt1 : (j : Int) - 1 < (n : Int) := by omega
          have p1 : (0 : Int) ≤ (j : Int) - 1 := by omega
          have t1' : ((j : Int) - 1).toNat = j - 1 := by omega
          have s1 : IntKind.i64.wrap ((j : Int) - 1) = (j : Int) - 1 := IntWalk.i64_in _ (by omega)
          have nle : ¬ y ≤ y0 := by omega
          have dn1 : decide (y ≤ y0) = false := decide_eq_false nle
          clear hy hy0 i0 i1
          cases b1 <;> cases b2
          all_goals
            go_wp2
            go_quiet (fail)
            clear t0 t1'
            go_wp2
            go_roundw
            case rel => exact ⟨j + 1, _, _, _, by omega, by go_num, rfl, rfl, rfl, N1.out, N2.out⟩
            case measure => simp [intOf]; omega
        · subst hA2
          have q1 : ¬ (0 : Int) < (j : Int) := by omega
          have hd1 : decide ((0 : Int) < (j : Int)) = false := decide_eq_false q1
          clear hy i0
          cases b1 <;> cases b2
          all_goals
            go_wp2
            go_quiet (fail)
            clear t0
            go_wp2
            go_roundw
            case rel => exact ⟨j + 1, _, _, _, by omega, by go_num, rfl, rfl, rfl, N1.out, N2.out⟩
            case measure => simp [intOf]; omega
      · obtain rfl : j = n := by omega
        have e1 : b1 = true := HB1.out.2 M1.out
        have e2 : b2 = true := HB2.out.2 M2.out
        subst e1; subst e2
        have i0 : 0 < out.length := by rw [HN.out]; exact c0
        have i1 : j - 1 < out.length := by rw [HN.out]; omega
        obtain ⟨b, off, hA2, _, _, hc0⟩ := G.out.at_ i0
        obtain ⟨b', off', hA2', _, _, hc1⟩ := G.out.at_ i1
        rw [hA2] at hA2'
        injection hA2' with e; injection e with e1 e2 _; subst e1; subst e2
        rw [Nat.add_zero] at hc0
        have g0 := C1.out
        have g1 := C2.out
        rw [getD_in i0] at g0
        rw [getD_in i1] at g1
        rw [g0] at hc0
        rw [g1] at hc1
        subst hA2
        have hj0 : (0 : Int) < (j : Int) := by omega
        have p1 : (0 : Int) ≤ (j : Int) - 1 := by omega
        have p2 : (j : Int) - 1 < (j : Int) := by omega
        have t1' : ((j : Int) - 1).toNat = j - 1 := by omega
        have s1 : IntKind.i64.wrap ((j : Int) - 1) = (j : Int) - 1 := IntWalk.i64_in _ (by omega)
        have s2 : IntKind.i64.wrap ((lz : Int) - 1) = (lz : Int) - 1 := IntWalk.i64_in _ (by omega)
        rw [HLZ.out]
        have HC3 : Hid (((j : Int) == (lz : Int)) = q) := by show _ = _; exact C3.out
        clear g0 g1 i0 i1
        replace BB := Lib.hid (below_drawN BB.out m)
        replace Z := Lib.hid (Z.out.drewN m)
        replace G := Lib.hid (G.out.drewN m)
        go_wp2_with fail
        refine (implBent_of _ _ _ _ zs _ Z.out HQ.out HLZ.out.symm).mono ?_
        rintro e w6 ⟨rfl, bb⟩
        replace BB := Lib.hid (below_then BB.out (Nat.le_refl _) bb)
        replace Z := Lib.hid (Z.out.grow bb)
        replace G := Lib.hid (G.out.grow bb)
        clear bb
        have hc3 := HC3.out
        cases q
        all_goals
          go_wp2
          go_ret
          exact ⟨rfl, BB.out⟩
end Go.Proofs.Ytlgagdplnpeklaa
