/-
  The law FnTableOf walked: for all codes it returns true, and nothing that lay before has turned. Conditions: none but those of its row.
-/
import Derived.Test.YthkbihkdecjjcaaDraw3
import Derived.Test.YthkbihkdecjjcaaTbO
import Derived.Test.YthkbihkdecjjcaaTsA
import Derived.Test.YthkbihkdecjjcaaLawR
import Derived.Test.YthkbihkdecjjcaaMathA
namespace Go.Proofs.Ythkbihkdecjjcaa
open Go.RowKit

set_option maxRecDepth 100000 in
set_option maxHeartbeats 2000000 in
theorem DrawTableOf_any (A : Option Addr) (c : Nat) (bs : List Int) (w : World) (h : BR w w.heap.size A bs) (hc : bs.length ≤ c) (hc2 : c ≤ 9000000000000000000) :
    Calls Try.prog 17 #[.slice A bs.length c] w fun e w' => ∃ (n m : Nat) (A' : Option Addr) (c' : Nat) (zs : List Int), e = .returned (.tuple #[.int .i64 (n : Int), .int .i64 (m : Int), .slice A' zs.length c']) ∧ (1 ≤ n ∧ n ≤ 6) ∧ (1 ≤ m ∧ m ≤ 6) ∧ (zs.length ≤ 12 ∧ CapOk zs.length c') ∧ IW w' w.heap.size w'.heap.size A' zs ∧ Below w.heap.size w w' := by
  have H := Lib.hid h
  clear h
  go_enter Try.func17, Try.ntmps17
  go_wp2_with fail
  refine (l6Open_any A c bs _ H.out hc hc2).mono ?_
  rintro e w1 ⟨rfl, hr, hb⟩
  have B0 := Lib.hid hb; have R0 := Lib.hid hr
  have hs1 : w.heap.size < w1.heap.size := R0.out.lt
  have hs2 := B0.out.size
  clear hb hr
  go_wp2_with fail
  refine (pick_any w.heap.size _ 6 _ R0.out (by omega) (by omega)).mono ?_
  rintro e w2 ⟨v0, rfl, v00, v01, -, hb, hs, hr⟩
  have v02 := v01 (by omega)
  replace B0 := Lib.hid (B0.out.trans (hb.toBelow hs2 (Nat.le_refl _)))
  replace R0 := Lib.hid hr
  have hs2 := B0.out.size
  clear hb hs hr v01
  obtain ⟨n0, hn0⟩ : ∃ n : Nat, 1 + v0 = (n : Int) := ⟨(1 + v0).toNat, by omega⟩
  have t0 : IntKind.i64.wrap (1 + v0) = (n0 : Int) := by rw [← hn0]; exact IntWalk.i64_in _ (by omega)
  go_wp2_with fail
  refine (pick_any w.heap.size _ 6 _ R0.out (by omega) (by omega)).mono ?_
  rintro e w3 ⟨v1, rfl, v10, v11, -, hb, hs, hr⟩
  have v12 := v11 (by omega)
  replace B0 := Lib.hid (B0.out.trans (hb.toBelow hs2 (Nat.le_refl _)))
  replace R0 := Lib.hid hr
  have hs2 := B0.out.size
  clear hb hs hr v11
  obtain ⟨n1, hn1⟩ : ∃ n : Nat, 1 + v1 = (n : Int) := ⟨(1 + v1).toNat, by omega⟩
  have t1 : IntKind.i64.wrap (1 + v1) = (n1 : Int) := by rw [← hn1]; exact IntWalk.i64_in _ (by omega)
  go_wp2_with fail
  refine (pick_any w.heap.size _ 2 _ R0.out (by omega) (by omega)).mono ?_
  rintro e w4 ⟨v2, rfl, v20, v21, -, hb, hs, hr⟩
  have v22 := v21 (by omega)
  replace B0 := Lib.hid (B0.out.trans (hb.toBelow hs2 (Nat.le_refl _)))
  replace R0 := Lib.hid hr
  have hs2 := B0.out.size
  clear hb hs hr v21
  obtain ⟨k, hk⟩ : ∃ k : Nat, n0 + n1 - 1 = k := ⟨_, rfl⟩
  have t2 : IntKind.i64.wrap ((n0 : Int) + (n1 : Int)) = (n0 : Int) + (n1 : Int) := IntWalk.i64_in _ (by omega)
  have t3 : IntKind.i64.wrap ((n0 : Int) + (n1 : Int) - 1) = (k : Int) := by rw [IntWalk.i64_in _ (by omega)]; omega
  have HN0 : Hid (1 ≤ n0 ∧ n0 ≤ 6) := by show _ ∧ _; omega
  have HN1 : Hid (1 ≤ n1 ∧ n1 ≤ 6) := by show _ ∧ _; omega
  have hk12 : k ≤ 11 := by omega
  have HK := Lib.hid hk
  clear hn0 hn1 hk v00 v02 v10 v12
  by_cases c0 : v2 = 0
  · go_wp2_with fail
    refine (l91Bent_any w.heap.size _ k _ R0.out (by omega) (by omega)).mono ?_
    rintro e w5 ⟨A5, c5, zs, p5, rfl, hz, hi, hb, hr, hp5, hcap⟩
    replace B0 := Lib.hid (B0.out.trans (hb.toBelow hs2 (Nat.le_refl _)))
    have HI := Lib.hid (hi.wide hs2 (Nat.le_refl _) (Nat.le_refl _)); have HC := Lib.hid hcap; have HZ := Lib.hid hz
    clear hb hr hp5 hi hcap hz
    go_wp2
    go_ret3
    refine ⟨n0, n1, A5, c5, zs, by rw [HZ.out]; rfl, HN0.out, HN1.out, ⟨by rw [HZ.out]; omega, by rw [HZ.out]; exact HC.out⟩, HI.out, B0.out⟩
  · have c0' : (v2 == 0) = false := by rw [beq_eq_false_iff_ne]; exact c0
    go_wp2_with fail
    refine (pick_any w.heap.size _ 24 _ R0.out (by omega) (by omega)).mono ?_
    rintro e w5 ⟨v3, rfl, v30, v31, -, hb, hs, hr⟩
    have v32 := v31 (by omega)
    replace B0 := Lib.hid (B0.out.trans (hb.toBelow hs2 (Nat.le_refl _)))
    replace R0 := Lib.hid hr
    have hs2 := B0.out.size
    clear hb hs hr v31
    obtain ⟨j, hj⟩ : ∃ j : Nat, v3.tdiv 23 = (j : Int) := ⟨(v3.tdiv 23).toNat, by rw [Int.tdiv_eq_ediv_of_nonneg v30]; omega⟩
    have hj1 : j ≤ 1 := by rw [Int.tdiv_eq_ediv_of_nonneg v30] at hj; omega
    have t4 : IntKind.i64.wrap (j : Int) = (j : Int) := IntWalk.i64_in _ (by omega)
    have t5 : IntKind.i64.wrap ((k : Int) + (j : Int)) = ((k + j : Nat) : Int) := by rw [IntWalk.i64_in _ (by omega)]; omega
    go_wp2_with fail
    refine (l91Row_any w.heap.size _ (k + j) _ R0.out (by omega) (by omega)).mono ?_
    rintro e w6 ⟨A6, c6, zs, p6, rfl, hz, hi, hb, hr, hp6, hcap⟩
    replace B0 := Lib.hid (B0.out.trans (hb.toBelow hs2 (Nat.le_refl _)))
    have HI := Lib.hid (hi.wide hs2 (Nat.le_refl _) (Nat.le_refl _)); have HC := Lib.hid hcap; have HZ := Lib.hid hz
    clear hb hr hp6 hi hcap hz
    go_wp2
    go_ret3
    refine ⟨n0, n1, A6, c6, zs, by rw [HZ.out]; rfl, HN0.out, HN1.out, ⟨by rw [HZ.out]; omega, by rw [HZ.out]; exact HC.out⟩, HI.out, B0.out⟩

theorem of_crossed {a : List Int} {n m : Nat} (hn : 2 ≤ n ∧ n ≤ 6) (hm : 2 ≤ m ∧ m ≤ 6) (hr : rowB a = true) (hl : a.length + 1 = n + m) : crossedB (tabL n m (ofRow a n)) = bentB a := by
  have hsh := tab_sh n m (ofRow a n)
  have hcn : colsN (tabL n m (ofRow a n)) = m := hsh.row (i := 0) (by omega)
  have htab : tableB (tabL n m (ofRow a n)) = true := tab_table (by omega) (by omega) fun i k hi hk => row_getD hr _ (by omega)
  unfold crossedB
  rw [htab, Bool.true_and, hsh.1, hcn, Bool.eq_iff_iff, crB_iff, ← ofRow_cr hn.1 hm.1 (by omega)]
  exact ⟨fun h => cr_congr h fun i k hi hk => tab_ent _ hi hk, fun h => cr_congr h fun i k hi hk => (tab_ent _ hi hk).symm⟩
theorem implCrossed_of {b : Bool} {n lo hi : Nat} (A : Option Addr) (c : Nat) (t : List (List Int)) (w : World) (h : IRR w lo hi A t) (hb : crossedB t = b) (hn : n = t.length) :
    Calls Try.prog 14 #[.slice A n c] w fun e w' => e = .returned (.bool b) ∧ Below w.heap.size w w' := by subst hn; subst hb; exact implTableCrossed_any A c t w h.toAll

set_option maxHeartbeats 1500000 in
set_option maxRecDepth 100000 in
theorem lawFnTableOf_any (A0 : Option Addr) (c0 : Nat) (bs : List Int) (w : World) (h0 : BR w w.heap.size A0 bs) (hc : bs.length ≤ c0) (hc2 : c0 ≤ 9000000000000000000) :
    Calls Try.prog 4 #[.slice A0 bs.length c0] w fun e w' => e = .returned (.bool true) ∧ Below w.heap.size w w' := by
  by_cases hbig : (1048576 : Int) < (bs.length : Int)
  · clear h0
    go_enter Try.func4, Try.ntmps4
    go_wp2
    go_ret
    exact ⟨rfl, Below.refl _ _⟩
  have H0 := Lib.hid h0
  clear h0
  have BB := Lib.hid (Below.refl w.heap.size w)
  go_enter Try.func4, Try.ntmps4
  go_wp2_with fail
  refine (DrawTableOf_any _ _ bs _ H0.out hc hc2).mono ?_
  rintro e w1 ⟨n, m, A, c, zs, rfl, hn, hm, ⟨hz, hcp⟩, iw, bb⟩
  replace BB := Lib.hid (below_then BB.out (Nat.le_refl _) bb)
  have Z := Lib.hid iw.toAll
  clear bb
  have HCP := Lib.hid hcp
  clear iw hcp
  go_wp2_with fail
  refine (implTableOf_any (n : Int) (m : Int) _ _ zs _ Z.out.toAll).mono ?_
  rintro e w2 ⟨A2, c2, rfl, -, iw, bb⟩
  replace BB := Lib.hid (below_then BB.out (Nat.le_refl _) bb)
  replace Z := Lib.hid (Z.out.grow bb)
  have G := Lib.hid iw.toIRR.toAll
  clear bb
  clear iw
  go_wp2_with fail
  refine (specTableOf_any (n : Int) (m : Int) _ _ _ _ zs _ Z.out HCP.out.1 (by have := HCP.out.2; omega)).mono ?_
  rintro e w3 ⟨A3, c3, rfl, -, iw, bb⟩
  replace BB := Lib.hid (below_then BB.out (Nat.le_refl _) bb)
  replace Z := Lib.hid (Z.out.grow bb)
  replace G := Lib.hid (G.out.grow bb)
  have V := Lib.hid iw.toIRR.toAll
  clear bb
  clear iw
  obtain ⟨o, hm'⟩ : ∃ o, ofM (n : Int) (m : Int) zs = o := ⟨_, rfl⟩
  rw [hm'] at G V
  rw [hm']
  cases o with
  | none =>
    clear hm'
    replace G : Hid (IRR w3 _ _ A2 []) := G
    replace V : Hid (IRR w3 _ _ A3 []) := V
    go_wp2_with fail
    refine (sameRows_b _ _ _ _ _ _ _ _ _ _ [] _ G.out V.out rfl rfl).mono ?_
    rintro e w4 ⟨rfl, bb⟩
    replace BB := Lib.hid (below_then BB.out (Nat.le_refl _) bb)
    replace G := Lib.hid (G.out.grow bb)
    replace V := Lib.hid (V.out.grow bb)
    clear bb
    go_wp2_with fail
    refine (sameRows_b _ _ _ _ _ _ _ _ _ _ [] _ G.out V.out rfl rfl).mono ?_
    rintro e w5 ⟨rfl, bb⟩
    replace BB := Lib.hid (below_then BB.out (Nat.le_refl _) bb)
    replace G := Lib.hid (G.out.grow bb)
    replace V := Lib.hid (V.out.grow bb)
    clear bb
    go_wp2
    go_ret
    exact ⟨rfl, BB.out⟩
  | some out =>
    have e1 : (some out).getD [] = out := rfl
    rw [e1]
    replace G : Hid (IRR w3 _ _ A2 out) := G
    replace V : Hid (IRR w3 _ _ A3 out) := V
    have HM := Lib.hid hm'
    clear hm' e1
    go_wp2_with fail
    refine (sameRows_b _ _ _ _ _ _ _ _ _ _ out _ G.out V.out rfl rfl).mono ?_
    rintro e w4 ⟨rfl, bb⟩
    replace BB := Lib.hid (below_then BB.out (Nat.le_refl _) bb)
    replace Z := Lib.hid (Z.out.grow bb)
    replace G := Lib.hid (G.out.grow bb)
    replace V := Lib.hid (V.out.grow bb)
    clear bb
    clear V
    obtain ⟨hrb, hlen, hout⟩ : rowB zs = true ∧ zs.length + 1 = n + m ∧ out = tabL n m (ofRow zs n) := by
      have h := HM.out
      unfold ofM at h
      split at h
      · next e => injection h with h; exact ⟨e.2.2.1, by omega, h.symm⟩
      · cases h
    have hol : out.length = n := by rw [hout]; exact (tab_sh n m _).1
    have hcn : colsN out = m := by rw [hout]; exact (tab_sh n m _).row (i := 0) (by omega)
    have h0o : 0 < out.length := by omega
    obtain ⟨b, off, Ak, ck, rfl, -, hc0, -, -⟩ := G.out.at_ (k := 0) h0o
    have h00 : (out[0]'h0o).length = m := by
      have e : (out[0]'h0o).length = colsN out := by
        unfold colsN
        simp [List.getD, h0o]
      exact e.trans hcn
    rw [h00, Nat.add_zero] at hc0
    have HOL := Lib.hid hol
    rw [hol]
    have n0 : (0 : Int) < (n : Int) := by omega
    by_cases q1 : (n : Int) < 2
    · clear hout
      go_wp2
      go_ret
      exact ⟨rfl, BB.out⟩
    have q1' : decide ((n : Int) < 2) = false := decide_eq_false q1
    by_cases q2 : (m : Int) < 2
    · clear hout
      go_wp2
      go_ret
      exact ⟨rfl, BB.out⟩
    have q2' : decide ((m : Int) < 2) = false := decide_eq_false q2
    have hcb := of_crossed (n := n) (m := m) (by omega) (by omega) hrb hlen
    rw [← hout] at hcb
    obtain ⟨q, hq⟩ : ∃ q, bentB zs = q := ⟨_, rfl⟩
    have HBT : Hid ((rowB zs && bentB zs) = q) := by show _ = _; rw [hrb, hq]; rfl
    rw [hq] at hcb
    have HCB := Lib.hid hcb
    clear hout hcb hq hrb hlen
    go_wp2_with fail
    refine (implCrossed_of _ _ out _ G.out HCB.out HOL.out.symm).mono ?_
    rintro e w5 ⟨rfl, bb⟩
    replace BB := Lib.hid (below_then BB.out (Nat.le_refl _) bb)
    replace Z := Lib.hid (Z.out.grow bb)
    replace G := Lib.hid (G.out.grow bb)
    clear bb
    go_wp2_with fail
    refine (implBent_of _ _ _ _ zs _ Z.out HBT.out rfl).mono ?_
    rintro e w6 ⟨rfl, bb⟩
    replace BB := Lib.hid (below_then BB.out (Nat.le_refl _) bb)
    replace Z := Lib.hid (Z.out.grow bb)
    replace G := Lib.hid (G.out.grow bb)
    clear bb
    cases q with
    | false =>
      go_wp2
      go_ret
      exact ⟨rfl, BB.out⟩
    | true =>
      go_wp2
      go_ret
      exact ⟨rfl, BB.out⟩
end Go.Proofs.Ythkbihkdecjjcaa
