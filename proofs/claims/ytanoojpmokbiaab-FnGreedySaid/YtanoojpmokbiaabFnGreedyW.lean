/-
  The law FnGreedy walked: for all codes it returns true, and nothing that lay before has turned. Conditions: none but those of its row.
-/
import Derived.Test.YtanoojpmokbiaabDS
import Derived.Test.YtanoojpmokbiaabGrP
import Derived.Test.YtanoojpmokbiaabSame
import Derived.Test.YtanoojpmokbiaabTotal
import Derived.Test.YtanoojpmokbiaabMathA
namespace Go.Proofs.Ytanoojpmokbiaab
open Go.RowKit

theorem totW_of {l : List Int} (h0 : ∀ x, x ∈ l → 0 ≤ x ∧ x ≤ 1000) (hl : l.length ≤ 1000) : totW l = totL l := by
  have key : ∀ (m : List Int) (a : Int), (∀ x, x ∈ m → 0 ≤ x ∧ x ≤ 1000) → 0 ≤ a → a + 1000 * (m.length : Int) ≤ 9000000 → m.foldl (fun a z => wrap64 (a + z)) a = a + totL m := by
    intro m
    induction m with
    | nil => intro a _ _ _; simp [totL]
    | cons x m ih =>
      intro a hm ha hb
      have hx := hm x List.mem_cons_self
      rw [List.length_cons] at hb
      have hw : wrap64 (a + x) = a + x := by unfold wrap64; omega
      rw [List.foldl_cons, hw, ih (a + x) (fun y hy => hm y (List.mem_cons_of_mem _ hy)) (by omega) (by omega)]
      show a + x + totL m = a + (x + totL m)
      omega
  have := key l 0 h0 (Int.le_refl _) (by omega)
  unfold totW
  rw [this]
  omega
theorem places_tot {rs : List (List Int)} {l : List Int} (h : placesB rs l = true) : totW l = totL l := by
  obtain ⟨h1, h2, h3⟩ := places_facts h
  refine totW_of (fun x hx => ?_) (by omega)
  obtain ⟨k, hk, rfl⟩ := List.getElem_of_mem hx
  obtain ⟨p, e1, e2, e3, e4, e5⟩ := h3 k (by omega)
  rw [getD_at hk] at e1
  omega
theorem take_all {rs : List (List Int)} {f : List Int → Bool} {i : Nat} (hi : i < rs.length) : (rs.take (i + 1)).all f = ((rs.take i).all f && f rs[i]) := by
  rw [← takeR_snoc rs i hi, List.all_append]
  simp
theorem bent_row {rs : List (List Int)} {i : Nat} (hg : givenB rs = true) (hi : i < rs.length) {q : Bool} (h : bentB rs[i] = q) : (rowB rs[i] && bentB rs[i]) = q := by
  rw [(given_true.1 hg).1 rs[i] (List.getElem_mem hi), h, Bool.true_and]

theorem greedy_found {rs : List (List Int)} {n : Int} {o : List Int} (h : greedyM rs n = some o) : shareOk rs n = true ∧ givenB rs = true ∧ bentsB rs = true ∧ placesB rs o = true ∧ shareCostL rs o = shareC rs n ∧ totW o = n ∧ o = greedyTo rs n.toNat ∧ o.length = rs.length ∧ 0 ≤ n ∧ n ≤ 48 := by
  unfold greedyM at h
  split at h
  · rename_i hc
    rw [Bool.and_eq_true] at hc
    injection h with h
    obtain ⟨g1, g2, g3⟩ := greedy_law hc.1 hc.2
    rw [h] at g1 g2 g3
    have hg := (places_true.1 g1).1
    obtain ⟨-, -, -, n0, n1⟩ := share_true hc.1
    have hm := (most_le hg).2
    refine ⟨hc.1, hg, hc.2, g1, ?_, by rw [places_tot g1, g3], h.symm, (places_facts g1).1, n0, by omega⟩
    unfold shareCostL
    rw [if_pos g1, g2, (share_yes hc.1).1]
  · cases h
theorem greedy_less {rs : List (List Int)} {n : Int} {o u : List Int} (h : greedyM rs n = some o) (h' : greedyM rs (n - 1) = some u) : u.length = o.length ∧ ∀ (j : Nat) (h1 : j < u.length) (h2 : j < o.length), u[j] ≤ o[j] := by
  obtain ⟨f1, f2, f3, f4, f5, f6, f7, f8, f9, f10⟩ := greedy_found h
  obtain ⟨g1, g2, g3, g4, g5, g6, g7, g8, g9, g10⟩ := greedy_found h'
  refine ⟨by omega, fun j h1 h2 => ?_⟩
  obtain ⟨k1, k2, k3⟩ := given_true.1 f2
  obtain ⟨-, -, p3, p4, p5⟩ := share_true f1
  have := greedy_le (rs := rs) (fun r hr => row_pos (k1 r hr)) (bents_true f3) (k := (n - 1).toNat) (by omega) j
  rw [show (n - 1).toNat + 1 = n.toNat by omega, ← f7, ← g7, getD_at h1, getD_at h2] at this
  exact this

set_option maxHeartbeats 1500000 in
set_option maxRecDepth 100000 in
theorem lawFnGreedy_any (A0 : Option Addr) (c0 : Nat) (bs : List Int) (w : World) (h0 : BR w w.heap.size A0 bs) (hc : bs.length ≤ c0) (hc2 : c0 ≤ 9000000000000000000) :
    Calls Try.prog 4 #[.slice A0 bs.length c0] w fun e w' => e = .returned (.bool true) ∧ Below w.heap.size w w' := by
  by_cases hbig : (1048576 : Int) < (bs.length : Int)
  · clear h0
    go_enter Try.func4, Try.ntmps4
    go_wp2
    go_ret
    exact ⟨rfl, Below.refl _ _⟩
  have H0 := Lib.hid h0
  clear h0
  have BB := Lib.hid (Below.refl w.heap.size w)
  go_enter Try.func4, Try.ntmps4
  go_wp2_with fail
  refine (DrawShareGreedy_any _ _ bs _ H0.out hc hc2).mono ?_
  rintro e w1 ⟨A, c, rs, n, rfl, hfit, hn, iw, bb⟩
  replace BB := Lib.hid (below_then BB.out (Nat.le_refl _) bb)
  have Z := Lib.hid iw.toAll
  clear bb
  clear iw hfit hn
  go_wp2_with fail
  refine (implShareGreedy_any _ _ rs n _ Z.out.toAll).mono ?_
  rintro e w2 ⟨A2, c2, rfl, iw, bb⟩
  replace BB := Lib.hid (below_then BB.out (Nat.le_refl _) bb)
  replace Z := Lib.hid (Z.out.grow bb)
  have G := Lib.hid iw.toAll
  clear bb
  clear iw
  go_wp2_with fail
  refine (specShareGreedy_any _ _ _ _ rs n _ Z.out).mono ?_
  rintro e w3 ⟨A3, c3, rfl, iw, bb⟩
  replace BB := Lib.hid (below_then BB.out (Nat.le_refl _) bb)
  replace Z := Lib.hid (Z.out.grow bb)
  replace G := Lib.hid (G.out.grow bb)
  have V := Lib.hid iw.toAll
  clear bb
  clear iw
  obtain ⟨o, hm⟩ : ∃ o, greedyM rs n = o := ⟨_, rfl⟩
  rw [hm] at G V
  rw [hm]
  cases o with
  | none =>
    clear hm
    replace G : Hid (IR w3 _ _ A2 []) := G
    replace V : Hid (IR w3 _ _ A3 []) := V
    go_wp2_with fail
    refine (sameInts_b _ _ _ _ _ _ _ _ _ _ [] _ G.out V.out rfl rfl).mono ?_
    rintro e w4 ⟨rfl, bb⟩
    replace BB := Lib.hid (below_then BB.out (Nat.le_refl _) bb)
    replace G := Lib.hid (G.out.grow bb)
    replace V := Lib.hid (V.out.grow bb)
    clear bb
    go_wp2_with fail
    refine (sameInts_b _ _ _ _ _ _ _ _ _ _ [] _ G.out V.out rfl rfl).mono ?_
    rintro e w5 ⟨rfl, bb⟩
    replace BB := Lib.hid (below_then BB.out (Nat.le_refl _) bb)
    replace G := Lib.hid (G.out.grow bb)
    replace V := Lib.hid (V.out.grow bb)
    clear bb
    go_wp2
    go_ret
    exact ⟨rfl, BB.out⟩
  | some out =>
    have e1 : (some out).getD [] = out := rfl
    rw [e1]
    replace G : Hid (IR w3 _ _ A2 out) := G
    replace V : Hid (IR w3 _ _ A3 out) := V
    have HM := Lib.hid hm
    clear hm e1
    go_wp2_with fail
    refine (sameInts_b _ _ _ _ _ _ _ _ _ _ out _ G.out V.out rfl rfl).mono ?_
    rintro e w4 ⟨rfl, bb⟩
    replace BB := Lib.hid (below_then BB.out (Nat.le_refl _) bb)
    replace Z := Lib.hid (Z.out.grow bb)
    replace G := Lib.hid (G.out.grow bb)
    replace V := Lib.hid (V.out.grow bb)
    clear bb
    clear V
    obtain ⟨f1, f2, f3, f4, f5, f6, f7, f8, f9, f10⟩ := greedy_found HM.out
    obtain ⟨s1, s2, s3⟩ := share_yes f1
    have HPL := Lib.hid f4; have HTT := Lib.hid f6; have HSM : Hid (shareM rs n = some (tryL rs n).2.1) := s2
    obtain ⟨cs, hcs⟩ : ∃ x, shareC rs n = x := ⟨_, rfl⟩
    rw [hcs] at f5
    have HX := Lib.hid f5; have HCS := Lib.hid hcs
    have wn : IntKind.i64.wrap (n - 1) = n - 1 := IntWalk.i64_in _ (by omega)
    have hol : out.length ≤ 4 := by rw [f8]; exact (given_true.1 f2).2.2
    have HOL := Lib.hid hol
    clear f1 f2 f3 f4 f5 f6 f7 f8 f9 f10 s1 s2 s3 hcs hol
    go_wp2_with fail
    refine (implShareTry_any _ _ rs n _ Z.out.toAll).mono ?_
    rintro e w5 ⟨A5, c5, rfl, iw, bb⟩
    replace BB := Lib.hid (below_then BB.out (Nat.le_refl _) bb)
    replace Z := Lib.hid (Z.out.grow bb)
    replace G := Lib.hid (G.out.grow bb)
    clear bb
    clear iw
    rw [HSM.out, HCS.out]
    go_wp2_with fail
    refine (implShareCost_any _ _ rs _ _ out _ Z.out.toAll G.out.toAll).mono ?_
    rintro e w6 ⟨rfl, bb⟩
    replace BB := Lib.hid (below_then BB.out (Nat.le_refl _) bb)
    replace Z := Lib.hid (Z.out.grow bb)
    replace G := Lib.hid (G.out.grow bb)
    clear bb
    rw [HX.out, HPL.out]
    go_wp2_with fail
    refine (implShareGreedy_any _ _ rs (n - 1) _ Z.out.toAll).mono ?_
    rintro e w7 ⟨A6, c6, rfl, iw, bb⟩
    replace BB := Lib.hid (below_then BB.out (Nat.le_refl _) bb)
    replace Z := Lib.hid (Z.out.grow bb)
    replace G := Lib.hid (G.out.grow bb)
    have E := Lib.hid iw.toAll
    clear bb
    clear iw wn
    obtain ⟨o2, hm2⟩ : ∃ o, greedyM rs (n - 1) = o := ⟨_, rfl⟩
    rw [hm2] at E
    rw [hm2]
    cases o2 with
    | none =>
      clear E hm2
      go_wp2
      refine wp_loop_rounds 1 ?_
      rw [rounds_succ]
      go_wp2_with fail
      refine (total_any _ _ _ _ _ out _ G.out rfl).mono ?_
      rintro e w' ⟨rfl, rfl⟩
      rw [HTT.out]
      go_wp2
      go_ret
      exact ⟨rfl, BB.out⟩
    | some u =>
      replace E : Hid (IR w7 _ _ A6 u) := E
      obtain ⟨g1, g2⟩ := greedy_less HM.out hm2
      have HG2 := Lib.hid g2
      have e2 : ((some u).getD []).length = u.length := rfl
      rw [e2, g1]
      obtain ⟨m, hm⟩ : ∃ m, out.length = m := ⟨_, rfl⟩
      have HMM := Lib.hid hm; have HUM : Hid (u.length = m) := g1.trans hm
      have hm4 : m ≤ 4 := by have := HOL.out; omega
      rw [hm]
      clear g1 g2 hm2 e2 hm
      go_wp2
      go_loopw [16] (fun v wr => ∃ i : Nat, i ≤ m ∧ v = .int .i64 (i : Int) ∧ Dr w7 wr) (fun v _ => m - (intOf v).toNat)
      case atStart => exact ⟨0, Nat.zero_le _, rfl, Dr.refl _⟩
      case round =>
        obtain ⟨i, hi, rfl, hdr⟩ := hrel
        have HD := Lib.hid hdr
        by_cases him : i < m
        · have him' : (i : Int) < (m : Int) := by omega
          have i0 : (0 : Int) ≤ (i : Int) := by omega
          have hiu : i < u.length := by rw [HUM.out]; exact him
          have hio : i < out.length := by rw [HMM.out]; exact him
          obtain ⟨b1, o1, rfl, _, _, hc1⟩ := (hdr.ir E.out).at_ hiu
          obtain ⟨b2, o2, rfl, _, _, hc2⟩ := (hdr.ir G.out).at_ hio
          have hle := HG2.out i hiu hio
          obtain ⟨x, hx⟩ : ∃ x, u[i] = x := ⟨_, rfl⟩
          obtain ⟨y, hy⟩ : ∃ y, out[i] = y := ⟨_, rfl⟩
          rw [hx] at hc1 hle
          rw [hy] at hc2 hle
          have hng : ¬ y < x := by omega
          have hng' : decide (y < x) = false := decide_eq_false hng
          clear hdr hx hy hle
          go_wp2
          go_quiet (fail)
          go_wp2
          go_roundw
          case rel => exact ⟨i + 1, by omega, by go_num, HD.out.more _⟩
          case measure => simp [intOf]; omega
        · obtain rfl : i = m := by omega
          have him' : ¬ (i : Int) < (i : Int) := by omega
          have HG3 := Lib.hid (hdr.ir G.out)
          replace BB := Lib.hid (hdr.grow BB.out)
          have hmm := HMM.out
          clear hdr
          go_wp2_with fail
          refine (total_any _ _ _ _ _ out _ HG3.out HMM.out.symm).mono ?_
          rintro e w' ⟨rfl, rfl⟩
          rw [HTT.out]
          clear hmm
          go_wp2
          go_ret
          exact ⟨rfl, BB.out⟩
end Go.Proofs.Ytanoojpmokbiaab
