/-
  The law FnTop walked: for all codes it returns true, and nothing that lay before has turned. Conditions: none but those of its row.
-/
import Derived.Test.YtnphmapiagiocaaDrawHill
import Derived.Test.YtnphmapiagiocaaHl2
import Derived.Test.YtnphmapiagiocaaHl3
namespace Go.Proofs.Ytnphmapiagiocaa
open Go.RowKit

set_option maxHeartbeats 1000000 in
theorem DrawHillTop_any (A : Option Addr) (c : Nat) (bs : List Int) (w : World) (h : BR w w.heap.size A bs) (hc : bs.length ≤ c) (hc2 : c ≤ 9000000000000000000) :
    Calls Try.prog 32 #[.slice A bs.length c] w (OnePost w 9) := by
  have H := Lib.hid h
  clear h
  go_enter Try.func32, Try.ntmps32
  go_wp2_with fail
  refine (l6Open_any A c bs _ H.out hc hc2).mono ?_
  rintro e w1 ⟨rfl, hr, hb⟩
  have B0 := Lib.hid hb; have R0 := Lib.hid hr
  have hs := hb.size
  clear hb hr
  go_wp2_with fail
  refine (l91Hill_any w.heap.size 0 8 _ R0.out (by omega) (by omega)).mono ?_
  rintro e w2 ⟨A2, c2, zs, p', rfl, hz, hi, hb, hr, -, hcap⟩
  have I0 := Lib.hid (hi.wide hs (Nat.le_refl _) (Nat.le_refl _))
  replace B0 := Lib.hid (B0.out.trans (hb.toBelow hs (Nat.le_refl _)))
  have HZ := Lib.hid (And.intro hz hcap)
  clear hi hb hr hz hcap
  go_wp2
  go_ret
  exact ⟨A2, c2, zs, rfl, HZ.out, I0.out, B0.out⟩

theorem turned_of (A : Option Addr) (n c : Nat) (zs ts : List Int) (w : World) (h : IR w 0 w.heap.size A zs) (hr : rowB zs = true) (hn : n = zs.length) (ht : negL zs = ts) :
    Calls Try.prog 26 #[.slice A n c] w (RetSC w ts) := by subst ht; exact turned_any A n c zs w h hr hn

theorem tops_of {zs : List Int} (hh : hillB zs = true) : ∃ (i k : Nat), topA zs = (i : Int) ∧ topB zs = (k : Int) ∧ leastB (negL zs) = (i : Int) ∧ leastC (negL zs) = (k : Int) ∧ i ≤ k ∧ k < zs.length ∧ (hillRoundB zs = true → ∀ m, i ≤ m → m ≤ k → zs.getD m 0 = zs.getD i 0) := by
  obtain ⟨hn, hr⟩ := hill_true hh
  have hl := (rowB_true.1 hr).2
  obtain ⟨m, hm⟩ : ∃ m, (negL zs).length = m + 1 := ⟨zs.length - 1, by rw [neg_len]; omega⟩
  obtain ⟨h1, h2, h3, h4⟩ := leastTo_spec (negL zs) m
  rw [← hm] at h1 h2 h3 h4
  have hlen := neg_len zs
  refine ⟨_, _, (top_yes hh).1, (top_yes hh).2, by unfold leastB; rw [if_pos (neg_row hr)], by unfold leastC; rw [if_pos (neg_row hr)], h1, by omega, fun hq j j1 j2 => ?_⟩
  have hro : roundB zs = true := by unfold hillRoundB at hq; rw [Bool.and_eq_true] at hq; exact hq.2
  rw [neg_getD, neg_getD] at h3
  refine tops_between hn ((roundB_iff hn).1 hro) j1 j2 rfl (by omega) (by omega) fun t ht => ?_
  have g := (h4 t (by omega)).1
  rw [neg_getD, neg_getD] at g
  omega

theorem implHillRound_of {q : Bool} {n lo hi : Nat} (A : Option Addr) (c : Nat) (zs : List Int) (w : World) (h : IR w lo hi A zs) (hn : n = zs.length) (hq : hillRoundB zs = q) :
    Calls Try.prog 24 #[.slice A n c] w fun e w' => e = .returned (.bool q) ∧ Below w.heap.size w w' := by subst hn; subst hq; exact implHillRound_any A c zs w h.toAll

set_option maxHeartbeats 1500000 in
set_option maxRecDepth 100000 in
theorem lawFnTop_any (A0 : Option Addr) (c0 : Nat) (bs : List Int) (w : World) (h0 : BR w w.heap.size A0 bs) (hc : bs.length ≤ c0) (hc2 : c0 ≤ 9000000000000000000) :
    Calls Try.prog 9 #[.slice A0 bs.length c0] w fun e w' => e = .returned (.bool true) ∧ Below w.heap.size w w' := by
  by_cases hbig : (1048576 : Int) < (bs.length : Int)
  · clear h0
    go_enter Try.func9, Try.ntmps9
    go_wp2
    go_ret
    exact ⟨rfl, Below.refl _ _⟩
  have H0 := Lib.hid h0
  clear h0
  have BB := Lib.hid (Below.refl w.heap.size w)
  go_enter Try.func9, Try.ntmps9
  go_wp2_with fail
  refine (DrawHillTop_any _ _ bs _ H0.out hc hc2).mono ?_
  rintro e w1 ⟨A, c, zs, rfl, hz, iw, bb⟩
  replace BB := Lib.hid (below_then BB.out (Nat.le_refl _) bb)
  have Z := Lib.hid iw.toAll
  clear bb
  have HK := Lib.hid hz.2
  clear iw hz
  go_wp2_with fail
  refine (implHillTop_any _ _ zs _ Z.out.toAll).mono ?_
  rintro e w2 ⟨rfl, bb⟩
  replace BB := Lib.hid (below_then BB.out (Nat.le_refl _) bb)
  replace Z := Lib.hid (Z.out.grow bb)
  clear bb
  go_wp2_with fail
  refine (specHillTop_any _ _ zs _ Z.out.toAll).mono ?_
  rintro e w3 ⟨rfl, bb⟩
  replace BB := Lib.hid (below_then BB.out (Nat.le_refl _) bb)
  replace Z := Lib.hid (Z.out.grow bb)
  clear bb
  cases hr : hillB zs with
  | false =>
    obtain ⟨x, hx⟩ : ∃ x, topA zs = x := ⟨_, rfl⟩
    obtain ⟨y, hy⟩ : ∃ x, topB zs = x := ⟨_, rfl⟩
    rw [hx, hy]
    clear hx hy hr
    go_wp2
    go_ret
    exact ⟨rfl, BB.out⟩
  | true =>
    obtain ⟨i, k, hi, hk, hli, hlk, ik, kl, hq⟩ := tops_of hr
    obtain ⟨hn, hrw⟩ := hill_true hr
    have HRW : Hid (rowB zs = true) := hrw
    have HRT : Hid (rowB (negL zs) = true) := neg_row hrw
    have HLI := Lib.hid hli
    have HLK := Lib.hid hlk
    rw [hi, hk]
    obtain ⟨q, hqq⟩ : ∃ q, hillRoundB zs = q := ⟨_, rfl⟩
    rw [hqq] at hq
    have HQ := Lib.hid hq
    have HQQ := Lib.hid hqq
    obtain ⟨ts, hts⟩ : ∃ ts, negL zs = ts := ⟨_, rfl⟩
    rw [hts] at HLI HLK HRT
    have HTS := Lib.hid hts
    obtain ⟨y, hy⟩ : ∃ y, leastA ts = y := ⟨_, rfl⟩
    have HY := Lib.hid hy
    obtain ⟨n, hln⟩ : ∃ n, zs.length = n := ⟨_, rfl⟩
    have HN := Lib.hid hln
    have hn12 : n ≤ 12 := by have := (rowB_true.1 hrw).2; omega
    rw [hln] at kl
    clear hts hr hi hk hli hlk hn hrw hq hqq hy hln
    go_wp2_with fail
    refine (turned_of _ _ _ zs ts _ Z.out.toAll HRW.out rfl HTS.out).mono ?_
    rintro e w4 ⟨A6, c6, rfl, -, iw, bb⟩
    replace BB := Lib.hid (below_then BB.out (Nat.le_refl _) bb)
    replace Z := Lib.hid (Z.out.grow bb)
    have T := Lib.hid iw.toAll
    clear bb
    clear iw
    go_wp2_with fail
    refine (implRowLeast_any _ _ ts _ T.out.toAll).mono ?_
    rintro e w5 ⟨rfl, bb⟩
    replace BB := Lib.hid (below_then BB.out (Nat.le_refl _) bb)
    replace Z := Lib.hid (Z.out.grow bb)
    replace T := Lib.hid (T.out.grow bb)
    clear bb
    rw [HY.out, HLI.out, HLK.out, HRT.out]
    clear T
    go_wp2
    rw [HN.out]
    go_loopw [14] (fun v wr => ∃ j : Nat, i ≤ j ∧ j ≤ k + 1 ∧ v = .int .i64 j ∧ IR wr 0 wr.heap.size A zs ∧ Below w.heap.size w wr) (fun v _ => k + 1 - (intOf v).toNat)
    case atStart => exact ⟨i, Nat.le_refl _, by omega, rfl, Z.out.toAll, BB.out⟩
    case round =>
      clear Z BB
      obtain ⟨j, ij, hj, rfl, hz, hb⟩ := hrel
      have Z := Lib.hid hz; have BB := Lib.hid hb
      clear hz hb
      by_cases hlt : j ≤ k
      · have hj1 : j < zs.length := by rw [HN.out]; omega
        have hi1 : i < zs.length := by rw [HN.out]; omega
        have hlt' : (j : Int) ≤ (k : Int) := by omega
        go_wp2_with fail
        refine (implHillRound_of _ _ zs _ Z.out HN.out.symm HQQ.out).mono ?_
        rintro e w6 ⟨rfl, bb⟩
        replace BB := Lib.hid (below_then BB.out (Nat.le_refl _) bb)
        replace Z := Lib.hid (Z.out.grow bb)
        clear bb
        cases q with
        | false =>
          go_wp2
          go_ret
          exact ⟨rfl, BB.out⟩
        | true =>
          have he := HQ.out rfl j ij hlt
          rw [getD_in hj1, getD_in hi1] at he
          obtain ⟨b, off, rfl, _, _, hcj⟩ := Z.out.at_ hj1
          obtain ⟨b', off', e, _, _, hci⟩ := Z.out.at_ hi1
          injection e with e; injection e with e3 e4 _; subst e3; subst e4
          rw [he] at hcj
          obtain ⟨x, hx⟩ : ∃ x, zs[i]'hi1 = x := ⟨_, rfl⟩
          rw [hx] at hci hcj
          have q0 : (0 : Int) ≤ (j : Int) := by omega
          have q1 : (j : Int) < (n : Int) := by omega
          have q2 : (0 : Int) ≤ (i : Int) := by omega
          have q3 : (i : Int) < (n : Int) := by omega
          clear hx he
          go_wp2
          go_quiet (fail)
          go_wp2
          go_roundw
          case rel => exact ⟨j + 1, by omega, by omega, by go_num, (Z.out.drewN _).toAll, below_drawN BB.out _⟩
          case measure => simp [intOf]; omega
      · obtain rfl : j = k + 1 := by omega
        have hlt' : ¬ (((k + 1 : Nat) : Int) ≤ (k : Int)) := by omega
        go_wp2
        go_ret
        exact ⟨rfl, BB.out⟩
end Go.Proofs.Ytnphmapiagiocaa
