/-
  The law FnMatch walked: for all codes it returns true, and nothing that lay before has turned. Conditions: none but those of its row.
-/
import Derived.Test.YtfkmnlhmldjieabDW
import Derived.Test.YtfkmnlhmldjieabTbR
import Derived.Test.YtfkmnlhmldjieabSamE
import Derived.BigQuiet
namespace Go.Proofs.Ytfkmnlhmldjieab
open Go.RowKit

theorem l92Square_any (R p : Nat) (w : World) (h : Rd w R p) (hp : p ≤ 700000000) :
    Calls Try.prog 49 #[.pointer (some ⟨R, 0, none⟩), .int .i64 5] w (TabPost w R p 1001) := by
  have H := Lib.hid h
  have hR := h.lt
  clear h
  go_enter Try.func49, Try.ntmps49
  go_wp2_with fail
  refine (pick_any R p 5 _ H.out (by omega) (by omega)).mono ?_
  rintro e w1 ⟨v, rfl, v0, v1, -, hb, hs, hr⟩
  have v2 := v1 (by omega)
  obtain ⟨n, hn⟩ : ∃ n : Nat, 1 + v = (n : Int) := ⟨(1 + v).toNat, by omega⟩
  have t0 : IntKind.i64.wrap (1 + v) = (n : Int) := by rw [← hn]; exact IntWalk.i64_in _ (by omega)
  have hn1 : 1 ≤ n ∧ n ≤ 12 := by omega
  have HB := Lib.hid hb; have HR := Lib.hid hr
  clear hb hr v1 hn v0 v2
  go_wp2_with fail
  refine (l92Table_any R (p + 1) n n _ HR.out (by omega) hn1 hn1).mono ?_
  rintro e w2 ⟨A2, m2, c2, t, p2, rfl, hm, hcc, hcc2, hi, hb, hr, hp2⟩
  have HI := Lib.hid hi; have HB2 := Lib.hid (HB.out.then_ (Nat.le_refl _) hb); have HR2 := Lib.hid hr
  have hsz := hb.size
  have hs' := hs
  clear hb hr hi
  go_wp2
  go_ret
  exact ⟨A2, m2, c2, t, p2, rfl, hm, hcc, hcc2, HI.out.wide (Nat.le_of_eq hs'.symm) (Nat.le_refl _) (Nat.le_refl _), HB2.out, HR2.out, by omega⟩
set_option maxRecDepth 100000 in
theorem DrawTableMatch_any (A : Option Addr) (c : Nat) (bs : List Int) (w : World) (h : BR w w.heap.size A bs) (hc : bs.length ≤ c) (hc2 : c ≤ 9000000000000000000) :
    Calls Try.prog 20 #[.slice A bs.length c] w (OneTPost w) := by
  have H := Lib.hid h
  clear h
  go_enter Try.func20, Try.ntmps20
  go_wp2_with fail
  refine (l6Open_any A c bs _ H.out hc hc2).mono ?_
  rintro e w1 ⟨rfl, hr, hb⟩
  have B0 := Lib.hid hb; have R0 := Lib.hid hr
  have hs2 := B0.out.size
  clear hb hr
  go_wp2_with fail
  refine (pick_any w.heap.size _ 20 _ R0.out (by omega) (by omega)).mono ?_
  rintro e w2 ⟨v, rfl, v0, v1, -, hb, hs, hr⟩
  replace B0 := Lib.hid (B0.out.trans (hb.toBelow hs2 (Nat.le_refl _)))
  replace R0 := Lib.hid hr
  have hs2 := B0.out.size
  clear hb hs hr v1
  by_cases hv : v = 0
  · have hvb : (v == 0) = true := by simpa using hv
    clear hv
    go_wp2_with fail
    refine (l92Table_any w.heap.size _ 2 3 _ R0.out (by omega) (by omega) (by omega)).mono ?_
    rintro e w4 ⟨A4, m4, c4, t, p4, rfl, rfl, hcc, hcc2, hi, hb, hr, hp4⟩
    have I0 := Lib.hid hi
    replace B0 := Lib.hid (B0.out.trans (hb.toBelow hs2 (Nat.le_refl _)))
    clear hi hb hr
    go_wp2
    go_ret
    exact ⟨A4, c4, t, rfl, I0.out.wide (Nat.zero_le _) (Nat.le_refl _) (Nat.le_refl _), B0.out⟩
  · have hvb : (v == 0) = false := by rw [beq_eq_false_iff_ne]; exact hv
    clear hv
    go_wp2_with fail
    refine (l92Square_any w.heap.size _ _ R0.out (by omega)).mono ?_
    rintro e w4 ⟨A4, m4, c4, t, p4, rfl, rfl, hcc, hcc2, hi, hb, hr, hp4⟩
    have I0 := Lib.hid hi
    replace B0 := Lib.hid (B0.out.trans (hb.toBelow hs2 (Nat.le_refl _)))
    clear hi hb hr
    go_wp2
    go_ret
    exact ⟨A4, c4, t, rfl, I0.out.wide (Nat.zero_le _) (Nat.le_refl _) (Nat.le_refl _), B0.out⟩

theorem cost_snoc (f : Nat → Nat → Int) : ∀ (l : List Nat) (i j : Nat), j < l.length → costOf f i (l.take (j + 1)) = costOf f i (l.take j) + f (i + j) (l.getD j 0)
  | [], _, _, h => by simp at h
  | k :: l, i, 0, _ => by simp [costOf]
  | k :: l, i, j + 1, h => by
    have ih := cost_snoc f l (i + 1) j (by simpa using h)
    simp only [List.take_succ_cons, costOf]
    rw [ih, show i + 1 + j = i + (j + 1) by omega]
    simp; omega
theorem cost_take_bd {f : Nat → Nat → Int} {n : Nat} {M : List Nat} (hE : ∀ i k, i < n → k < n → -1000 ≤ f i k ∧ f i k ≤ 1000) (m1 : M.length = n) (m3 : ∀ k, k ∈ M → k < n) : ∀ j : Nat, j ≤ n → -1000 * (j : Int) ≤ costOf f 0 (M.take j) ∧ costOf f 0 (M.take j) ≤ 1000 * (j : Int)
  | 0, _ => by simp [costOf]
  | j + 1, h => by
    have ih := cost_take_bd hE m1 m3 j (by omega)
    rw [cost_snoc f M 0 j (by omega), Nat.zero_add]
    have hk : M.getD j 0 < n := by
      rw [List.getD_eq_getElem?_getD, List.getElem?_eq_getElem (show j < M.length by omega)]; exact m3 _ (List.getElem_mem _)
    have := hE j _ (by omega) hk
    omega

set_option maxHeartbeats 1500000 in
set_option maxRecDepth 100000 in
theorem lawFnMatch_any (A0 : Option Addr) (c0 : Nat) (bs : List Int) (w : World) (h0 : BR w w.heap.size A0 bs) (hc : bs.length ≤ c0) (hc2 : c0 ≤ 9000000000000000000) :
    Calls Try.prog 5 #[.slice A0 bs.length c0] w fun e w' => e = .returned (.bool true) ∧ Below w.heap.size w w' := by
  by_cases hbig : (1048576 : Int) < (bs.length : Int)
  · clear h0
    go_enter Try.func5, Try.ntmps5
    go_wp2
    go_ret
    exact ⟨rfl, Below.refl _ _⟩
  have H0 := Lib.hid h0
  clear h0
  have BB := Lib.hid (Below.refl w.heap.size w)
  go_enter Try.func5, Try.ntmps5
  go_wp2_with fail
  refine (DrawTableMatch_any _ _ bs _ H0.out hc hc2).mono ?_
  rintro e w1 ⟨A, c, t, rfl, iw, bb⟩
  replace BB := Lib.hid (below_then BB.out (Nat.le_refl _) bb)
  have Z := Lib.hid iw
  clear bb
  clear iw
  go_wp2_with fail
  refine (implTableMatch_any _ _ t _ Z.out.toAll).mono ?_
  rintro e w2 ⟨A2, c2, rfl, iw, bb⟩
  replace BB := Lib.hid (below_then BB.out (Nat.le_refl _) bb)
  replace Z := Lib.hid (Z.out.grow bb)
  have G := Lib.hid iw.toIR.toAll
  clear bb
  clear iw
  go_wp2_with fail
  refine (specTableMatch_any _ _ _ _ t _ Z.out.toAll).mono ?_
  rintro e w3 ⟨A3, c3, rfl, iw, bb⟩
  replace BB := Lib.hid (below_then BB.out (Nat.le_refl _) bb)
  replace Z := Lib.hid (Z.out.grow bb)
  replace G := Lib.hid (G.out.grow bb)
  have V := Lib.hid iw.toAll
  clear bb
  clear iw
  obtain ⟨o, hm⟩ : ∃ o, matchI t = o := ⟨_, rfl⟩
  rw [hm] at G V
  rw [hm]
  cases o with
  | none =>
    clear hm
    replace G : Hid (IR w3 _ _ A2 []) := G
    replace V : Hid (IR w3 _ _ A3 []) := V
    go_wp2_with fail
    refine (sameInts_b _ _ _ _ _ _ _ _ _ _ [] _ G.out V.out rfl rfl).mono ?_
    rintro e w4 ⟨rfl, bb⟩
    replace BB := Lib.hid (below_then BB.out (Nat.le_refl _) bb)
    replace G := Lib.hid (G.out.grow bb)
    replace V := Lib.hid (V.out.grow bb)
    clear bb
    go_wp2_with fail
    refine (sameInts_b _ _ _ _ _ _ _ _ _ _ [] _ G.out V.out rfl rfl).mono ?_
    rintro e w5 ⟨rfl, bb⟩
    replace BB := Lib.hid (below_then BB.out (Nat.le_refl _) bb)
    replace G := Lib.hid (G.out.grow bb)
    replace V := Lib.hid (V.out.grow bb)
    clear bb
    go_wp2
    go_ret
    exact ⟨rfl, BB.out⟩
  | some o =>
    obtain ⟨C, L⟩ := o
    have e1 : (some (C, L)).getD (0, []) = (C, L) := rfl
    rw [e1]
    dsimp only
    replace G : Hid (IR w3 _ _ A2 L) := G
    replace V : Hid (IR w3 _ _ A3 L) := V
    clear e1
    go_wp2_with fail
    refine (sameInts_b _ _ _ _ _ _ _ _ _ _ L _ G.out V.out rfl rfl).mono ?_
    rintro e w4 ⟨rfl, bb⟩
    replace BB := Lib.hid (below_then BB.out (Nat.le_refl _) bb)
    replace Z := Lib.hid (Z.out.grow bb)
    replace G := Lib.hid (G.out.grow bb)
    replace V := Lib.hid (V.out.grow bb)
    clear bb
    clear V
    unfold matchI at hm
    split at hm
    case isFalse => cases hm
    rename_i hok
    obtain ⟨ht, hsq⟩ := Bool.and_eq_true_iff.1 hok
    have hsq := of_decide_eq_true hsq
    injection hm with hm
    injection hm with hC hL
    obtain ⟨-, hsh6, -, hE⟩ := table_sh ht
    obtain ⟨n, hn⟩ : ∃ n, t.length = n := ⟨_, rfl⟩
    have HN := Lib.hid hn
    have hmc : colsN t = n := by rw [← hsq, hn]
    have HMC := Lib.hid hmc
    have HT := Lib.hid ht
    rw [hn] at hC hL hsh6 hE
    rw [hmc] at hE
    have hU : Used n n [] := ⟨by simp, by simp, by simp⟩
    obtain ⟨m1, m2, m3, m4⟩ := match_is (ent t) n n [] hU
    have HCR : Hid (crossedB t = true → (matchM (ent t) n n []).2 = List.range n) := Lib.hid fun hc => by
      obtain ⟨-, hcr⟩ := crossed_true hc
      rw [hn, hmc] at hcr
      have := (match_middle hcr n [] hU (fun k hk => by simp)).1
      rw [this]
      apply List.ext_getElem
      · simp
      · intro i h1 h2; simp
    rw [Nat.sub_self, hC] at m4
    generalize (matchM (ent t) n n []).2 = M at hL m1 m2 m3 m4 HCR
    rw [List.append_nil] at m2
    have HLD : Hid (∀ (j : Nat) (hj : j < n), ∃ k : Nat, M.getD j 0 = k ∧ L.getD j 0 = (k : Int) ∧ k < n) := Lib.hid fun j hj => by
      refine ⟨M.getD j 0, rfl, ?_, ?_⟩
      · rw [← hL, List.getD_eq_getElem?_getD, List.getElem?_map, List.getElem?_eq_getElem (show j < M.length by omega), List.getD_eq_getElem?_getD, List.getElem?_eq_getElem (show j < M.length by omega)]; rfl
      · rw [List.getD_eq_getElem?_getD, List.getElem?_eq_getElem (show j < M.length by omega)]; exact m3 _ (List.getElem_mem _)
    have HLL : Hid (L.length = n) := Lib.hid (by rw [← hL, List.length_map, m1])
    have HBD : Hid (∀ j : Nat, j ≤ n → -1000 * (j : Int) ≤ costOf (ent t) 0 (M.take j) ∧ costOf (ent t) 0 (M.take j) ≤ 1000 * (j : Int)) := Lib.hid (cost_take_bd hE m1 m3)
    have HSN : Hid (∀ j : Nat, j < n → costOf (ent t) 0 (M.take (j + 1)) = costOf (ent t) 0 (M.take j) + ent t j (M.getD j 0)) := Lib.hid fun j hj => by
      have := cost_snoc (ent t) M 0 j (by omega); rwa [Nat.zero_add] at this
    have HALL : Hid (costOf (ent t) 0 (M.take n) = C) := Lib.hid (by rw [← m1, List.take_length, m4])
    have HPW : Hid (∀ s : Nat, (∀ b, s.testBit b = true ↔ b ∈ M.take n) → s = 2 ^ n - 1) := Lib.hid fun s hs => by
      apply Nat.eq_of_testBit_eq
      intro b
      rw [Nat.testBit_two_pow_sub_one]
      have hb : (s.testBit b = true) ↔ b < n := by
        rw [hs b, ← m1, List.take_length]
        constructor
        · intro hb; rw [m1]; exact m3 b hb
        · intro hb
          refine Classical.byContradiction fun c => ?_
          have h1 := nodup_len (n := n) (us := b :: M) (List.nodup_cons.2 ⟨c, m2⟩) (fun k hk => by
            rcases List.mem_cons.1 hk with rfl | hk
            · rw [m1] at hb; exact hb
            · exact m3 k hk)
          rw [List.length_cons, m1] at h1; omega
      cases e : s.testBit b with
      | true => exact (decide_eq_true (hb.1 e)).symm
      | false => exact (decide_eq_false (fun h => by rw [hb.2 h] at e; cases e)).symm
    have HTK : Hid (∀ j, j < n → ∀ b, b ∈ M.take (j + 1) ↔ b ∈ M.take j ∨ b = M.getD j 0) := Lib.hid fun j hj b => by
      rw [List.take_succ_eq_append_getElem (show j < M.length by omega), List.mem_append, List.mem_singleton, List.getD_eq_getElem?_getD, List.getElem?_eq_getElem (show j < M.length by omega)]; rfl
    have HMID : Hid (crossedB t = true → ∀ j, j < n → M.getD j 0 = j) := Lib.hid fun hc j hj => by
      rw [HCR.out hc, List.getD_eq_getElem?_getD, List.getElem?_eq_getElem (by simpa using hj)]; simp
    have H6 := Lib.hid (show 1 ≤ n ∧ n ≤ 6 from hsh6)
    have HEE := Lib.hid hE
    have hll := HLL.out
    rw [hll]
    rw [hn]
    clear hok hsq hC hL hsh6 hE hn hmc hU m1 m2 m3 m4 HCR ht hll
    go_wp2
    go_loopw [10, 11, 12, 13] (fun su se mi i wr => ∃ (j q s : Nat) (h : Bool), j ≤ n ∧ i = .int .i64 (j : Int) ∧ su = .int .i64 (costOf (ent t) 0 (M.take j)) ∧ se = .int .i64 (s : Int) ∧ mi = .bool h ∧ Hid (s < 64 ∧ (∀ b, s.testBit b = true ↔ b ∈ M.take j) ∧ (crossedB t = true → h = true)) ∧ wr = w4.drewN q) (fun _ _ _ i _ => n - (intOf i).toNat)
    case atStart => exact ⟨0, 0, 0, true, Nat.zero_le _, rfl, rfl, rfl, rfl, Lib.hid ⟨by omega, fun b => by simp, fun _ => rfl⟩, rfl⟩
    case round =>
      obtain ⟨j, q, s, h, hj, rfl, rfl, rfl, rfl, hh, hwr⟩ := hrel
      have h6 := H6.out
      have HWR := Lib.hid hwr
      have Zr : Hid (IRR wr 0 w1.heap.size A t) := Lib.hid (by rw [hwr]; exact Z.out)
      have Gr : Hid (IR wr 0 w2.heap.size A2 L) := Lib.hid (by rw [hwr]; exact G.out)
      have HB := Lib.hid (show Below w.heap.size w wr by rw [hwr]; exact below_drawN BB.out q)
      by_cases hlt : j < n
      · have hlt' : (j : Int) < (n : Int) := by omega
        have HJ := Lib.hid hlt
        obtain ⟨k, hk1, hk2, hk3⟩ := HLD.out j hlt
        have hjL : j < L.length := by rw [HLL.out]; exact hlt
        obtain ⟨b2, o2, rfl, _, _, hcl⟩ := Gr.out.at_ hjL
        rw [← getD_in, hk2] at hcl
        obtain ⟨b, off, b0, o0, cc, hA, hcc, hee⟩ := Zr.out.entry HT.out (show j < t.length by rw [HN.out]; exact hlt)
        rw [HMC.out] at hcc hee
        have hek := hee k hk3
        have hyb := HEE.out j k hlt hk3
        have hbd := HBD.out j (by omega)
        have hsn := HSN.out j hlt
        rw [hk1] at hsn
        have htk := HTK.out j hlt
        rw [hk1] at htk
        have hmid := HMID.out
        have HMJ : Hid (crossedB t = true → k = j) := Lib.hid fun hc => by rw [← hk1]; exact hmid hc j hlt
        subst hA
        obtain ⟨y, hy⟩ : ∃ y, ent t j k = y := ⟨_, rfl⟩
        rw [hy] at hek hyb hsn
        have HSUM := Lib.hid hsn
        have HTKK := Lib.hid htk
        obtain ⟨S, hS⟩ : ∃ S, costOf (ent t) 0 (M.take j) = S := ⟨_, rfl⟩
        rw [hS] at hbd HSUM
        rw [hS]
        have s1 : IntKind.i64.wrap (S + y) = S + y := IntWalk.i64_in _ (by omega)
        have s2 : IntKind.i64.wrap ((j : Int) + 1) = (j : Int) + 1 := IntWalk.i64_in _ (by omega)
        have k0 : (0 : Int) ≤ (k : Int) := by omega
        have k1 : (k : Int) < (n : Int) := by omega
        have j0 : (0 : Int) ≤ (j : Int) := by omega
        obtain ⟨-, bo⟩ := bits_and hh.out.1 (show k < 6 by omega)
        have HMK := Lib.hid (Nat.min_eq_left (show k ≤ 64 by omega))
        have HBT : Hid ((s ||| 2 ^ k) < 64 ∧ ∀ b, (s ||| 2 ^ k).testBit b = true ↔ b ∈ M.take (j + 1)) := Lib.hid ⟨Nat.or_lt_two_pow (n := 6) hh.out.1 (by have : 2 ^ k < 2 ^ 6 := Nat.pow_lt_pow_right (by omega) (by omega); exact this), fun b => by
          rw [Nat.testBit_or, Nat.testBit_two_pow, Bool.or_eq_true, decide_eq_true_eq, htk b, hh.out.2.1 b]
          constructor
          · rintro (h | h)
            · exact .inl h
            · exact .inr h.symm
          · rintro (h | h)
            · exact .inl h
            · exact .inr h.symm⟩
        have HHM := Lib.hid hh.out.2.2
        clear hlt hk1 hk2 hee hyb hsn htk hmid hbd hS hjL hh hy hwr h6
        by_cases ek : k = j
        · have ekb : ((k : Int) == (j : Int)) = true := by rw [ek]; simp
          clear ek
          cases h with
          | true =>
            go_wp2
            go_quiet (fail)
            go_wp2
            go_roundw
            case rel => exact ⟨j + 1, _, s ||| 2 ^ k, true, HJ.out, by go_num, by rw [HSUM.out], by rw [HMK.out, ← bo], rfl, Lib.hid ⟨HBT.out.1, HBT.out.2, fun _ => rfl⟩, by rw [HWR.out]; exact World.drewN_drewN _ _ _⟩
            case measure => have := HJ.out; simp [intOf]; omega
          | false =>
            go_wp2
            go_quiet (fail)
            go_wp2
            go_roundw
            case rel => exact ⟨j + 1, _, s ||| 2 ^ k, false, HJ.out, by go_num, by rw [HSUM.out], by rw [HMK.out, ← bo], rfl, Lib.hid ⟨HBT.out.1, HBT.out.2, HHM.out⟩, by rw [HWR.out]; exact World.drewN_drewN _ _ _⟩
            case measure => have := HJ.out; simp [intOf]; omega
        · have ekb : ((k : Int) == (j : Int)) = false := by rw [beq_eq_false_iff_ne]; omega
          have HNC : Hid (crossedB t = true → False) := Lib.hid fun hc => ek (HMJ.out hc)
          clear ek
          cases h with
          | true =>
            go_wp2
            go_quiet (fail)
            go_wp2
            go_roundw
            case rel => exact ⟨j + 1, _, s ||| 2 ^ k, false, HJ.out, by go_num, by rw [HSUM.out], by rw [HMK.out, ← bo], rfl, Lib.hid ⟨HBT.out.1, HBT.out.2, fun hc => (HNC.out hc).elim⟩, by rw [HWR.out]; exact World.drewN_drewN _ _ _⟩
            case measure => have := HJ.out; simp [intOf]; omega
          | false =>
            go_wp2
            go_quiet (fail)
            go_wp2
            go_roundw
            case rel => exact ⟨j + 1, _, s ||| 2 ^ k, false, HJ.out, by go_num, by rw [HSUM.out], by rw [HMK.out, ← bo], rfl, Lib.hid ⟨HBT.out.1, HBT.out.2, HHM.out⟩, by rw [HWR.out]; exact World.drewN_drewN _ _ _⟩
            case measure => have := HJ.out; simp [intOf]; omega
      · obtain rfl : j = n := by omega
        have hlt' : ¬ (j : Int) < (j : Int) := by omega
        have hs := HPW.out s hh.out.2.1
        have HCRX := Lib.hid hh.out.2.2
        have HTC := Lib.hid (implTableCrossed_any A c t wr Zr.out.toAll)
        rw [HN.out] at HTC
        rw [HALL.out]
        have hpw : ((2 : Int) ^ j) = ((2 ^ j : Nat) : Int) := by simp
        have hp1 : 1 ≤ 2 ^ j := Nat.one_le_two_pow
        have hp6 : 2 ^ j ≤ 64 := Nat.pow_le_pow_right (n := 2) (by omega) h6.2
        have w1_ : wrap64 ((2 : Int) ^ j) = (2 : Int) ^ j := IntWalk.wrap64_in _ (by rw [hpw]; omega)
        have w2_ : wrap64 ((2 : Int) ^ j - 1) = (s : Int) := by rw [IntWalk.wrap64_in _ (by rw [hpw]; omega), hpw, hs]; omega
        clear hh hwr hs hpw hp1 hp6
        have hm64 : min j 64 = j := Nat.min_eq_left (by omega)
        rw [← hm64] at w1_ w2_
        clear h6 hm64
        cases hb : crossedB t with
        | false =>
          rw [hb] at HTC
          clear hb HCRX
          go_wp2_with fail
          refine HTC.out.mono ?_; rintro e w9 ⟨rfl, b9⟩
          have HB9 := Lib.hid (HB.out.trans (b9.mono HB.out.size))
          clear b9
          go_wp2
          go_ret
          exact ⟨rfl, HB9.out⟩
        | true =>
          have hht := HCRX.out hb
          subst hht
          rw [hb] at HTC
          clear hb HCRX
          go_wp2_with fail
          refine HTC.out.mono ?_; rintro e w9 ⟨rfl, b9⟩
          have HB9 := Lib.hid (HB.out.trans (b9.mono HB.out.size))
          clear b9
          go_wp2
          go_ret
          exact ⟨rfl, HB9.out⟩
end Go.Proofs.Ytfkmnlhmldjieab
