/-
  The law FnSplitCosts walked: for all codes it returns true, and nothing that lay before has turned. Conditions: none but those of its row.
-/
import Derived.Test.YtfkmnlhmldjieaaScE
import Derived.Test.YtfkmnlhmldjieaaDrawSp2
import Derived.Test.YtfkmnlhmldjieaaSamE
import Derived.BigQuiet
namespace Go.Proofs.Ytfkmnlhmldjieaa
open Go.RowKit

theorem costs_at {zs : List Int} {s : ByteArray} {j : Nat} (h : j < zs.length) : (splitCostsL zs s).getD j 0 = splitLeast zs (sqB s) (j + 1) := by
  rw [getD_in (by rw [costsL_len]; exact h)]; simp [splitCostsL]

set_option maxHeartbeats 1500000 in
set_option maxRecDepth 100000 in
theorem lawFnSplitCosts_any (A0 : Option Addr) (c0 : Nat) (bs : List Int) (w : World) (h0 : BR w w.heap.size A0 bs) (hc : bs.length ≤ c0) (hc2 : c0 ≤ 9000000000000000000) :
    Calls Try.prog 6 #[.slice A0 bs.length c0] w fun e w' => e = .returned (.bool true) ∧ Below w.heap.size w w' := by
  by_cases hbig : (1048576 : Int) < (bs.length : Int)
  · clear h0
    go_enter Try.func6, Try.ntmps6
    go_wp2
    go_ret
    exact ⟨rfl, Below.refl _ _⟩
  have H0 := Lib.hid h0
  clear h0
  have BB := Lib.hid (Below.refl w.heap.size w)
  go_enter Try.func6, Try.ntmps6
  go_wp2_with fail
  refine (DrawSplitCosts_any _ _ bs _ H0.out hc hc2).mono ?_
  rintro e w1 ⟨A, c, zs, s, rfl, ⟨hz, hcap⟩, -, iw, bb⟩
  replace BB := Lib.hid (below_then BB.out (Nat.le_refl _) bb)
  have Z := Lib.hid iw.toAll
  clear bb
  clear iw
  have HCP := Lib.hid (show zs.length ≤ c ∧ c ≤ maxLen from ⟨hcap.1, by unfold maxLen; have := hcap.2; omega⟩)
  clear hcap
  go_wp2_with fail
  refine (implSplitCosts_any _ _ zs s _ Z.out.toAll HCP.out).mono ?_
  rintro e w2 ⟨A2, c2, rfl, iw, bb⟩
  replace BB := Lib.hid (below_then BB.out (Nat.le_refl _) bb)
  replace Z := Lib.hid (Z.out.grow bb)
  have G := Lib.hid iw.toAll
  clear bb
  clear iw
  go_wp2_with fail
  refine (specSplitCosts_any _ _ zs s _ Z.out.toAll).mono ?_
  rintro e w3 ⟨A3, c3, rfl, iw, bb⟩
  replace BB := Lib.hid (below_then BB.out (Nat.le_refl _) bb)
  replace Z := Lib.hid (Z.out.grow bb)
  replace G := Lib.hid (G.out.grow bb)
  have V := Lib.hid iw.toAll
  clear bb
  clear iw
  obtain ⟨o, hm⟩ : ∃ o, splitCostsM zs s = o := ⟨_, rfl⟩
  rw [hm] at G V
  rw [hm]
  cases o with
  | none =>
    clear hm
    replace G : Hid (IR w3 _ _ A2 []) := G
    replace V : Hid (IR w3 _ _ A3 []) := V
    go_wp2_with fail
    refine (sameInts_b _ _ _ _ _ _ _ _ _ _ [] _ G.out V.out rfl rfl).mono ?_
    rintro e w4 ⟨rfl, bb⟩
    replace BB := Lib.hid (below_then BB.out (Nat.le_refl _) bb)
    replace G := Lib.hid (G.out.grow bb)
    replace V := Lib.hid (V.out.grow bb)
    clear bb
    go_wp2_with fail
    refine (sameInts_b _ _ _ _ _ _ _ _ _ _ [] _ G.out V.out rfl rfl).mono ?_
    rintro e w5 ⟨rfl, bb⟩
    replace BB := Lib.hid (below_then BB.out (Nat.le_refl _) bb)
    replace G := Lib.hid (G.out.grow bb)
    replace V := Lib.hid (V.out.grow bb)
    clear bb
    go_wp2
    go_ret
    exact ⟨rfl, BB.out⟩
  | some out =>
    have e1 : (some out).getD [] = out := rfl
    rw [e1]
    replace G : Hid (IR w3 _ _ A2 out) := G
    replace V : Hid (IR w3 _ _ A3 out) := V
    have HM := Lib.hid hm
    clear hm e1
    go_wp2_with fail
    refine (sameInts_b _ _ _ _ _ _ _ _ _ _ out _ G.out V.out rfl rfl).mono ?_
    rintro e w4 ⟨rfl, bb⟩
    replace BB := Lib.hid (below_then BB.out (Nat.le_refl _) bb)
    replace Z := Lib.hid (Z.out.grow bb)
    replace G := Lib.hid (G.out.grow bb)
    replace V := Lib.hid (V.out.grow bb)
    clear bb
    clear V
    have hk : givenS zs s = true := by
      have := HM.out
      unfold splitCostsM at this
      split at this
      · assumption
      · cases this
    have hout : splitCostsL zs s = out := by
      have := HM.out
      unfold splitCostsM at this
      rw [hk] at this
      injection this
    have hrow := given_row hk
    have hl := (rowB_true.1 hrow).2
    have HLT : Hid (letB s = true) := Lib.hid (Bool.and_eq_true_iff.1 (show (rowB zs && letB s) = true from hk)).2
    have HCB := Lib.hid (costs_i64 (s := s) hrow)
    have hlen := costsL_len zs s
    have HAT : Hid (∀ j, j < zs.length → out.getD j 0 = splitLeast zs (sqB s) (j + 1)) := Lib.hid fun j hj => by rw [← hout]; exact costs_at hj
    have HVL : Hid (∀ j : Nat, j < zs.length → splitLeastV zs s ((j : Int) + 1) = .tuple #[.int .i64 (out.getD j 0), .bool true]) := Lib.hid fun j hj => by
      unfold splitLeastV leastOkB
      rw [hk, show inB 1 (zs.length : Int) ((j : Int) + 1) = true from inB_true.2 ⟨by omega, by omega⟩, if_pos (by rfl), HAT.out j hj, show ((j : Int) + 1).toNat = j + 1 by omega]
    have HFALL : Hid ((sqB s = true → ∀ x, x ∈ zs → 0 ≤ x) → ∀ j, j + 1 < zs.length → out.getD (j + 1) 0 ≤ out.getD j 0) := Lib.hid fun hq j hj => by
      rw [HAT.out _ hj, HAT.out j (by omega)]
      exact split_costs_law hq (by omega) (by omega)
    have HBENT : Hid (sqB s = true → (∀ x, x ∈ zs → 0 ≤ x) → ∀ j, j + 2 < zs.length → out.getD (j + 1) 0 - out.getD j 0 ≤ out.getD (j + 2) 0 - out.getD (j + 1) 0) := Lib.hid fun hq hn j hj => by
      rw [HAT.out _ hj, HAT.out (j + 1) (by omega), HAT.out j (by omega), hq]
      exact split_bent_law hn (by omega) (by omega)
    rw [hout] at HCB hlen
    obtain ⟨n, hn⟩ : ∃ n, zs.length = n := ⟨_, rfl⟩
    have HN := Lib.hid hn
    have HON := Lib.hid (hlen.trans hn)
    rw [hn] at HVL HFALL HBENT hl
    have HL12 := Lib.hid hl
    have hon := HON.out
    rw [hn, hon]
    clear hk hout hrow hl hlen hn hon HAT
    go_wp2
    go_loopw [9, 10] (fun hi i wr => ∃ (j : Nat) (h : Bool), j ≤ n ∧ i = .int .i64 (j : Int) ∧ hi = .bool h ∧ Hid (h = true → ∀ t, t < j → 0 ≤ zs.getD t 0) ∧ wr = w4) (fun _ i _ => n - (intOf i).toNat)
    case atStart => exact ⟨0, true, Nat.zero_le _, rfl, rfl, Lib.hid fun _ t ht => absurd ht (by omega), rfl⟩
    case round =>
      obtain ⟨j, h, hj, rfl, rfl, hh, hwr⟩ := hrel
      subst hwr
      have hl12 := HL12.out
      by_cases hlt : j < n
      · have hlt' : (j : Int) < (n : Int) := by omega
        have hjz : j < zs.length := by rw [HN.out]; exact hlt
        obtain ⟨b, off, rfl, _, _, hcj⟩ := Z.out.at_ hjz
        rw [← getD_in] at hcj
        have HJ := Lib.hid hlt
        have HNX : Hid (∀ y, zs.getD j 0 = y → 0 ≤ y → h = true → ∀ t, t < j + 1 → 0 ≤ zs.getD t 0) := Lib.hid fun y hy h0 h1 t ht => by
          by_cases e : t = j
          · rw [e, hy]; exact h0
          · exact hh.out h1 t (by omega)
        obtain ⟨y, hy⟩ : ∃ y, zs.getD j 0 = y := ⟨_, rfl⟩
        have HY := Lib.hid hy
        rw [hy] at hcj
        have s1 : IntKind.i64.wrap ((j : Int) + 1) = (j : Int) + 1 := IntWalk.i64_in _ (by omega)
        clear hlt hjz hh hy
        cases h with
        | false =>
          go_wp2
          go_roundw
          case rel => exact ⟨j + 1, false, HJ.out, by go_num, rfl, Lib.hid fun h => (by cases h), by first | rfl | trivial⟩
          case measure => have := HJ.out; simp [intOf]; omega
        | true =>
          by_cases y0 : 0 ≤ y
          · have HH := Lib.hid (HNX.out y HY.out y0)
            go_wp2
            go_roundw
            case rel => exact ⟨j + 1, true, HJ.out, by go_num, rfl, HH, by first | rfl | trivial⟩
            case measure => have := HJ.out; simp [intOf]; omega
          · have y0d : decide (y ≥ 0) = false := decide_eq_false y0
            go_wp2
            go_roundw
            case rel => exact ⟨j + 1, false, HJ.out, by go_num, rfl, Lib.hid fun h => (by cases h), by first | rfl | trivial⟩
            case measure => have := HJ.out; simp [intOf]; omega
      · obtain rfl : j = n := by omega
        have hlt' : ¬ (j : Int) < (j : Int) := by omega
        have HNN : Hid (h = true → ∀ x, x ∈ zs → 0 ≤ x) := Lib.hid fun e x hx => by
          obtain ⟨t, ht, rfl⟩ := List.getElem_of_mem hx
          have := hh.out e t (by rw [← HN.out]; exact ht)
          rwa [getD_in ht] at this
        clear hh hj hl12
        go_wp2
        go_loopw [11, 12, 13] (fun i _ _ wr => ∃ k : Nat, k ≤ j ∧ i = .int .i64 ((k : Int) + 1) ∧ IR wr 0 wr.heap.size A2 out ∧ IR wr 0 wr.heap.size A zs ∧ Below w.heap.size w wr) (fun i _ _ _ => j + 1 - (intOf i).toNat)
        case atStart => exact ⟨0, Nat.zero_le _, by go_num, G.out.toAll, Z.out.toAll, BB.out⟩
        case round =>
          clear G Z BB
          obtain ⟨k, hk, rfl, hg, hz2, hb⟩ := hrel
          have G := Lib.hid hg; have Z := Lib.hid hz2; have BB := Lib.hid hb
          have hl12 := HL12.out
          clear hg hz2 hb
          by_cases hlt : k < j
          · have hlt' : (k : Int) + 1 ≤ (j : Int) := by omega
            have hv := HVL.out k hlt
            have HX : Hid (I64 ((k : Int) + 1)) := ⟨by omega, by omega⟩
            have HC := Lib.hid (implSplitLeast_any A c zs s ((k : Int) + 1) HX.out wr Z.out HCP.out)
            rw [hv, HN.out] at HC
            have hko : k < out.length := by rw [HON.out]; exact hlt
            obtain ⟨b, off, rfl, _, _, hc0⟩ := G.out.at_ hko
            rw [← getD_in] at hc0
            have HKJ := Lib.hid hlt
            have hyb : 0 ≤ out.getD k 0 ∧ out.getD k 0 ≤ 1728000000 := by rw [getD_in hko]; exact HCB.out _ (List.getElem_mem hko)
            have s1 : IntKind.i64.wrap (k : Int) = (k : Int) := IntWalk.i64_in _ (by omega)
            have s1c : (k : Int) + 1 - 1 = (k : Int) := by omega
            have s2 : IntKind.i64.wrap ((k : Int) + 1 + 1) = (k : Int) + 1 + 1 := IntWalk.i64_in _ (by omega)
            have k0 : (0 : Int) ≤ (k : Int) := by omega
            have k1 : (k : Int) < (j : Int) := by omega
            have hlet := HLT.out
            unfold letB at hlet
            have HMOVE : Hid (∀ (W : World), Below wr.heap.size wr W → ∀ t, t < out.length → W.cell? ⟨b, off + t, none⟩ = some (.int .i64 (out.getD t 0))) := Lib.hid fun W hW t ht => by
              obtain ⟨b', o', e, _, _, hct⟩ := (G.out.grow hW).at_ ht
              injection e with e; injection e with e1 e2 _; subst e1; subst e2
              rw [getD_in ht]; exact hct
            clear hv hko hlt hc0 hk
            by_cases e1 : s.toList = [119]
            · skip
              have sw : (s.toList == [119]) = true := by rw [e1]; rfl
              have ss : (s.toList == [115]) = false := by rw [e1]; rfl
              have hsq : sqB s = false := ss
              have HF := Lib.hid (HFALL.out (fun e => by rw [hsq] at e; cases e))
              clear e1 hlet
              cases h with
              | false =>
                by_cases kc : k = 0
                · skip
                  have kg1 : decide ((k : Int) + 1 > 1) = false := decide_eq_false (by omega)
                  have kg2 : decide ((k : Int) + 1 > 2) = false := decide_eq_false (by omega)
                  clear kc
                  go_wp2_with fail
                  refine HC.out.mono ?_; rintro e w3 ⟨rfl, b3⟩
                  have G3 := Lib.hid (G.out.grow b3).toAll; have Z3 := Lib.hid (Z.out.grow b3).toAll; have B3 := Lib.hid (BB.out.trans (b3.mono BB.out.size))
                  have hc0 := HMOVE.out w3 b3 k (by rw [HON.out]; exact HKJ.out)
                  clear b3
                  go_wp2
                  go_quiet (fail)
                  go_wp2
                  go_quiet (fail)
                  go_wp2
                  go_roundw
                  case rel => exact ⟨k + 1, HKJ.out, by go_num, G3.out.drewN _, Z3.out.drewN _, below_drawN B3.out _⟩
                  case measure => have := HKJ.out; simp [intOf]; omega
                · skip
                  have kg1 : decide ((k : Int) + 1 > 1) = true := decide_eq_true (by omega)
                  have t1 : (k : Int) + 1 - 2 = (k : Int) - 1 := by omega
                  have t2 : IntKind.i64.wrap ((k : Int) - 1) = (k : Int) - 1 := IntWalk.i64_in _ (by omega)
                  have t3 : ((k : Int) - 1).toNat = k - 1 := by omega
                  have t4 : (0 : Int) ≤ (k : Int) - 1 := by omega
                  have t5 : (k : Int) - 1 < (j : Int) := by omega
                  have hf := HF.out (k - 1) (by have := HKJ.out; omega)
                  rw [show k - 1 + 1 = k by omega] at hf
                  by_cases kd : k = 1
                  · skip
                    have kg2 : decide ((k : Int) + 1 > 2) = false := decide_eq_false (by omega)
                    clear kc kd
                    go_wp2_with fail
                    refine HC.out.mono ?_; rintro e w3 ⟨rfl, b3⟩
                    have G3 := Lib.hid (G.out.grow b3).toAll; have Z3 := Lib.hid (Z.out.grow b3).toAll; have B3 := Lib.hid (BB.out.trans (b3.mono BB.out.size))
                    have hc0 := HMOVE.out w3 b3 k (by rw [HON.out]; exact HKJ.out)
                    have hc1 := HMOVE.out w3 b3 (k - 1) (by rw [HON.out]; have := HKJ.out; omega)
                    generalize out.getD (k - 1) 0 = x1 at hc1 hf
                    have hgt : decide (out.getD k 0 > x1) = false := decide_eq_false (by omega)
                    generalize out.getD k 0 = x0 at hc0 hf hgt hyb ⊢
                    clear b3
                    go_wp2
                    go_quiet (fail)
                    go_wp2
                    go_quiet (fail)
                    go_wp2
                    go_roundw
                    case rel => exact ⟨k + 1, HKJ.out, by go_num, G3.out.drewN _, Z3.out.drewN _, below_drawN B3.out _⟩
                    case measure => have := HKJ.out; simp [intOf]; omega
                  · skip
                    have kg2 : decide ((k : Int) + 1 > 2) = true := decide_eq_true (by omega)
                    have u1 : (k : Int) + 1 - 3 = (k : Int) - 2 := by omega
                    have u2 : IntKind.i64.wrap ((k : Int) - 2) = (k : Int) - 2 := IntWalk.i64_in _ (by omega)
                    have u3 : ((k : Int) - 2).toNat = k - 2 := by omega
                    have u4 : (0 : Int) ≤ (k : Int) - 2 := by omega
                    have u5 : (k : Int) - 2 < (j : Int) := by omega
                    clear kc kd
                    go_wp2_with fail
                    refine HC.out.mono ?_; rintro e w3 ⟨rfl, b3⟩
                    have G3 := Lib.hid (G.out.grow b3).toAll; have Z3 := Lib.hid (Z.out.grow b3).toAll; have B3 := Lib.hid (BB.out.trans (b3.mono BB.out.size))
                    have hc0 := HMOVE.out w3 b3 k (by rw [HON.out]; exact HKJ.out)
                    have hc1 := HMOVE.out w3 b3 (k - 1) (by rw [HON.out]; have := HKJ.out; omega)
                    generalize out.getD (k - 1) 0 = x1 at hc1 hf 
                    generalize out.getD k 0 = x0 at hc0 hf hyb  ⊢
                    have hgt : decide (x0 > x1) = false := decide_eq_false (by omega)
                    clear b3
                    go_wp2
                    go_quiet (fail)
                    go_wp2
                    go_quiet (fail)
                    go_wp2
                    go_roundw
                    case rel => exact ⟨k + 1, HKJ.out, by go_num, G3.out.drewN _, Z3.out.drewN _, below_drawN B3.out _⟩
                    case measure => have := HKJ.out; simp [intOf]; omega
              | true =>
                by_cases kc : k = 0
                · skip
                  have kg1 : decide ((k : Int) + 1 > 1) = false := decide_eq_false (by omega)
                  have kg2 : decide ((k : Int) + 1 > 2) = false := decide_eq_false (by omega)
                  clear kc
                  go_wp2_with fail
                  refine HC.out.mono ?_; rintro e w3 ⟨rfl, b3⟩
                  have G3 := Lib.hid (G.out.grow b3).toAll; have Z3 := Lib.hid (Z.out.grow b3).toAll; have B3 := Lib.hid (BB.out.trans (b3.mono BB.out.size))
                  have hc0 := HMOVE.out w3 b3 k (by rw [HON.out]; exact HKJ.out)
                  clear b3
                  go_wp2
                  go_quiet (fail)
                  go_wp2
                  go_quiet (fail)
                  go_wp2
                  go_roundw
                  case rel => exact ⟨k + 1, HKJ.out, by go_num, G3.out.drewN _, Z3.out.drewN _, below_drawN B3.out _⟩
                  case measure => have := HKJ.out; simp [intOf]; omega
                · skip
                  have kg1 : decide ((k : Int) + 1 > 1) = true := decide_eq_true (by omega)
                  have t1 : (k : Int) + 1 - 2 = (k : Int) - 1 := by omega
                  have t2 : IntKind.i64.wrap ((k : Int) - 1) = (k : Int) - 1 := IntWalk.i64_in _ (by omega)
                  have t3 : ((k : Int) - 1).toNat = k - 1 := by omega
                  have t4 : (0 : Int) ≤ (k : Int) - 1 := by omega
                  have t5 : (k : Int) - 1 < (j : Int) := by omega
                  have hf := HF.out (k - 1) (by have := HKJ.out; omega)
                  rw [show k - 1 + 1 = k by omega] at hf
                  by_cases kd : k = 1
                  · skip
                    have kg2 : decide ((k : Int) + 1 > 2) = false := decide_eq_false (by omega)
                    clear kc kd
                    go_wp2_with fail
                    refine HC.out.mono ?_; rintro e w3 ⟨rfl, b3⟩
                    have G3 := Lib.hid (G.out.grow b3).toAll; have Z3 := Lib.hid (Z.out.grow b3).toAll; have B3 := Lib.hid (BB.out.trans (b3.mono BB.out.size))
                    have hc0 := HMOVE.out w3 b3 k (by rw [HON.out]; exact HKJ.out)
                    have hc1 := HMOVE.out w3 b3 (k - 1) (by rw [HON.out]; have := HKJ.out; omega)
                    generalize out.getD (k - 1) 0 = x1 at hc1 hf
                    have hgt : decide (out.getD k 0 > x1) = false := decide_eq_false (by omega)
                    generalize out.getD k 0 = x0 at hc0 hf hgt hyb ⊢
                    clear b3
                    go_wp2
                    go_quiet (fail)
                    go_wp2
                    go_quiet (fail)
                    go_wp2
                    go_roundw
                    case rel => exact ⟨k + 1, HKJ.out, by go_num, G3.out.drewN _, Z3.out.drewN _, below_drawN B3.out _⟩
                    case measure => have := HKJ.out; simp [intOf]; omega
                  · skip
                    have kg2 : decide ((k : Int) + 1 > 2) = true := decide_eq_true (by omega)
                    have u1 : (k : Int) + 1 - 3 = (k : Int) - 2 := by omega
                    have u2 : IntKind.i64.wrap ((k : Int) - 2) = (k : Int) - 2 := IntWalk.i64_in _ (by omega)
                    have u3 : ((k : Int) - 2).toNat = k - 2 := by omega
                    have u4 : (0 : Int) ≤ (k : Int) - 2 := by omega
                    have u5 : (k : Int) - 2 < (j : Int) := by omega
                    clear kc kd
                    go_wp2_with fail
                    refine HC.out.mono ?_; rintro e w3 ⟨rfl, b3⟩
                    have G3 := Lib.hid (G.out.grow b3).toAll; have Z3 := Lib.hid (Z.out.grow b3).toAll; have B3 := Lib.hid (BB.out.trans (b3.mono BB.out.size))
                    have hc0 := HMOVE.out w3 b3 k (by rw [HON.out]; exact HKJ.out)
                    have hc1 := HMOVE.out w3 b3 (k - 1) (by rw [HON.out]; have := HKJ.out; omega)
                    generalize out.getD (k - 1) 0 = x1 at hc1 hf 
                    generalize out.getD k 0 = x0 at hc0 hf hyb  ⊢
                    have hgt : decide (x0 > x1) = false := decide_eq_false (by omega)
                    clear b3
                    go_wp2
                    go_quiet (fail)
                    go_wp2
                    go_quiet (fail)
                    go_wp2
                    go_roundw
                    case rel => exact ⟨k + 1, HKJ.out, by go_num, G3.out.drewN _, Z3.out.drewN _, below_drawN B3.out _⟩
                    case measure => have := HKJ.out; simp [intOf]; omega
            · skip
              have sw : (s.toList == [119]) = false := by simpa using e1
              have ss : (s.toList == [115]) = true := by rw [sw, Bool.false_or] at hlet; exact hlet
              have hsq : sqB s = true := ss
              clear e1 hlet
              cases h with
              | false =>
                by_cases kc : k = 0
                · skip
                  have kg1 : decide ((k : Int) + 1 > 1) = false := decide_eq_false (by omega)
                  have kg2 : decide ((k : Int) + 1 > 2) = false := decide_eq_false (by omega)
                  clear kc
                  go_wp2_with fail
                  refine HC.out.mono ?_; rintro e w3 ⟨rfl, b3⟩
                  have G3 := Lib.hid (G.out.grow b3).toAll; have Z3 := Lib.hid (Z.out.grow b3).toAll; have B3 := Lib.hid (BB.out.trans (b3.mono BB.out.size))
                  have hc0 := HMOVE.out w3 b3 k (by rw [HON.out]; exact HKJ.out)
                  clear b3
                  go_wp2
                  go_quiet (fail)
                  go_wp2
                  go_quiet (fail)
                  go_wp2
                  go_roundw
                  case rel => exact ⟨k + 1, HKJ.out, by go_num, G3.out.drewN _, Z3.out.drewN _, below_drawN B3.out _⟩
                  case measure => have := HKJ.out; simp [intOf]; omega
                · skip
                  have kg1 : decide ((k : Int) + 1 > 1) = true := decide_eq_true (by omega)
                  have t1 : (k : Int) + 1 - 2 = (k : Int) - 1 := by omega
                  have t2 : IntKind.i64.wrap ((k : Int) - 1) = (k : Int) - 1 := IntWalk.i64_in _ (by omega)
                  have t3 : ((k : Int) - 1).toNat = k - 1 := by omega
                  have t4 : (0 : Int) ≤ (k : Int) - 1 := by omega
                  have t5 : (k : Int) - 1 < (j : Int) := by omega
                  by_cases kd : k = 1
                  · skip
                    have kg2 : decide ((k : Int) + 1 > 2) = false := decide_eq_false (by omega)
                    clear kc kd
                    go_wp2_with fail
                    refine HC.out.mono ?_; rintro e w3 ⟨rfl, b3⟩
                    have G3 := Lib.hid (G.out.grow b3).toAll; have Z3 := Lib.hid (Z.out.grow b3).toAll; have B3 := Lib.hid (BB.out.trans (b3.mono BB.out.size))
                    have hc0 := HMOVE.out w3 b3 k (by rw [HON.out]; exact HKJ.out)
                    clear b3
                    go_wp2
                    go_quiet (fail)
                    go_wp2
                    go_quiet (fail)
                    go_wp2
                    go_roundw
                    case rel => exact ⟨k + 1, HKJ.out, by go_num, G3.out.drewN _, Z3.out.drewN _, below_drawN B3.out _⟩
                    case measure => have := HKJ.out; simp [intOf]; omega
                  · skip
                    have kg2 : decide ((k : Int) + 1 > 2) = true := decide_eq_true (by omega)
                    have u1 : (k : Int) + 1 - 3 = (k : Int) - 2 := by omega
                    have u2 : IntKind.i64.wrap ((k : Int) - 2) = (k : Int) - 2 := IntWalk.i64_in _ (by omega)
                    have u3 : ((k : Int) - 2).toNat = k - 2 := by omega
                    have u4 : (0 : Int) ≤ (k : Int) - 2 := by omega
                    have u5 : (k : Int) - 2 < (j : Int) := by omega
                    clear kc kd
                    go_wp2_with fail
                    refine HC.out.mono ?_; rintro e w3 ⟨rfl, b3⟩
                    have G3 := Lib.hid (G.out.grow b3).toAll; have Z3 := Lib.hid (Z.out.grow b3).toAll; have B3 := Lib.hid (BB.out.trans (b3.mono BB.out.size))
                    have hc0 := HMOVE.out w3 b3 k (by rw [HON.out]; exact HKJ.out)
                    clear b3
                    go_wp2
                    go_quiet (fail)
                    go_wp2
                    go_quiet (fail)
                    go_wp2
                    go_roundw
                    case rel => exact ⟨k + 1, HKJ.out, by go_num, G3.out.drewN _, Z3.out.drewN _, below_drawN B3.out _⟩
                    case measure => have := HKJ.out; simp [intOf]; omega
              | true =>
                have HF := Lib.hid (HFALL.out (fun _ => HNN.out rfl))
                have HBE := Lib.hid (HBENT.out hsq (HNN.out rfl))
                by_cases kc : k = 0
                · skip
                  have kg1 : decide ((k : Int) + 1 > 1) = false := decide_eq_false (by omega)
                  have kg2 : decide ((k : Int) + 1 > 2) = false := decide_eq_false (by omega)
                  clear kc
                  go_wp2_with fail
                  refine HC.out.mono ?_; rintro e w3 ⟨rfl, b3⟩
                  have G3 := Lib.hid (G.out.grow b3).toAll; have Z3 := Lib.hid (Z.out.grow b3).toAll; have B3 := Lib.hid (BB.out.trans (b3.mono BB.out.size))
                  have hc0 := HMOVE.out w3 b3 k (by rw [HON.out]; exact HKJ.out)
                  clear b3
                  go_wp2
                  go_quiet (fail)
                  go_wp2
                  go_quiet (fail)
                  go_wp2
                  go_roundw
                  case rel => exact ⟨k + 1, HKJ.out, by go_num, G3.out.drewN _, Z3.out.drewN _, below_drawN B3.out _⟩
                  case measure => have := HKJ.out; simp [intOf]; omega
                · skip
                  have kg1 : decide ((k : Int) + 1 > 1) = true := decide_eq_true (by omega)
                  have t1 : (k : Int) + 1 - 2 = (k : Int) - 1 := by omega
                  have t2 : IntKind.i64.wrap ((k : Int) - 1) = (k : Int) - 1 := IntWalk.i64_in _ (by omega)
                  have t3 : ((k : Int) - 1).toNat = k - 1 := by omega
                  have t4 : (0 : Int) ≤ (k : Int) - 1 := by omega
                  have t5 : (k : Int) - 1 < (j : Int) := by omega
                  have hf := HF.out (k - 1) (by have := HKJ.out; omega)
                  rw [show k - 1 + 1 = k by omega] at hf
                  by_cases kd : k = 1
                  · skip
                    have kg2 : decide ((k : Int) + 1 > 2) = false := decide_eq_false (by omega)
                    clear kc kd
                    go_wp2_with fail
                    refine HC.out.mono ?_; rintro e w3 ⟨rfl, b3⟩
                    have G3 := Lib.hid (G.out.grow b3).toAll; have Z3 := Lib.hid (Z.out.grow b3).toAll; have B3 := Lib.hid (BB.out.trans (b3.mono BB.out.size))
                    have hc0 := HMOVE.out w3 b3 k (by rw [HON.out]; exact HKJ.out)
                    have hc1 := HMOVE.out w3 b3 (k - 1) (by rw [HON.out]; have := HKJ.out; omega)
                    generalize out.getD (k - 1) 0 = x1 at hc1 hf
                    have hgt : decide (out.getD k 0 > x1) = false := decide_eq_false (by omega)
                    generalize out.getD k 0 = x0 at hc0 hf hgt hyb ⊢
                    clear b3
                    go_wp2
                    go_quiet (fail)
                    go_wp2
                    go_quiet (fail)
                    go_wp2
                    go_roundw
                    case rel => exact ⟨k + 1, HKJ.out, by go_num, G3.out.drewN _, Z3.out.drewN _, below_drawN B3.out _⟩
                    case measure => have := HKJ.out; simp [intOf]; omega
                  · skip
                    have kg2 : decide ((k : Int) + 1 > 2) = true := decide_eq_true (by omega)
                    have u1 : (k : Int) + 1 - 3 = (k : Int) - 2 := by omega
                    have u2 : IntKind.i64.wrap ((k : Int) - 2) = (k : Int) - 2 := IntWalk.i64_in _ (by omega)
                    have u3 : ((k : Int) - 2).toNat = k - 2 := by omega
                    have u4 : (0 : Int) ≤ (k : Int) - 2 := by omega
                    have u5 : (k : Int) - 2 < (j : Int) := by omega
                    have hbe := HBE.out (k - 2) (by have := HKJ.out; omega)
                    rw [show k - 2 + 1 = k - 1 by omega, show k - 2 + 2 = k by omega] at hbe
                    have hb1 : 0 ≤ out.getD (k - 1) 0 ∧ out.getD (k - 1) 0 ≤ 1728000000 := by have := HKJ.out; rw [getD_in (by rw [HON.out]; omega)]; exact HCB.out _ (List.getElem_mem _)
                    have hb2 : 0 ≤ out.getD (k - 2) 0 ∧ out.getD (k - 2) 0 ≤ 1728000000 := by have := HKJ.out; rw [getD_in (by rw [HON.out]; omega)]; exact HCB.out _ (List.getElem_mem _)
                    clear kc kd
                    go_wp2_with fail
                    refine HC.out.mono ?_; rintro e w3 ⟨rfl, b3⟩
                    have G3 := Lib.hid (G.out.grow b3).toAll; have Z3 := Lib.hid (Z.out.grow b3).toAll; have B3 := Lib.hid (BB.out.trans (b3.mono BB.out.size))
                    have hc0 := HMOVE.out w3 b3 k (by rw [HON.out]; exact HKJ.out)
                    have hc1 := HMOVE.out w3 b3 (k - 1) (by rw [HON.out]; have := HKJ.out; omega)
                    have hc2 := HMOVE.out w3 b3 (k - 2) (by rw [HON.out]; have := HKJ.out; omega)
                    generalize out.getD (k - 2) 0 = x2 at hc2 hbe hb2
                    generalize out.getD (k - 1) 0 = x1 at hc1 hf hbe hb1
                    generalize out.getD k 0 = x0 at hc0 hf hyb hbe ⊢
                    have hgt : decide (x0 > x1) = false := decide_eq_false (by omega)
                    have v1 : IntKind.i64.wrap (x0 - x1) = x0 - x1 := IntWalk.i64_in _ (by omega)
                    have v2 : IntKind.i64.wrap (x1 - x2) = x1 - x2 := IntWalk.i64_in _ (by omega)
                    have hlt2 : decide (x0 - x1 < x1 - x2) = false := decide_eq_false (by omega)
                    clear b3
                    go_wp2
                    go_quiet (fail)
                    go_wp2
                    go_quiet (fail)
                    go_wp2
                    go_roundw
                    case rel => exact ⟨k + 1, HKJ.out, by go_num, G3.out.drewN _, Z3.out.drewN _, below_drawN B3.out _⟩
                    case measure => have := HKJ.out; simp [intOf]; omega
          · obtain rfl : k = j := by omega
            have hlt' : ¬ (k : Int) + 1 ≤ (k : Int) := by omega
            go_wp2
            go_ret
            exact ⟨rfl, BB.out⟩
end Go.Proofs.Ytfkmnlhmldjieaa
