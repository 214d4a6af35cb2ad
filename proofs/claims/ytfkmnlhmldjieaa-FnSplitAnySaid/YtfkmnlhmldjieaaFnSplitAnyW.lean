/-
  The law FnSplitAny walked: for all codes it returns true, and nothing that lay before has turned. Conditions: none but those of its row.
-/
import Derived.Test.YtfkmnlhmldjieaaScE
import Derived.Test.YtfkmnlhmldjieaaDrawSp2
namespace Go.Proofs.Ytfkmnlhmldjieaa
open Go.RowKit

/-- The best cost and its number of parts after j tries. -/
def bestA (zs : List Int) (j : Nat) : Int × Int := if j = 0 then (0, 0) else (zs.getD (leastTo zs j).1 0, ((leastTo zs j).1 : Int) + 1)
theorem bestA_new {zs : List Int} {j : Nat} (h : (bestA zs j).2 = 0 ∨ zs.getD j 0 < (bestA zs j).1) : bestA zs (j + 1) = (zs.getD j 0, (j : Int) + 1) := by
  have st : (leastTo zs (j + 1)).1 = if zs.getD j 0 < zs.getD (leastTo zs j).1 0 then j else (leastTo zs j).1 := rfl
  unfold bestA at h ⊢
  rw [if_neg (by omega)]
  by_cases e : j = 0
  · subst e; rw [leastTo_one]
  · rw [if_neg e] at h
    dsimp only at h
    rw [st, if_pos (by omega)]
theorem bestA_old {zs : List Int} {j : Nat} (h : ¬ (bestA zs j).2 = 0) (h2 : ¬ zs.getD j 0 < (bestA zs j).1) : bestA zs (j + 1) = bestA zs j := by
  have st : (leastTo zs (j + 1)).1 = if zs.getD j 0 < zs.getD (leastTo zs j).1 0 then j else (leastTo zs j).1 := rfl
  unfold bestA at h h2 ⊢
  by_cases e : j = 0
  · subst e; exact absurd rfl h
  · rw [if_neg e] at h h2 ⊢
    rw [if_neg (by omega), st, if_neg h2]

set_option maxHeartbeats 1500000 in
set_option maxRecDepth 100000 in
theorem lawFnSplitAny_any (A0 : Option Addr) (c0 : Nat) (bs : List Int) (w : World) (h0 : BR w w.heap.size A0 bs) (hc : bs.length ≤ c0) (hc2 : c0 ≤ 9000000000000000000) :
    Calls Try.prog 7 #[.slice A0 bs.length c0] w fun e w' => e = .returned (.bool true) ∧ Below w.heap.size w w' := by
  by_cases hbig : (1048576 : Int) < (bs.length : Int)
  · clear h0
    go_enter Try.func7, Try.ntmps7
    go_wp2
    go_ret
    exact ⟨rfl, Below.refl _ _⟩
  have H0 := Lib.hid h0
  clear h0
  have BB := Lib.hid (Below.refl w.heap.size w)
  go_enter Try.func7, Try.ntmps7
  go_wp2_with fail
  refine (DrawSplitAny_any _ _ bs _ H0.out hc hc2).mono ?_
  rintro e w1 ⟨A, c, zs, s, k, rfl, ⟨hz, hcap⟩, -, hx, iw, bb⟩
  replace BB := Lib.hid (below_then BB.out (Nat.le_refl _) bb)
  have Z := Lib.hid iw.toAll
  clear bb
  clear iw
  have HCP := Lib.hid (show zs.length ≤ c ∧ c ≤ maxLen from ⟨hcap.1, by unfold maxLen; have := hcap.2; omega⟩)
  clear hcap
  have HX := Lib.hid hx
  clear hx
  cases hk : anyOkB zs s k with
  | false =>
    have HVT : Hid (splitAnyV zs s k = .tuple #[.int .i64 0, .int .i64 0, .bool false]) := Lib.hid (by unfold splitAnyV; rw [hk]; rfl)
    clear hk
    go_wp2_with fail
    refine (implSplitAny_any _ _ zs s k HX.out _ Z.out.toAll HCP.out).mono ?_
    rintro e w2 ⟨rfl, bb⟩
    replace BB := Lib.hid (below_then BB.out (Nat.le_refl _) bb)
    replace Z := Lib.hid (Z.out.grow bb)
    clear bb
    rw [HVT.out]
    go_wp2_with fail
    refine (specSplitAny_any _ _ zs s k HX.out _ Z.out.toAll).mono ?_
    rintro e w3 ⟨rfl, bb⟩
    replace BB := Lib.hid (below_then BB.out (Nat.le_refl _) bb)
    replace Z := Lib.hid (Z.out.grow bb)
    clear bb
    rw [HVT.out]
    go_wp2
    go_ret
    exact ⟨rfl, BB.out⟩
  | true =>
    obtain ⟨hg, hin⟩ := Bool.and_eq_true_iff.1 (show (givenS zs s && inB 0 5000 k) = true from hk)
    have hp := inB_true.1 hin
    have hrow := given_row hg
    have hl := (rowB_true.1 hrow).2
    obtain ⟨q1, q2⟩ := any_is (W := partV zs (sqB s)) (p := k) hl.1
    have hmix := mixA_all zs s k
    have HVT : Hid (splitAnyV zs s k = .tuple #[.int .i64 (bestA (mixA (splitCostsL zs s) k zs.length) zs.length).1, .int .i64 (bestA (mixA (splitCostsL zs s) k zs.length) zs.length).2, .bool true]) := Lib.hid (by
      unfold splitAnyV bestA
      rw [hk, if_pos (by rfl), hmix, if_neg (show ¬ zs.length = 0 by omega), q1, q2]; rfl)
    have HCM : Hid (splitCostsM zs s = some (splitCostsL zs s)) := Lib.hid (by unfold splitCostsM; rw [hg]; rfl)
    have HCB := Lib.hid (costs_i64 (s := s) hrow)
    have HLL := Lib.hid (costsL_len zs s)
    have HL12 := Lib.hid hl
    have HPP := Lib.hid hp
    generalize splitCostsL zs s = L at HVT HCM HCB HLL
    obtain ⟨n, hn⟩ : ∃ n, zs.length = n := ⟨_, rfl⟩
    rw [hn] at HVT HL12 HLL
    have HMG : Hid (∀ j, j < n → (mixA L k n).getD j 0 = L.getD j 0 + ((j : Int) + 1) * k) := Lib.hid fun j hj => by
      rw [getD_in (by rw [mixA_len, HLL.out]; exact hj), mixA_get, if_pos hj]
    generalize mixA L k n = MX at HVT HMG
    clear hk hg hin hp hrow hl q1 q2 hmix hn
    go_wp2_with fail
    refine (implSplitAny_any _ _ zs s k HX.out _ Z.out.toAll HCP.out).mono ?_
    rintro e w2 ⟨rfl, bb⟩
    replace BB := Lib.hid (below_then BB.out (Nat.le_refl _) bb)
    replace Z := Lib.hid (Z.out.grow bb)
    clear bb
    rw [HVT.out]
    go_wp2_with fail
    refine (specSplitAny_any _ _ zs s k HX.out _ Z.out.toAll).mono ?_
    rintro e w3 ⟨rfl, bb⟩
    replace BB := Lib.hid (below_then BB.out (Nat.le_refl _) bb)
    replace Z := Lib.hid (Z.out.grow bb)
    clear bb
    rw [HVT.out]
    go_wp2_with fail
    refine (implSplitCosts_any _ _ zs s _ Z.out.toAll HCP.out).mono ?_
    rintro e w4 ⟨A5, c5, rfl, iw, bb⟩
    replace BB := Lib.hid (below_then BB.out (Nat.le_refl _) bb)
    replace Z := Lib.hid (Z.out.grow bb)
    have X := Lib.hid iw.toAll
    clear bb
    clear iw
    rw [HCM.out] at X
    rw [HCM.out]
    have e1 : (some L).getD [] = L := rfl
    rw [e1]
    replace X : Hid (IR w4 _ _ A5 L) := X
    clear e1
    have hll := HLL.out
    rw [hll]
    clear hll
    go_wp2
    go_loopw [14, 15, 16, 17] (fun be pa i _ wr => ∃ j : Nat, j ≤ n ∧ i = .int .i64 ((j : Int) + 1) ∧ be = .int .i64 (bestA MX j).1 ∧ pa = .int .i64 (bestA MX j).2 ∧ wr = w4) (fun _ _ i _ _ => n + 1 - (intOf i).toNat)
    case atStart => exact ⟨0, Nat.zero_le _, by go_num, rfl, rfl, rfl⟩
    case round =>
      obtain ⟨j, hj, rfl, rfl, rfl, hwr⟩ := hrel
      subst hwr
      have hl12 := HL12.out
      by_cases hlt : j < n
      · have hlt' : (j : Int) + 1 ≤ (n : Int) := by omega
        have hjl : j < L.length := by rw [HLL.out]; exact hlt
        obtain ⟨b, off, rfl, _, _, hcj⟩ := X.out.at_ hjl
        have hyb := HCB.out _ (List.getElem_mem hjl)
        have hmg := HMG.out j hlt
        rw [getD_in hjl] at hmg
        have HNEW := Lib.hid (bestA_new (zs := MX) (j := j))
        have HOLD := Lib.hid (bestA_old (zs := MX) (j := j))
        rw [hmg] at HNEW HOLD
        have hpp := HPP.out
        have m1 := Int.mul_nonneg (show 0 ≤ (j : Int) + 1 by omega) hpp.1
        have m2 := Int.mul_le_mul (show (j : Int) + 1 ≤ 12 by omega) hpp.2 hpp.1 (by omega : (0 : Int) ≤ 12)
        have mc : k * ((j : Int) + 1) = ((j : Int) + 1) * k := Int.mul_comm _ _
        generalize L[j] = y at hcj hyb HNEW HOLD
        have s1 : IntKind.i64.wrap ((j : Int) + 1 - 1) = (j : Int) := by rw [IntWalk.i64_in _ (by omega)]; omega
        have s1b : IntKind.i64.wrap (j : Int) = (j : Int) := IntWalk.i64_in _ (by omega)
        have s1c : (j : Int) + 1 - 1 = (j : Int) := by omega
        have s2 : IntKind.i64.wrap ((j : Int) + 1 + 1) = (j : Int) + 1 + 1 := IntWalk.i64_in _ (by omega)
        have s3 : IntKind.i64.wrap (k * ((j : Int) + 1)) = k * ((j : Int) + 1) := IntWalk.i64_in _ (by omega)
        have s4 : IntKind.i64.wrap (y + k * ((j : Int) + 1)) = y + k * ((j : Int) + 1) := IntWalk.i64_in _ (by omega)
        have j0 : (0 : Int) ≤ (j : Int) := by omega
        have j1 : (j : Int) < (n : Int) := by omega
        rw [← mc] at HNEW HOLD
        have HLT := Lib.hid hlt
        obtain ⟨b1, b2, hbb⟩ : ∃ b1 b2, bestA MX j = (b1, b2) := ⟨_, _, rfl⟩
        rw [hbb] at HNEW HOLD
        rw [hbb]
        dsimp only at HNEW HOLD
        dsimp only
        clear hlt hmg m1 m2 mc hyb hjl hpp hbb hl12
        by_cases c1 : b2 = 0
        · have HN := Lib.hid (HNEW.out (.inl c1))
          have c1b : (b2 == 0) = true := by simpa using c1
          clear c1 HNEW HOLD
          go_wp2
          go_roundw
          case rel => exact ⟨j + 1, HLT.out, by go_num, by rw [HN.out], by rw [HN.out], by first | rfl | trivial⟩
          case measure => have := HLT.out; simp [intOf]; omega
        · have c1b : (b2 == 0) = false := by rw [beq_eq_false_iff_ne]; exact c1
          by_cases c2 : y + k * ((j : Int) + 1) < b1
          · have HN := Lib.hid (HNEW.out (.inr c2))
            clear c1 HNEW HOLD
            go_wp2
            go_roundw
            case rel => exact ⟨j + 1, HLT.out, by go_num, by rw [HN.out], by rw [HN.out], by first | rfl | trivial⟩
            case measure => have := HLT.out; simp [intOf]; omega
          · have HN := Lib.hid (HOLD.out c1 c2)
            have c2b : decide (y + k * ((j : Int) + 1) < b1) = false := decide_eq_false c2
            clear c1 HNEW HOLD
            go_wp2
            go_roundw
            case rel => exact ⟨j + 1, HLT.out, by go_num, by rw [HN.out], by rw [HN.out], by first | rfl | trivial⟩
            case measure => have := HLT.out; simp [intOf]; omega
      · obtain rfl : j = n := by omega
        have hlt' : ¬ (j : Int) + 1 ≤ (j : Int) := by omega
        go_wp2
        go_ret
        exact ⟨rfl, BB.out⟩
end Go.Proofs.Ytfkmnlhmldjieaa
