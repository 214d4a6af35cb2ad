/-
  The law FnSplitEven walked: for all codes it returns true, and nothing that lay before has turned. Conditions: none but those of its row.
-/
import Derived.Test.YtfkmnlhmldjieaaScE
import Derived.Test.YtfkmnlhmldjieaaDrawSp2
import Derived.Test.YtfkmnlhmldjieaaTotal
namespace Go.Proofs.Ytfkmnlhmldjieaa
open Go.RowKit

theorem tot_sum8 {zs : List Int} (hr : rowB zs = true) : ∀ k : Nat, k ≤ zs.length → totW (zs.take k) = sumL (zs.take k)
  | 0, _ => by simp [totW, sumL]
  | k + 1, h => by
    have ih := tot_sum8 hr k (by omega)
    have b1 := take8_bd12 hr (k := k + 1) h
    rw [take_next zs (by omega)] at b1
    rw [← take_snoc zs k (by omega), totW_snoc, ih, take_snoc zs k (by omega), take_next zs (by omega), getD_in (by omega)]
    rw [getD_in (by omega)] at b1
    exact IntWalk.wrap64_in _ (by omega)

set_option maxHeartbeats 1500000 in
set_option maxRecDepth 100000 in
theorem lawFnSplitEven_any (A0 : Option Addr) (c0 : Nat) (bs : List Int) (w : World) (h0 : BR w w.heap.size A0 bs) (hc : bs.length ≤ c0) (hc2 : c0 ≤ 9000000000000000000) :
    Calls Try.prog 9 #[.slice A0 bs.length c0] w fun e w' => e = .returned (.bool true) ∧ Below w.heap.size w w' := by
  by_cases hbig : (1048576 : Int) < (bs.length : Int)
  · clear h0
    go_enter Try.func9, Try.ntmps9
    go_wp2
    go_ret
    exact ⟨rfl, Below.refl _ _⟩
  have H0 := Lib.hid h0
  clear h0
  have BB := Lib.hid (Below.refl w.heap.size w)
  go_enter Try.func9, Try.ntmps9
  go_wp2_with fail
  refine (DrawSplitEven_any _ _ bs _ H0.out hc hc2).mono ?_
  rintro e w1 ⟨A, c, zs, k, rfl, ⟨hz, hcap⟩, hx, iw, bb⟩
  replace BB := Lib.hid (below_then BB.out (Nat.le_refl _) bb)
  have Z := Lib.hid iw.toAll
  clear bb
  clear iw
  have HCP := Lib.hid (show zs.length ≤ c ∧ c ≤ maxLen from ⟨hcap.1, by unfold maxLen; have := hcap.2; omega⟩)
  clear hcap
  have HX := Lib.hid hx
  clear hx
  cases hk : evenOkB zs k with
  | false =>
    have HVT : Hid (splitEvenV zs k = .tuple #[.int .i64 0, .bool false]) := Lib.hid (by unfold splitEvenV; rw [hk]; rfl)
    clear hk
    go_wp2_with fail
    refine (implSplitEven_any _ _ zs k HX.out _ Z.out.toAll HCP.out).mono ?_
    rintro e w2 ⟨rfl, bb⟩
    replace BB := Lib.hid (below_then BB.out (Nat.le_refl _) bb)
    replace Z := Lib.hid (Z.out.grow bb)
    clear bb
    rw [HVT.out]
    go_wp2_with fail
    refine (specSplitEven_any _ _ zs k HX.out _ Z.out.toAll).mono ?_
    rintro e w3 ⟨rfl, bb⟩
    replace BB := Lib.hid (below_then BB.out (Nat.le_refl _) bb)
    replace Z := Lib.hid (Z.out.grow bb)
    clear bb
    rw [HVT.out]
    go_wp2
    go_ret
    exact ⟨rfl, BB.out⟩
  | true =>
    obtain ⟨hh, hin⟩ := Bool.and_eq_true_iff.1 (show (hillB zs && inB 1 (zs.length : Int) k) = true from hk)
    have hx1 := inB_true.1 hin
    have hrow := (hill_true hh).2
    have hl := (rowB_true.1 hrow).2
    have hn : ∀ x, x ∈ zs → 0 ≤ x := by
      have := (hill_true hh).1
      unfold nnB at this
      exact fun z hz => by simpa using List.all_eq_true.1 this z hz
    obtain ⟨m, rfl⟩ : ∃ m : Nat, k = (m : Int) := ⟨k.toNat, by omega⟩
    obtain ⟨q1, q2, q3, q4⟩ := split_even_law (k := m) hn (by omega)
    obtain ⟨-, r2, r3, -⟩ := splitEven_is (k := m) hn (by omega)
    have hsb := take8_bd12 hrow (k := zs.length) (Nat.le_refl _)
    have htot := tot_sum8 hrow zs.length (Nat.le_refl _)
    rw [List.take_length] at hsb htot
    have HVT : Hid (splitEvenV zs (m : Int) = .tuple #[.int .i64 (splitEven zs m), .bool true]) := Lib.hid (by unfold splitEvenV; rw [hk, if_pos (by rfl), Int.toNat_natCast])
    have HVU : Hid (∃ (u : Int) (p : Bool), splitEvenV zs ((m : Int) + 1) = .tuple #[.int .i64 u, .bool p] ∧ (p = true → u ≤ splitEven zs m)) := Lib.hid (by
      unfold splitEvenV
      split
      · exact ⟨_, _, rfl, fun _ => by rw [show ((m : Int) + 1).toNat = m + 1 by omega]; exact q4⟩
      · exact ⟨_, _, rfl, fun h => by cases h⟩)
    have hpb : 0 ≤ (m : Int) * splitEven zs m ∧ (m : Int) * splitEven zs m ≤ 144000 := by
      have h1 := Int.mul_nonneg (show 0 ≤ (m : Int) by omega) r2
      have h2 := Int.mul_le_mul (show (m : Int) ≤ 12 by omega) (show splitEven zs m ≤ 12000 by omega) r2 (by omega : (0 : Int) ≤ 12)
      omega
    have HEN : Hid (∀ (j : Nat) (hj : j < zs.length), zs[j] ≤ splitEven zs m) := Lib.hid fun j hj => q2 _ (List.getElem_mem hj)
    have HQ3 : Hid (m = 1 → splitEven zs m = sumL zs) := Lib.hid q3
    have HTT := Lib.hid htot
    generalize splitEven zs m = E at HVT HVU HEN HQ3 q1 r2 r3 hpb
    have t1 : IntKind.i64.wrap ((m : Int) * E) = (m : Int) * E := IntWalk.i64_in _ (by omega)
    have HL12 := Lib.hid hl.2
    have HXX : Hid (I64 ((m : Int) + 1)) := ⟨by omega, by omega⟩
    have HT1 := Lib.hid t1; have HQ1 := Lib.hid q1; have HR2 := Lib.hid r2; have HM1 := Lib.hid (show 1 ≤ (m : Int) ∧ (m : Int) ≤ 12 by omega)
    clear hk hh hin hx1 hrow hl hn q1 q2 q3 q4 r2 r3 hsb hpb t1 htot
    go_wp2_with fail
    refine (implSplitEven_any _ _ zs (m : Int) HX.out _ Z.out.toAll HCP.out).mono ?_
    rintro e w2 ⟨rfl, bb⟩
    replace BB := Lib.hid (below_then BB.out (Nat.le_refl _) bb)
    replace Z := Lib.hid (Z.out.grow bb)
    clear bb
    rw [HVT.out]
    go_wp2_with fail
    refine (specSplitEven_any _ _ zs (m : Int) HX.out _ Z.out.toAll).mono ?_
    rintro e w3 ⟨rfl, bb⟩
    replace BB := Lib.hid (below_then BB.out (Nat.le_refl _) bb)
    replace Z := Lib.hid (Z.out.grow bb)
    clear bb
    rw [HVT.out]
    have hr2 := HR2.out
    go_wp2
    go_loopw [9, 10] (fun mo i wr => ∃ (j : Nat) (x : Int), j ≤ zs.length ∧ i = .int .i64 (j : Int) ∧ mo = .int .i64 x ∧ Hid (0 ≤ x ∧ x ≤ E) ∧ wr = w3) (fun _ i _ => zs.length - (intOf i).toNat)
    case atStart => exact ⟨0, 0, Nat.zero_le _, rfl, rfl, Lib.hid ⟨Int.le_refl _, hr2⟩, rfl⟩
    case round =>
      obtain ⟨j, x, hj, rfl, rfl, hx, hwr⟩ := hrel
      subst hwr
      have hl12 := HL12.out
      by_cases hlt : j < zs.length
      · have hlt' : (j : Int) < (zs.length : Int) := by omega
        obtain ⟨b, off, rfl, _, _, hcj⟩ := Z.out.at_ hlt
        have hle := HEN.out j hlt
        have hxx := hx.out
        have HLT := Lib.hid hlt
        generalize zs[j] = y at hcj hle
        have s1 : IntKind.i64.wrap ((j : Int) + 1) = (j : Int) + 1 := IntWalk.i64_in _ (by omega)
        clear hlt hx
        by_cases cm : x < y
        · have HN : Hid (0 ≤ y ∧ y ≤ E) := Lib.hid ⟨by omega, hle⟩
          clear hle hxx hr2
          go_wp2
          go_roundw
          case rel => exact ⟨j + 1, y, HLT.out, by go_num, rfl, HN, by first | rfl | trivial⟩
          case measure => have := HLT.out; simp [intOf]; omega
        · have HN := Lib.hid hxx
          clear hle hxx hr2
          go_wp2
          go_roundw
          case rel => exact ⟨j + 1, x, HLT.out, by go_num, rfl, HN, by first | rfl | trivial⟩
          case measure => have := HLT.out; simp [intOf]; omega
      · have hlt' : ¬ (j : Int) < (zs.length : Int) := by omega
        obtain ⟨u, p, hu, hp⟩ := HVU.out
        have HU := Lib.hid hu; have HP := Lib.hid hp
        have hx2 := hx.out.2
        have hm1 := HM1.out
        have s1 : IntKind.i64.wrap ((m : Int) + 1) = (m : Int) + 1 := IntWalk.i64_in _ (by omega)
        clear hlt hx hu hp hj hl12
        go_wp2_with fail
        refine (implSplitEven_any _ _ zs ((m : Int) + 1) HXX.out _ Z.out.toAll HCP.out).mono ?_
        rintro e w4 ⟨rfl, bb⟩
        replace BB := Lib.hid (below_then BB.out (Nat.le_refl _) bb)
        replace Z := Lib.hid (Z.out.grow bb)
        clear bb
        rw [HU.out]
        have HT : Hid (∀ W : World, W = w4 → Calls Try.prog 34 #[.slice A zs.length c] W fun e w' => e = .returned (.int .i64 (sumL zs)) ∧ w' = W) := Lib.hid fun W hW => by
          have := total_any A zs.length c _ _ zs w4 Z.out rfl
          rw [HTT.out] at this
          rw [hW]; exact this
        have t1 := HT1.out; have q1 := HQ1.out
        have hge : decide ((m : Int) * E ≥ sumL zs) = true := decide_eq_true q1
        clear hm1
        by_cases e1 : m = 1
        · have e2 := HQ3.out e1
          have e1b : ¬ 1 < (m : Int) := by omega
          have e2b : (E == sumL zs) = true := by simpa using e2
          clear e1 e2
          cases p with
          | false =>
            go_wp2_with fail
            refine (HT.out _ rfl).mono ?_; rintro e w' ⟨rfl, rfl⟩
            go_wp2_with fail
            refine (HT.out _ rfl).mono ?_; rintro e w' ⟨rfl, rfl⟩
            go_wp2
            go_ret
            exact ⟨rfl, BB.out⟩
          | true =>
            have hpu := HP.out rfl
            go_wp2_with fail
            refine (HT.out _ rfl).mono ?_; rintro e w' ⟨rfl, rfl⟩
            go_wp2_with fail
            refine (HT.out _ rfl).mono ?_; rintro e w' ⟨rfl, rfl⟩
            go_wp2
            go_ret
            exact ⟨rfl, BB.out⟩
        · have e1b : 1 < (m : Int) := by have := HM1.out; omega
          clear e1
          cases p with
          | false =>
            go_wp2_with fail
            refine (HT.out _ rfl).mono ?_; rintro e w' ⟨rfl, rfl⟩
            go_wp2
            go_ret
            exact ⟨rfl, BB.out⟩
          | true =>
            have hpu := HP.out rfl
            go_wp2_with fail
            refine (HT.out _ rfl).mono ?_; rintro e w' ⟨rfl, rfl⟩
            go_wp2
            go_ret
            exact ⟨rfl, BB.out⟩
end Go.Proofs.Ytfkmnlhmldjieaa
