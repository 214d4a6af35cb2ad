/-
  Chapter 8 of the program: SplitFirst, SplitLeast, SplitCosts, SplitAny, SplitEven. Conditions: the lists' cells are there.
-/
import Derived.Test.YtfkmnlhmldjieaaScD
import Derived.Test.YtfkmnlhmldjieaaScN
import Derived.Test.YtfkmnlhmldjieaaLeast2
namespace Go.Proofs.Ytfkmnlhmldjieaa
open Go.RowKit

theorem leastOk_many (zs : List Int) (s : ByteArray) (x : Int) : leastOkB zs s x = (manyOkB zs x && letB s) := by
  unfold leastOkB givenS manyOkB
  cases rowB zs <;> cases letB s <;> simp
theorem first_places {zs : List Int} {s : ByteArray} {k : Nat} (h : k + 1 ≤ zs.length) : spL (segC (partV zs (sqB s))) (zs.length : Int) k 0 = splitFirst zs (sqB s) (k + 1) := by
  rw [sp_best _ _ k 0 (by omega)]; rfl

set_option maxRecDepth 100000 in
set_option maxHeartbeats 1000000 in
theorem implSplitFirst_any (A : Option Addr) (c : Nat) (zs : List Int) (s : ByteArray) (x : Int) (_hx : I64 x) (w : World) (h : IR w 0 w.heap.size A zs) (hcp : zs.length ≤ c ∧ c ≤ maxLen) :
    Calls Try.prog 18 #[.slice A zs.length c, .string s, .int .i64 x] w (RetSB w (splitFirstM zs s x)) := by
  have H := Lib.hid h; clear h
  cases hr : manyOkB zs x with
  | false =>
    have HM : Hid (splitFirstM zs s x = none) := Lib.hid (by unfold splitFirstM; rw [leastOk_many, hr]; rfl)
    have HR := Lib.hid hr; clear hr
    go_enter Try.func18, Try.ntmps18
    go_wp2_with fail
    refine (canSplit_of _ _ zs _ _ H.out HR.out).mono ?_; rintro e w1 ⟨rfl, b1⟩
    go_wp2
    go_ret2
    rw [HM.out]
    exact retSB_none b1
  | true =>
    have hb := hr
    unfold manyOkB at hb
    obtain ⟨hrow, hin⟩ := Bool.and_eq_true_iff.1 hb
    have hl := (rowB_true.1 hrow).2
    have hx1 := inB_true.1 hin
    obtain ⟨k, hk⟩ : ∃ k : Nat, x = (k : Int) + 1 := ⟨(x - 1).toNat, by omega⟩
    have hkl : k + 1 ≤ zs.length := by omega
    have hV : splitFirstM zs s x = if letB s then some (splitFirst zs (sqB s) (k + 1)) else none := by
      unfold splitFirstM; rw [leastOk_many, hr, Bool.true_and, show x.toNat = k + 1 by omega]
    have hparts := (split_first_law (a := zs) (sq := sqB s) (k := k + 1) (by omega) hkl)
    obtain ⟨b, o, rfl, -, -, -⟩ := H.out.at_ (k := 0) (by omega)
    have HRA := Lib.hid (H.out.rowAt (by omega))
    have HROW := Lib.hid hrow; have HCP := Lib.hid hcp; have HKL := Lib.hid hkl; have HV := Lib.hid hV; have HPT := Lib.hid hparts
    have HFP := Lib.hid (first_places (zs := zs) (s := s) hkl)
    have HR := Lib.hid hr; have HK := Lib.hid hk; have H12 := Lib.hid hl.2
    clear hr hb hrow hin hcp hkl hV hparts hk hx1 hl
    by_cases e1 : s.toList = [119]
    · have hsq : sqB s = false := by unfold sqB; rw [e1]; rfl
      have hlt : letB s = true := by unfold letB; rw [e1]; rfl
      have HM : Hid (splitFirstM zs s x = some (splitFirst zs false (k + 1))) := Lib.hid (by rw [HV.out, hlt, hsq]; rfl)
      rw [hsq] at HFP HPT
      clear hsq hlt HV
      go_enter Try.func18, Try.ntmps18
      go_wp2_with fail
      refine (canSplit_of _ _ zs _ _ H.out HR.out).mono ?_; rintro e w1 ⟨rfl, b1⟩
      have B1 := Lib.hid b1; have HRA1 := Lib.hid (HRA.out.grow b1); clear b1
      go_wp2_with fail
      refine (leastWide_any zs HROW.out b o c zs.length rfl HCP.out k 0 x o zs.length c w1 HK.out rfl rfl rfl (by have := HKL.out; omega) HRA1.out).mono ?_; rintro e w2 ⟨A2, c2, rfl, hv2, -, b2⟩
      rw [show ((0 : Nat) : Int) = 0 from rfl, HFP.out] at hv2
      have B2 := Lib.hid (below_then B1.out (Nat.le_refl _) b2); have HV2 := Lib.hid hv2; clear b2 hv2
      go_wp2_with fail
      refine (placesOfWide_any zs.length H12.out b o c _ HPT.out.1 A2 _ c2 (k + 1) w2 HV2.out HPT.out.2.2.1.symm).mono ?_; rintro e w3 ⟨A3, c3, rfl, hi3, b3⟩
      have B3 := Lib.hid (below_then B2.out (Nat.le_refl _) b3); have HI3 := Lib.hid (hi3.wide B2.out.size (Nat.le_refl _) (Nat.le_refl _)); clear b3 hi3
      go_wp2
      go_ret2
      rw [HM.out]
      exact retSB_some rfl HI3.out B3.out
    · by_cases e2 : s.toList = [115]
      · have hsq : sqB s = true := by unfold sqB; rw [e2]; rfl
        have hlt : letB s = true := by unfold letB; rw [e2]; rfl
        have HM : Hid (splitFirstM zs s x = some (splitFirst zs true (k + 1))) := Lib.hid (by rw [HV.out, hlt, hsq]; rfl)
        rw [hsq] at HFP HPT
        have e1b : (s.toList == [119]) = false := by rw [e2]; rfl
        clear hsq hlt HV e1
        go_enter Try.func18, Try.ntmps18
        go_wp2_with fail
        refine (canSplit_of _ _ zs _ _ H.out HR.out).mono ?_; rintro e w1 ⟨rfl, b1⟩
        have B1 := Lib.hid b1; have HRA1 := Lib.hid (HRA.out.grow b1); clear b1
        go_wp2_with fail
        refine (leastSquare_any zs HROW.out b o c zs.length rfl HCP.out k 0 x o zs.length c w1 HK.out rfl rfl rfl (by have := HKL.out; omega) HRA1.out).mono ?_; rintro e w2 ⟨A2, c2, rfl, hv2, -, b2⟩
        rw [show ((0 : Nat) : Int) = 0 from rfl, HFP.out] at hv2
        have B2 := Lib.hid (below_then B1.out (Nat.le_refl _) b2); have HV2 := Lib.hid hv2; clear b2 hv2
        go_wp2_with fail
        refine (placesOfSquare_any zs.length H12.out b o c _ HPT.out.1 A2 _ c2 (k + 1) w2 HV2.out HPT.out.2.2.1.symm).mono ?_; rintro e w3 ⟨A3, c3, rfl, hi3, b3⟩
        have B3 := Lib.hid (below_then B2.out (Nat.le_refl _) b3); have HI3 := Lib.hid (hi3.wide B2.out.size (Nat.le_refl _) (Nat.le_refl _)); clear b3 hi3
        go_wp2
        go_ret2
        rw [HM.out]
        exact retSB_some rfl HI3.out B3.out
      · have e1b : (s.toList == [119]) = false := by simpa using e1
        have e2b : (s.toList == [115]) = false := by simpa using e2
        have HM : Hid (splitFirstM zs s x = none) := Lib.hid (by
          rw [HV.out]; unfold letB; rw [e1b, e2b]; rfl)
        go_enter Try.func18, Try.ntmps18
        go_wp2_with fail
        refine (canSplit_of _ _ zs _ _ H.out HR.out).mono ?_; rintro e w1 ⟨rfl, b1⟩
        go_wp2
        go_ret2
        rw [HM.out]
        exact retSB_none b1

set_option maxRecDepth 100000 in
set_option maxHeartbeats 1000000 in
theorem implSplitLeast_any (A : Option Addr) (c : Nat) (zs : List Int) (s : ByteArray) (x : Int) (hx : I64 x) (w : World) (h : IR w 0 w.heap.size A zs) (hcp : zs.length ≤ c ∧ c ≤ maxLen) :
    Calls Try.prog 13 #[.slice A zs.length c, .string s, .int .i64 x] w fun e w' => e = .returned (splitLeastV zs s x) ∧ Below w.heap.size w w' := by
  have H := Lib.hid h; clear h
  have HC := Lib.hid (implSplitFirst_any A c zs s x hx w H.out hcp)
  have HCP := Lib.hid hcp; clear hcp
  cases hr : leastOkB zs s x with
  | false =>
    have HM : Hid (splitLeastV zs s x = .tuple #[.int .i64 0, .bool false]) := Lib.hid (by unfold splitLeastV; rw [hr]; rfl)
    have HN : Hid (splitFirstM zs s x = none) := Lib.hid (by unfold splitFirstM; rw [hr]; rfl)
    rw [HN.out] at HC
    clear hr
    go_enter Try.func13, Try.ntmps13
    go_wp2_with fail
    refine HC.out.mono ?_; rintro e w1 ⟨A1, c1, rfl, -, b1⟩
    go_wp2
    go_ret2
    exact ⟨by rw [HM.out]; rfl, b1⟩
  | true =>
    have hb := hr
    unfold leastOkB at hb
    obtain ⟨hg, hin⟩ := Bool.and_eq_true_iff.1 hb
    have hx1 := inB_true.1 hin
    have hl := (rowB_true.1 (given_row hg)).2
    obtain ⟨p1, p2, p3, -⟩ := split_first_law (a := zs) (sq := sqB s) (k := x.toNat) (by omega) (by omega)
    have HM : Hid (splitLeastV zs s x = splitCostV zs s (splitFirst zs (sqB s) x.toNat)) := Lib.hid (by
      unfold splitLeastV splitCostV splitOkB
      rw [hr, hg, segOk_true.2 p1, p2]; rfl)
    have HN : Hid (splitFirstM zs s x = some (splitFirst zs (sqB s) x.toNat)) := Lib.hid (by unfold splitFirstM; rw [hr]; rfl)
    rw [HN.out] at HC
    rw [HM.out]
    generalize splitFirst zs (sqB s) x.toNat = F at HC
    have HW : Hid (∃ V1 V2, splitCostV zs s F = .tuple #[V1, V2]) := Lib.hid (by unfold splitCostV; split <;> exact ⟨_, _, rfl⟩)
    obtain ⟨V1, V2, hv⟩ := HW.out
    have HVV := Lib.hid hv
    rw [hv]
    clear hr hb hg hin hx1 hl p1 p2 p3 hv HW HM HN
    go_enter Try.func13, Try.ntmps13
    go_wp2_with fail
    refine HC.out.mono ?_; rintro e w1 ⟨A1, c1, rfl, i1, b1⟩
    have I1 := Lib.hid i1; have B1 := Lib.hid b1; have H1 := Lib.hid (H.out.grow b1)
    clear i1 b1 HC
    go_wp2_with fail
    refine (implSplitCost_any A c zs s A1 c1 F w1 H1.out.toAll I1.out.toIR.toAll HCP.out).mono ?_; rintro e w2 ⟨rfl, b2⟩
    have B2 := Lib.hid (below_then B1.out (Nat.le_refl _) b2)
    rw [HVV.out]
    clear b2
    go_wp2
    go_ret2
    exact ⟨rfl, B2.out⟩

theorem Cells.stay {w w' : World} {b off : Nat} {xs : List Int} (h : Cells w b off xs) (hb : Below w.heap.size w w') (hlt : b < w.heap.size) : Cells w' b off xs := fun j hj =>
  ⟨(World.cell?_of_block (a := ⟨b, off + j, none⟩) (hb.block b hlt)).trans (h j hj).1, (World.frozen?_of_block (a := ⟨b, off + j, none⟩) (hb.block b hlt)).trans (h j hj).2⟩
theorem costs_i64 {zs : List Int} {s : ByteArray} (hr : rowB zs = true) : ∀ z, z ∈ splitCostsL zs s → 0 ≤ z ∧ z ≤ 1728000000 := fun z hz => by
  obtain ⟨i, hi, rfl⟩ := List.mem_map.1 hz
  have hi := List.mem_range.1 hi
  have hl := (rowB_true.1 hr).2.2
  have h := best_bd (part_row (s := s) hr) (n := (zs.length : Int)) (k := i) (f := 0) (Int.le_refl 0) (by omega)
  show 0 ≤ (bestL _ _ (i + 1 - 1) 0).1 ∧ (bestL _ _ (i + 1 - 1) 0).1 ≤ _
  rw [Nat.add_sub_cancel]
  omega
set_option maxRecDepth 100000 in
set_option maxHeartbeats 1000000 in
theorem implSplitCosts_any (A : Option Addr) (c : Nat) (zs : List Int) (s : ByteArray) (w : World) (h : IR w 0 w.heap.size A zs) (hcp : zs.length ≤ c ∧ c ≤ maxLen) :
    Calls Try.prog 22 #[.slice A zs.length c, .string s] w (RetSB w (splitCostsM zs s)) := by
  have H := Lib.hid h; clear h
  have HCP := Lib.hid hcp; clear hcp
  have HRI : Hid (∀ w', Below w.heap.size w w' → Calls Try.prog 54 #[.slice A zs.length c] w' fun e w'' => e = .returned (.bool (rowB zs)) ∧ Below w'.heap.size w' w'') := Lib.hid fun w' hb => implRowIn_any A c zs w' (H.out.grow hb).toAll
  have HR0 := Lib.hid (HRI.out w (Below.refl _ _))
  cases hr : rowB zs with
  | false =>
    have HM : Hid (splitCostsM zs s = none) := Lib.hid (by unfold splitCostsM givenS; rw [hr]; rfl)
    rw [hr] at HR0
    clear hr
    go_enter Try.func22, Try.ntmps22
    go_wp2_with fail
    refine HR0.out.mono ?_; rintro e w1 ⟨rfl, b1⟩
    go_wp2
    go_ret2
    rw [HM.out]
    exact retSB_none b1
  | true =>
    rw [hr] at HR0
    have hl := (rowB_true.1 hr).2
    have HROW := Lib.hid hr; clear hr HRI
    obtain ⟨n, hn⟩ : ∃ n, zs.length = n := ⟨_, rfl⟩
    have HLL : Hid ((splitCostsL zs s).length = n) := Lib.hid (by rw [costsL_len, hn])
    have HCI := Lib.hid (costs_i64 (s := s) HROW.out)
    have HSL : Hid (∀ (k : Nat) (w' : World), k < n → Below w.heap.size w w' → Calls Try.prog 13 #[.slice A n c, .string s, .int .i64 ((k : Int) + 1)] w' fun e w'' => e = .returned (if letB s then .tuple #[.int .i64 ((splitCostsL zs s).getD k 0), .bool true] else .tuple #[.int .i64 0, .bool false]) ∧ Below w'.heap.size w' w'') := Lib.hid fun k w' hk hb => by
      have h1 := implSplitLeast_any A c zs s ((k : Int) + 1) ⟨by omega, by omega⟩ w' (H.out.grow hb).toAll HCP.out
      have e1 : leastOkB zs s ((k : Int) + 1) = letB s := by
        unfold leastOkB givenS
        rw [HROW.out, show inB 1 (zs.length : Int) ((k : Int) + 1) = true from inB_true.2 ⟨by omega, by omega⟩]; simp
      unfold splitLeastV at h1
      rw [e1, hn] at h1
      rw [getD_in (show k < (splitCostsL zs s).length by rw [costsL_len]; omega)]
      simp only [splitCostsL, List.getElem_map, List.getElem_range]
      rw [show k + 1 = ((k : Int) + 1).toNat by omega]
      exact h1
    have HM : Hid (splitCostsM zs s = if letB s then some (splitCostsL zs s) else none) := Lib.hid (by unfold splitCostsM givenS; rw [HROW.out]; rfl)
    rw [hn] at hl HR0
    rw [hn]
    have HL12 := Lib.hid hl
    clear hn
    go_enter Try.func22, Try.ntmps22
    go_wp2_with fail
    refine HR0.out.mono ?_; rintro e w1 ⟨rfl, b1⟩
    have hmk : (Instr.makeSlice 23 (.int .i64 (n : Int)) (.int .i64 (n : Int))).run Try.prog w1 = .ok (.slice (some ⟨w1.heap.size, 0, none⟩) n n) (w1.alloc (.cells (madeCells #[.int .i64 0] n) 3)) := run_makeInts n (by omega) w1
    have hc0 : Cells (w1.alloc (.cells (madeCells #[.int .i64 0] n) 3)) w1.heap.size 0 (fillTo (splitCostsL zs s) 0) := by rw [fillTo_zero, HLL.out]; exact Cells.made w1 n 3
    have HC0 := Lib.hid hc0; clear hc0
    have HB0 := Lib.hid (b1.alloc b1.size (.cells (madeCells #[.int .i64 0] n) 3))
    have HW1 := Lib.hid b1.size
    have hsz : w1.heap.size < (w1.alloc (.cells (madeCells #[.int .i64 0] n) 3)).heap.size := by simp
    have HSZ := Lib.hid hsz
    clear b1 hsz HR0
    go_wp2
    clear hmk
    generalize w1.alloc (.cells (madeCells #[.int .i64 0] n) 3) = W1 at HC0 HB0 HSZ
    go_loopw [7, 8, 9, 18] (fun _ _ _ x wr => ∃ k : Nat, k ≤ n ∧ x = .int .i64 (k : Int) ∧ Cells wr w1.heap.size 0 (fillTo (splitCostsL zs s) k) ∧ Below w.heap.size w wr ∧ w1.heap.size < wr.heap.size ∧ Hid (0 < k → letB s = true)) (fun _ _ _ x _ => n - (intOf x).toNat)
    case atStart => exact ⟨0, Nat.zero_le _, rfl, HC0.out, HB0.out, HSZ.out, Lib.hid fun h => absurd h (by omega)⟩
    case round =>
      clear HC0 HB0 HSZ
      obtain ⟨k, hk, rfl, hc, hb, hz, hlet⟩ := hrel
      have HC := Lib.hid hc; have HB := Lib.hid hb; have HZ := Lib.hid hz
      clear hc hb hz
      have hl12 := HL12.out
      by_cases hlt : k < n
      · have hlt' : (k : Int) < (n : Int) := by omega
        have HS := Lib.hid (HSL.out k wr hlt HB.out)
        have s1 : IntKind.i64.wrap ((k : Int) + 1) = (k : Int) + 1 := IntWalk.i64_in _ (by omega)
        cases hlb : letB s with
        | false =>
          have HMN : Hid (splitCostsM zs s = none) := Lib.hid (by rw [HM.out, hlb]; rfl)
          rw [hlb] at HS
          clear hlb
          go_wp2_with fail
          refine HS.out.mono ?_; rintro e w3 ⟨rfl, b3⟩
          go_wp2
          go_ret2
          rw [HMN.out]
          exact retSB_none (HB.out.trans (b3.mono HB.out.size))
        | true =>
          rw [hlb] at HS
          have HLB := Lib.hid hlb
          have hkl : k < (splitCostsL zs s).length := by rw [HLL.out]; exact hlt
          have HFI := Lib.hid hkl
          have HLT := Lib.hid hlt
          have HFL : Hid (k < (fillTo (splitCostsL zs s) k).length) := Lib.hid (by rw [fillTo_len _ _ (by omega)]; exact hkl)
          clear hlb hlet hkl hl12
          go_wp2_with fail
          refine HS.out.mono ?_; rintro e w3 ⟨rfl, b3⟩
          have hc3 := HC.out.stay b3 HZ.out
          have HC3 := Lib.hid (hc3.fill HFI.out)
          rw [Nat.zero_add, ← getD_in HFI.out] at HC3
          obtain ⟨ha1, ha2⟩ := hc3 k HFL.out
          rw [Nat.zero_add] at ha1 ha2
          generalize (fillTo (splitCostsL zs s) k)[k] = z at ha1
          have HB3 := Lib.hid ((HB.out.trans (b3.mono HB.out.size)).setCell (p := ⟨w1.heap.size, k, none⟩) HW1.out (.int .i64 ((splitCostsL zs s).getD k 0)))
          have HZ3 : Hid (w1.heap.size < (w3.setCell ⟨w1.heap.size, k, none⟩ (.int .i64 ((splitCostsL zs s).getD k 0))).heap.size) := Lib.hid (by
            have := b3.size; have := HZ.out; simp [World.setCell]; omega)
          generalize (splitCostsL zs s).getD k 0 = y at HC3 HB3 HZ3
          clear b3 hc3 HS
          go_wp2
          go_roundw
          case rel => exact ⟨k + 1, HLT.out, by go_num, HC3.out, HB3.out, HZ3.out, by first | exact Lib.hid fun _ => HLB.out | exact Lib.hid fun _ => trivial⟩
          case measure => have := HLT.out; simp [intOf]; omega
      · obtain rfl : k = n := by omega
        have hlt' : ¬ (k : Int) < (k : Int) := by omega
        have hci := HC.out
        rw [show fillTo (splitCostsL zs s) k = splitCostsL zs s by rw [← HLL.out]; exact fillTo_all _] at hci
        have HI := Lib.hid (hci.iw (n := k) (lo := w.heap.size) (hi := wr.heap.size) HLL.out HW1.out HZ.out (Nat.le_refl _) (by omega) (fun z hz => by have := HCI.out z hz; exact ⟨by omega, by omega⟩))
        have HMS : Hid (splitCostsM zs s = some (splitCostsL zs s)) := Lib.hid (by rw [HM.out, hlet.out (by omega)]; rfl)
        clear hci hlet
        go_wp2
        go_ret2
        rw [HMS.out]
        exact retSB_some HLL.out.symm HI.out HB.out

/-- The costs when k of them have got their number for each part. -/
def mixA (l : List Int) (p : Int) (k : Nat) : List Int := (List.range l.length).map fun i => if i < k then l.getD i 0 + ((i : Int) + 1) * p else l.getD i 0
theorem mixA_len (l : List Int) (p : Int) (k : Nat) : (mixA l p k).length = l.length := by simp [mixA]
theorem mixA_get (l : List Int) (p : Int) (k j : Nat) (h : j < (mixA l p k).length) : (mixA l p k)[j] = if j < k then l.getD j 0 + ((j : Int) + 1) * p else l.getD j 0 := by simp [mixA]
theorem mixA_zero (l : List Int) (p : Int) : mixA l p 0 = l := by
  apply List.ext_getElem
  · rw [mixA_len]
  · intro j h1 h2; rw [mixA_get, if_neg (by omega), getD_in h2]
theorem mixA_set (l : List Int) (p : Int) (k : Nat) : (mixA l p k).set k (l.getD k 0 + ((k : Int) + 1) * p) = mixA l p (k + 1) := by
  apply List.ext_getElem
  · rw [List.length_set, mixA_len, mixA_len]
  · intro j h1 h2
    rw [List.getElem_set, mixA_get l p (k + 1) j h2]
    by_cases e : k = j
    · subst e; rw [if_pos rfl, if_pos (by omega)]
    · rw [if_neg e, mixA_get]
      by_cases c : j < k
      · rw [if_pos c, if_pos (by omega)]
      · rw [if_neg c, if_neg (by omega)]
theorem mixA_all (zs : List Int) (s : ByteArray) (p : Int) : mixA (splitCostsL zs s) p zs.length = anyCosts (partV zs (sqB s)) p zs.length := by
  apply List.ext_getElem
  · rw [mixA_len, costsL_len, anyCosts_len]
  · intro j h1 h2
    have hj : j < zs.length := by rw [anyCosts_len] at h2; exact h2
    rw [mixA_get, if_pos hj, getD_in (by rw [costsL_len]; exact hj)]
    simp only [anyCosts, splitCostsL, List.getElem_map, List.getElem_range]
    rfl

theorem anyOk_costs (zs : List Int) (s : ByteArray) (p : Int) : anyOkB zs s p = (givenS zs s && inB 0 5000 p) := rfl
set_option maxRecDepth 100000 in
set_option maxHeartbeats 1000000 in
theorem implSplitAny_any (A : Option Addr) (c : Nat) (zs : List Int) (s : ByteArray) (x : Int) (_hx : I64 x) (w : World) (h : IR w 0 w.heap.size A zs) (hcp : zs.length ≤ c ∧ c ≤ maxLen) :
    Calls Try.prog 25 #[.slice A zs.length c, .string s, .int .i64 x] w fun e w' => e = .returned (splitAnyV zs s x) ∧ Below w.heap.size w w' := by
  have H := Lib.hid h; clear h
  have HC := Lib.hid (implSplitCosts_any A c zs s w H.out hcp)
  clear hcp
  cases hg : givenS zs s with
  | false =>
    have HM : Hid (splitAnyV zs s x = .tuple #[.int .i64 0, .int .i64 0, .bool false]) := Lib.hid (by unfold splitAnyV anyOkB; rw [hg]; rfl)
    have HN : Hid (splitCostsM zs s = none) := Lib.hid (by unfold splitCostsM; rw [hg]; rfl)
    rw [HN.out] at HC
    clear hg
    go_enter Try.func25, Try.ntmps25
    go_wp2_with fail
    refine HC.out.mono ?_; rintro e w1 ⟨A1, c1, rfl, -, b1⟩
    go_wp2
    go_ret3
    exact ⟨by rw [HM.out]; rfl, b1⟩
  | true =>
    have HN : Hid (splitCostsM zs s = some (splitCostsL zs s)) := Lib.hid (by unfold splitCostsM; rw [hg]; rfl)
    rw [HN.out] at HC
    have hrow := given_row hg
    have hl := (rowB_true.1 hrow).2
    have HV : Hid (splitAnyV zs s x = if inB 0 5000 x then .tuple #[.int .i64 (splitAny zs (sqB s) x).1, .int .i64 (splitAny zs (sqB s) x).2, .bool true] else .tuple #[.int .i64 0, .int .i64 0, .bool false]) := Lib.hid (by unfold splitAnyV anyOkB; rw [hg]; rfl)
    by_cases x1 : x < 0
    · have HM : Hid (splitAnyV zs s x = .tuple #[.int .i64 0, .int .i64 0, .bool false]) := Lib.hid (by
        rw [HV.out, show inB 0 5000 x = false by unfold inB; rw [decide_eq_false (by omega)]; rfl]; rfl)
      clear hg hrow hl
      go_enter Try.func25, Try.ntmps25
      go_wp2_with fail
      refine HC.out.mono ?_; rintro e w1 ⟨A1, c1, rfl, -, b1⟩
      go_wp2
      go_ret3
      exact ⟨by rw [HM.out]; rfl, b1⟩
    · by_cases x2 : 5000 < x
      · have HM : Hid (splitAnyV zs s x = .tuple #[.int .i64 0, .int .i64 0, .bool false]) := Lib.hid (by
          rw [HV.out, show inB 0 5000 x = false by unfold inB; rw [decide_eq_false (show ¬ x ≤ 5000 by omega), Bool.and_false]]; rfl)
        clear hg hrow hl
        go_enter Try.func25, Try.ntmps25
        go_wp2_with fail
        refine HC.out.mono ?_; rintro e w1 ⟨A1, c1, rfl, -, b1⟩
        go_wp2
        go_ret3
        exact ⟨by rw [HM.out]; rfl, b1⟩
      · obtain ⟨q1, q2⟩ := any_is (W := partV zs (sqB s)) (p := x) hl.1
        have HM : Hid (splitAnyV zs s x = .tuple #[.int .i64 ((mixA (splitCostsL zs s) x zs.length).getD (leastTo (mixA (splitCostsL zs s) x zs.length) zs.length).1 0), .int .i64 (((leastTo (mixA (splitCostsL zs s) x zs.length) zs.length).1 : Int) + 1), .bool true]) := Lib.hid (by
          rw [HV.out, show inB 0 5000 x = true from inB_true.2 ⟨by omega, by omega⟩, mixA_all, q1, q2]; rfl)
        have HCB := Lib.hid (costs_i64 (s := s) hrow)
        have hlen := costsL_len zs s
        have HLT : Hid ((leastTo (mixA (splitCostsL zs s) x zs.length) zs.length).1 < zs.length) := Lib.hid (leastTo_first _ _ hl.1).1
        obtain ⟨L, hL⟩ : ∃ L, splitCostsL zs s = L := ⟨_, rfl⟩
        rw [hL] at HC HM HCB HLT hlen
        obtain ⟨n, hn⟩ : ∃ n, zs.length = n := ⟨_, rfl⟩
        rw [hn] at HC HM hl HLT hlen
        rw [hn]
        have HLL := Lib.hid hlen; have HL12 := Lib.hid hl
        have HX := Lib.hid (show 0 ≤ x ∧ x ≤ 5000 by omega)
        have HMB : Hid (∀ (k : Nat), k < n → 0 ≤ ((k : Int) + 1) * x ∧ ((k : Int) + 1) * x ≤ 60000) := Lib.hid fun k hk => by
          have h1 := Int.mul_nonneg (show 0 ≤ (k : Int) + 1 by omega) HX.out.1
          have h2 := Int.mul_le_mul (show (k : Int) + 1 ≤ 12 by omega) HX.out.2 HX.out.1 (by omega : (0 : Int) ≤ 12)
          omega
        clear hg hrow hlen hL hn q1 q2 hl
        go_enter Try.func25, Try.ntmps25
        go_wp2_with fail
        refine HC.out.mono ?_; rintro e w1 ⟨A1, c1, rfl, i1, b1⟩
        have hl12 := HL12.out
        obtain ⟨b, o, hA, hb1, hb2, hcells⟩ := i1.2.2.2 (by rw [Option.getD_some, HLL.out]; omega)
        rw [Option.getD_some] at hcells
        subst hA
        have HC0 : Hid (Cells w1 b o (mixA L x 0)) := Lib.hid (by rw [mixA_zero]; exact hcells)
        have HB1 := Lib.hid b1; have HBL := Lib.hid hb1
        rw [Option.getD_some, HLL.out]
        clear i1 b1 hcells HC hl12
        go_wp2
        go_loopw [11, 33] (fun _ i wr => ∃ k : Nat, k ≤ n ∧ i = .int .i64 (k : Int) ∧ Cells wr b o (mixA L x k) ∧ Below w.heap.size w wr ∧ b < wr.heap.size) (fun _ i _ => n - (intOf i).toNat)
        case atStart => exact ⟨0, Nat.zero_le _, rfl, HC0.out, HB1.out, hb2⟩
        case round =>
          clear HC0 HB1 hb2
          obtain ⟨k, hk, rfl, hc, hb, hz⟩ := hrel
          have HCC := Lib.hid hc; have HB := Lib.hid hb; have HZ := Lib.hid hz
          clear hc hb hz
          have hl12 := HL12.out
          by_cases hlt : k < n
          · have hlt' : (k : Int) < (n : Int) := by omega
            have hkm : k < (mixA L x k).length := by rw [mixA_len, HLL.out]; exact hlt
            obtain ⟨ha1, ha2⟩ := HCC.out k hkm
            rw [mixA_get, if_neg (by omega)] at ha1
            have hset := HCC.out.set_ k hkm (L.getD k 0 + ((k : Int) + 1) * x)
            rw [mixA_set] at hset
            have hyb := HCB.out _ (List.getElem_mem (show k < L.length by rw [HLL.out]; exact hlt))
            rw [← getD_in] at hyb
            have hmb := HMB.out k hlt
            have HNEW := Lib.hid hset
            generalize L.getD k 0 = y at ha1 HNEW hyb
            have s1 : IntKind.i64.wrap ((k : Int) + 1) = (k : Int) + 1 := IntWalk.i64_in _ (by omega)
            have s2 : IntKind.i64.wrap (((k : Int) + 1) * x) = ((k : Int) + 1) * x := IntWalk.i64_in _ (by omega)
            have s3 : IntKind.i64.wrap (y + ((k : Int) + 1) * x) = y + ((k : Int) + 1) * x := IntWalk.i64_in _ (by omega)
            have HB3 := Lib.hid (HB.out.setCell (p := ⟨b, o + k, none⟩) HBL.out (.int .i64 (y + ((k : Int) + 1) * x)))
            have HZ3 : Hid (b < (wr.setCell ⟨b, o + k, none⟩ (.int .i64 (y + ((k : Int) + 1) * x))).heap.size) := Lib.hid (by have := HZ.out; simpa [World.setCell] using this)
            have HLT2 := Lib.hid hlt
            clear hset hkm hyb hmb hl12 hlt
            go_wp2
            go_roundw
            case rel => exact ⟨k + 1, HLT2.out, by go_num, HNEW.out, HB3.out, HZ3.out⟩
            case measure => have := HLT2.out; simp [intOf]; omega
          · obtain rfl : k = n := by omega
            have hlt' : ¬ (k : Int) < (k : Int) := by omega
            have hml : (mixA L x k).length = k := by rw [mixA_len, HLL.out]
            have HI := Lib.hid ((HCC.out.iw (n := k) (lo := 0) (hi := wr.heap.size) hml (Nat.zero_le _) HZ.out (Nat.le_refl _) (by omega) (fun z hz => by
              obtain ⟨j, hj, rfl⟩ := List.getElem_of_mem hz
              have hj' : j < k := by rw [hml] at hj; exact hj
              rw [mixA_get, if_pos hj', getD_in (by rw [HLL.out]; exact hj')]
              have h1 := HCB.out _ (List.getElem_mem (show j < L.length by rw [HLL.out]; exact hj'))
              have h2 := HMB.out j hj'
              exact ⟨by omega, by omega⟩)).toIR)
            have HLE := Lib.hid (least_anyL (some ⟨b, o, none⟩) c1 (mixA L x k) wr HI.out (by rw [hml]; exact hl12))
            rw [hml] at HLE
            have hlt3 := HLT.out
            generalize (mixA L x k).getD (leastTo (mixA L x k) k).1 0 = u at HLE HM
            generalize (leastTo (mixA L x k) k).1 = v at HLE HM hlt3
            have s1 : IntKind.i64.wrap ((v : Int) + 1) = (v : Int) + 1 := IntWalk.i64_in _ (by omega)
            clear hml hlt3 hl12
            go_wp2_with fail
            refine HLE.out.mono ?_; rintro e w3 ⟨rfl, b3⟩
            have HB3 := Lib.hid (HB.out.trans (b3.mono HB.out.size))
            clear b3
            go_wp2
            go_ret3
            exact ⟨by rw [HM.out]; rfl, HB3.out⟩

theorem hill_least {zs : List Int} (hr : rowB zs = true) : hillB zs = decide (0 ≤ loTo zs 0 (zs.length - 1)) := by
  have hl := (rowB_true.1 hr).2
  obtain ⟨t, t1, t2⟩ := loTo_at zs 0 (zs.length - 1)
  unfold hillB nnB
  rw [hr, Bool.and_true]
  cases h : (zs.all fun z => decide (0 ≤ z)) with
  | true =>
    have := List.all_eq_true.1 h _ (List.getElem_mem (show t < zs.length by omega))
    rw [← getD_in (show t < zs.length by omega)] at this
    rw [t2, Nat.zero_add]
    exact (by simpa using this : decide (0 ≤ zs.getD t 0) = true).symm
  | false =>
    symm; rw [decide_eq_false_iff_not]
    intro h0
    rw [List.all_eq_false] at h
    obtain ⟨z, hz, hn⟩ := h
    obtain ⟨j, hj, rfl⟩ := List.getElem_of_mem hz
    have := loTo_le zs 0 (zs.length - 1) j (by omega)
    rw [Nat.zero_add, getD_in hj] at this
    exact hn (by simpa using (by omega : 0 ≤ zs[j]))
set_option maxRecDepth 100000 in
set_option maxHeartbeats 1000000 in
theorem implSplitEven_any (A : Option Addr) (c : Nat) (zs : List Int) (x : Int) (_hx : I64 x) (w : World) (h : IR w 0 w.heap.size A zs) (hcp : zs.length ≤ c ∧ c ≤ maxLen) :
    Calls Try.prog 32 #[.slice A zs.length c, .int .i64 x] w fun e w' => e = .returned (splitEvenV zs x) ∧ Below w.heap.size w w' := by
  have H := Lib.hid h; clear h
  cases hr : manyOkB zs x with
  | false =>
    have HM : Hid (splitEvenV zs x = .tuple #[.int .i64 0, .bool false]) := Lib.hid (by
      unfold splitEvenV evenOkB hillB
      rw [Bool.and_assoc, show (rowB zs && inB 1 (zs.length : Int) x) = false from hr, Bool.and_false]; rfl)
    have HR := Lib.hid hr; clear hr
    go_enter Try.func32, Try.ntmps32
    go_wp2_with fail
    refine (canSplit_of _ _ zs _ _ H.out HR.out).mono ?_; rintro e w1 ⟨rfl, b1⟩
    go_wp2
    go_ret2
    exact ⟨by rw [HM.out]; rfl, b1⟩
  | true =>
    have hb := hr
    unfold manyOkB at hb
    obtain ⟨hrow, hin⟩ := Bool.and_eq_true_iff.1 hb
    have hl := (rowB_true.1 hrow).2
    have hx1 := inB_true.1 hin
    obtain ⟨k, hk⟩ : ∃ k : Nat, x = (k : Int) + 1 := ⟨(x - 1).toNat, by omega⟩
    have hkl : k + 1 ≤ zs.length := by omega
    obtain ⟨b, o, rfl, -, -, -⟩ := H.out.at_ (k := 0) (by omega)
    have HRA := Lib.hid (H.out.rowAt (by omega))
    have HMIN : Hid (∀ w', Below w.heap.size w w' → Calls Try.prog 63 #[.slice (some ⟨b, o, none⟩) zs.length c] w' fun e w'' => e = .returned (.int .i64 (loTo zs 0 (zs.length - 1))) ∧ w'' = w') := Lib.hid fun w' hb => by
      have := minInts_any zs b o 0 (zs.length - 1) c w' (HRA.out.grow hb) (by omega) (by omega)
      rwa [show zs.length - 1 + 1 = zs.length by omega, Nat.add_zero] at this
    have HV : Hid (splitEvenV zs x = if decide (0 ≤ loTo zs 0 (zs.length - 1)) then .tuple #[.int .i64 (splitEven zs (k + 1)), .bool true] else .tuple #[.int .i64 0, .bool false]) := Lib.hid (by
      unfold splitEvenV evenOkB
      rw [hin, Bool.and_true, hill_least hrow, show x.toNat = k + 1 by omega])
    have HR := Lib.hid hr
    have HEV : Hid (0 ≤ loTo zs 0 (zs.length - 1) → maxC (sumW zs) 0 (spL (maxC (sumW zs)) (zs.length : Int) k 0) = splitEven zs (k + 1)) := Lib.hid fun h0 => by
      have hh : hillB zs = true := by rw [hill_least hrow]; simpa using h0
      have HN : ∀ x, x ∈ zs → 0 ≤ x := by
        have := (hill_true hh).1
        unfold nnB at this
        exact fun z hz => by simpa using List.all_eq_true.1 this z hz
      have := even_max (a := zs) (k := k + 1) HN (by omega) hkl
      rwa [Nat.add_sub_cancel] at this
    generalize loTo zs 0 (zs.length - 1) = m at HMIN HV HEV
    by_cases hm : m < 0
    · have HM : Hid (splitEvenV zs x = .tuple #[.int .i64 0, .bool false]) := Lib.hid (by
        rw [HV.out, decide_eq_false (by omega)]; rfl)
      clear hr hb hrow hin hkl hk hx1 hl
      go_enter Try.func32, Try.ntmps32
      go_wp2_with fail
      refine (canSplit_of _ _ zs _ _ H.out HR.out).mono ?_; rintro e w1 ⟨rfl, b1⟩
      have HC1 := Lib.hid (HMIN.out w1 b1)
      go_wp2_with fail
      refine HC1.out.mono ?_; rintro e w' ⟨rfl, rfl⟩
      go_wp2
      go_ret2
      exact ⟨by rw [HM.out]; rfl, b1⟩
    · have HE2 := Lib.hid (HEV.out (by omega))
      have HM : Hid (splitEvenV zs x = .tuple #[.int .i64 (maxC (sumW zs) 0 (spL (maxC (sumW zs)) (zs.length : Int) k 0)), .bool true]) := Lib.hid (by
        rw [HV.out, decide_eq_true (by omega), HE2.out]; rfl)
      have hparts := spL_parts (M := maxC (sumW zs)) (n := (zs.length : Int)) k 0 (by omega)
      have hpi := inRow_pairs (n := zs.length) (Int.le_refl 0) hparts.1
      have HROW := Lib.hid hrow; have HCP := Lib.hid hcp; have HK := Lib.hid hk; have HKL := Lib.hid hkl; have HPT := Lib.hid hparts; have HPI := Lib.hid hpi
      have HL := Lib.hid hl
      have HF : Hid (∀ (A2 : Option Addr) (c2 lo : Nat) (w' : World), RowAt w' b o zs → RV w' lo A2 (subsV b o c (pairs 0 (spL (maxC (sumW zs)) (zs.length : Int) k 0))) → (k + 1 ≤ c2 ∧ c2 ≤ maxLen) → Calls Try.prog 65 #[.slice A2 (k + 1) c2] w' fun e w'' => e = .returned (.int .i64 (maxC (sumW zs) 0 (spL (maxC (sumW zs)) (zs.length : Int) k 0))) ∧ w'' = w') := Lib.hid fun A2 c2 lo w' hra hv hc => by
        have hln := HPT.out.2
        have hp2 := HPI.out
        have hk12 : k < 12 := by have := HL.out; have := HKL.out; omega
        generalize spL (maxC (sumW zs)) (zs.length : Int) k 0 = l at hv hln hp2
        cases l with
        | nil => simp at hln
        | cons y l =>
          rw [maxC_fold]
          exact greatSum_any zs HROW.out b o c (0, y) (pairs (y + 1) l) (hp2 _ (by simp [pairs])) (fun q hq => hp2 q (by simp [pairs, hq])) (by rw [pairs_len]; simp at hln; omega) A2 lo c2 (k + 1) w' hra hv (by rw [pairs_len]; simpa using hln.symm) hc
      clear hr hb hrow hin hkl hk hx1 hl hparts hpi hcp
      generalize hmx : maxC (sumW zs) 0 (spL (maxC (sumW zs)) (zs.length : Int) k 0) = mx at HM HF
      clear hmx HE2
      go_enter Try.func32, Try.ntmps32
      go_wp2_with fail
      refine (canSplit_of _ _ zs _ _ H.out HR.out).mono ?_; rintro e w1 ⟨rfl, b1⟩
      have HC1 := Lib.hid (HMIN.out w1 b1)
      have B1 := Lib.hid b1; have HRA1 := Lib.hid (HRA.out.grow b1); clear b1
      go_wp2_with fail
      refine HC1.out.mono ?_; rintro e w' ⟨rfl, rfl⟩
      go_wp2_with fail
      refine (leastSum_any zs HROW.out b o c zs.length rfl HCP.out k 0 x o zs.length c w' HK.out rfl rfl rfl (by have := HKL.out; omega) HRA1.out).mono ?_; rintro e w2 ⟨A2, c2, rfl, hv2, hc2, b2⟩
      have HG := Lib.hid (HF.out A2 c2 _ w2 (HRA1.out.grow b2) hv2 hc2)
      have B2 := Lib.hid (below_then B1.out (Nat.le_refl _) b2); clear b2 hv2 hc2
      go_wp2_with fail
      refine HG.out.mono ?_; rintro e w3 ⟨rfl, rfl⟩
      go_wp2
      go_ret2
      exact ⟨by rw [HM.out]; rfl, B2.out⟩
end Go.Proofs.Ytfkmnlhmldjieaa
