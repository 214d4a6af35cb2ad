/-
  Merging in the model, and ShareCosts. Conditions: the cells are there.
-/
import Derived.Test.YtclhbmmlkcbdkaaSs2
namespace Go.Proofs.Ytclhbmmlkcbdkaa
open Go.RowKit

def Bnd (B : Int) (a : List Int) : Prop := ∀ k, -B ≤ a.getD k 0 ∧ a.getD k 0 ≤ B
theorem mergeTo_bd {a b : List Int} {B C : Int} (hB : 0 ≤ B ∧ 0 ≤ C ∧ B + C ≤ 40000) (ha : Bnd B a) (hb : Bnd C b) (k : Nat) : ∀ i, -(B + C) ≤ mergeTo a b k i ∧ mergeTo a b k i ≤ 40000
  | 0 => ⟨by show _ ≤ (40000 : Int); omega, by show (40000 : Int) ≤ 40000; omega⟩
  | i + 1 => by
    have ih := mergeTo_bd hB ha hb k i
    have h1 := ha i; have h2 := hb (k - i)
    unfold mergeTo
    split
    · omega
    · exact ih
theorem mergeL_len (a b : List Int) : (mergeL a b).length = a.length + b.length - 1 := by simp [mergeL]
theorem mergeL_get (a b : List Int) (k : Nat) (h : k < (mergeL a b).length) : (mergeL a b)[k] = mergeTo a b k (k + 1) := by simp [mergeL, mergeAt]

set_option maxRecDepth 100000 in
set_option maxHeartbeats 2000000 in
theorem l3Merge_any (A : Option Addr) (c lo hi : Nat) (a : List Int) (A1 : Option Addr) (c1 lo1 hi1 : Nat) (b : List Int) (B C : Int) (w : World) (h : IR w lo hi A a) (h1 : IR w lo1 hi1 A1 b) (hB : 0 ≤ B ∧ 0 ≤ C ∧ B + C ≤ 40000) (ha : Bnd B a) (hb : Bnd C b) (ha1 : 1 ≤ a.length ∧ a.length ≤ 100) (hb1 : 1 ≤ b.length ∧ b.length ≤ 100) :
    Calls Try.prog 68 #[.slice A a.length c, .slice A1 b.length c1] w (RetS w (mergeL a b)) := by
  have H := Lib.hid h; have H1 := Lib.hid h1
  have HBA := Lib.hid ha; have HBB := Lib.hid hb
  have hml := mergeL_len a b
  obtain ⟨n, hn⟩ : ∃ n, a.length = n := ⟨_, rfl⟩
  obtain ⟨m, hm⟩ : ∃ m, b.length = m := ⟨_, rfl⟩
  obtain ⟨T, hT⟩ : ∃ T, n + m - 1 = T := ⟨_, rfl⟩
  rw [hn, hm, hT] at hml
  have HN := Lib.hid hn; have HM := Lib.hid hm; have HML := Lib.hid hml
  rw [hn] at ha1
  rw [hm] at hb1
  rw [hn, hm]
  have s0 : IntKind.i64.wrap ((n : Int) + (m : Int)) = (n : Int) + (m : Int) := IntWalk.i64_in _ (by omega)
  have s1 : IntKind.i64.wrap ((n : Int) + (m : Int) - 1) = (T : Int) := by rw [IntWalk.i64_in _ (by omega)]; omega
  have hT2 : T ≤ 200 := by omega
  clear h h1 ha hb hn hm hT hml
  go_enter Try.func68, Try.ntmps68
  go_wp2
  go_loopw [5, 6] (fun v x wr => ∃ k : Nat, k ≤ T ∧ x = .int .i64 (k : Int) ∧ OwnI wr w.heap.size v ((mergeL a b).take k) ∧ Below w.heap.size w wr) (fun _ x _ => T - (intOf x).toNat)
  case atStart => exact ⟨0, Nat.zero_le _, rfl, OwnI.made w, (Below.refl _ _).alloc (Nat.le_refl _) _⟩
  case round =>
    obtain ⟨W0, hW0⟩ : ∃ W, W = wr := ⟨_, rfl⟩
    subst hW0
    obtain ⟨k, hk, rfl, ho, hbl⟩ := hrel
    have HO := Lib.hid ho; have HB := Lib.hid hbl
    clear ho hbl
    by_cases hkT : k < T
    · have hkT' : (k : Int) < (T : Int) := by omega
      have k0 : (0 : Int) ≤ (k : Int) := by omega
      go_wp2
      go_loopw [7, 8] (fun v x wr => ∃ i : Nat, i ≤ k + 1 ∧ x = .int .i64 (i : Int) ∧ v = .int .i64 (mergeTo a b k i) ∧ Dr W0 wr) (fun _ x _ => k + 1 - (intOf x).toNat)
      case atStart => exact ⟨0, Nat.zero_le _, rfl, rfl, Dr.refl _⟩
      case round =>
        obtain ⟨i, hi, rfl, rfl, hdr⟩ := hrel
        have HD := Lib.hid hdr
        have HA := Lib.hid (hdr.ir (H.out.below HB.out H.out.2.2.1)); have HA1 := Lib.hid (hdr.ir (H1.out.below HB.out H1.out.2.2.1))
        clear hdr
        have hmb := mergeTo_bd hB HBA.out HBB.out k i
        by_cases hik : i ≤ k
        · have hik' : (i : Int) ≤ (k : Int) := by omega
          have i0 : (0 : Int) ≤ (i : Int) := by omega
          obtain ⟨j, hj⟩ : ∃ j, k - i = j := ⟨_, rfl⟩
          have s2 : IntKind.i64.wrap ((k : Int) - (i : Int)) = (j : Int) := by rw [IntWalk.i64_in _ (by omega)]; omega
          have hst : mergeTo a b k (i + 1) = if i < n ∧ j < m then min (mergeTo a b k i) (a.getD i 0 + b.getD j 0) else mergeTo a b k i := by rw [← HN.out, ← HM.out, ← hj]; rfl
          have j0 : (0 : Int) ≤ (j : Int) := by omega
          have g1 := HBA.out i; have g2 := HBB.out j
          obtain ⟨q, hq⟩ : ∃ q, mergeTo a b k i = q := ⟨_, rfl⟩
          rw [hq] at hst hmb
          rw [hq]
          have HST := Lib.hid hst
          clear hst hj hq
          by_cases hin : i < n
          · have hin' : (i : Int) < (n : Int) := by omega
            by_cases hjm : j < m
            · have hjm' : (j : Int) < (m : Int) := by omega
              obtain ⟨ba, oa, rfl, _, _, hca⟩ := HA.out.at_ (k := i) (by rw [HN.out]; exact hin)
              obtain ⟨bb, ob, rfl, _, _, hcb⟩ := HA1.out.at_ (k := j) (by rw [HM.out]; exact hjm)
              rw [← getD_at] at hca hcb
              obtain ⟨x, hx⟩ : ∃ x, a.getD i 0 = x := ⟨_, rfl⟩
              obtain ⟨y, hy⟩ : ∃ y, b.getD j 0 = y := ⟨_, rfl⟩
              rw [hx] at hca g1 HST
              rw [hy] at hcb g2 HST
              have HS2 : Hid (mergeTo a b k (i + 1) = min q (x + y)) := by show _ = _; rw [HST.out, if_pos ⟨hin, hjm⟩]
              have s3 : IntKind.i64.wrap (x + y) = x + y := IntWalk.i64_in _ (by omega)
              clear hx hy HST g1 g2
              go_wp2
              go_quiet (fail)
              go_wp2
              go_roundw
              case rel => exact ⟨i + 1, by omega, by go_num, by rw [HS2.out]; simp; split <;> omega, HD.out.more _⟩
              case measure => simp [intOf]; omega
            · have hjm' : ¬ (j : Int) < (m : Int) := by omega
              have hjm'' : decide ((j : Int) < (m : Int)) = false := decide_eq_false hjm'
              have HS2 : Hid (mergeTo a b k (i + 1) = q) := by show _ = _; rw [HST.out, if_neg (fun h => hjm h.2)]
              go_wp2
              go_roundw
              case rel => exact ⟨i + 1, by omega, by go_num, by rw [HS2.out], HD.out⟩
              case measure => simp [intOf]; omega
          · have hin' : ¬ (i : Int) < (n : Int) := by omega
            have hin'' : decide ((i : Int) < (n : Int)) = false := decide_eq_false hin'
            have HS2 : Hid (mergeTo a b k (i + 1) = q) := by show _ = _; rw [HST.out, if_neg (fun h => hin h.1)]
            go_wp2
            go_roundw
            case rel => exact ⟨i + 1, by omega, by go_num, by rw [HS2.out], HD.out⟩
            case measure => simp [intOf]; omega
        · obtain rfl : i = k + 1 := by omega
          have hik' : ¬ ((k + 1 : Nat) : Int) ≤ (k : Int) := by omega
          have hkl : k < (mergeL a b).length := by rw [HML.out]; exact hkT
          have hsn := take_snoc (mergeL a b) k hkl
          rw [mergeL_get] at hsn
          obtain ⟨q, hq⟩ : ∃ q, mergeTo a b k (k + 1) = q := ⟨_, rfl⟩
          rw [hq] at hsn hmb
          rw [hq]
          have HSN := Lib.hid hsn
          have HO2 := Lib.hid (HD.out.own HO.out)
          have HB2 := Lib.hid (HB.out.trans (HD.out.below.mono HB.out.size))
          have HLn : Hid (((mergeL a b).take k).length < 17592186044416) := by show _ < _; rw [List.length_take, HML.out]; omega
          have HY : Hid (I64 q) := ⟨by omega, by omega⟩
          clear hsn hq hkl
          go_wp2_with (at_builtin; refine wpList_push rfl _ _ rfl w.heap.size _ _ rfl rfl HO2.out HLn.out HY.out ?_; intro v1 w5 ho1 hb1)
          rw [HSN.out] at ho1
          have HO5 := Lib.hid ho1; have HB5 := Lib.hid (HB2.out.trans hb1)
          clear ho1 hb1
          go_roundw
          case rel => exact ⟨k + 1, by omega, by go_num, HO5.out, HB5.out⟩
          case measure => simp [intOf]; omega
    · obtain rfl : k = T := by omega
      have hkT' : ¬ (k : Int) < (k : Int) := by omega
      have ho := HO.out
      rw [List.take_of_length_le (by rw [HML.out]; exact Nat.le_refl _)] at ho
      obtain ⟨A3, c3, rfl, hiw⟩ := ho.iw (by rw [HML.out]; omega)
      have HIW := Lib.hid hiw
      clear ho hiw HO
      go_wp2
      go_ret
      exact ⟨A3, c3, rfl, HIW.out, HB.out⟩

/-- The first i rows merged. -/
def foldTo (rs : List (List Int)) (i : Nat) : List Int := (rs.take i).foldl mergeL [0]
theorem foldTo_succ {rs : List (List Int)} {i : Nat} (hi : i < rs.length) : foldTo rs (i + 1) = mergeL (foldTo rs i) rs[i] := by
  unfold foldTo
  rw [← takeR_snoc rs i hi, List.foldl_append]
  rfl
theorem bnd_merge {a b : List Int} {B C : Int} (hB : 0 ≤ B ∧ 0 ≤ C ∧ B + C ≤ 40000) (ha : Bnd B a) (hb : Bnd C b) (ha1 : 1 ≤ a.length) (hb1 : 1 ≤ b.length) : Bnd (B + C) (mergeL a b) := by
  intro k
  by_cases hk : k < (mergeL a b).length
  · rw [getD_at hk]
    have h1 := mergeL_get a b k hk
    rw [mergeL_len] at hk
    have hm : MLe a b k (mergeTo a b k (k + 1)) := merge_is (B := B) (C := C) (fun q _ => (ha q).2) (fun q _ => (hb q).2) hB.2.2 ha1 hb1 hk
    obtain ⟨-, i, j, hi, hj, -, e⟩ := hm
    rw [h1, e]
    have := ha i; have := hb j
    omega
  · simp only [List.getD, List.getElem?_eq_none (Nat.le_of_not_lt hk), Option.getD_none]
    omega
theorem fold_facts {rs : List (List Int)} (hg : givenB rs = true) : ∀ i, i ≤ rs.length → Bnd (1000 * (i : Int)) (foldTo rs i) ∧ 1 ≤ (foldTo rs i).length ∧ (foldTo rs i).length ≤ 1 + 12 * i
  | 0, _ => ⟨fun k => by
      show -(1000 * ((0 : Nat) : Int)) ≤ [(0 : Int)].getD k 0 ∧ [(0 : Int)].getD k 0 ≤ 1000 * ((0 : Nat) : Int)
      have : [(0 : Int)].getD k 0 = 0 := by cases k <;> rfl
      rw [this]; omega, Nat.le_refl _, Nat.le_refl _⟩
  | i + 1, hi => by
    obtain ⟨h1, h2, h3⟩ := fold_facts hg i (by omega)
    have hil : i < rs.length := by omega
    obtain ⟨g1, g2, g3⟩ := given_true.1 hg
    have hr := rowB_true.1 (g1 rs[i] (List.getElem_mem hil))
    have hb : Bnd 1000 rs[i] := getD_fits hr.1
    rw [foldTo_succ hil]
    refine ⟨?_, ?_, ?_⟩
    · have := bnd_merge (B := 1000 * (i : Int)) (C := 1000) (by omega) h1 hb h2 hr.2.1
      rwa [show 1000 * (i : Int) + 1000 = 1000 * ((i + 1 : Nat) : Int) by omega] at this
    · rw [mergeL_len]; have := hr.2.1; omega
    · rw [mergeL_len]; have := hr.2.2; omega
theorem foldTo_all (rs : List (List Int)) : foldTo rs rs.length = costsL rs := by unfold foldTo costsL; rw [List.take_length]

set_option maxRecDepth 100000 in
set_option maxHeartbeats 2000000 in
theorem specShareCosts_any (A : Option Addr) (c lo hi : Nat) (rs : List (List Int)) (w : World) (h : IRR w lo hi A rs) :
    Calls Try.prog 38 #[.slice A rs.length c] w (RetSB w (costsM rs)) := by
  have H := Lib.hid h
  clear h
  go_enter Try.func38, Try.ntmps38
  cases hg : givenB rs with
  | false =>
    have HM : Hid (costsM rs = none) := by show _ = _; unfold costsM; rw [hg]; rfl
    have HG := Lib.hid hg
    clear hg
    go_wp2_with fail
    refine (l6sGiven_any _ _ _ _ rs _ H.out).mono ?_
    rintro e w1 ⟨rfl, rfl⟩
    rw [HG.out]
    go_wp2
    go_ret2
    rw [HM.out]
    exact retSB_none ((Below.refl _ _).alloc (Nat.le_refl _) _)
  | true =>
    have HG := Lib.hid hg
    have hml := most_le hg
    clear hg
    go_wp2_with fail
    refine (l6sGiven_any _ _ _ _ rs _ H.out).mono ?_
    rintro e w1 ⟨rfl, rfl⟩
    rw [HG.out]
    go_wp2_with fail
    refine (share_asks _ _ _ _ rs _ H.out HG.out).mono ?_
    rintro e w1 ⟨rfl, rfl⟩
    obtain ⟨M, hM⟩ : ∃ M, mostL rs = M := ⟨_, rfl⟩
    rw [hM] at hml
    rw [hM]
    have s0 : IntKind.i64.wrap (M + 1) = M + 1 := IntWalk.i64_in _ (by omega)
    by_cases h12 : 12 < M + 1
    · have HM : Hid (costsM rs = none) := by show _ = _; unfold costsM; rw [hM, decide_eq_false (show ¬ M + 1 ≤ 12 by omega)]; simp
      clear hM
      go_wp2
      go_ret2
      rw [HM.out]
      exact retSB_none ((Below.refl _ _).alloc (Nat.le_refl _) _)
    · have HM : Hid (costsM rs = doneM (costsL rs)) := by show _ = _; unfold costsM; rw [HG.out, hM, decide_eq_true (show M + 1 ≤ 12 by omega)]; simp
      have HFF := Lib.hid (fold_facts HG.out)
      have HGT := Lib.hid (given_true.1 HG.out)
      obtain ⟨n, hn⟩ : ∃ n, rs.length = n := ⟨_, rfl⟩
      have HN := Lib.hid hn
      rw [hn]
      clear hM hn
      go_wp2
      go_loopw [4, 5] (fun v x wr => ∃ (i : Nat) (A' : Option Addr) (c' : Nat), i ≤ n ∧ x = .int .i64 (i : Int) ∧ v = .slice A' (foldTo rs i).length c' ∧ IW wr w1.heap.size wr.heap.size A' (foldTo rs i) ∧ Below w1.heap.size w1 wr) (fun _ x _ => n - (intOf x).toNat)
      case atStart =>
        refine ⟨0, _, _, Nat.zero_le _, rfl, rfl, ?_, (Below.refl _ _).alloc (Nat.le_refl _) _⟩
        exact ⟨by show [(0 : Int)].length ≤ _; simp, fun z hz => by rw [List.mem_singleton.1 (show z ∈ [(0 : Int)] from hz)]; exact ⟨by omega, by omega⟩, Nat.le_refl _, fun _ => ⟨w1.heap.size, 0, rfl, Nat.le_refl _, by simp, fun j hj => by
          have hj' : j = 0 := by have : j < [(0 : Int)].length := hj; simpa using this
          subst hj'
          exact ⟨(Boxed.new w1 3 (.int .i64 0)).cell, (Boxed.new w1 3 (.int .i64 0)).frozen⟩⟩⟩
      case round =>
        obtain ⟨i, A', c', hi, rfl, rfl, hiw, hbl⟩ := hrel
        have HW := Lib.hid hiw; have HB := Lib.hid hbl
        clear hiw hbl
        have HI := Lib.hid (H.out.below HB.out H.out.2.1)
        by_cases hin : i < n
        · have hin' : (i : Int) < (n : Int) := by omega
          have i0 : (0 : Int) ≤ (i : Int) := by omega
          have hir : i < rs.length := by rw [HN.out]; exact hin
          obtain ⟨b, off, Ak, ck, rfl, _, hc, _, hrow⟩ := HI.out.at_ hir
          have hr := rowB_true.1 (HGT.out.1 rs[i] (List.getElem_mem hir))
          obtain ⟨f1, f2, f3⟩ := HFF.out i (by omega)
          have hn4 : n ≤ 4 := by rw [← HN.out]; exact HGT.out.2.2
          have hcall := l3Merge_any A' c' _ _ (foldTo rs i) Ak ck _ _ rs[i] (1000 * (i : Int)) 1000 wr HW.out.toIR hrow (by omega) f1 (getD_fits hr.1) ⟨f2, by omega⟩ ⟨hr.2.1, by have := hr.2.2; omega⟩
          have HCALL := Lib.hid hcall; have HFS := Lib.hid (foldTo_succ hir)
          rw [← HFS.out] at HCALL
          obtain ⟨m, hm⟩ : ∃ m, rs[i].length = m := ⟨_, rfl⟩
          rw [hm] at hc HCALL
          clear hcall hr f1 f2 f3 hrow hm
          go_wp2_with fail
          refine HCALL.out.mono ?_
          rintro e w3 ⟨A3, c3, rfl, hi3, hb3⟩
          have HI3 := Lib.hid (hi3.wide HB.out.size (Nat.le_refl _) (Nat.le_refl _)); have HB3 := Lib.hid (HB.out.trans (hb3.mono HB.out.size))
          clear hi3 hb3
          go_wp2
          go_roundw
          case rel => exact ⟨i + 1, A3, c3, by omega, by go_num, rfl, HI3.out, HB3.out⟩
          case measure => simp [intOf]; omega
        · obtain rfl : i = n := by omega
          have hin' : ¬ (i : Int) < (i : Int) := by omega
          have hfa := foldTo_all rs
          rw [HN.out] at hfa
          rw [hfa] at HW
          rw [hfa]
          cases hrow : rowB (costsL rs) with
          | false =>
            have HC := Lib.hid (l1Done_false A' c' _ _ (costsL rs) wr HW.out.toIR hrow)
            have HM2 : Hid (costsM rs = none) := by show _ = _; rw [HM.out]; unfold doneM; rw [hrow]; rfl
            clear hrow hfa
            go_wp2_with fail
            refine HC.out.mono ?_
            rintro e w3 ⟨A3, rfl, hb3⟩
            have HB3 := Lib.hid (HB.out.trans (hb3.mono HB.out.size))
            clear hb3
            go_wp2
            go_ret2
            rw [HM2.out]
            exact retSB_none HB3.out
          | true =>
            have HC := Lib.hid (l1Done_true A' c' _ _ (costsL rs) wr HW.out.toIR hrow)
            have HM2 : Hid (costsM rs = some (costsL rs)) := by show _ = _; rw [HM.out]; unfold doneM; rw [hrow]; rfl
            clear hrow hfa
            go_wp2_with fail
            refine HC.out.mono ?_
            rintro e w3 ⟨rfl, rfl⟩
            go_wp2
            go_ret2
            rw [HM2.out]
            exact retSB_some rfl HW.out HB.out
end Go.Proofs.Ytclhbmmlkcbdkaa
