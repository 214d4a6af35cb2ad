/-
  What the exact laws' own helpers do with lists of lists: copy them (toIntSS), weigh them (szIntS, szIntSS), compare two (eqIntSS), mark their cells (markIntSS), look whether the marks are still there (heldIntSS). Conditions: the cells are there.
-/
import Derived.Test.YtanoojpmokbiaabTabA
import Derived.Test.YtanoojpmokbiaabLaw
import Derived.StillTailTactics
namespace Go.Proofs.Ytanoojpmokbiaab
open Go.RowKit

/-- How many numbers the first k lists have. -/
def totN (zss : List (List Int)) : Nat → Nat
  | 0 => 0
  | k + 1 => totN zss k + (zss.getD k []).length
set_option maxRecDepth 100000 in
theorem totN_mono (zss : List (List Int)) (k d : Nat) : totN zss k ≤ totN zss (k + d) := by
  induction d with
  | zero => exact Nat.le_refl _
  | succ d ih => rw [← Nat.add_assoc]; simp only [totN]; omega
set_option maxRecDepth 100000 in
theorem totN_le (zss : List (List Int)) {j k : Nat} (h : j ≤ k) : totN zss j ≤ totN zss k := by
  obtain ⟨d, rfl⟩ : ∃ d, k = j + d := ⟨k - j, by omega⟩
  exact totN_mono zss j d
set_option maxRecDepth 100000 in
theorem totN_row (zss : List (List Int)) {k : Nat} (h : k < zss.length) : (zss[k]).length ≤ totN zss zss.length := by
  have h1 := totN_le zss (show k + 1 ≤ zss.length by omega)
  simp only [totN, List.getD_eq_getElem?_getD, List.getElem?_eq_getElem h, Option.getD_some] at h1
  omega
set_option maxRecDepth 100000 in
theorem getRow {zss : List (List Int)} {k : Nat} (h : k < zss.length) : zss.getD k [] = zss[k] := by simp [List.getD, h]

set_option maxHeartbeats 400000 in
set_option maxRecDepth 100000 in
theorem szIntS_any (A : Option Addr) (n c : Nat) (left : Int) (hn : n ≤ 17592186044416) (h0 : 0 ≤ left) (h1 : left ≤ 1048576) (w : World) :
    Calls Try.prog 19 #[.slice A n c, .int .i64 left] w fun e w' => e = .returned (.int .i64 (if left < (n : Int) then -1 else left - (n : Int))) ∧ w = w' := by
  go_enter Try.func19, Try.ntmps19
  have s1 : IntKind.i64.wrap (left - (n : Int)) = left - (n : Int) := IntWalk.i64_in _ (by omega)
  by_cases hc : left < (n : Int)
  · have hc2 : left - (n : Int) < 0 := by omega
    rw [if_pos hc]
    go_wp2
    go_ret
    exact ⟨rfl, rfl⟩
  · have hc2 : ¬ left - (n : Int) < 0 := by omega
    rw [if_neg hc]
    go_wp2
    go_ret
    exact ⟨rfl, rfl⟩

set_option maxHeartbeats 1000000 in
set_option maxRecDepth 100000 in
theorem szIntSS_any (A : Option Addr) (c lo hi : Nat) (zss : List (List Int)) (left : Int) (h0 : 0 ≤ left) (h1 : left ≤ 1048576) (w : World) (h : IRR w lo hi A zss) :
    Calls Try.prog 5 #[.slice A zss.length c, .int .i64 left] w fun e w' => ∃ r, e = .returned (.int .i64 r) ∧ w' = w ∧ (r = -1 ∨ (0 ≤ r ∧ r = left - ((zss.length : Int) + (totN zss zss.length : Int)))) := by
  have hl := h.1
  go_enter Try.func5, Try.ntmps5
  have s1 : IntKind.i64.wrap (left - (zss.length : Int)) = left - (zss.length : Int) := IntWalk.i64_in _ (by omega)
  by_cases hc : left < (zss.length : Int)
  · have hc2 : left - (zss.length : Int) < 0 := by omega
    go_wp2
    go_ret
    exact ⟨_, rfl, rfl, .inl rfl⟩
  · have hc2 : ¬ left - (zss.length : Int) < 0 := by omega
    go_wp2
    go_loop [1, 5] (fun m i => ∃ j : Nat, j ≤ zss.length ∧ i = .int .i64 j ∧ m = .int .i64 (left - ((zss.length : Int) + (totN zss j : Int))) ∧ 0 ≤ left - ((zss.length : Int) + (totN zss j : Int))) (fun _ i => zss.length - (intOf i).toNat)
    case atStart => exact ⟨0, Nat.zero_le _, rfl, by simp [totN], by simp only [totN]; omega⟩
    case round =>
      obtain ⟨j, hj, rfl, rfl, hnn⟩ := hrel
      by_cases hlt : j < zss.length
      · have hlt' : (j : Int) < (zss.length : Int) := by omega
        obtain ⟨b, off, Ak, ck, rfl, _, hcell, _, hrow⟩ := h.at_ hlt
        have hrl := hrow.1
        have ht : totN zss (j + 1) = totN zss j + zss[j].length := by simp only [totN]; rw [getRow hlt]
        obtain ⟨n, hn⟩ : ∃ n, zss[j].length = n := ⟨_, rfl⟩
        obtain ⟨T, hT⟩ : ∃ T, totN zss j = T := ⟨_, rfl⟩
        rw [hn] at hcell hrl ht
        rw [hT] at hnn ht ⊢
        have HT := Lib.hid ht
        clear hrow hn hT ht
        go_wp2_with fail
        refine (szIntS_any Ak n ck _ hrl hnn (by omega) _).mono ?_
        rintro e w' ⟨rfl, rfl⟩
        by_cases hs : left - ((zss.length : Int) + (T : Int)) < (n : Int)
        · rw [if_pos hs]
          go_wp2
          go_ret
          exact ⟨_, rfl, rfl, .inl rfl⟩
        · rw [if_neg hs]
          have hs2 : ¬ left - ((zss.length : Int) + (T : Int)) - (n : Int) < 0 := by omega
          go_wp2
          go_round
          case rel => exact ⟨j + 1, by omega, by go_num, by rw [HT.out]; congr 1; push_cast; omega, by rw [HT.out]; push_cast; omega⟩
          case measure => simp [intOf]; omega
      · obtain rfl : j = zss.length := by omega
        go_wp2
        go_ret
        exact ⟨_, rfl, rfl, .inr ⟨hnn, rfl⟩⟩

set_option maxHeartbeats 1000000 in
set_option maxRecDepth 100000 in
theorem eqIntSS_b (A A' : Option Addr) (c c' lo hi lo' hi' : Nat) (zss : List (List Int)) (w : World) (h : IRR w lo hi A zss) (h' : IRR w lo' hi' A' zss) :
    Calls Try.prog 10 #[.slice A zss.length c, .slice A' zss.length c'] w fun e w' => e = .returned (.bool true) ∧ Below w.heap.size w w' := by
  refine Calls.mono (R := fun e w' => e = .returned (.bool true) ∧ ∃ m, w' = w.drewN m) ?_ fun _ _ ⟨he, m, hm⟩ => ⟨he, by rw [hm]; exact below_drawN (Below.refl _ _) m⟩
  have hl := h.1
  go_enter Try.func10, Try.ntmps10
  go_wp2
  go_loopw [5] (fun i wr => ∃ k m : Nat, k ≤ zss.length ∧ i = .int .i64 k ∧ wr = w.drewN m) (fun i _ => zss.length - (intOf i).toNat)
  case atStart => exact ⟨0, 0, Nat.zero_le _, rfl, rfl⟩
  case round =>
    obtain ⟨k, m, hk, rfl, rfl⟩ := hrel
    by_cases hlt : k < zss.length
    · obtain ⟨b, off, Ak, ck, rfl, _, hc, _, hrow⟩ := h.at_ hlt
      obtain ⟨b', off', Ak', ck', rfl, _, hc', _, hrow'⟩ := h'.at_ hlt
      have hlt' : (k : Int) < (zss.length : Int) := by omega
      obtain ⟨zs, hzs⟩ : ∃ zs, zss[k] = zs := ⟨_, rfl⟩
      rw [hzs] at hc hc' hrow hrow'
      obtain ⟨W, hW⟩ : ∃ W, w.drewN m = W := ⟨_, rfl⟩
      have HR : Hid (IR W lo hi Ak zs) := by rw [← hW]; exact hrow
      have HR' : Hid (IR W lo' hi' Ak' zs) := by rw [← hW]; exact hrow'
      have hc1 : W.cell? ⟨b, off + k, none⟩ = some (.slice Ak zs.length ck) := by rw [← hW]; exact hc
      have hc2 : W.cell? ⟨b', off' + k, none⟩ = some (.slice Ak' zs.length ck') := by rw [← hW]; exact hc'
      rw [hW]
      have HW := Lib.hid hW
      clear hrow hrow' hzs hc hc' hW
      go_wp2
      go_still_tail 8, (by kernel_rfl)
      change wpList _ _ _ _ _ (World.drew W)
      go_wp2_with fail
      refine (eqIntS_true Ak Ak' ck ck' _ _ _ _ zs _ (HR.out.drewN 1) (HR'.out.drewN 1)).mono ?_
      rintro e w' ⟨rfl, m', rfl⟩
      go_wp2
      go_roundw
      case rel => exact ⟨k + 1, m + 1 + m', by omega, by go_num, by rw [← HW.out]; simp [World.drewN]; omega⟩
      case measure => simp [intOf]; omega
    · obtain rfl : k = zss.length := by omega
      go_wp2
      go_ret
      exact ⟨rfl, m, rfl⟩

/-- The marks of a list of lists, one after the other. -/
def marksT (zss : List (List Int)) (k : Int) : List (List Int) := (List.range zss.length).map fun j => marks (k + (totN zss j : Int)) (zss.getD j []).length
set_option maxRecDepth 100000 in
theorem marksT_len (zss : List (List Int)) (k : Int) : (marksT zss k).length = zss.length := by simp [marksT]
set_option maxRecDepth 100000 in
theorem marksT_get (zss : List (List Int)) (k : Int) (j : Nat) (h : j < (marksT zss k).length) : (marksT zss k)[j] = marks (k + (totN zss j : Int)) (zss.getD j []).length := by simp [marksT]
def markToT (zss : List (List Int)) (k : Int) (j : Nat) : List (List Int) := (List.range zss.length).map fun i => if i < j then marks (k + (totN zss i : Int)) (zss.getD i []).length else zss.getD i []
set_option maxRecDepth 100000 in
theorem markToT_len (zss : List (List Int)) (k : Int) (j : Nat) : (markToT zss k j).length = zss.length := by simp [markToT]
set_option maxRecDepth 100000 in
theorem markToT_at (zss : List (List Int)) (k : Int) (j i : Nat) (h : i < (markToT zss k j).length) : (markToT zss k j)[i] = if i < j then marks (k + (totN zss i : Int)) (zss.getD i []).length else zss.getD i [] := by simp [markToT]
set_option maxRecDepth 100000 in
theorem markToT_zero (zss : List (List Int)) (k : Int) : markToT zss k 0 = zss := by
  apply List.ext_getElem
  · exact markToT_len _ _ _
  · intro i h1 h2
    rw [markToT_at, if_neg (by omega), getRow h2]
set_option maxRecDepth 100000 in
theorem markToT_all (zss : List (List Int)) (k : Int) : markToT zss k zss.length = marksT zss k := by
  apply List.ext_getElem
  · rw [markToT_len, marksT_len]
  · intro i h1 h2
    rw [marksT_len] at h2
    rw [markToT_at, if_pos h2, marksT_get]
set_option maxRecDepth 100000 in
theorem markToT_get (zss : List (List Int)) (k : Int) (j : Nat) (h : j < zss.length) : (markToT zss k j)[j]'(by rw [markToT_len]; exact h) = zss[j] := by
  rw [markToT_at, if_neg (by omega), getRow h]
set_option maxRecDepth 100000 in
theorem markToT_set (zss : List (List Int)) (k : Int) (j : Nat) (h : j < zss.length) : (markToT zss k j).set j (marks (k + (totN zss j : Int)) zss[j].length) = markToT zss k (j + 1) := by
  apply List.ext_getElem
  · rw [List.length_set, markToT_len, markToT_len]
  · intro i h1 h2
    rw [List.getElem_set, markToT_at zss k (j + 1) i]
    by_cases e : j = i
    · subst e
      rw [if_pos rfl, if_pos (by omega), getRow h]
    · rw [if_neg e, markToT_at]
      by_cases e2 : i < j
      · rw [if_pos e2, if_pos (by omega)]
      · rw [if_neg e2, if_neg (by omega)]

set_option maxHeartbeats 400000 in
set_option maxRecDepth 100000 in
theorem markIntS_row (A : Option Addr) (n c lo hi : Nat) (zs : List Int) (k : Int) (hk0 : 0 ≤ k) (hk1 : k ≤ 9000000000000) (w : World) (h : IW w lo hi A zs) (hn : zs.length = n) :
    Calls Try.prog 12 #[.slice A n c, .int .i64 k] w fun e w' => e = .returned (.int .i64 (k + (n : Int))) ∧ IW w' lo hi A (marks k n) ∧ Only lo hi w w' ∧ Chg1 w w' A n := by
  subst hn
  have hl := h.1
  have hhi := h.2.2.1
  have HH := Lib.hid h
  have hm : ∀ z, z ∈ marks k zs.length → I64 z := by
    intro z hz; simp [marks] at hz; obtain ⟨j, hj, rfl⟩ := hz; unfold I64; omega
  have HM := Lib.hid hm; clear hm
  rcases Nat.eq_zero_or_pos zs.length with h0 | h0
  · have hz : zs = [] := List.eq_nil_of_length_eq_zero h0
    subst hz
    clear h hl h0
    go_enter Try.func12, Try.ntmps12
    go_wp2
    refine wp_loop_rounds 1 ?_
    rw [rounds_succ]
    go_wp2
    go_ret
    exact ⟨by simp, by simpa [marks] using HH.out, Only.refl _ _ _, Chg1.refl _ _ _⟩
  · obtain ⟨b, off, rfl, hB, hbs, hc⟩ := h.2.2.2 h0
    clear h
    have hcs : Cells w b off zs := hc
    clear hc
    go_enter Try.func12, Try.ntmps12
    go_wp2
    go_loopw [1, 5] (fun m i wr => ∃ j : Nat, j ≤ zs.length ∧ i = .int .i64 j ∧ m = .int .i64 (k + (j : Int)) ∧ Cells wr b off (markTo zs k j) ∧ Only lo hi w wr ∧ Chg1 w wr (some ⟨b, off, none⟩) zs.length) (fun _ i _ => zs.length - (intOf i).toNat)
    case atStart => exact ⟨0, Nat.zero_le _, rfl, by simp, by rw [markTo_zero]; exact hcs, Only.refl _ _ _, Chg1.refl _ _ _⟩
    case round =>
      obtain ⟨j, hj, rfl, rfl, hcr, hg, hch⟩ := hrel
      by_cases hlt : j < zs.length
      · have hlt' : (j : Int) < (zs.length : Int) := by omega
        have hjl : j < (markTo zs k j).length := by rw [markTo_len _ _ _ (by omega)]; exact hlt
        obtain ⟨hc2, hc3⟩ := hcr j hjl
        have HN := Lib.hid (hcr.set_ j hjl (k + (j : Int))); rw [markTo_set _ _ _ hlt] at HN
        have HG := Lib.hid hg; have HC := Lib.hid hch
        clear hcr hg hcs hch
        go_wp2
        go_roundw
        case rel => exact ⟨j + 1, by omega, by go_num, by go_num, HN.out, HG.out.set_ hB hbs _, HC.out.set_ hlt _⟩
        case measure => simp [intOf]; omega
      · obtain rfl : j = zs.length := by omega
        rw [markTo_all] at hcr
        have HG := Lib.hid hg; have HC := Lib.hid hch
        clear hg hch
        go_wp2
        go_ret
        exact ⟨rfl, hcr.iw (marks_len _ _) hB hbs (by rw [HG.out.size]; exact hhi) hl HM.out, HG.out, HC.out⟩

set_option maxRecDepth 100000 in
theorem Only.trans {lo hi : Nat} {a b c : World} (h : Only lo hi a b) (k : Only lo hi b c) : Only lo hi a c :=
  ⟨k.os.trans h.os, k.tape.trans h.tape, k.output.trans h.output, k.size.trans h.size, fun i hi => (k.block i hi).trans (h.block i hi)⟩

set_option maxHeartbeats 1000000 in
set_option maxRecDepth 100000 in
theorem markIntSS_any (A : Option Addr) (c lo hi : Nat) (zss : List (List Int)) (k : Int) (hk0 : 0 ≤ k) (hk1 : k + (totN zss zss.length : Int) ≤ 9000000000000) (w : World) (h : IWW w lo hi A zss) :
    Calls Try.prog 11 #[.slice A zss.length c, .int .i64 k] w fun e w' => e = .returned (.int .i64 (k + (totN zss zss.length : Int))) ∧ IWW w' lo hi A (marksT zss k) ∧ Only lo hi w w' := by
  obtain ⟨hl, hsz, b, off, F, C, hr⟩ := h
  have HR := Lib.hid hr
  clear hr
  go_enter Try.func11, Try.ntmps11
  go_wp2
  go_loopw [1, 5] (fun m i wr => ∃ j : Nat, j ≤ zss.length ∧ i = .int .i64 j ∧ m = .int .i64 (k + (totN zss j : Int)) ∧ Rows_ wr lo hi A (markToT zss k j) b off F C ∧ Only lo hi w wr) (fun _ i _ => zss.length - (intOf i).toNat)
  case atStart => exact ⟨0, Nat.zero_le _, rfl, by simp [totN], by rw [markToT_zero]; exact HR.out, Only.refl _ _ _⟩
  case round =>
    obtain ⟨j, hj, rfl, rfl, hrr, ho⟩ := hrel
    by_cases hlt : j < zss.length
    · have hlt' : (j : Int) < (zss.length : Int) := by omega
      have hjl : j < (markToT zss k j).length := by rw [markToT_len]; exact hlt
      obtain ⟨e, t1, t2⟩ := hrr.top (by omega)
      obtain ⟨hcell, _, hiw, _⟩ := hrr.row j hjl
      have hge := markToT_get zss k j hlt
      have ht : totN zss (j + 1) = totN zss j + zss[j].length := by simp only [totN]; rw [getRow hlt]
      have hmono := totN_le zss (show j + 1 ≤ zss.length by omega)
      have hset := markToT_set zss k j hlt
      rw [hge] at hcell hiw
      obtain ⟨zs, hzs⟩ : ∃ zs, zss[j] = zs := ⟨_, rfl⟩
      rw [hzs] at hcell hiw hge ht hset
      obtain ⟨n, hn⟩ : ∃ n, zs.length = n := ⟨_, rfl⟩
      rw [hn] at hcell ht hset
      obtain ⟨T, hT⟩ : ∃ T, totN zss j = T := ⟨_, rfl⟩
      rw [hT] at ht hset ⊢
      have HT := Lib.hid ht; have HN := Lib.hid hn; have HRR := Lib.hid hrr; have HO := Lib.hid ho; have HIW := Lib.hid hiw; have HGE := Lib.hid hge; have HSET := Lib.hid hset; have HMO := Lib.hid hmono; have HSZ := Lib.hid ho.size; have HT2 := Lib.hid hT
      clear ht hn hrr ho hiw hge hset hmono hzs hT
      subst e
      go_wp2_with fail
      refine (markIntS_row (F j) n (C j) lo hi zs _ (by omega) (by have := HMO.out; have := HT.out; omega) _ HIW.out HN.out).mono ?_
      rintro e w' ⟨rfl, hiw', ho', hch⟩
      have hrr2 := HRR.out.set_ hjl (ys := marks (k + (T : Int)) n) (by rw [HGE.out, HN.out, marks_len]) (by rw [HGE.out, HN.out]; exact hch) (Nat.le_of_eq ho'.size.symm) hiw'
      rw [HSET.out] at hrr2
      have HR2 := Lib.hid hrr2; have HO2 := Lib.hid (HO.out.trans ho')
      clear hrr2 ho' hch hiw'
      have s1 : k + (T : Int) + (n : Int) = k + ((totN zss (j + 1) : Nat) : Int) := by rw [HT.out]; push_cast; omega
      rw [s1]
      obtain ⟨M, hM⟩ : ∃ M : Int, k + ((totN zss (j + 1) : Nat) : Int) = M := ⟨_, rfl⟩
      rw [hM]
      have HMM := Lib.hid hM
      clear hM s1
      go_wp2
      go_roundw
      case rel => exact ⟨j + 1, by omega, by go_num, by rw [← HMM.out], HR2.out, HO2.out⟩
      case measure => simp [intOf]; omega
    · obtain rfl : j = zss.length := by omega
      rw [markToT_all] at hrr
      have HRR := Lib.hid hrr; have HO := Lib.hid ho
      clear hrr ho
      go_wp2
      go_ret
      exact ⟨rfl, ⟨by rw [marksT_len]; exact hl, by rw [HO.out.size]; exact hsz, b, off, F, C, HRR.out⟩, HO.out⟩

set_option maxRecDepth 100000 in
theorem run_makeRows (n : Nat) (hn : n ≤ 1048576) (w : World) :
    (Instr.makeSlice 22 (.int .i64 (n : Int)) (.int .i64 (n : Int))).run Try.prog w = .ok (.slice (some ⟨w.heap.size, 0, none⟩) n n) (w.alloc (.cells (madeCells #[.slice none 0 0] n) 24)) := by
  obtain ⟨i0, hi, hz0, hz1, hz2⟩ := info_parts info_row
  have hr := run_make (P := Try.prog) w 22 24 i0 (.slice none 0 0) Try.underlying22 hi hz0 .i64 .i64 n n (by omega) (Int.le_refl _) (by rw [hz2]; omega) (by omega)
  rw [hz1] at hr
  simpa [Value.cells] using hr

def fillT (zss : List (List Int)) (j : Nat) : List (List Int) := (List.range zss.length).map fun i => if i < j then zss.getD i [] else []
set_option maxRecDepth 100000 in
theorem fillT_len (zss : List (List Int)) (j : Nat) : (fillT zss j).length = zss.length := by simp [fillT]
set_option maxRecDepth 100000 in
theorem fillT_at (zss : List (List Int)) (j i : Nat) (h : i < (fillT zss j).length) : (fillT zss j)[i] = if i < j then zss.getD i [] else [] := by simp [fillT]
set_option maxRecDepth 100000 in
theorem fillT_all (zss : List (List Int)) : fillT zss zss.length = zss := by
  apply List.ext_getElem
  · exact fillT_len _ _
  · intro i h1 h2
    rw [fillT_at, if_pos h2, getRow h2]
set_option maxRecDepth 100000 in
theorem fillT_set (zss : List (List Int)) (j : Nat) (h : j < zss.length) : (fillT zss j).set j zss[j] = fillT zss (j + 1) := by
  apply List.ext_getElem
  · rw [List.length_set, fillT_len, fillT_len]
  · intro i h1 h2
    rw [List.getElem_set, fillT_at zss (j + 1) i]
    by_cases e : j = i
    · subst e
      rw [if_pos rfl, if_pos (by omega), getRow h]
    · rw [if_neg e, fillT_at]
      by_cases e2 : i < j
      · rw [if_pos e2, if_pos (by omega)]
      · rw [if_neg e2, if_neg (by omega)]
set_option maxRecDepth 100000 in
theorem rows_made (w : World) (zss : List (List Int)) (t : TypeId) : Rows_ (w.alloc (.cells (madeCells #[.slice none 0 0] zss.length) t)) w.heap.size (w.heap.size + 1) (some ⟨w.heap.size, 0, none⟩) (fillT zss 0) w.heap.size 0 (fun _ => none) fun _ => 0 := by
  refine ⟨fun _ => ⟨rfl, Nat.le_refl _, by omega⟩, fun k hk => ?_, fun j k hj hk b o b' o' e => by cases e⟩
  have hk2 : k < zss.length := by rw [fillT_len] at hk; exact hk
  rw [fillT_at, if_neg (by omega)]
  refine ⟨?_, ⟨Nat.le_refl _, by omega⟩, ⟨by simp, by simp, by simp, fun h => absurd h (by simp)⟩, fun b' o' e => by cases e⟩
  rw [World.cell?_alloc_at _ _ _ _ rfl, ← Array.getElem?_toList, toList_madeCells_one]
  simp [hk2]

set_option maxHeartbeats 1000000 in
set_option maxRecDepth 100000 in
theorem toIntSS_any (A : Option Addr) (c lo hi : Nat) (zss : List (List Int)) (hn : zss.length ≤ 1048576) (w : World) (h : IRR w lo hi A zss) :
    Calls Try.prog 7 #[.slice A zss.length c] w (RetT w zss) := by
  have hmk := run_makeRows zss.length hn
  have H := Lib.hid h
  clear h
  go_enter Try.func7, Try.ntmps7
  go_wp2
  go_loopw [4] (fun i wr => ∃ (k : Nat) (F : Nat → Option Addr) (C : Nat → Nat), k ≤ zss.length ∧ i = .int .i64 k ∧ Rows_ wr w.heap.size wr.heap.size (some ⟨w.heap.size, 0, none⟩) (fillT zss k) w.heap.size 0 F C ∧ (∀ o, wr.frozen? ⟨w.heap.size, o, none⟩ = false) ∧ Below w.heap.size w wr ∧ w.heap.size < wr.heap.size) (fun i _ => zss.length - (intOf i).toNat)
  case atStart =>
    have h0 := rows_made w zss 24
    rw [show w.heap.size + 1 = (w.alloc (.cells (madeCells #[.slice none 0 0] zss.length) 24)).heap.size by simp] at h0
    exact ⟨0, _, _, Nat.zero_le _, rfl, h0, fun o => World.frozen?_alloc_at _ _ _ _ rfl, (Below.refl _ _).alloc (Nat.le_refl _) _, by simp⟩
  case round =>
    obtain ⟨k, F, C, hk, rfl, hrr, hfz, hb, hs⟩ := hrel
    by_cases hlt : k < zss.length
    · have hkl : k < (fillT zss k).length := by rw [fillT_len]; exact hlt
      have hcell := (hrr.row k hkl).1
      rw [Nat.zero_add] at hcell
      have hfzk := hfz k
      obtain ⟨b, off, Ak, ck, rfl, hbw, hc, _, hrow⟩ := H.out.at_ hlt
      have hlt' : (k : Int) < (zss.length : Int) := by omega
      have hc1 : wr.cell? ⟨b, off + k, none⟩ = some (.slice Ak zss[k].length ck) := (hb.cell (p := ⟨b, off + k, none⟩) hbw).trans hc
      have hrow1 := (hrow.below hb H.out.2.1)
      have hset := fillT_set zss k hlt
      obtain ⟨zs, hzs⟩ : ∃ zs, zss[k] = zs := ⟨_, rfl⟩
      rw [hzs] at hc1 hrow1 hset
      have HRR := Lib.hid hrr; have HB := Lib.hid hb; have HROW := Lib.hid hrow1; have HSET := Lib.hid hset; have HFZ := Lib.hid hfz
      clear hrr hb hrow hrow1 hset hc hzs hfz
      go_wp2_with fail
      refine (toIntS_any Ak ck _ _ zs _ HROW.out).mono ?_
      rintro e w2 ⟨rfl, iw, bb⟩
      have hz := HROW.out.1
      have hcell2 : w2.cell? ⟨w.heap.size, k, none⟩ = some _ := (bb.cell (p := ⟨w.heap.size, k, none⟩) hs).trans hcell
      have hfz2 : ∀ o, w2.frozen? ⟨w.heap.size, o, none⟩ = false := fun o => (World.frozen?_of_block (bb.block w.heap.size hs)).trans (HFZ.out o)
      have hfzk2 := hfz2 k
      have hput := HRR.out.put (A' := some ⟨wr.heap.size, 0, none⟩) (Nat.le_refl _) hkl bb rfl iw (c := zs.length) ⟨Nat.le_refl _, by omega⟩
      rw [HSET.out, Nat.zero_add] at hput
      have HP := Lib.hid hput; have HB2 := Lib.hid (below_then HB.out (Nat.le_refl _) (bb.mono (Nat.le_refl _))); have HF2 := Lib.hid hfz2; have HS2 := Lib.hid bb.size
      clear hput iw bb hcell hfzk hfz2
      go_wp2
      go_roundw
      case rel =>
        refine ⟨k + 1, fun i => if i = k then some ⟨wr.heap.size, 0, none⟩ else F i, fun i => if i = k then zs.length else C i, by omega, by go_num, ?_, fun o => ?_, HB2.out.setCell (Nat.le_refl _) _, ?_⟩
        · rw [show (w2.setCell ⟨w.heap.size, k, none⟩ (.slice (some ⟨wr.heap.size, 0, none⟩) zs.length zs.length)).heap.size = w2.heap.size by simp [World.setCell]]
          exact HP.out
        · rw [World.frozen?_setCell]; exact HF2.out o
        · have := HS2.out; simp [World.setCell]; omega
      case measure => simp [intOf]; omega
    · obtain rfl : k = zss.length := by omega
      rw [fillT_all] at hrr
      have HRR := Lib.hid hrr; have HB := Lib.hid hb
      clear hrr hb hfz
      go_wp2
      go_ret
      exact ⟨_, _, rfl, Nat.le_refl _, ⟨by omega, Nat.le_refl _, _, _, _, _, HRR.out⟩, HB.out⟩
end Go.Proofs.Ytanoojpmokbiaab
