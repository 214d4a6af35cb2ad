/-
  The program's functions of chapter 7 up to EvenMeet: falling, tops, topsOf, mostEven, EvenIs, EvenMost, EvenSteps, EvenSum, EvenMeet. Conditions: the lists' cells are there.
-/
import Derived.Test.YtfiojdiogjpakaaEvT
import Derived.Test.YtfiojdiogjpakaaVlc
import Derived.Test.YtfiojdiogjpakaaIter3
import Derived.Test.YtfiojdiogjpakaaLnG
namespace Go.Proofs.Ytfiojdiogjpakaa
open Go.RowKit Go.Shelf Go.ChangeShapes Go.WideShapes
attribute [local go_sem] Oper.semAt_some

set_option maxRecDepth 100000 in
set_option maxHeartbeats 2000000 in
theorem reverseInts_any (A : Option Addr) (c lo hi : Nat) (ys : List Int) (w : World) (hp : 0 < ys.length) (h : IW w lo hi A ys) :
    Calls Try.prog 98 #[.slice A ys.length c] w fun e w' => e = .returned (.tuple #[]) ∧ IW w' lo hi A ys.reverse ∧ Only lo hi w w' := by
  obtain ⟨hl, hz, hs, hcells⟩ := h
  obtain ⟨b, off, rfl, hb1, hb2, hc0⟩ := hcells hp
  have HC0 : Hid (Cells w b off (revTo ys 0)) := by rw [revTo_zero]; exact hc0
  have HZ := Lib.hid hz
  clear hcells hc0 hz
  refine (callsIn_wide (n := 6)).1 ?_
  refine callsIn_of_wp Try.func98 rfl trivial ?_
  simp only [Try.ntmps98, List.size_toArray, List.length_cons, List.length_nil, Nat.reduceAdd, Nat.reduceSub, Array.replicate_succ, Array.replicate_zero, List.push_toArray, List.append_toArray, List.nil_append, List.cons_append]
  have s0 : IntKind.i64.wrap ((ys.length : Int) - 1) = (ys.length : Int) - 1 := IntWalk.i64_in _ (by omega)
  gi_wp2
  clear s0
  gi_loopw [2, 3] (fun i j wr => ∃ k : Nat, 2 * k ≤ ys.length ∧ i = .int .i64 (k : Int) ∧ j = .int .i64 ((ys.length : Int) - 1 - (k : Int)) ∧ Cells wr b off (revTo ys k) ∧ Only lo hi w wr) (fun i _ _ => ys.length - (intOf i).toNat)
  case atStart => exact ⟨0, by omega, rfl, by go_num, HC0.out, Only.refl _ _ _⟩
  case round =>
    obtain ⟨k, hk, rfl, rfl, hc, ho⟩ := hrel
    have HC := Lib.hid hc; have HO := Lib.hid ho
    clear hc ho HC0
    by_cases hlt : k < ys.length - 1 - k
    · have hlt' : (k : Int) < (ys.length : Int) - 1 - (k : Int) := by omega
      have hx := HC.out k (by rw [revTo_len]; omega)
      have hy := HC.out (ys.length - 1 - k) (by rw [revTo_len]; omega)
      rw [revTo_get, if_neg (by omega)] at hx hy
      obtain ⟨hcx, hfx⟩ := hx
      obtain ⟨hcy, hfy⟩ := hy
      have h1 := HC.out.set_ k (by rw [revTo_len]; omega) (ys.getD (ys.length - 1 - k) 0)
      have h2 := h1.set_ (ys.length - 1 - k) (by rw [List.length_set, revTo_len]; omega) (ys.getD k 0)
      rw [revTo_step ys hlt] at h2
      have hq := h1 (ys.length - 1 - k) (by rw [List.length_set, revTo_len]; omega)
      obtain ⟨hcq, hfq⟩ := hq
      have HO2 : Hid (Only lo hi w ((wr.setCell ⟨b, off + k, none⟩ (.int .i64 (ys.getD (ys.length - 1 - k) 0))).setCell ⟨b, off + (ys.length - 1 - k), none⟩ (.int .i64 (ys.getD k 0)))) := (HO.out.set_ hb1 hb2 _).set_ hb1 hb2 _
      have HC2 := Lib.hid h2
      clear h1 h2
      rw [List.getElem_set_ne (by omega), revTo_get, if_neg (by omega)] at hcq
      obtain ⟨x, hx⟩ : ∃ x, ys.getD k 0 = x := ⟨_, rfl⟩
      obtain ⟨y, hy⟩ : ∃ x, ys.getD (ys.length - 1 - k) 0 = x := ⟨_, rfl⟩
      rw [hx] at hcx HC2 HO2
      rw [hy] at hcy hcq HC2 HO2 hfq
      clear hx hy
      obtain ⟨W1, hW1⟩ : ∃ W1, wr.setCell ⟨b, off + k, none⟩ (.int .i64 y) = W1 := ⟨_, rfl⟩
      have hcq' : W1.cell? ⟨b, off + (ys.length - 1 - k), none⟩ = some (.int .i64 y) := by rw [← hW1]; exact hcq
      have hfq' : W1.frozen? ⟨b, off + (ys.length - 1 - k), none⟩ = false := by rw [← hW1]; exact hfq
      rw [hW1] at HC2 HO2
      have j0 : (0 : Int) ≤ (ys.length : Int) - 1 - (k : Int) := by omega
      have jn : (ys.length : Int) - 1 - (k : Int) < (ys.length : Int) := by omega
      have jt : ((ys.length : Int) - 1 - (k : Int)).toNat = ys.length - 1 - k := by omega
      have i0 : (0 : Int) ≤ (k : Int) := by omega
      have j1 : (k : Int) ≤ (ys.length : Int) - 1 := by omega
      have kn : (k : Int) < (ys.length : Int) := by omega
      have kt : (k : Int).toNat = k := by omega
      have sj : IntKind.i64.wrap ((ys.length : Int) - 1 - (k : Int) - 1) = (ys.length : Int) - 1 - (k : Int) - 1 := IntWalk.i64_in _ (by omega)
      clear hcq hfq
      gi_wp2
      refine region_anyS (fun _ => True) (by kernel_rfl) ?_
      refine anyS_first 0 (v := .slice (some ⟨b, off, none⟩) ys.length c) rfl (by kernel_rfl) (by kernel_rfl) (by kernel_rfl) (fun _ _ _ h => h) trivial ⟨fun _ => rfl, .inl ⟨by rfl, fun W' hW' => (by go_simp)⟩⟩ ?_
      refine anyS_first 1 (v := .int .i64 (k : Int)) rfl (by kernel_rfl) (by kernel_rfl) (by kernel_rfl) (fun _ _ _ h => h) trivial ⟨fun _ => rfl, .inl ⟨by rfl, fun W' hW' => (by go_simp)⟩⟩ ?_
      refine anyS_first 2 (v := .slice (some ⟨b, off, none⟩) ys.length c) rfl (by kernel_rfl) (by kernel_rfl) (by kernel_rfl) (fun _ _ _ h => h) trivial ⟨fun _ => rfl, .inl ⟨by rfl, fun W' hW' => (by go_simp)⟩⟩ ?_
      refine anyS_first 3 (v := .int .i64 ((ys.length : Int) - 1 - (k : Int))) rfl (by kernel_rfl) (by kernel_rfl) (by kernel_rfl) (fun _ _ _ h => h) trivial ⟨fun _ => rfl, .inl ⟨by rfl, fun W' hW' => (by go_simp)⟩⟩ ?_
      refine anyS_first 4 (v := .slice (some ⟨b, off, none⟩) ys.length c) rfl (by kernel_rfl) (by kernel_rfl) (by kernel_rfl) (fun _ _ _ h => h) trivial ⟨fun _ => rfl, .inl ⟨by rfl, fun W' hW' => (by go_simp)⟩⟩ ?_
      refine anyS_first 5 (v := .int .i64 ((ys.length : Int) - 1 - (k : Int))) rfl (by kernel_rfl) (by kernel_rfl) (by kernel_rfl) (fun _ _ _ h => h) trivial ⟨fun _ => rfl, .inl ⟨by rfl, fun W' hW' => (by go_simp)⟩⟩ ?_
      refine anyS_first 6 (v := .pointer (some ⟨b, off + (ys.length - 1 - k), none⟩)) rfl (by kernel_rfl) (by kernel_rfl) (by kernel_rfl) (fun _ _ _ h => h) trivial ⟨fun _ => rfl, .inl ⟨by rfl, fun W' hW' => (by go_simp)⟩⟩ ?_
      refine anyS_first 8 (v := .slice (some ⟨b, off, none⟩) ys.length c) rfl (by kernel_rfl) (by kernel_rfl) (by kernel_rfl) (fun _ _ _ h => h) trivial ⟨fun _ => rfl, .inl ⟨by rfl, fun W' hW' => (by go_simp)⟩⟩ ?_
      refine anyS_first 9 (v := .int .i64 (k : Int)) rfl (by kernel_rfl) (by kernel_rfl) (by kernel_rfl) (fun _ _ _ h => h) trivial ⟨fun _ => rfl, .inl ⟨by rfl, fun W' hW' => (by go_simp)⟩⟩ ?_
      refine anyS_first 10 (v := .pointer (some ⟨b, off + k, none⟩)) rfl (by kernel_rfl) (by kernel_rfl) (by kernel_rfl) (fun _ _ _ h => h) trivial ⟨fun _ => rfl, .inl ⟨by rfl, fun W' hW' => (by go_simp)⟩⟩ ?_
      refine anyS_pair 7 11 (by kernel_rfl) trivial ?p7 ?p11
      case p7 =>
        refine wpOpIn_step rfl fun K7 hK7 => ?_
        go_simp
        refine hK7 _ _ ?_
        clear hK7
        refine anyS_one 11 rfl (by kernel_rfl) trivial ?_
        refine wpOpIn_step rfl fun K11 hK11 => ?_
        go_simp
        refine hK11 _ _ ?_
        clear hK11
        refine anyS_one 12 rfl (by kernel_rfl) trivial ?_
        refine wpOpIn_step rfl fun K12 hK12 => ?_
        go_simp
        refine hK12 _ _ ?_
        clear hK12
        refine anyS_one 13 rfl (by kernel_rfl) trivial ?_
        refine wpOpIn_step rfl fun K13 hK13 => ?_
        go_simp
        refine hK13 _ _ ?_
        clear hK13
        clear hcx hcy hfx hfy
        refine anyS_one 14 rfl (by kernel_rfl) trivial ?_
        refine wpOpIn_step rfl fun K14 hK14 => ?_
        go_simp
        refine hK14 _ _ ?_
        clear hK14
        refine anyS_one 15 rfl (by kernel_rfl) trivial ?_
        refine wpOpIn_step rfl fun K15 hK15 => ?_
        go_simp
        refine hK15 _ _ ?_
        clear hK15
        refine anyS_done (by kernel_rfl) trivial ?_
        gi_wp2
        go_roundw
        case rel => exact ⟨k + 1, by omega, by go_num, by go_num, HC2.out, ⟨HO2.out.os, HO2.out.tape, HO2.out.output, HO2.out.size, HO2.out.block⟩⟩
        case measure => simp [intOf] <;> omega
      case p11 =>
        refine wpOpIn_step rfl fun K11 hK11 => ?_
        go_simp
        refine hK11 _ _ ?_
        clear hK11
        refine anyS_one 7 rfl (by kernel_rfl) trivial ?_
        refine wpOpIn_step rfl fun K7 hK7 => ?_
        go_simp
        refine hK7 _ _ ?_
        clear hK7
        refine anyS_one 12 rfl (by kernel_rfl) trivial ?_
        refine wpOpIn_step rfl fun K12 hK12 => ?_
        go_simp
        refine hK12 _ _ ?_
        clear hK12
        refine anyS_one 13 rfl (by kernel_rfl) trivial ?_
        refine wpOpIn_step rfl fun K13 hK13 => ?_
        go_simp
        refine hK13 _ _ ?_
        clear hK13
        clear hcx hcy hfx hfy
        refine anyS_one 14 rfl (by kernel_rfl) trivial ?_
        refine wpOpIn_step rfl fun K14 hK14 => ?_
        go_simp
        refine hK14 _ _ ?_
        clear hK14
        refine anyS_one 15 rfl (by kernel_rfl) trivial ?_
        refine wpOpIn_step rfl fun K15 hK15 => ?_
        go_simp
        refine hK15 _ _ ?_
        clear hK15
        refine anyS_done (by kernel_rfl) trivial ?_
        gi_wp2
        go_roundw
        case rel => exact ⟨k + 1, by omega, by go_num, by go_num, HC2.out, ⟨HO2.out.os, HO2.out.tape, HO2.out.output, HO2.out.size, HO2.out.block⟩⟩
        case measure => simp [intOf] <;> omega
    · have hlt' : ¬ (k : Int) < (ys.length : Int) - 1 - (k : Int) := by omega
      have HR : Hid (revTo ys k = ys.reverse) := revTo_all ys hlt hk
      gi_wp2
      go_end0
      refine ⟨rfl, Cells.iw (by rw [← HR.out]; exact HC.out) (by rw [List.length_reverse]) hb1 hb2 (by rw [HO.out.size]; exact hs) hl (fun z hz => HZ.out z (List.mem_reverse.1 hz)), HO.out⟩

/-! ### entries of a list that lies between other things -/
/-- The blocks from lo up to below hi lie as they lay. -/
structure KeepM (lo hi : Nat) (w w' : World) : Prop where
  size : w.heap.size ≤ w'.heap.size
  block : ∀ k, lo ≤ k → k < hi → w'.heap[k]? = w.heap[k]?
theorem KeepM.trans {lo hi : Nat} {a b c : World} (h : KeepM lo hi a b) (k : KeepM lo hi b c) : KeepM lo hi a c := ⟨Nat.le_trans h.1 k.1, fun i h1 h2 => (k.2 i h1 h2).trans (h.2 i h1 h2)⟩
theorem IR.keepM {w w' : World} {lo hi : Nat} {A : Option Addr} {zs : List Int} (h : IR w lo hi A zs) (k : KeepM lo hi w w') : IR w' lo hi A zs := h.keep k.size fun _ h1 h2 => World.cell?_of_block (k.block _ h1 h2)
theorem keepM_b {lo hi : Nat} {w : World} (hn : hi ≤ w.heap.size) (W : World) (l : Nat) (o o' : Obj) (hl : w.heap.size ≤ l) (h : W.heap[l]? = some o) (h1 : o.isCells = false) (h2 : o.isWalk = false) : KeepM lo hi W (W.putObj l o') := by
  have b := belowK_b (n₀ := w.heap.size) (w := w) (Nat.le_refl _) W l o o' hl h h1 h2
  exact ⟨b.size, fun k _ hk => b.block k (by omega)⟩

set_option maxRecDepth 100000 in
set_option maxHeartbeats 1000000 in
theorem entries1_mid (F : Fence) (n : Nat) (hF : F.fn 104) (hro : F.round = none) (hn : 1 ≤ n) (l Bn lo hi c : Nat) (A : Option Addr) (zs : List Int) (J Jx : List (Fin zs.length) → World → Prop)
    (hY : ∀ pre x W, J pre W → pre.length < zs.length → YieldAt F (n - 1) Try.prog l #[.int .i64 ((x : Fin zs.length) : Nat), .int .i64 zs[x]] W fun e W' =>
      (e = .returned (.bool true) ∧ J (pre ++ [x]) W' ∧ KeepM lo hi W W') ∨ (e = .returned (.bool false) ∧ Jx (pre ++ [x]) W'))
    (W : World) (hBn : W.cell? ⟨Bn, 0, none⟩ = some (.slice A zs.length c)) (hL : IR W lo hi A zs) (h0 : J [] W) :
    CallsIn F n Try.prog 104 #[.func (.yield l) #[] #[], .pointer (some ⟨Bn, 0, none⟩)] W fun e W' => (∃ v, e = .returned v) ∧
      ((∃ ys, ys = List.finRange zs.length ∧ J ys W') ∨ (∃ pre, True ∧ Jx pre W')) := by
  have hl := hL.1
  refine callsIn_of_wp Try.func104 rfl hF ?_ hro
  simp only [Try.ntmps104, List.size_toArray, List.length_cons, List.length_nil, Nat.reduceAdd, Nat.reduceSub, Array.replicate_succ, Array.replicate_zero, List.push_toArray, List.append_toArray, List.nil_append, List.cons_append]
  gi_wp2
  gi_loopw [7] (fun i wr => ∃ k : Nat, k ≤ zs.length ∧ i = .int .i64 k ∧ IR wr lo hi A zs ∧ J ((List.finRange zs.length).take k) wr)
    (fun i _ => zs.length - (intOf i).toNat)
  case atStart => exact ⟨0, Nat.zero_le _, rfl, hL, by simpa using h0⟩
  case round =>
    obtain ⟨k, hk, rfl, hR, hJ⟩ := hrel
    by_cases hlt : k < zs.length
    · have HR := Lib.hid hR
      obtain ⟨b, off, rfl, _, _, hc⟩ := hR.at_ hlt
      clear hR
      have hlt' : (k : Int) < (zs.length : Int) := by omega
      obtain ⟨fn, tmps, assign, body, hy, hYR⟩ := hY ((List.finRange zs.length).take k) ⟨k, hlt⟩ wr hJ (by simp; omega)
      simp only [Fin.getElem_fin] at hy
      gi_wp2
      refine hYR.mono ?_
      rintro e W3 (⟨rfl, hJ3, hk3⟩ | ⟨rfl, hJx3⟩)
      · have HJ := Lib.hid hJ3; have HK := Lib.hid hk3
        clear hJ3 hk3 hYR hJ
        gi_wp2
        go_roundw
        case rel => exact ⟨k + 1, by omega, by go_num, HR.out.keepM HK.out, by rw [← finRange_succ hlt]; exact HJ.out⟩
        case measure => simp [intOf]; omega
      · have HJ := Lib.hid hJx3
        clear hJx3 hYR hJ
        gi_wp2
        refine bodyPost_ret (results_none rfl _ _ _) rfl ?_
        exact ⟨⟨_, rfl⟩, .inr ⟨_, trivial, HJ.out⟩⟩
    · obtain rfl : k = zs.length := by omega
      have HJ := Lib.hid hJ
      clear hJ
      gi_wp2
      go_end0
      exact ⟨⟨_, rfl⟩, .inl ⟨_, rfl, by have := HJ.out; rwa [List.take_of_length_le (by simp)] at this⟩⟩


theorem entries_mid (F : Fence) (n : Nat) (hF : F.fn 104) (hro : F.round = none) (hn : 1 ≤ n) (Bn lo hi c : Nat) (A : Option Addr) (zs : List Int) (w : World) (hBn : Bn < w.heap.size) (hh : hi ≤ w.heap.size)
    (hc : w.cell? ⟨Bn, 0, none⟩ = some (.slice A zs.length c)) (hL : IR w lo hi A zs) :
    SeqStopsK F n Try.prog 104 #[.pointer (some ⟨Bn, 0, none⟩)] (fun x : Fin zs.length => #[.int .i64 ((x : Nat) : Int), .int .i64 zs[x]]) (KeepM lo hi) (fun ys => ys = List.finRange zs.length) (fun _ => True) zs.length w := fun l J Jx W hW _ _ hY h0 =>
  entries1_mid F n hF hro hn l Bn lo hi c A zs J Jx hY W ((hW.cell (p := ⟨Bn, 0, none⟩) hBn).trans hc) (hL.below hW hh) h0

set_option maxHeartbeats 1000000 in
theorem falling_any (A : Option Addr) (c : Nat) (zs : List Int) (w : World) (h : IR w 0 w.heap.size A zs) (hr : rowB zs = true) :
    Calls Try.prog 68 #[.slice A zs.length c] w (RetS w (downL zs)) := by
  have hl := (rowB_true.1 hr).2
  have HL : Hid (0 < zs.length ∧ zs.length ≤ 1000) := by show _ ∧ _; omega
  have HE : Hid ((zs.mergeSort fun x y => decide (x ≤ y)).reverse = downL zs) := rfl
  have HML : Hid ((zs.mergeSort fun x y => decide (x ≤ y)).length = zs.length) := List.length_mergeSort _
  have H := Lib.hid h
  clear h hr
  go_enter Try.func68, Try.ntmps68
  go_wp2_with fail
  refine (values_any _ _ _ _).mono ?_
  rintro e w' ⟨rfl, rfl⟩
  have hb1 : Below w.heap.size w (w.alloc (.cells #[.slice A zs.length c] 77)) := (Below.refl _ w).alloc (Nat.le_refl _) _
  have hcV : (w.alloc (.cells #[.slice A zs.length c] 77)).cell? ⟨w.heap.size, 0, none⟩ = some (.slice A zs.length c) := by
    rw [World.cell?_alloc_at _ _ _ _ rfl]; rfl
  have hsz : w.heap.size < (w.alloc (.cells #[.slice A zs.length c] 77)).heap.size := by simp
  obtain ⟨W1, hW1⟩ : ∃ W1, w.alloc (.cells #[.slice A zs.length c] 77) = W1 := ⟨_, rfl⟩
  rw [hW1] at hb1 hcV hsz
  rw [hW1]
  have B1 := Lib.hid hb1; have HC := Lib.hid hcV
  have H1 := Lib.hid (H.out.grow hb1)
  clear hW1 hb1 hcV
  go_wp2_with fail
  refine (sortedValues_any _ c w.heap.size zs HL.out.2 W1 hsz HC.out H1.out.toAll).mono ?_
  rintro e w2 ⟨A2, c2, rfl, hi2, hb2⟩
  have B2 := Lib.hid (below_then B1.out (Nat.le_refl _) hb2); have I2 := Lib.hid hi2
  clear hi2 hb2
  obtain ⟨ys, hys⟩ : ∃ ys, (zs.mergeSort fun x y => decide (x ≤ y)) = ys := ⟨_, rfl⟩
  rw [hys] at I2 HE HML
  rw [hys]
  clear hys
  go_wp2_with fail
  refine (reverseInts_any A2 c2 _ _ ys _ (by rw [HML.out]; exact HL.out.1) I2.out).mono ?_
  rintro e w3 ⟨rfl, hi3, ho3⟩
  have I3 := Lib.hid hi3; have B3 := Lib.hid (below_only B2.out ho3 (by omega)); have S3 := Lib.hid ho3.size
  clear hi3 ho3
  go_wp2
  go_ret
  rw [HE.out] at I3
  exact ⟨A2, c2, by rw [down_len, ← HML.out]; rfl, I3.out.wide (by omega) (by rw [S3.out]; exact Nat.le_refl _) (Nat.le_refl _), B3.out⟩
end Go.Proofs.Ytfiojdiogjpakaa
