/-
  Chapter 7 of the program up to EvenMeet and EvenSum. Conditions: the lists' cells are there.
-/
import Derived.Test.YtkghpmjbclnojaaEvA
import Derived.Test.YtkghpmjbclnojaaVlc
import Derived.Test.YtkghpmjbclnojaaIter3
import Derived.Test.YtkghpmjbclnojaaLnG
import Derived.Test.YtkghpmjbclnojaaPart2
namespace Go.Proofs.Ytkghpmjbclnojaa
open Go.RowKit Go.Shelf Go.ChangeShapes Go.WideShapes
attribute [local go_sem] Oper.semAt_some

set_option maxRecDepth 100000 in
set_option maxHeartbeats 2000000 in
theorem reverseInts_any (A : Option Addr) (c lo hi : Nat) (ys : List Int) (w : World) (hp : 0 < ys.length) (h : IW w lo hi A ys) :
    Calls Try.prog 124 #[.slice A ys.length c] w fun e w' => e = .returned (.tuple #[]) ∧ IW w' lo hi A ys.reverse ∧ Only lo hi w w' := by
  obtain ⟨hl, hz, hs, hcells⟩ := h
  obtain ⟨b, off, rfl, hb1, hb2, hc0⟩ := hcells hp
  have HC0 : Hid (Cells w b off (revTo ys 0)) := by rw [revTo_zero]; exact hc0
  have HZ := Lib.hid hz
  clear hcells hc0 hz
  refine (callsIn_wide (n := 6)).1 ?_
  refine callsIn_of_wp Try.func124 rfl trivial ?_
  simp only [Try.ntmps124, List.size_toArray, List.length_cons, List.length_nil, Nat.reduceAdd, Nat.reduceSub, Array.replicate_succ, Array.replicate_zero, List.push_toArray, List.append_toArray, List.nil_append, List.cons_append]
  have s0 : IntKind.i64.wrap ((ys.length : Int) - 1) = (ys.length : Int) - 1 := IntWalk.i64_in _ (by omega)
  gi_wp2
  clear s0
  gi_loopw [2, 3] (fun i j wr => ∃ k : Nat, 2 * k ≤ ys.length ∧ i = .int .i64 (k : Int) ∧ j = .int .i64 ((ys.length : Int) - 1 - (k : Int)) ∧ Cells wr b off (revTo ys k) ∧ Only lo hi w wr) (fun i _ _ => ys.length - (intOf i).toNat)
  case atStart => exact ⟨0, by omega, rfl, by go_num, HC0.out, Only.refl _ _ _⟩
  case round =>
    obtain ⟨k, hk, rfl, rfl, hc, ho⟩ := hrel
    have HC := Lib.hid hc; have HO := Lib.hid ho
    clear hc ho HC0
    by_cases hlt : k < ys.length - 1 - k
    · have hlt' : (k : Int) < (ys.length : Int) - 1 - (k : Int) := by omega
      have hx := HC.out k (by rw [revTo_len]; omega)
      have hy := HC.out (ys.length - 1 - k) (by rw [revTo_len]; omega)
      rw [revTo_get, if_neg (by omega)] at hx hy
      obtain ⟨hcx, hfx⟩ := hx
      obtain ⟨hcy, hfy⟩ := hy
      have h1 := HC.out.set_ k (by rw [revTo_len]; omega) (ys.getD (ys.length - 1 - k) 0)
      have h2 := h1.set_ (ys.length - 1 - k) (by rw [List.length_set, revTo_len]; omega) (ys.getD k 0)
      rw [revTo_step ys hlt] at h2
      have hq := h1 (ys.length - 1 - k) (by rw [List.length_set, revTo_len]; omega)
      obtain ⟨hcq, hfq⟩ := hq
      have HO2 : Hid (Only lo hi w ((wr.setCell ⟨b, off + k, none⟩ (.int .i64 (ys.getD (ys.length - 1 - k) 0))).setCell ⟨b, off + (ys.length - 1 - k), none⟩ (.int .i64 (ys.getD k 0)))) := (HO.out.set_ hb1 hb2 _).set_ hb1 hb2 _
      have HC2 := Lib.hid h2
      clear h1 h2
      rw [List.getElem_set_ne (by omega), revTo_get, if_neg (by omega)] at hcq
      obtain ⟨x, hx⟩ : ∃ x, ys.getD k 0 = x := ⟨_, rfl⟩
      obtain ⟨y, hy⟩ : ∃ x, ys.getD (ys.length - 1 - k) 0 = x := ⟨_, rfl⟩
      rw [hx] at hcx HC2 HO2
      rw [hy] at hcy hcq HC2 HO2 hfq
      clear hx hy
      obtain ⟨W1, hW1⟩ : ∃ W1, wr.setCell ⟨b, off + k, none⟩ (.int .i64 y) = W1 := ⟨_, rfl⟩
      have hcq' : W1.cell? ⟨b, off + (ys.length - 1 - k), none⟩ = some (.int .i64 y) := by rw [← hW1]; exact hcq
      have hfq' : W1.frozen? ⟨b, off + (ys.length - 1 - k), none⟩ = false := by rw [← hW1]; exact hfq
      rw [hW1] at HC2 HO2
      have j0 : (0 : Int) ≤ (ys.length : Int) - 1 - (k : Int) := by omega
      have jn : (ys.length : Int) - 1 - (k : Int) < (ys.length : Int) := by omega
      have jt : ((ys.length : Int) - 1 - (k : Int)).toNat = ys.length - 1 - k := by omega
      have i0 : (0 : Int) ≤ (k : Int) := by omega
      have j1 : (k : Int) ≤ (ys.length : Int) - 1 := by omega
      have kn : (k : Int) < (ys.length : Int) := by omega
      have kt : (k : Int).toNat = k := by omega
      have sj : IntKind.i64.wrap ((ys.length : Int) - 1 - (k : Int) - 1) = (ys.length : Int) - 1 - (k : Int) - 1 := IntWalk.i64_in _ (by omega)
      clear hcq hfq
      gi_wp2
      refine region_anyS (fun _ => True) (by kernel_rfl) ?_
      refine anyS_first 0 (v := .slice (some ⟨b, off, none⟩) ys.length c) rfl (by kernel_rfl) (by kernel_rfl) (by kernel_rfl) (fun _ _ _ h => h) trivial ⟨fun _ => rfl, .inl ⟨by rfl, fun W' hW' => (by go_simp)⟩⟩ ?_
      refine anyS_first 1 (v := .int .i64 (k : Int)) rfl (by kernel_rfl) (by kernel_rfl) (by kernel_rfl) (fun _ _ _ h => h) trivial ⟨fun _ => rfl, .inl ⟨by rfl, fun W' hW' => (by go_simp)⟩⟩ ?_
      refine anyS_first 2 (v := .slice (some ⟨b, off, none⟩) ys.length c) rfl (by kernel_rfl) (by kernel_rfl) (by kernel_rfl) (fun _ _ _ h => h) trivial ⟨fun _ => rfl, .inl ⟨by rfl, fun W' hW' => (by go_simp)⟩⟩ ?_
      refine anyS_first 3 (v := .int .i64 ((ys.length : Int) - 1 - (k : Int))) rfl (by kernel_rfl) (by kernel_rfl) (by kernel_rfl) (fun _ _ _ h => h) trivial ⟨fun _ => rfl, .inl ⟨by rfl, fun W' hW' => (by go_simp)⟩⟩ ?_
      refine anyS_first 4 (v := .slice (some ⟨b, off, none⟩) ys.length c) rfl (by kernel_rfl) (by kernel_rfl) (by kernel_rfl) (fun _ _ _ h => h) trivial ⟨fun _ => rfl, .inl ⟨by rfl, fun W' hW' => (by go_simp)⟩⟩ ?_
      refine anyS_first 5 (v := .int .i64 ((ys.length : Int) - 1 - (k : Int))) rfl (by kernel_rfl) (by kernel_rfl) (by kernel_rfl) (fun _ _ _ h => h) trivial ⟨fun _ => rfl, .inl ⟨by rfl, fun W' hW' => (by go_simp)⟩⟩ ?_
      refine anyS_first 6 (v := .pointer (some ⟨b, off + (ys.length - 1 - k), none⟩)) rfl (by kernel_rfl) (by kernel_rfl) (by kernel_rfl) (fun _ _ _ h => h) trivial ⟨fun _ => rfl, .inl ⟨by rfl, fun W' hW' => (by go_simp)⟩⟩ ?_
      refine anyS_first 8 (v := .slice (some ⟨b, off, none⟩) ys.length c) rfl (by kernel_rfl) (by kernel_rfl) (by kernel_rfl) (fun _ _ _ h => h) trivial ⟨fun _ => rfl, .inl ⟨by rfl, fun W' hW' => (by go_simp)⟩⟩ ?_
      refine anyS_first 9 (v := .int .i64 (k : Int)) rfl (by kernel_rfl) (by kernel_rfl) (by kernel_rfl) (fun _ _ _ h => h) trivial ⟨fun _ => rfl, .inl ⟨by rfl, fun W' hW' => (by go_simp)⟩⟩ ?_
      refine anyS_first 10 (v := .pointer (some ⟨b, off + k, none⟩)) rfl (by kernel_rfl) (by kernel_rfl) (by kernel_rfl) (fun _ _ _ h => h) trivial ⟨fun _ => rfl, .inl ⟨by rfl, fun W' hW' => (by go_simp)⟩⟩ ?_
      refine anyS_pair 7 11 (by kernel_rfl) trivial ?p7 ?p11
      case p7 =>
        refine wpOpIn_step rfl fun K7 hK7 => ?_
        go_simp
        refine hK7 _ _ ?_
        clear hK7
        refine anyS_one 11 rfl (by kernel_rfl) trivial ?_
        refine wpOpIn_step rfl fun K11 hK11 => ?_
        go_simp
        refine hK11 _ _ ?_
        clear hK11
        refine anyS_one 12 rfl (by kernel_rfl) trivial ?_
        refine wpOpIn_step rfl fun K12 hK12 => ?_
        go_simp
        refine hK12 _ _ ?_
        clear hK12
        refine anyS_one 13 rfl (by kernel_rfl) trivial ?_
        refine wpOpIn_step rfl fun K13 hK13 => ?_
        go_simp
        refine hK13 _ _ ?_
        clear hK13
        clear hcx hcy hfx hfy
        refine anyS_one 14 rfl (by kernel_rfl) trivial ?_
        refine wpOpIn_step rfl fun K14 hK14 => ?_
        go_simp
        refine hK14 _ _ ?_
        clear hK14
        refine anyS_one 15 rfl (by kernel_rfl) trivial ?_
        refine wpOpIn_step rfl fun K15 hK15 => ?_
        go_simp
        refine hK15 _ _ ?_
        clear hK15
        refine anyS_done (by kernel_rfl) trivial ?_
        gi_wp2
        go_roundw
        case rel => exact ⟨k + 1, by omega, by go_num, by go_num, HC2.out, ⟨HO2.out.os, HO2.out.tape, HO2.out.output, HO2.out.size, HO2.out.block⟩⟩
        case measure => simp [intOf] <;> omega
      case p11 =>
        refine wpOpIn_step rfl fun K11 hK11 => ?_
        go_simp
        refine hK11 _ _ ?_
        clear hK11
        refine anyS_one 7 rfl (by kernel_rfl) trivial ?_
        refine wpOpIn_step rfl fun K7 hK7 => ?_
        go_simp
        refine hK7 _ _ ?_
        clear hK7
        refine anyS_one 12 rfl (by kernel_rfl) trivial ?_
        refine wpOpIn_step rfl fun K12 hK12 => ?_
        go_simp
        refine hK12 _ _ ?_
        clear hK12
        refine anyS_one 13 rfl (by kernel_rfl) trivial ?_
        refine wpOpIn_step rfl fun K13 hK13 => ?_
        go_simp
        refine hK13 _ _ ?_
        clear hK13
        clear hcx hcy hfx hfy
        refine anyS_one 14 rfl (by kernel_rfl) trivial ?_
        refine wpOpIn_step rfl fun K14 hK14 => ?_
        go_simp
        refine hK14 _ _ ?_
        clear hK14
        refine anyS_one 15 rfl (by kernel_rfl) trivial ?_
        refine wpOpIn_step rfl fun K15 hK15 => ?_
        go_simp
        refine hK15 _ _ ?_
        clear hK15
        refine anyS_done (by kernel_rfl) trivial ?_
        gi_wp2
        go_roundw
        case rel => exact ⟨k + 1, by omega, by go_num, by go_num, HC2.out, ⟨HO2.out.os, HO2.out.tape, HO2.out.output, HO2.out.size, HO2.out.block⟩⟩
        case measure => simp [intOf] <;> omega
    · have hlt' : ¬ (k : Int) < (ys.length : Int) - 1 - (k : Int) := by omega
      have HR : Hid (revTo ys k = ys.reverse) := revTo_all ys hlt hk
      gi_wp2
      go_end0
      refine ⟨rfl, Cells.iw (by rw [← HR.out]; exact HC.out) (by rw [List.length_reverse]) hb1 hb2 (by rw [HO.out.size]; exact hs) hl (fun z hz => HZ.out z (List.mem_reverse.1 hz)), HO.out⟩

/-! ### entries of a list that lies between other things -/
/-- The blocks from lo up to below hi lie as they lay. -/
structure KeepM (lo hi : Nat) (w w' : World) : Prop where
  size : w.heap.size ≤ w'.heap.size
  block : ∀ k, lo ≤ k → k < hi → w'.heap[k]? = w.heap[k]?
theorem KeepM.trans {lo hi : Nat} {a b c : World} (h : KeepM lo hi a b) (k : KeepM lo hi b c) : KeepM lo hi a c := ⟨Nat.le_trans h.1 k.1, fun i h1 h2 => (k.2 i h1 h2).trans (h.2 i h1 h2)⟩
theorem IR.keepM {w w' : World} {lo hi : Nat} {A : Option Addr} {zs : List Int} (h : IR w lo hi A zs) (k : KeepM lo hi w w') : IR w' lo hi A zs := h.keep k.size fun _ h1 h2 => World.cell?_of_block (k.block _ h1 h2)
theorem keepM_b {lo hi : Nat} {w : World} (hn : hi ≤ w.heap.size) (W : World) (l : Nat) (o o' : Obj) (hl : w.heap.size ≤ l) (h : W.heap[l]? = some o) (h1 : o.isCells = false) (h2 : o.isWalk = false) : KeepM lo hi W (W.putObj l o') := by
  have b := belowK_b (n₀ := w.heap.size) (w := w) (Nat.le_refl _) W l o o' hl h h1 h2
  exact ⟨b.size, fun k _ hk => b.block k (by omega)⟩

set_option maxRecDepth 100000 in
set_option maxHeartbeats 1000000 in
theorem entries1_mid (F : Fence) (n : Nat) (hF : F.fn 106) (hro : F.round = none) (hn : 1 ≤ n) (l Bn lo hi c : Nat) (A : Option Addr) (zs : List Int) (J Jx : List (Fin zs.length) → World → Prop)
    (hY : ∀ pre x W, J pre W → pre.length < zs.length → YieldAt F (n - 1) Try.prog l #[.int .i64 ((x : Fin zs.length) : Nat), .int .i64 zs[x]] W fun e W' =>
      (e = .returned (.bool true) ∧ J (pre ++ [x]) W' ∧ KeepM lo hi W W') ∨ (e = .returned (.bool false) ∧ Jx (pre ++ [x]) W'))
    (W : World) (hBn : W.cell? ⟨Bn, 0, none⟩ = some (.slice A zs.length c)) (hL : IR W lo hi A zs) (h0 : J [] W) :
    CallsIn F n Try.prog 106 #[.func (.yield l) #[] #[], .pointer (some ⟨Bn, 0, none⟩)] W fun e W' => (∃ v, e = .returned v) ∧
      ((∃ ys, ys = List.finRange zs.length ∧ J ys W') ∨ (∃ pre, True ∧ Jx pre W')) := by
  have hl := hL.1
  refine callsIn_of_wp Try.func106 rfl hF ?_ hro
  simp only [Try.ntmps106, List.size_toArray, List.length_cons, List.length_nil, Nat.reduceAdd, Nat.reduceSub, Array.replicate_succ, Array.replicate_zero, List.push_toArray, List.append_toArray, List.nil_append, List.cons_append]
  gi_wp2
  gi_loopw [7] (fun i wr => ∃ k : Nat, k ≤ zs.length ∧ i = .int .i64 k ∧ IR wr lo hi A zs ∧ J ((List.finRange zs.length).take k) wr)
    (fun i _ => zs.length - (intOf i).toNat)
  case atStart => exact ⟨0, Nat.zero_le _, rfl, hL, by simpa using h0⟩
  case round =>
    obtain ⟨k, hk, rfl, hR, hJ⟩ := hrel
    by_cases hlt : k < zs.length
    · have HR := Lib.hid hR
      obtain ⟨b, off, rfl, _, _, hc⟩ := hR.at_ hlt
      clear hR
      have hlt' : (k : Int) < (zs.length : Int) := by omega
      obtain ⟨fn, tmps, assign, body, hy, hYR⟩ := hY ((List.finRange zs.length).take k) ⟨k, hlt⟩ wr hJ (by simp; omega)
      simp only [Fin.getElem_fin] at hy
      gi_wp2
      refine hYR.mono ?_
      rintro e W3 (⟨rfl, hJ3, hk3⟩ | ⟨rfl, hJx3⟩)
      · have HJ := Lib.hid hJ3; have HK := Lib.hid hk3
        clear hJ3 hk3 hYR hJ
        gi_wp2
        go_roundw
        case rel => exact ⟨k + 1, by omega, by go_num, HR.out.keepM HK.out, by rw [← finRange_succ hlt]; exact HJ.out⟩
        case measure => simp [intOf]; omega
      · have HJ := Lib.hid hJx3
        clear hJx3 hYR hJ
        gi_wp2
        refine bodyPost_ret (results_none rfl _ _ _) rfl ?_
        exact ⟨⟨_, rfl⟩, .inr ⟨_, trivial, HJ.out⟩⟩
    · obtain rfl : k = zs.length := by omega
      have HJ := Lib.hid hJ
      clear hJ
      gi_wp2
      go_end0
      exact ⟨⟨_, rfl⟩, .inl ⟨_, rfl, by have := HJ.out; rwa [List.take_of_length_le (by simp)] at this⟩⟩


theorem entries_mid (F : Fence) (n : Nat) (hF : F.fn 106) (hro : F.round = none) (hn : 1 ≤ n) (Bn lo hi c : Nat) (A : Option Addr) (zs : List Int) (w : World) (hBn : Bn < w.heap.size) (hh : hi ≤ w.heap.size)
    (hc : w.cell? ⟨Bn, 0, none⟩ = some (.slice A zs.length c)) (hL : IR w lo hi A zs) :
    SeqStopsK F n Try.prog 106 #[.pointer (some ⟨Bn, 0, none⟩)] (fun x : Fin zs.length => #[.int .i64 ((x : Nat) : Int), .int .i64 zs[x]]) (KeepM lo hi) (fun ys => ys = List.finRange zs.length) (fun _ => True) zs.length w := fun l J Jx W hW _ _ hY h0 =>
  entries1_mid F n hF hro hn l Bn lo hi c A zs J Jx hY W ((hW.cell (p := ⟨Bn, 0, none⟩) hBn).trans hc) (hL.below hW hh) h0

set_option maxHeartbeats 1000000 in
theorem falling_any (A : Option Addr) (c : Nat) (zs : List Int) (w : World) (h : IR w 0 w.heap.size A zs) (hr : rowB zs = true) :
    Calls Try.prog 112 #[.slice A zs.length c] w (RetS w (downL zs)) := by
  have hl := (rowB_true.1 hr).2
  have HL : Hid (0 < zs.length ∧ zs.length ≤ 1000) := by show _ ∧ _; omega
  have HE : Hid ((zs.mergeSort fun x y => decide (x ≤ y)).reverse = downL zs) := rfl
  have HML : Hid ((zs.mergeSort fun x y => decide (x ≤ y)).length = zs.length) := List.length_mergeSort _
  have H := Lib.hid h
  clear h hr
  go_enter Try.func112, Try.ntmps112
  go_wp2_with fail
  refine (values_any _ _ _ _).mono ?_
  rintro e w' ⟨rfl, rfl⟩
  have hb1 : Below w.heap.size w (w.alloc (.cells #[.slice A zs.length c] 97)) := (Below.refl _ w).alloc (Nat.le_refl _) _
  have hcV : (w.alloc (.cells #[.slice A zs.length c] 97)).cell? ⟨w.heap.size, 0, none⟩ = some (.slice A zs.length c) := by
    rw [World.cell?_alloc_at _ _ _ _ rfl]; rfl
  have hsz : w.heap.size < (w.alloc (.cells #[.slice A zs.length c] 97)).heap.size := by simp
  obtain ⟨W1, hW1⟩ : ∃ W1, w.alloc (.cells #[.slice A zs.length c] 97) = W1 := ⟨_, rfl⟩
  rw [hW1] at hb1 hcV hsz
  rw [hW1]
  have B1 := Lib.hid hb1; have HC := Lib.hid hcV
  have H1 := Lib.hid (H.out.grow hb1)
  clear hW1 hb1 hcV
  go_wp2_with fail
  refine (sortedValues_any _ c w.heap.size zs HL.out.2 W1 hsz HC.out H1.out.toAll).mono ?_
  rintro e w2 ⟨A2, c2, rfl, hi2, hb2⟩
  have B2 := Lib.hid (below_then B1.out (Nat.le_refl _) hb2); have I2 := Lib.hid hi2
  clear hi2 hb2
  obtain ⟨ys, hys⟩ : ∃ ys, (zs.mergeSort fun x y => decide (x ≤ y)) = ys := ⟨_, rfl⟩
  rw [hys] at I2 HE HML
  rw [hys]
  clear hys
  go_wp2_with fail
  refine (reverseInts_any A2 c2 _ _ ys _ (by rw [HML.out]; exact HL.out.1) I2.out).mono ?_
  rintro e w3 ⟨rfl, hi3, ho3⟩
  have I3 := Lib.hid hi3; have B3 := Lib.hid (below_only B2.out ho3 (by omega)); have S3 := Lib.hid ho3.size
  clear hi3 ho3
  go_wp2
  go_ret
  rw [HE.out] at I3
  exact ⟨A2, c2, by rw [down_len, ← HML.out]; rfl, I3.out.wide (by omega) (by rw [S3.out]; exact Nat.le_refl _) (Nat.le_refl _), B3.out⟩
end Go.Proofs.Ytkghpmjbclnojaa

namespace Go.Proofs.Ytkghpmjbclnojaa
open Go.RowKit Go.Shelf Go.ChangeShapes Go.WideShapes
attribute [local go_sem] Oper.semAt_some

/-- Behind an append to the list in the box B, which lies below the list's own blocks. -/
theorem box_push_lo {W w1 : World} {B base : Nat} {v v' : Value} {zs zs' : List Int} (hv : Boxed W B 26 v) (ho : OwnI W base v zs) (hB : B < base) (ho1 : OwnI w1 base v' zs') (hg : W.grownBy w1 v.ownBlock) :
    Boxed w1 B 26 v ∧ BoxOwn (w1.setCell ⟨B, 0, none⟩ v') B base zs' ∧ KeepsOthers W (w1.setCell ⟨B, 0, none⟩ v') ∧ (∀ k, k < base → k ≠ B → (w1.setCell ⟨B, 0, none⟩ v').heap[k]? = W.heap[k]?) ∧ Below B W (w1.setCell ⟨B, 0, none⟩ v') := by
  have hne : ∀ k, k < base → some k ≠ v.ownBlock := fun k hk e => by have := (ho.1.lt k e.symm).1; omega
  have hv1 : Boxed w1 B 26 v := hv.kept hg (hne B hB)
  have hs := ho.2.2
  refine ⟨hv1, ⟨v', hv1.set v', ho1.setOut hB v'⟩, ?_, fun k hk hkB => ?_, ?_⟩
  · refine (KeepsOthers.of_grownBy hg fun j o ej hj => ?_).trans (KeepsOthers.setCell _ _ _)
    rcases ho.1.2 with ⟨rfl, _⟩ | ⟨g, cap, cur, rfl, _, hgb, _⟩
    · simp [Value.ownBlock] at ej
    · obtain rfl : g = j := by simpa [Value.ownBlock] using ej
      rw [hgb] at hj; cases hj; rfl
  · exact (Below.heap_setCell w1 ⟨B, 0, none⟩ v' k hkB).trans (hg.block k (by omega) (hne k hk))
  · exact ((Below.refl B W).grown hg (by omega) fun k hk => by have := (ho.1.lt k hk).1; omega).setCell (p := ⟨B, 0, none⟩) (Nat.le_refl _) v'

theorem wpListIn_pushG {F : Fence} {n : Nat} {ops : Array Oper} {rest : List Oper} {o : Oper} {a : Act} {W : World} {y : Int} {Q : Exit → Act → World → Prop} {G : Nat} (hG : G = W.heap.size) (hgd : o.guard = none) (s x : Operand)
    (ho : o.op = .call { callee := .builtin .append, args := #[s, x], argTypes := #[26, 26] })
    (base : Nat) (v : Value) (zs : List Int) (hs : a.eval s = v) (hx : a.eval x = .slice (some ⟨G, 0, none⟩) 1 1) (hown : OwnI W base v zs)
    (hl : zs.length < 17592186044416) (hy : I64 y)
    (h : ∀ v' w', OwnI w' base v' (zs ++ [y]) → W.grownBy w' v.ownBlock → wpListIn F n Try.prog ops Q rest (a.put o.dst v') w') : wpListIn F n Try.prog ops Q (o :: rest) a (W.alloc (.cells #[.int .i64 y] 3)) := by
  subst hG
  exact wpListIn_push hgd s x ho base v zs hs hx hown hl hy h

/-- Sums of beginnings. -/
def prefS : Int → List Int → List Int
  | _, [] => []
  | s, x :: l => (s + x) :: prefS (s + x) l
theorem prefS_len : ∀ (l : List Int) (s : Int), (prefS s l).length = l.length
  | [], _ => rfl
  | x :: l, s => by simp only [prefS, List.length_cons]; rw [prefS_len l]
theorem prefS_snoc (x : Int) : ∀ (l : List Int) (s : Int), prefS s (l ++ [x]) = prefS s l ++ [s + sumL l + x]
  | [], s => by simp [prefS, sumL]
  | y :: l, s => by
    simp only [List.cons_append, prefS, sumL]
    rw [prefS_snoc x l (s + y), show s + y + sumL l + x = s + (y + sumL l) + x by omega]
theorem prefS_getD : ∀ (l : List Int) (s : Int) (k : Nat), k < l.length → (prefS s l).getD k 0 = s + sumL (l.take (k + 1))
  | x :: l, s, 0, _ => by simp [prefS, sumL]
  | x :: l, s, k + 1, h => by
    have := prefS_getD l (s + x) k (by simpa using h)
    simp only [prefS, List.take_succ_cons, sumL, List.getD_cons_succ]
    rw [this]; omega
  | [], _, _, h => by simp at h
theorem sum_bd : ∀ l : List Int, (∀ z, z ∈ l → -1000 ≤ z ∧ z ≤ 1000) → -1000 * (l.length : Int) ≤ sumL l ∧ sumL l ≤ 1000 * (l.length : Int)
  | [], _ => by simp [sumL]
  | x :: l, h => by
    have ih := sum_bd l fun z hz => h z (by simp [hz])
    have := h x (by simp)
    simp only [sumL, List.length_cons]
    omega
def topsL (zs : List Int) : List Int := prefS 0 (downL zs)
theorem topsL_len (zs : List Int) : (topsL zs).length = zs.length := by unfold topsL; rw [prefS_len, down_len]
theorem topsL_getD (zs : List Int) {k : Nat} (hk : k < zs.length) : (topsL zs).getD k 0 = topS zs (k + 1) := by
  unfold topsL topS
  rw [prefS_getD _ _ _ (by rw [down_len]; exact hk)]; omega
theorem sumL_snoc (l : List Int) (x : Int) : sumL (l ++ [x]) = sumL l + x := by rw [sumL_append]; simp [sumL]

set_option maxRecDepth 100000 in
set_option maxHeartbeats 2000000 in
theorem tops_any (A : Option Addr) (c : Nat) (zs : List Int) (w : World) (h : IR w 0 w.heap.size A zs) (hr : rowB zs = true) :
    Calls Try.prog 95 #[.slice A zs.length c] w (RetS w (topsL zs)) := by
  have HX : Hid ((downL zs).length = zs.length) := down_len zs
  have hl := (rowB_true.1 hr).2
  have HB := Lib.hid (rowB_true.1 (down_row hr)).1
  have HT : Hid (topsL zs = prefS 0 (downL zs)) := rfl
  have H := Lib.hid h; have HR := Lib.hid hr
  clear h hr
  refine (callsIn_wide (n := 6)).1 ?_
  refine callsIn_of_wp_marks Try.func95 rfl trivial ?_ rfl
  simp only [Try.ntmps95, List.size_toArray, List.length_cons, List.length_nil, Nat.reduceAdd, Nat.reduceSub, Array.replicate_succ, Array.replicate_zero, List.push_toArray, List.append_toArray, List.nil_append, List.cons_append]
  gi_wp2_with fail
  have b1 := (Boxed.new w 3 (.int .i64 0)).alloc (.cells #[.slice none 0 0] 26)
  have b2 := Boxed.new (w.alloc (.cells #[.int .i64 0] 3)) 26 (.slice none 0 0)
  rw [World.size_alloc] at b2
  have hb1 : Below w.heap.size w ((w.alloc (.cells #[.int .i64 0] 3)).alloc (.cells #[.slice none 0 0] 26)) := ((Below.refl _ w).alloc (Nat.le_refl _) _).alloc (by simp) _
  obtain ⟨W1, hW1⟩ : ∃ W1, (w.alloc (.cells #[.int .i64 0] 3)).alloc (.cells #[.slice none 0 0] 26) = W1 := ⟨_, rfl⟩
  have hs1 : W1.heap.size = w.heap.size + 2 := by rw [← hW1]; simp
  rw [hW1] at b1 b2 hb1
  rw [hW1]
  clear hW1
  refine ⟨trivial, ?_⟩
  gi_at_call 112
  refine (callsIn_wide.2 (falling_any A c zs W1 (H.out.grow hb1).toAll HR.out)).mono ?_
  rintro e W2 ⟨A2, c2, rfl, i2, bb2⟩
  replace b1 := boxed_below b1 bb2
  replace b2 := boxed_below b2 bb2
  have hs2 := bb2.size
  have B2 := below_then hb1 (Nat.le_refl _) bb2
  obtain ⟨X, hX⟩ : ∃ X, downL zs = X := ⟨_, rfl⟩
  rw [hX] at HX HB HT i2
  rw [hX]
  clear hX hb1 bb2
  gi_wp2_with (refine ⟨trivial, ?_⟩; gi_at_call 80; refine (entries_in _ _ trivial rfl _ _ _ _).mono ?_; rintro e w' ⟨rfl, rfl⟩)
  have hb3 : Below W2.heap.size W2 (W2.alloc (.cells #[.slice A2 X.length c2] 97)) := (Below.refl _ W2).alloc (Nat.le_refl _) _
  have hbox : (W2.alloc (.cells #[.slice A2 X.length c2] 97)).cell? ⟨W2.heap.size, 0, none⟩ = some (.slice A2 X.length c2) := by
    rw [World.cell?_alloc_at _ _ _ _ rfl]; rfl
  obtain ⟨W3, hW3⟩ : ∃ W3, W2.alloc (.cells #[.slice A2 X.length c2] 97) = W3 := ⟨_, rfl⟩
  have hs3 : W3.heap.size = W2.heap.size + 1 := by rw [← hW3]; simp
  rw [hW3] at hb3 hbox
  rw [hW3]
  clear hW3
  have hR3 : IR W3 W1.heap.size W3.heap.size A2 X := (i2.toIR.below hb3 (Nat.le_refl _)).wide (Nat.le_refl _) (by omega) (Nat.le_refl _)
  replace b1 := boxed_below b1 hb3
  replace b2 := boxed_below b2 hb3
  have B3 := Lib.hid (B2.trans (hb3.mono (by omega)))
  clear i2 hb3 B2
  apply (fun a₁ => wpIn_rangeFunc_ownF (F := Fence.wide) rfl (by decide) (gf := 106) (lb := #[.pointer (some ⟨W2.heap.size, 0, none⟩)]) rfl trivial (enters_of Try.func106 (by kernel_rfl) rfl)
    (entries_mid Fence.wide (6 - 1) trivial rfl (by decide) W2.heap.size W1.heap.size W3.heap.size c2 A2 X W3 (by omega) (Nat.le_refl _) hbox hR3) (fun h k => h.trans k) (keepM_b (Nat.le_refl _)) (Below.refl _ _) (fun _ => rfl)
    (fun pre W => Boxed W w.heap.size 3 (.int .i64 (sumL (valsP X pre))) ∧ ((BoxOwn W (w.heap.size + 1) W3.heap.size (prefS 0 (valsP X pre)) ∧ W3.heap.size ≤ W.heap.size) ∧ Below w.heap.size W3 W))
    (fun _ _ _ => False)
    (OwnFrom.and (Own.from (boxed_own _ _ _) _) (OwnFrom.and (boxOwn_own _ _ _ _) (ownFrom_below (by omega) (by omega))))
    (fun _ _ _ _ _ hs _ _ => hs)
    ⟨b1, ⟨⟨_, b2, OwnI.nil _ _ (Nat.le_refl _)⟩, Nat.le_refl _⟩, Below.refl _ _⟩ a₁)
  case hassign =>
    intro l x W K hK
    gi_wp2
    exact hK
  case hbody =>
    rintro l pre x W ⟨hM, ⟨⟨v, hv, ho⟩, hWs⟩, hBW⟩ hlt
    have g1 := sum_bd (valsP X pre) fun z hz => HB.out z (valsP_mem hz)
    have g2 := HB.out _ (List.getElem_mem x.2)
    rw [valsP_len] at g1
    have hlen : pre.length < 12 := by have := HX.out; omega
    have HS1 : Hid (sumL (valsP X (pre ++ [x])) = sumL (valsP X pre) + X[x.1]) := by show _ = _; rw [valsP_snoc, sumL_snoc]
    have HS2 : Hid (prefS 0 (valsP X (pre ++ [x])) = prefS 0 (valsP X pre) ++ [sumL (valsP X pre) + X[x.1]]) := by show _ = _; rw [valsP_snoc, prefS_snoc, Int.zero_add]
    have HLP : Hid ((prefS 0 (valsP X pre)).length < 17592186044416) := by show _ < _; rw [prefS_len, valsP_len]; omega
    obtain ⟨T, hT⟩ : ∃ T, sumL (valsP X pre) = T := ⟨_, rfl⟩
    obtain ⟨y, hy⟩ : ∃ y, X[x.1] = y := ⟨_, rfl⟩
    rw [hT] at g1 hM HS1 HS2
    rw [hy] at g2 HS1 HS2
    have HY : Hid (X[x.1] = y) := hy
    clear hT hy
    have s1 : IntKind.i64.wrap (T + y) = T + y := IntWalk.i64_in _ (by omega)
    have HYI : Hid (I64 (T + y)) := ⟨by omega, by omega⟩
    have cM := hM.cell; have fM := hM.frozen
    have hM2 := hM.set (.int .i64 (T + y))
    have cM2 := hM2.cell
    have hvS : Boxed (W.setCell ⟨w.heap.size, 0, none⟩ (.int .i64 (T + y))) (w.heap.size + 1) 26 v := (Below.heap_setCell W ⟨w.heap.size, 0, none⟩ _ (w.heap.size + 1) (by show w.heap.size + 1 ≠ w.heap.size; omega)).trans hv
    have hoS : OwnI (W.setCell ⟨w.heap.size, 0, none⟩ (.int .i64 (T + y))) W3.heap.size v (prefS 0 (valsP X pre)) := ho.setOut (by omega) _
    have cV := hvS.cell
    have hB1 : Below w.heap.size W (W.setCell ⟨w.heap.size, 0, none⟩ (.int .i64 (T + y))) := (Below.refl _ W).setCell (p := ⟨w.heap.size, 0, none⟩) (Nat.le_refl _) _
    have hK1 : KeepsOthers W (W.setCell ⟨w.heap.size, 0, none⟩ (.int .i64 (T + y))) := KeepsOthers.setCell _ _ _
    have hk1 : ∀ k, k ≠ w.heap.size → (W.setCell ⟨w.heap.size, 0, none⟩ (.int .i64 (T + y))).heap[k]? = W.heap[k]? := fun k hk => Below.heap_setCell W ⟨w.heap.size, 0, none⟩ _ k hk
    have HM2 := Lib.hid hM2; have HVS := Lib.hid hvS; have HOS := Lib.hid hoS; have HB1 := Lib.hid hB1; have HK1 := Lib.hid hK1; have Hk1 := Lib.hid hk1; have HBW := Lib.hid hBW; have HWs := Lib.hid hWs
    clear hM2 hvS hoS hB1 hK1 hk1 hBW hM hv ho hWs
    simp only [HY.out]
    gi_wp2_with (gi_at_builtin; refine wpListIn_pushG (by simp [World.setCell]) rfl _ _ rfl W3.heap.size _ _ rfl rfl HOS.out HLP.out HYI.out ?_; intro v' w1 ho1 hg1; obtain ⟨g', cap', rfl⟩ := ownI_some ho1; obtain ⟨hv1, hv2, hk2, hkk, hb2⟩ := box_push_lo HVS.out HOS.out (by omega) ho1 hg1; have hc1 := hv1.cell; have hf1 := hv1.frozen)
    have hsz := (HB1.out.trans (hb2.mono (by omega))).size
    refine ⟨HK1.out.trans hk2, ⟨hsz, fun k h1 h2 => (hkk k h2 (by omega)).trans (Hk1.out k (by omega))⟩, ?_, ⟨?_, by have := HWs.out; omega⟩, HBW.out.trans (HB1.out.trans (hb2.mono (by omega)))⟩
    · rw [HS1.out]
      exact (hkk w.heap.size (by omega) (by omega)).trans HM2.out
    · rw [HS2.out]
      exact hv2
  case hdone =>
    rintro D ys W hD rfl ⟨-, ⟨⟨v, hv, ho⟩, hWs⟩, hBW⟩ hK
    rw [valsP_all, ← HT.out] at ho
    have cV := hv.cell
    have HO := Lib.hid ho; have HBW := Lib.hid (B3.out.trans (hBW.mono (Nat.le_refl _))); have HV := Lib.hid hv
    clear ho hv hBW
    gi_wp2
    refine ⟨by simp, .inl ⟨_, _, rfl, run_takeDeferred hK, ?_⟩⟩
    obtain ⟨A', c', rfl, hi⟩ := (ownI_putObj HO.out (.deferred none) hK rfl).iw (by rw [topsL_len]; omega)
    have bb := HBW.out.trans (belowK_b (w := w) (Nat.le_refl _) W D _ (.deferred none) (by omega) hK rfl rfl)
    exact ⟨_, results_tmp rfl _ _ _, A', c', rfl, hi.wide (by omega) (Nat.le_refl _) (Nat.le_refl _), bb⟩
  case hstop =>
    rintro D cd pre W _ _ h _
    exact h.elim
end Go.Proofs.Ytkghpmjbclnojaa

namespace Go.Proofs.Ytkghpmjbclnojaa
open Go.RowKit

theorem topsOf_false (A0 : Option Addr) (c0 : Nat) (a : List Int) (A1 : Option Addr) (c1 : Nat) (b : List Int) (w : World) (h0 : IR w 0 w.heap.size A0 a) (h1 : IR w 0 w.heap.size A1 b) (ht : twoB a b = false) :
    Calls Try.prog 67 #[.slice A0 a.length c0, .slice A1 b.length c1] w fun e w' => e = .returned (.tuple #[.slice none 0 0, .slice none 0 0, .bool false]) ∧ Below w.heap.size w w' := by
  have H0 := Lib.hid h0; have H1 := Lib.hid h1; have HT := Lib.hid ht
  clear h0 h1 ht
  go_enter Try.func67, Try.ntmps67
  go_wp2_with fail
  refine (isAlike_any _ _ a _ _ b _ _ _ _ _ H0.out H1.out).mono ?_; rintro e w3 ⟨rfl, b3⟩
  rw [HT.out]
  have B3 := Lib.hid b3; clear b3
  go_wp2
  go_ret3
  exact ⟨rfl, B3.out⟩

set_option maxRecDepth 100000 in
set_option maxHeartbeats 1000000 in
theorem topsOf_true (A0 : Option Addr) (c0 : Nat) (a : List Int) (A1 : Option Addr) (c1 : Nat) (b : List Int) (w : World) (h0 : IR w 0 w.heap.size A0 a) (h1 : IR w 0 w.heap.size A1 b) (ht : twoB a b = true) :
    Calls Try.prog 67 #[.slice A0 a.length c0, .slice A1 b.length c1] w fun e w' => ∃ A2 c2 A3 c3, e = .returned (.tuple #[.slice A2 a.length c2, .slice A3 a.length c3, .bool (sumL a == sumL b)]) ∧ IR w' w.heap.size w'.heap.size A2 (topsL a) ∧ IR w' w.heap.size w'.heap.size A3 (topsL b) ∧ Below w.heap.size w w' := by
  have H0 := Lib.hid h0; have H1 := Lib.hid h1; have HT := Lib.hid ht
  obtain ⟨r0, r1, hl⟩ := twoB_true ht
  have hla := (rowB_true.1 r0).2
  have R0 := Lib.hid r0; have R1 := Lib.hid r1
  have HX : Hid ((topsL a).length = a.length) := topsL_len a
  have HY : Hid ((topsL b).length = a.length) := (topsL_len b).trans hl.symm
  have HXL : Hid ((topsL a).getD (a.length - 1) 0 = sumL a) := by
    show _ = _; rw [topsL_getD a (by omega), show a.length - 1 + 1 = a.length by omega, topS_all]
  have HYL : Hid ((topsL b).getD (a.length - 1) 0 = sumL b) := by
    show _ = _; rw [topsL_getD b (by omega), show a.length - 1 + 1 = b.length by omega, topS_all]
  have HLB := Lib.hid hl
  clear h0 h1 ht r0 r1 hl
  go_enter Try.func67, Try.ntmps67
  go_wp2_with fail
  refine (isAlike_any _ _ a _ _ b _ _ _ _ _ H0.out H1.out).mono ?_; rintro e w1 ⟨rfl, b1⟩
  rw [HT.out]
  replace H0 := Lib.hid (H0.out.grow b1); replace H1 := Lib.hid (H1.out.grow b1)
  have B1 := Lib.hid b1; clear b1
  go_wp2_with fail
  refine (tops_any A0 c0 a _ H0.out.toAll R0.out).mono ?_
  rintro e w2 ⟨A2, c2, rfl, i2, b2⟩
  replace H1 := Lib.hid (H1.out.below b2 B1.out.size)
  have I2 := Lib.hid i2; have B2 := Lib.hid (below_then B1.out (Nat.le_refl _) b2)
  clear i2 b2
  go_wp2_with fail
  refine (tops_any A1 c1 b _ H1.out.toAll R1.out).mono ?_
  rintro e w3 ⟨A3, c3, rfl, i3, b3⟩
  replace I2 := Lib.hid (I2.out.toIR.grow b3)
  have I3 := Lib.hid i3; have B3 := Lib.hid (below_then B2.out (Nat.le_refl _) b3)
  have S3 := Lib.hid b3.size
  clear i3 b3
  have hp : a.length - 1 < (topsL a).length := by rw [HX.out]; omega
  have hq : a.length - 1 < (topsL b).length := by rw [HY.out]; omega
  obtain ⟨ba, oa, rfl, _, _, hca⟩ := I2.out.at_ hp
  obtain ⟨bb, ob, rfl, _, _, hcb⟩ := I3.out.toIR.at_ hq
  rw [← getD_in hp, HXL.out] at hca
  rw [← getD_in hq, HYL.out] at hcb
  rw [HX.out, HY.out]
  obtain ⟨n, hn⟩ : ∃ n, a.length = n := ⟨_, rfl⟩
  rw [hn] at hca hcb hla
  rw [hn]
  have hne : ((n : Int) - 1).toNat = n - 1 := by omega
  have n0 : (0 : Int) ≤ (n : Int) - 1 := by omega
  have n1 : (n : Int) - 1 < (n : Int) := by omega
  have s1 : IntKind.i64.wrap ((n : Int) - 1) = (n : Int) - 1 := IntWalk.i64_in _ (by omega)
  clear hp hq
  go_wp2
  go_quiet (fail)
  go_wp2
  go_ret3
  exact ⟨some ⟨ba, oa, none⟩, c2, some ⟨bb, ob, none⟩, c3, by rw [hn]; rfl, (I2.out.wide B1.out.size S3.out (Nat.le_refl _)).drewN _, (I3.out.toIR.wide B2.out.size (Nat.le_refl _) (Nat.le_refl _)).drewN _, below_drawN B3.out _⟩

set_option maxRecDepth 100000 in
set_option maxHeartbeats 1000000 in
theorem implEvenIs_any (A0 : Option Addr) (c0 : Nat) (a : List Int) (A1 : Option Addr) (c1 : Nat) (b : List Int) (w : World) (h0 : IR w 0 w.heap.size A0 a) (h1 : IR w 0 w.heap.size A1 b) :
    Calls Try.prog 33 #[.slice A0 a.length c0, .slice A1 b.length c1] w fun e w' => e = .returned (.bool (evenIsB a b)) ∧ Below w.heap.size w w' := by
  have H0 := Lib.hid h0; have H1 := Lib.hid h1
  clear h0 h1
  cases ht : twoB a b with
  | false =>
    have HM : Hid (evenIsB a b = false) := by show _ = _; unfold evenIsB; rw [ht]; rfl
    have HT := Lib.hid ht; clear ht
    go_enter Try.func33, Try.ntmps33
    go_wp2_with fail
    refine (topsOf_false _ _ a _ _ b _ H0.out H1.out HT.out).mono ?_; rintro e w1 ⟨rfl, b1⟩
    have B1 := Lib.hid b1; clear b1
    go_wp2
    go_ret
    exact ⟨ret_bool HM.out.symm, B1.out⟩
  | true =>
    have HM : Hid (evenIsB a b = evB a b) := by show _ = _; unfold evenIsB; rw [ht]; rfl
    obtain ⟨r0, r1, hl⟩ := twoB_true ht
    have HT := Lib.hid ht
    have hla := (rowB_true.1 r0).2
    have HL := Lib.hid hl
    have HX : Hid ((topsL a).length = a.length) := topsL_len a
    have HY : Hid ((topsL b).length = a.length) := (topsL_len b).trans hl.symm
    clear ht r0 r1 hl
    cases hs : (sumL a == sumL b) with
    | false =>
      have HE : Hid (evB a b = false) := by
        show _ = _; unfold evB; rw [decide_eq_false (by simpa using hs)]; rfl
      have HS := Lib.hid hs; clear hs
      go_enter Try.func33, Try.ntmps33
      go_wp2_with fail
      refine (topsOf_true _ _ a _ _ b _ H0.out H1.out HT.out).mono ?_; rintro e w1 ⟨A2, c2, A3, c3, rfl, -, -, b1⟩
      rw [HS.out]
      have B1 := Lib.hid b1; clear b1
      go_wp2
      go_ret
      exact ⟨ret_bool (by rw [HM.out, HE.out]), B1.out⟩
    | true =>
      have HSE : Hid (sumL a = sumL b) := by show _ = _; simpa using hs
      have HS := Lib.hid hs; clear hs
      obtain ⟨n, hn⟩ : ∃ n, a.length = n := ⟨_, rfl⟩
      have HN := Lib.hid hn
      rw [hn] at HX HY hla
      clear hn
      go_enter Try.func33, Try.ntmps33
      go_wp2_with fail
      refine (topsOf_true _ _ a _ _ b _ H0.out H1.out HT.out).mono ?_; rintro e w1 ⟨A2, c2, A3, c3, rfl, i2, i3, b1⟩
      rw [HS.out, HN.out]
      have B1 := Lib.hid b1; have I2 := Lib.hid i2; have I3 := Lib.hid i3; clear b1 i2 i3
      go_wp2
      go_loop [21] (fun i => ∃ k : Nat, k ≤ n ∧ i = .int .i64 (k : Int) ∧ Hid (∀ j, j ≤ k → topS a j ≤ topS b j)) (fun i => n - (intOf i).toNat)
      case atStart => exact ⟨0, Nat.zero_le _, rfl, Lib.hid (fun j hj => by rw [show j = 0 by omega, topS_zero, topS_zero]; exact Int.le_refl _)⟩
      case round =>
        obtain ⟨k, hk, rfl, hall⟩ := hrel
        by_cases hlt : k < n
        · have hx : k < (topsL a).length := by rw [HX.out]; exact hlt
          have hy : k < (topsL b).length := by rw [HY.out]; exact hlt
          obtain ⟨ba, oa, rfl, _, _, hca⟩ := I2.out.at_ hx
          obtain ⟨bb, ob, rfl, _, _, hcb⟩ := I3.out.at_ hy
          have hlt' : (k : Int) < (n : Int) := by omega
          have t1 := topsL_getD a (k := k) (by rw [HN.out]; exact hlt)
          have t2 := topsL_getD b (k := k) (by rw [← HL.out, HN.out]; exact hlt)
          rw [getD_in hx] at t1
          rw [getD_in hy] at t2
          have HNO := Lib.hid (fun h => ev_no (a := a) (b := b) (k := k + 1) (by rw [HN.out]; omega) h)
          rw [t1] at hca
          rw [t2] at hcb
          have HD1 : Hid (topS a (k + 1) = sumL ((downL a).take (k + 1))) := rfl
          have HD2 : Hid (topS b (k + 1) = sumL ((downL b).take (k + 1))) := rfl
          obtain ⟨x, hxx⟩ : ∃ x, topS a (k + 1) = x := ⟨_, rfl⟩
          obtain ⟨y, hyy⟩ : ∃ y, topS b (k + 1) = y := ⟨_, rfl⟩
          have HXX := Lib.hid hxx; have HYY := Lib.hid hyy
          rw [hxx] at hca HD1
          rw [hyy] at hcb HD2
          clear t1 t2 hxx hyy hx hy
          by_cases hgt : y < x
          · have HE := Lib.hid (HNO.out (by rw [← HD1.out, ← HD2.out]; exact hgt))
            go_wp2
            go_ret
            exact ⟨ret_bool (by rw [HM.out, HE.out]), B1.out⟩
          · go_wp2
            go_round
            case rel => exact ⟨k + 1, by omega, by go_num, Lib.hid (fun j hj => by
              by_cases e : j = k + 1
              · subst e; rw [HXX.out, HYY.out]; omega
              · exact hall.out j (by omega))⟩
            case measure => simp [intOf]; omega
        · obtain rfl : k = n := by omega
          have HE : Hid (evB a b = true) := by
            have h := ev_end (a := a) (b := b) HL.out (by rw [HN.out]; exact hall.out)
            show _ = _
            rw [h, down_sum, show sumL ((downL b).take a.length) = sumL b by rw [HL.out]; exact down_sum b]
            exact HS.out
          go_wp2
          go_ret
          exact ⟨ret_bool (by rw [HM.out, HE.out]), B1.out⟩

end Go.Proofs.Ytkghpmjbclnojaa

namespace Go.Proofs.Ytkghpmjbclnojaa
open Go.RowKit Go.Shelf Go.ChangeShapes Go.WideShapes
attribute [local go_sem] Oper.semAt_some

theorem evenL_none (n : Nat) (q : Int) : evenL n q 0 = List.replicate n q := by
  apply List.ext_getElem
  · simp [evenL]
  · intro i h1 h2
    simp [evenL]
    omega
theorem evenL_get (n : Nat) (q r : Int) (i : Nat) (h : i < (evenL n q r).length) : (evenL n q r)[i] = if (i : Int) < r then q + 1 else q := by simp [evenL]
theorem evenL_set (n : Nat) (q : Int) (k : Nat) : (evenL n q (k : Int)).set k (q + 1) = evenL n q ((k : Int) + 1) := by
  apply List.ext_getElem
  · simp [evenL]
  · intro i h1 h2
    rw [List.getElem_set, evenL_get, evenL_get]
    by_cases e : k = i
    · subst e; rw [if_pos rfl, if_pos (by omega)]
    · rw [if_neg e]
      by_cases c : (i : Int) < (k : Int)
      · rw [if_pos c, if_pos (by omega)]
      · rw [if_neg c, if_neg (by omega)]

/-- The steps at the places that came. -/
def stP (X Y : List Int) (pre : List (Fin X.length)) : Int := sumL (pre.map fun x => max 0 (X[x.1] - Y.getD x.1 0))
theorem stP_snoc (X Y : List Int) (pre : List (Fin X.length)) (x : Fin X.length) : stP X Y (pre ++ [x]) = stP X Y pre + max 0 (X[x.1] - Y.getD x.1 0) := by
  unfold stP; rw [List.map_append, sumL_append]; simp [sumL]
theorem stP_take (X Y : List Int) : ∀ k, k ≤ X.length → stP X Y ((List.finRange X.length).take k) = sumN (fun i => max 0 (X.getD i 0 - Y.getD i 0)) k := by
  intro k
  induction k with
  | zero => intro _; rfl
  | succ k ih =>
    intro hk
    rw [← finRange_succ (show k < X.length by omega), stP_snoc, ih (by omega)]
    show _ = sumN _ k + max 0 (X.getD k 0 - Y.getD k 0)
    rw [getD_in (show k < X.length by omega)]
theorem stP_all (X Y : List Int) : stP X Y (List.finRange X.length) = sumN (fun i => max 0 (X.getD i 0 - Y.getD i 0)) X.length := by
  have := stP_take X Y X.length (Nat.le_refl _)
  rwa [List.take_of_length_le (by simp)] at this
theorem stP_bd {X Y : List Int} (hx : ∀ z, z ∈ X → -1000 ≤ z ∧ z ≤ 1000) (hy : ∀ k, k < X.length → -1000 ≤ Y.getD k 0 ∧ Y.getD k 0 ≤ 1000) : ∀ pre : List (Fin X.length), 0 ≤ stP X Y pre ∧ stP X Y pre ≤ 2000 * (pre.length : Int)
  | [] => by simp [stP, sumL]
  | x :: pre => by
    have ih := stP_bd hx hy pre
    have g1 := hx _ (List.getElem_mem x.2)
    have g2 := hy x.1 x.2
    have e : stP X Y (x :: pre) = max 0 (X[x.1] - Y.getD x.1 0) + stP X Y pre := by simp [stP, sumL]
    rw [e, List.length_cons]
    omega

end Go.Proofs.Ytkghpmjbclnojaa
