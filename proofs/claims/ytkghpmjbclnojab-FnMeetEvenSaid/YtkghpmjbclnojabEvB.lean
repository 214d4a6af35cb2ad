/-
  Chapter 7 of the program up to EvenMeet and EvenSum. Conditions: the lists' cells are there.
-/
import Derived.Test.YtkghpmjbclnojabEvA
import Derived.Test.YtkghpmjbclnojabVlc
import Derived.Test.YtkghpmjbclnojabIter3
import Derived.Test.YtkghpmjbclnojabLnG
import Derived.Test.YtkghpmjbclnojabPart2
namespace Go.Proofs.Ytkghpmjbclnojab
open Go.RowKit Go.Shelf Go.ChangeShapes Go.WideShapes
attribute [local go_sem] Oper.semAt_some

set_option maxRecDepth 100000 in
set_option maxHeartbeats 2000000 in
theorem reverseInts_any (A : Option Addr) (c lo hi : Nat) (ys : List Int) (w : World) (hp : 0 < ys.length) (h : IW w lo hi A ys) :
    Calls Try.prog 65 #[.slice A ys.length c] w fun e w' => e = .returned (.tuple #[]) ∧ IW w' lo hi A ys.reverse ∧ Only lo hi w w' := by
  obtain ⟨hl, hz, hs, hcells⟩ := h
  obtain ⟨b, off, rfl, hb1, hb2, hc0⟩ := hcells hp
  have HC0 : Hid (Cells w b off (revTo ys 0)) := by rw [revTo_zero]; exact hc0
  have HZ := Lib.hid hz
  clear hcells hc0 hz
  refine (callsIn_wide (n := 6)).1 ?_
  refine callsIn_of_wp Try.func65 rfl trivial ?_
  simp only [Try.ntmps65, List.size_toArray, List.length_cons, List.length_nil, Nat.reduceAdd, Nat.reduceSub, Array.replicate_succ, Array.replicate_zero, List.push_toArray, List.append_toArray, List.nil_append, List.cons_append]
  have s0 : IntKind.i64.wrap ((ys.length : Int) - 1) = (ys.length : Int) - 1 := IntWalk.i64_in _ (by omega)
  gi_wp2
  clear s0
  gi_loopw [2, 3] (fun i j wr => ∃ k : Nat, 2 * k ≤ ys.length ∧ i = .int .i64 (k : Int) ∧ j = .int .i64 ((ys.length : Int) - 1 - (k : Int)) ∧ Cells wr b off (revTo ys k) ∧ Only lo hi w wr) (fun i _ _ => ys.length - (intOf i).toNat)
  case atStart => exact ⟨0, by omega, rfl, by go_num, HC0.out, Only.refl _ _ _⟩
  case round =>
    obtain ⟨k, hk, rfl, rfl, hc, ho⟩ := hrel
    have HC := Lib.hid hc; have HO := Lib.hid ho
    clear hc ho HC0
    by_cases hlt : k < ys.length - 1 - k
    · have hlt' : (k : Int) < (ys.length : Int) - 1 - (k : Int) := by omega
      have hx := HC.out k (by rw [revTo_len]; omega)
      have hy := HC.out (ys.length - 1 - k) (by rw [revTo_len]; omega)
      rw [revTo_get, if_neg (by omega)] at hx hy
      obtain ⟨hcx, hfx⟩ := hx
      obtain ⟨hcy, hfy⟩ := hy
      have h1 := HC.out.set_ k (by rw [revTo_len]; omega) (ys.getD (ys.length - 1 - k) 0)
      have h2 := h1.set_ (ys.length - 1 - k) (by rw [List.length_set, revTo_len]; omega) (ys.getD k 0)
      rw [revTo_step ys hlt] at h2
      have hq := h1 (ys.length - 1 - k) (by rw [List.length_set, revTo_len]; omega)
      obtain ⟨hcq, hfq⟩ := hq
      have HO2 : Hid (Only lo hi w ((wr.setCell ⟨b, off + k, none⟩ (.int .i64 (ys.getD (ys.length - 1 - k) 0))).setCell ⟨b, off + (ys.length - 1 - k), none⟩ (.int .i64 (ys.getD k 0)))) := (HO.out.set_ hb1 hb2 _).set_ hb1 hb2 _
      have HC2 := Lib.hid h2
      clear h1 h2
      rw [List.getElem_set_ne (by omega), revTo_get, if_neg (by omega)] at hcq
      obtain ⟨x, hx⟩ : ∃ x, ys.getD k 0 = x := ⟨_, rfl⟩
      obtain ⟨y, hy⟩ : ∃ x, ys.getD (ys.length - 1 - k) 0 = x := ⟨_, rfl⟩
      rw [hx] at hcx HC2 HO2
      rw [hy] at hcy hcq HC2 HO2 hfq
      clear hx hy
      obtain ⟨W1, hW1⟩ : ∃ W1, wr.setCell ⟨b, off + k, none⟩ (.int .i64 y) = W1 := ⟨_, rfl⟩
      have hcq' : W1.cell? ⟨b, off + (ys.length - 1 - k), none⟩ = some (.int .i64 y) := by rw [← hW1]; exact hcq
      have hfq' : W1.frozen? ⟨b, off + (ys.length - 1 - k), none⟩ = false := by rw [← hW1]; exact hfq
      rw [hW1] at HC2 HO2
      have j0 : (0 : Int) ≤ (ys.length : Int) - 1 - (k : Int) := by omega
      have jn : (ys.length : Int) - 1 - (k : Int) < (ys.length : Int) := by omega
      have jt : ((ys.length : Int) - 1 - (k : Int)).toNat = ys.length - 1 - k := by omega
      have i0 : (0 : Int) ≤ (k : Int) := by omega
      have j1 : (k : Int) ≤ (ys.length : Int) - 1 := by omega
      have kn : (k : Int) < (ys.length : Int) := by omega
      have kt : (k : Int).toNat = k := by omega
      have sj : IntKind.i64.wrap ((ys.length : Int) - 1 - (k : Int) - 1) = (ys.length : Int) - 1 - (k : Int) - 1 := IntWalk.i64_in _ (by omega)
      clear hcq hfq
      gi_wp2
      refine region_anyS (fun _ => True) (by kernel_rfl) ?_
      refine anyS_first 0 (v := .slice (some ⟨b, off, none⟩) ys.length c) rfl (by kernel_rfl) (by kernel_rfl) (by kernel_rfl) (fun _ _ _ h => h) trivial ⟨fun _ => rfl, .inl ⟨by rfl, fun W' hW' => (by go_simp)⟩⟩ ?_
      refine anyS_first 1 (v := .int .i64 (k : Int)) rfl (by kernel_rfl) (by kernel_rfl) (by kernel_rfl) (fun _ _ _ h => h) trivial ⟨fun _ => rfl, .inl ⟨by rfl, fun W' hW' => (by go_simp)⟩⟩ ?_
      refine anyS_first 2 (v := .slice (some ⟨b, off, none⟩) ys.length c) rfl (by kernel_rfl) (by kernel_rfl) (by kernel_rfl) (fun _ _ _ h => h) trivial ⟨fun _ => rfl, .inl ⟨by rfl, fun W' hW' => (by go_simp)⟩⟩ ?_
      refine anyS_first 3 (v := .int .i64 ((ys.length : Int) - 1 - (k : Int))) rfl (by kernel_rfl) (by kernel_rfl) (by kernel_rfl) (fun _ _ _ h => h) trivial ⟨fun _ => rfl, .inl ⟨by rfl, fun W' hW' => (by go_simp)⟩⟩ ?_
      refine anyS_first 4 (v := .slice (some ⟨b, off, none⟩) ys.length c) rfl (by kernel_rfl) (by kernel_rfl) (by kernel_rfl) (fun _ _ _ h => h) trivial ⟨fun _ => rfl, .inl ⟨by rfl, fun W' hW' => (by go_simp)⟩⟩ ?_
      refine anyS_first 5 (v := .int .i64 ((ys.length : Int) - 1 - (k : Int))) rfl (by kernel_rfl) (by kernel_rfl) (by kernel_rfl) (fun _ _ _ h => h) trivial ⟨fun _ => rfl, .inl ⟨by rfl, fun W' hW' => (by go_simp)⟩⟩ ?_
      refine anyS_first 6 (v := .pointer (some ⟨b, off + (ys.length - 1 - k), none⟩)) rfl (by kernel_rfl) (by kernel_rfl) (by kernel_rfl) (fun _ _ _ h => h) trivial ⟨fun _ => rfl, .inl ⟨by rfl, fun W' hW' => (by go_simp)⟩⟩ ?_
      refine anyS_first 8 (v := .slice (some ⟨b, off, none⟩) ys.length c) rfl (by kernel_rfl) (by kernel_rfl) (by kernel_rfl) (fun _ _ _ h => h) trivial ⟨fun _ => rfl, .inl ⟨by rfl, fun W' hW' => (by go_simp)⟩⟩ ?_
      refine anyS_first 9 (v := .int .i64 (k : Int)) rfl (by kernel_rfl) (by kernel_rfl) (by kernel_rfl) (fun _ _ _ h => h) trivial ⟨fun _ => rfl, .inl ⟨by rfl, fun W' hW' => (by go_simp)⟩⟩ ?_
      refine anyS_first 10 (v := .pointer (some ⟨b, off + k, none⟩)) rfl (by kernel_rfl) (by kernel_rfl) (by kernel_rfl) (fun _ _ _ h => h) trivial ⟨fun _ => rfl, .inl ⟨by rfl, fun W' hW' => (by go_simp)⟩⟩ ?_
      refine anyS_pair 7 11 (by kernel_rfl) trivial ?p7 ?p11
      case p7 =>
        refine wpOpIn_step rfl fun K7 hK7 => ?_
        go_simp
        refine hK7 _ _ ?_
        clear hK7
        refine anyS_one 11 rfl (by kernel_rfl) trivial ?_
        refine wpOpIn_step rfl fun K11 hK11 => ?_
        go_simp
        refine hK11 _ _ ?_
        clear hK11
        refine anyS_one 12 rfl (by kernel_rfl) trivial ?_
        refine wpOpIn_step rfl fun K12 hK12 => ?_
        go_simp
        refine hK12 _ _ ?_
        clear hK12
        refine anyS_one 13 rfl (by kernel_rfl) trivial ?_
        refine wpOpIn_step rfl fun K13 hK13 => ?_
        go_simp
        refine hK13 _ _ ?_
        clear hK13
        clear hcx hcy hfx hfy
        refine anyS_one 14 rfl (by kernel_rfl) trivial ?_
        refine wpOpIn_step rfl fun K14 hK14 => ?_
        go_simp
        refine hK14 _ _ ?_
        clear hK14
        refine anyS_one 15 rfl (by kernel_rfl) trivial ?_
        refine wpOpIn_step rfl fun K15 hK15 => ?_
        go_simp
        refine hK15 _ _ ?_
        clear hK15
        refine anyS_done (by kernel_rfl) trivial ?_
        gi_wp2
        go_roundw
        case rel => exact ⟨k + 1, by omega, by go_num, by go_num, HC2.out, ⟨HO2.out.os, HO2.out.tape, HO2.out.output, HO2.out.size, HO2.out.block⟩⟩
        case measure => simp [intOf] <;> omega
      case p11 =>
        refine wpOpIn_step rfl fun K11 hK11 => ?_
        go_simp
        refine hK11 _ _ ?_
        clear hK11
        refine anyS_one 7 rfl (by kernel_rfl) trivial ?_
        refine wpOpIn_step rfl fun K7 hK7 => ?_
        go_simp
        refine hK7 _ _ ?_
        clear hK7
        refine anyS_one 12 rfl (by kernel_rfl) trivial ?_
        refine wpOpIn_step rfl fun K12 hK12 => ?_
        go_simp
        refine hK12 _ _ ?_
        clear hK12
        refine anyS_one 13 rfl (by kernel_rfl) trivial ?_
        refine wpOpIn_step rfl fun K13 hK13 => ?_
        go_simp
        refine hK13 _ _ ?_
        clear hK13
        clear hcx hcy hfx hfy
        refine anyS_one 14 rfl (by kernel_rfl) trivial ?_
        refine wpOpIn_step rfl fun K14 hK14 => ?_
        go_simp
        refine hK14 _ _ ?_
        clear hK14
        refine anyS_one 15 rfl (by kernel_rfl) trivial ?_
        refine wpOpIn_step rfl fun K15 hK15 => ?_
        go_simp
        refine hK15 _ _ ?_
        clear hK15
        refine anyS_done (by kernel_rfl) trivial ?_
        gi_wp2
        go_roundw
        case rel => exact ⟨k + 1, by omega, by go_num, by go_num, HC2.out, ⟨HO2.out.os, HO2.out.tape, HO2.out.output, HO2.out.size, HO2.out.block⟩⟩
        case measure => simp [intOf] <;> omega
    · have hlt' : ¬ (k : Int) < (ys.length : Int) - 1 - (k : Int) := by omega
      have HR : Hid (revTo ys k = ys.reverse) := revTo_all ys hlt hk
      gi_wp2
      go_end0
      refine ⟨rfl, Cells.iw (by rw [← HR.out]; exact HC.out) (by rw [List.length_reverse]) hb1 hb2 (by rw [HO.out.size]; exact hs) hl (fun z hz => HZ.out z (List.mem_reverse.1 hz)), HO.out⟩

/-! ### entries of a list that lies between other things -/
/-- The blocks from lo up to below hi lie as they lay. -/
structure KeepM (lo hi : Nat) (w w' : World) : Prop where
  size : w.heap.size ≤ w'.heap.size
  block : ∀ k, lo ≤ k → k < hi → w'.heap[k]? = w.heap[k]?
theorem KeepM.trans {lo hi : Nat} {a b c : World} (h : KeepM lo hi a b) (k : KeepM lo hi b c) : KeepM lo hi a c := ⟨Nat.le_trans h.1 k.1, fun i h1 h2 => (k.2 i h1 h2).trans (h.2 i h1 h2)⟩
theorem IR.keepM {w w' : World} {lo hi : Nat} {A : Option Addr} {zs : List Int} (h : IR w lo hi A zs) (k : KeepM lo hi w w') : IR w' lo hi A zs := h.keep k.size fun _ h1 h2 => World.cell?_of_block (k.block _ h1 h2)
theorem keepM_b {lo hi : Nat} {w : World} (hn : hi ≤ w.heap.size) (W : World) (l : Nat) (o o' : Obj) (hl : w.heap.size ≤ l) (h : W.heap[l]? = some o) (h1 : o.isCells = false) (h2 : o.isWalk = false) : KeepM lo hi W (W.putObj l o') := by
  have b := belowK_b (n₀ := w.heap.size) (w := w) (Nat.le_refl _) W l o o' hl h h1 h2
  exact ⟨b.size, fun k _ hk => b.block k (by omega)⟩

set_option maxRecDepth 100000 in
set_option maxHeartbeats 1000000 in
theorem entries1_mid (F : Fence) (n : Nat) (hF : F.fn 74) (hro : F.round = none) (hn : 1 ≤ n) (l Bn lo hi c : Nat) (A : Option Addr) (zs : List Int) (J Jx : List (Fin zs.length) → World → Prop)
    (hY : ∀ pre x W, J pre W → pre.length < zs.length → YieldAt F (n - 1) Try.prog l #[.int .i64 ((x : Fin zs.length) : Nat), .int .i64 zs[x]] W fun e W' =>
      (e = .returned (.bool true) ∧ J (pre ++ [x]) W' ∧ KeepM lo hi W W') ∨ (e = .returned (.bool false) ∧ Jx (pre ++ [x]) W'))
    (W : World) (hBn : W.cell? ⟨Bn, 0, none⟩ = some (.slice A zs.length c)) (hL : IR W lo hi A zs) (h0 : J [] W) :
    CallsIn F n Try.prog 74 #[.func (.yield l) #[] #[], .pointer (some ⟨Bn, 0, none⟩)] W fun e W' => (∃ v, e = .returned v) ∧
      ((∃ ys, ys = List.finRange zs.length ∧ J ys W') ∨ (∃ pre, True ∧ Jx pre W')) := by
  have hl := hL.1
  refine callsIn_of_wp Try.func74 rfl hF ?_ hro
  simp only [Try.ntmps74, List.size_toArray, List.length_cons, List.length_nil, Nat.reduceAdd, Nat.reduceSub, Array.replicate_succ, Array.replicate_zero, List.push_toArray, List.append_toArray, List.nil_append, List.cons_append]
  gi_wp2
  gi_loopw [7] (fun i wr => ∃ k : Nat, k ≤ zs.length ∧ i = .int .i64 k ∧ IR wr lo hi A zs ∧ J ((List.finRange zs.length).take k) wr)
    (fun i _ => zs.length - (intOf i).toNat)
  case atStart => exact ⟨0, Nat.zero_le _, rfl, hL, by simpa using h0⟩
  case round =>
    obtain ⟨k, hk, rfl, hR, hJ⟩ := hrel
    by_cases hlt : k < zs.length
    · have HR := Lib.hid hR
      obtain ⟨b, off, rfl, _, _, hc⟩ := hR.at_ hlt
      clear hR
      have hlt' : (k : Int) < (zs.length : Int) := by omega
      obtain ⟨fn, tmps, assign, body, hy, hYR⟩ := hY ((List.finRange zs.length).take k) ⟨k, hlt⟩ wr hJ (by simp; omega)
      simp only [Fin.getElem_fin] at hy
      gi_wp2
      refine hYR.mono ?_
      rintro e W3 (⟨rfl, hJ3, hk3⟩ | ⟨rfl, hJx3⟩)
      · have HJ := Lib.hid hJ3; have HK := Lib.hid hk3
        clear hJ3 hk3 hYR hJ
        gi_wp2
        go_roundw
        case rel => exact ⟨k + 1, by omega, by go_num, HR.out.keepM HK.out, by rw [← finRange_succ hlt]; exact HJ.out⟩
        case measure => simp [intOf]; omega
      · have HJ := Lib.hid hJx3
        clear hJx3 hYR hJ
        gi_wp2
        refine bodyPost_ret (results_none rfl _ _ _) rfl ?_
        exact ⟨⟨_, rfl⟩, .inr ⟨_, trivial, HJ.out⟩⟩
    · obtain rfl : k = zs.length := by omega
      have HJ := Lib.hid hJ
      clear hJ
      gi_wp2
      go_end0
      exact ⟨⟨_, rfl⟩, .inl ⟨_, rfl, by have := HJ.out; rwa [List.take_of_length_le (by simp)] at this⟩⟩


theorem entries_mid (F : Fence) (n : Nat) (hF : F.fn 74) (hro : F.round = none) (hn : 1 ≤ n) (Bn lo hi c : Nat) (A : Option Addr) (zs : List Int) (w : World) (hBn : Bn < w.heap.size) (hh : hi ≤ w.heap.size)
    (hc : w.cell? ⟨Bn, 0, none⟩ = some (.slice A zs.length c)) (hL : IR w lo hi A zs) :
    SeqStopsK F n Try.prog 74 #[.pointer (some ⟨Bn, 0, none⟩)] (fun x : Fin zs.length => #[.int .i64 ((x : Nat) : Int), .int .i64 zs[x]]) (KeepM lo hi) (fun ys => ys = List.finRange zs.length) (fun _ => True) zs.length w := fun l J Jx W hW _ _ hY h0 =>
  entries1_mid F n hF hro hn l Bn lo hi c A zs J Jx hY W ((hW.cell (p := ⟨Bn, 0, none⟩) hBn).trans hc) (hL.below hW hh) h0

set_option maxHeartbeats 1000000 in
theorem falling_any (A : Option Addr) (c : Nat) (zs : List Int) (w : World) (h : IR w 0 w.heap.size A zs) (hr : rowB zs = true) :
    Calls Try.prog 40 #[.slice A zs.length c] w (RetS w (downL zs)) := by
  have hl := (rowB_true.1 hr).2
  have HL : Hid (0 < zs.length ∧ zs.length ≤ 1000) := by show _ ∧ _; omega
  have HE : Hid ((zs.mergeSort fun x y => decide (x ≤ y)).reverse = downL zs) := rfl
  have HML : Hid ((zs.mergeSort fun x y => decide (x ≤ y)).length = zs.length) := List.length_mergeSort _
  have H := Lib.hid h
  clear h hr
  go_enter Try.func40, Try.ntmps40
  go_wp2_with fail
  refine (values_any _ _ _ _).mono ?_
  rintro e w' ⟨rfl, rfl⟩
  have hb1 : Below w.heap.size w (w.alloc (.cells #[.slice A zs.length c] 43)) := (Below.refl _ w).alloc (Nat.le_refl _) _
  have hcV : (w.alloc (.cells #[.slice A zs.length c] 43)).cell? ⟨w.heap.size, 0, none⟩ = some (.slice A zs.length c) := by
    rw [World.cell?_alloc_at _ _ _ _ rfl]; rfl
  have hsz : w.heap.size < (w.alloc (.cells #[.slice A zs.length c] 43)).heap.size := by simp
  obtain ⟨W1, hW1⟩ : ∃ W1, w.alloc (.cells #[.slice A zs.length c] 43) = W1 := ⟨_, rfl⟩
  rw [hW1] at hb1 hcV hsz
  rw [hW1]
  have B1 := Lib.hid hb1; have HC := Lib.hid hcV
  have H1 := Lib.hid (H.out.grow hb1)
  clear hW1 hb1 hcV
  go_wp2_with fail
  refine (sortedValues_any _ c w.heap.size zs HL.out.2 W1 hsz HC.out H1.out.toAll).mono ?_
  rintro e w2 ⟨A2, c2, rfl, hi2, hb2⟩
  have B2 := Lib.hid (below_then B1.out (Nat.le_refl _) hb2); have I2 := Lib.hid hi2
  clear hi2 hb2
  obtain ⟨ys, hys⟩ : ∃ ys, (zs.mergeSort fun x y => decide (x ≤ y)) = ys := ⟨_, rfl⟩
  rw [hys] at I2 HE HML
  rw [hys]
  clear hys
  go_wp2_with fail
  refine (reverseInts_any A2 c2 _ _ ys _ (by rw [HML.out]; exact HL.out.1) I2.out).mono ?_
  rintro e w3 ⟨rfl, hi3, ho3⟩
  have I3 := Lib.hid hi3; have B3 := Lib.hid (below_only B2.out ho3 (by omega)); have S3 := Lib.hid ho3.size
  clear hi3 ho3
  go_wp2
  go_ret
  rw [HE.out] at I3
  exact ⟨A2, c2, by rw [down_len, ← HML.out]; rfl, I3.out.wide (by omega) (by rw [S3.out]; exact Nat.le_refl _) (Nat.le_refl _), B3.out⟩
end Go.Proofs.Ytkghpmjbclnojab

namespace Go.Proofs.Ytkghpmjbclnojab
open Go.RowKit Go.Shelf Go.ChangeShapes Go.WideShapes
attribute [local go_sem] Oper.semAt_some

/-- Behind an append to the list in the box B, which lies below the list's own blocks. -/
theorem box_push_lo {W w1 : World} {B base : Nat} {v v' : Value} {zs zs' : List Int} (hv : Boxed W B 23 v) (ho : OwnI W base v zs) (hB : B < base) (ho1 : OwnI w1 base v' zs') (hg : W.grownBy w1 v.ownBlock) :
    Boxed w1 B 23 v ∧ BoxOwn (w1.setCell ⟨B, 0, none⟩ v') B base zs' ∧ KeepsOthers W (w1.setCell ⟨B, 0, none⟩ v') ∧ (∀ k, k < base → k ≠ B → (w1.setCell ⟨B, 0, none⟩ v').heap[k]? = W.heap[k]?) ∧ Below B W (w1.setCell ⟨B, 0, none⟩ v') := by
  have hne : ∀ k, k < base → some k ≠ v.ownBlock := fun k hk e => by have := (ho.1.lt k e.symm).1; omega
  have hv1 : Boxed w1 B 23 v := hv.kept hg (hne B hB)
  have hs := ho.2.2
  refine ⟨hv1, ⟨v', hv1.set v', ho1.setOut hB v'⟩, ?_, fun k hk hkB => ?_, ?_⟩
  · refine (KeepsOthers.of_grownBy hg fun j o ej hj => ?_).trans (KeepsOthers.setCell _ _ _)
    rcases ho.1.2 with ⟨rfl, _⟩ | ⟨g, cap, cur, rfl, _, hgb, _⟩
    · simp [Value.ownBlock] at ej
    · obtain rfl : g = j := by simpa [Value.ownBlock] using ej
      rw [hgb] at hj; cases hj; rfl
  · exact (Below.heap_setCell w1 ⟨B, 0, none⟩ v' k hkB).trans (hg.block k (by omega) (hne k hk))
  · exact ((Below.refl B W).grown hg (by omega) fun k hk => by have := (ho.1.lt k hk).1; omega).setCell (p := ⟨B, 0, none⟩) (Nat.le_refl _) v'

theorem wpListIn_pushG {F : Fence} {n : Nat} {ops : Array Oper} {rest : List Oper} {o : Oper} {a : Act} {W : World} {y : Int} {Q : Exit → Act → World → Prop} {G : Nat} (hG : G = W.heap.size) (hgd : o.guard = none) (s x : Operand)
    (ho : o.op = .call { callee := .builtin .append, args := #[s, x], argTypes := #[23, 23] })
    (base : Nat) (v : Value) (zs : List Int) (hs : a.eval s = v) (hx : a.eval x = .slice (some ⟨G, 0, none⟩) 1 1) (hown : OwnI W base v zs)
    (hl : zs.length < 17592186044416) (hy : I64 y)
    (h : ∀ v' w', OwnI w' base v' (zs ++ [y]) → W.grownBy w' v.ownBlock → wpListIn F n Try.prog ops Q rest (a.put o.dst v') w') : wpListIn F n Try.prog ops Q (o :: rest) a (W.alloc (.cells #[.int .i64 y] 3)) := by
  subst hG
  exact wpListIn_push hgd s x ho base v zs hs hx hown hl hy h

/-- Sums of beginnings. -/
def prefS : Int → List Int → List Int
  | _, [] => []
  | s, x :: l => (s + x) :: prefS (s + x) l
theorem prefS_len : ∀ (l : List Int) (s : Int), (prefS s l).length = l.length
  | [], _ => rfl
  | x :: l, s => by simp only [prefS, List.length_cons]; rw [prefS_len l]
theorem prefS_snoc (x : Int) : ∀ (l : List Int) (s : Int), prefS s (l ++ [x]) = prefS s l ++ [s + sumL l + x]
  | [], s => by simp [prefS, sumL]
  | y :: l, s => by
    simp only [List.cons_append, prefS, sumL]
    rw [prefS_snoc x l (s + y), show s + y + sumL l + x = s + (y + sumL l) + x by omega]
theorem prefS_getD : ∀ (l : List Int) (s : Int) (k : Nat), k < l.length → (prefS s l).getD k 0 = s + sumL (l.take (k + 1))
  | x :: l, s, 0, _ => by simp [prefS, sumL]
  | x :: l, s, k + 1, h => by
    have := prefS_getD l (s + x) k (by simpa using h)
    simp only [prefS, List.take_succ_cons, sumL, List.getD_cons_succ]
    rw [this]; omega
  | [], _, _, h => by simp at h
theorem sum_bd : ∀ l : List Int, (∀ z, z ∈ l → -1000 ≤ z ∧ z ≤ 1000) → -1000 * (l.length : Int) ≤ sumL l ∧ sumL l ≤ 1000 * (l.length : Int)
  | [], _ => by simp [sumL]
  | x :: l, h => by
    have ih := sum_bd l fun z hz => h z (by simp [hz])
    have := h x (by simp)
    simp only [sumL, List.length_cons]
    omega
def topsL (zs : List Int) : List Int := prefS 0 (downL zs)
theorem topsL_len (zs : List Int) : (topsL zs).length = zs.length := by unfold topsL; rw [prefS_len, down_len]
theorem topsL_getD (zs : List Int) {k : Nat} (hk : k < zs.length) : (topsL zs).getD k 0 = topS zs (k + 1) := by
  unfold topsL topS
  rw [prefS_getD _ _ _ (by rw [down_len]; exact hk)]; omega
theorem sumL_snoc (l : List Int) (x : Int) : sumL (l ++ [x]) = sumL l + x := by rw [sumL_append]; simp [sumL]

set_option maxRecDepth 100000 in
set_option maxHeartbeats 2000000 in
theorem tops_any (A : Option Addr) (c : Nat) (zs : List Int) (w : World) (h : IR w 0 w.heap.size A zs) (hr : rowB zs = true) :
    Calls Try.prog 61 #[.slice A zs.length c] w (RetS w (topsL zs)) := by
  have HX : Hid ((downL zs).length = zs.length) := down_len zs
  have hl := (rowB_true.1 hr).2
  have HB := Lib.hid (rowB_true.1 (down_row hr)).1
  have HT : Hid (topsL zs = prefS 0 (downL zs)) := rfl
  have H := Lib.hid h; have HR := Lib.hid hr
  clear h hr
  refine (callsIn_wide (n := 6)).1 ?_
  refine callsIn_of_wp_marks Try.func61 rfl trivial ?_ rfl
  simp only [Try.ntmps61, List.size_toArray, List.length_cons, List.length_nil, Nat.reduceAdd, Nat.reduceSub, Array.replicate_succ, Array.replicate_zero, List.push_toArray, List.append_toArray, List.nil_append, List.cons_append]
  gi_wp2_with fail
  have b1 := (Boxed.new w 3 (.int .i64 0)).alloc (.cells #[.slice none 0 0] 23)
  have b2 := Boxed.new (w.alloc (.cells #[.int .i64 0] 3)) 23 (.slice none 0 0)
  rw [World.size_alloc] at b2
  have hb1 : Below w.heap.size w ((w.alloc (.cells #[.int .i64 0] 3)).alloc (.cells #[.slice none 0 0] 23)) := ((Below.refl _ w).alloc (Nat.le_refl _) _).alloc (by simp) _
  obtain ⟨W1, hW1⟩ : ∃ W1, (w.alloc (.cells #[.int .i64 0] 3)).alloc (.cells #[.slice none 0 0] 23) = W1 := ⟨_, rfl⟩
  have hs1 : W1.heap.size = w.heap.size + 2 := by rw [← hW1]; simp
  rw [hW1] at b1 b2 hb1
  rw [hW1]
  clear hW1
  refine ⟨trivial, ?_⟩
  gi_at_call 40
  refine (callsIn_wide.2 (falling_any A c zs W1 (H.out.grow hb1).toAll HR.out)).mono ?_
  rintro e W2 ⟨A2, c2, rfl, i2, bb2⟩
  replace b1 := boxed_below b1 bb2
  replace b2 := boxed_below b2 bb2
  have hs2 := bb2.size
  have B2 := below_then hb1 (Nat.le_refl _) bb2
  obtain ⟨X, hX⟩ : ∃ X, downL zs = X := ⟨_, rfl⟩
  rw [hX] at HX HB HT i2
  rw [hX]
  clear hX hb1 bb2
  gi_wp2_with (refine ⟨trivial, ?_⟩; gi_at_call 48; refine (entries_in _ _ trivial rfl _ _ _ _).mono ?_; rintro e w' ⟨rfl, rfl⟩)
  have hb3 : Below W2.heap.size W2 (W2.alloc (.cells #[.slice A2 X.length c2] 43)) := (Below.refl _ W2).alloc (Nat.le_refl _) _
  have hbox : (W2.alloc (.cells #[.slice A2 X.length c2] 43)).cell? ⟨W2.heap.size, 0, none⟩ = some (.slice A2 X.length c2) := by
    rw [World.cell?_alloc_at _ _ _ _ rfl]; rfl
  obtain ⟨W3, hW3⟩ : ∃ W3, W2.alloc (.cells #[.slice A2 X.length c2] 43) = W3 := ⟨_, rfl⟩
  have hs3 : W3.heap.size = W2.heap.size + 1 := by rw [← hW3]; simp
  rw [hW3] at hb3 hbox
  rw [hW3]
  clear hW3
  have hR3 : IR W3 W1.heap.size W3.heap.size A2 X := (i2.toIR.below hb3 (Nat.le_refl _)).wide (Nat.le_refl _) (by omega) (Nat.le_refl _)
  replace b1 := boxed_below b1 hb3
  replace b2 := boxed_below b2 hb3
  have B3 := Lib.hid (B2.trans (hb3.mono (by omega)))
  clear i2 hb3 B2
  apply (fun a₁ => wpIn_rangeFunc_ownF (F := Fence.wide) rfl (by decide) (gf := 74) (lb := #[.pointer (some ⟨W2.heap.size, 0, none⟩)]) rfl trivial (enters_of Try.func74 (by kernel_rfl) rfl)
    (entries_mid Fence.wide (6 - 1) trivial rfl (by decide) W2.heap.size W1.heap.size W3.heap.size c2 A2 X W3 (by omega) (Nat.le_refl _) hbox hR3) (fun h k => h.trans k) (keepM_b (Nat.le_refl _)) (Below.refl _ _) (fun _ => rfl)
    (fun pre W => Boxed W w.heap.size 3 (.int .i64 (sumL (valsP X pre))) ∧ ((BoxOwn W (w.heap.size + 1) W3.heap.size (prefS 0 (valsP X pre)) ∧ W3.heap.size ≤ W.heap.size) ∧ Below w.heap.size W3 W))
    (fun _ _ _ => False)
    (OwnFrom.and (Own.from (boxed_own _ _ _) _) (OwnFrom.and (boxOwn_own _ _ _ _) (ownFrom_below (by omega) (by omega))))
    (fun _ _ _ _ _ hs _ _ => hs)
    ⟨b1, ⟨⟨_, b2, OwnI.nil _ _ (Nat.le_refl _)⟩, Nat.le_refl _⟩, Below.refl _ _⟩ a₁)
  case hassign =>
    intro l x W K hK
    gi_wp2
    exact hK
  case hbody =>
    rintro l pre x W ⟨hM, ⟨⟨v, hv, ho⟩, hWs⟩, hBW⟩ hlt
    have g1 := sum_bd (valsP X pre) fun z hz => HB.out z (valsP_mem hz)
    have g2 := HB.out _ (List.getElem_mem x.2)
    rw [valsP_len] at g1
    have hlen : pre.length < 12 := by have := HX.out; omega
    have HS1 : Hid (sumL (valsP X (pre ++ [x])) = sumL (valsP X pre) + X[x.1]) := by show _ = _; rw [valsP_snoc, sumL_snoc]
    have HS2 : Hid (prefS 0 (valsP X (pre ++ [x])) = prefS 0 (valsP X pre) ++ [sumL (valsP X pre) + X[x.1]]) := by show _ = _; rw [valsP_snoc, prefS_snoc, Int.zero_add]
    have HLP : Hid ((prefS 0 (valsP X pre)).length < 17592186044416) := by show _ < _; rw [prefS_len, valsP_len]; omega
    obtain ⟨T, hT⟩ : ∃ T, sumL (valsP X pre) = T := ⟨_, rfl⟩
    obtain ⟨y, hy⟩ : ∃ y, X[x.1] = y := ⟨_, rfl⟩
    rw [hT] at g1 hM HS1 HS2
    rw [hy] at g2 HS1 HS2
    have HY : Hid (X[x.1] = y) := hy
    clear hT hy
    have s1 : IntKind.i64.wrap (T + y) = T + y := IntWalk.i64_in _ (by omega)
    have HYI : Hid (I64 (T + y)) := ⟨by omega, by omega⟩
    have cM := hM.cell; have fM := hM.frozen
    have hM2 := hM.set (.int .i64 (T + y))
    have cM2 := hM2.cell
    have hvS : Boxed (W.setCell ⟨w.heap.size, 0, none⟩ (.int .i64 (T + y))) (w.heap.size + 1) 23 v := (Below.heap_setCell W ⟨w.heap.size, 0, none⟩ _ (w.heap.size + 1) (by show w.heap.size + 1 ≠ w.heap.size; omega)).trans hv
    have hoS : OwnI (W.setCell ⟨w.heap.size, 0, none⟩ (.int .i64 (T + y))) W3.heap.size v (prefS 0 (valsP X pre)) := ho.setOut (by omega) _
    have cV := hvS.cell
    have hB1 : Below w.heap.size W (W.setCell ⟨w.heap.size, 0, none⟩ (.int .i64 (T + y))) := (Below.refl _ W).setCell (p := ⟨w.heap.size, 0, none⟩) (Nat.le_refl _) _
    have hK1 : KeepsOthers W (W.setCell ⟨w.heap.size, 0, none⟩ (.int .i64 (T + y))) := KeepsOthers.setCell _ _ _
    have hk1 : ∀ k, k ≠ w.heap.size → (W.setCell ⟨w.heap.size, 0, none⟩ (.int .i64 (T + y))).heap[k]? = W.heap[k]? := fun k hk => Below.heap_setCell W ⟨w.heap.size, 0, none⟩ _ k hk
    have HM2 := Lib.hid hM2; have HVS := Lib.hid hvS; have HOS := Lib.hid hoS; have HB1 := Lib.hid hB1; have HK1 := Lib.hid hK1; have Hk1 := Lib.hid hk1; have HBW := Lib.hid hBW; have HWs := Lib.hid hWs
    clear hM2 hvS hoS hB1 hK1 hk1 hBW hM hv ho hWs
    simp only [HY.out]
    gi_wp2_with (gi_at_builtin; refine wpListIn_pushG (by simp [World.setCell]) rfl _ _ rfl W3.heap.size _ _ rfl rfl HOS.out HLP.out HYI.out ?_; intro v' w1 ho1 hg1; obtain ⟨g', cap', rfl⟩ := ownI_some ho1; obtain ⟨hv1, hv2, hk2, hkk, hb2⟩ := box_push_lo HVS.out HOS.out (by omega) ho1 hg1; have hc1 := hv1.cell; have hf1 := hv1.frozen)
    have hsz := (HB1.out.trans (hb2.mono (by omega))).size
    refine ⟨HK1.out.trans hk2, ⟨hsz, fun k h1 h2 => (hkk k h2 (by omega)).trans (Hk1.out k (by omega))⟩, ?_, ⟨?_, by have := HWs.out; omega⟩, HBW.out.trans (HB1.out.trans (hb2.mono (by omega)))⟩
    · rw [HS1.out]
      exact (hkk w.heap.size (by omega) (by omega)).trans HM2.out
    · rw [HS2.out]
      exact hv2
  case hdone =>
    rintro D ys W hD rfl ⟨-, ⟨⟨v, hv, ho⟩, hWs⟩, hBW⟩ hK
    rw [valsP_all, ← HT.out] at ho
    have cV := hv.cell
    have HO := Lib.hid ho; have HBW := Lib.hid (B3.out.trans (hBW.mono (Nat.le_refl _))); have HV := Lib.hid hv
    clear ho hv hBW
    gi_wp2
    refine ⟨by simp, .inl ⟨_, _, rfl, run_takeDeferred hK, ?_⟩⟩
    obtain ⟨A', c', rfl, hi⟩ := (ownI_putObj HO.out (.deferred none) hK rfl).iw (by rw [topsL_len]; omega)
    have bb := HBW.out.trans (belowK_b (w := w) (Nat.le_refl _) W D _ (.deferred none) (by omega) hK rfl rfl)
    exact ⟨_, results_tmp rfl _ _ _, A', c', rfl, hi.wide (by omega) (Nat.le_refl _) (Nat.le_refl _), bb⟩
  case hstop =>
    rintro D cd pre W _ _ h _
    exact h.elim
end Go.Proofs.Ytkghpmjbclnojab

namespace Go.Proofs.Ytkghpmjbclnojab
open Go.RowKit

theorem topsOf_false (A0 : Option Addr) (c0 : Nat) (a : List Int) (A1 : Option Addr) (c1 : Nat) (b : List Int) (w : World) (h0 : IR w 0 w.heap.size A0 a) (h1 : IR w 0 w.heap.size A1 b) (ht : twoB a b = false) :
    Calls Try.prog 33 #[.slice A0 a.length c0, .slice A1 b.length c1] w fun e w' => e = .returned (.tuple #[.slice none 0 0, .slice none 0 0, .bool false]) ∧ Below w.heap.size w w' := by
  have H0 := Lib.hid h0; have H1 := Lib.hid h1; have HT := Lib.hid ht
  clear h0 h1 ht
  go_enter Try.func33, Try.ntmps33
  go_wp2_with fail
  refine (isAlike_any _ _ a _ _ b _ _ _ _ _ H0.out H1.out).mono ?_; rintro e w3 ⟨rfl, b3⟩
  rw [HT.out]
  have B3 := Lib.hid b3; clear b3
  go_wp2
  go_ret3
  exact ⟨rfl, B3.out⟩

set_option maxRecDepth 100000 in
set_option maxHeartbeats 1000000 in
theorem topsOf_true (A0 : Option Addr) (c0 : Nat) (a : List Int) (A1 : Option Addr) (c1 : Nat) (b : List Int) (w : World) (h0 : IR w 0 w.heap.size A0 a) (h1 : IR w 0 w.heap.size A1 b) (ht : twoB a b = true) :
    Calls Try.prog 33 #[.slice A0 a.length c0, .slice A1 b.length c1] w fun e w' => ∃ A2 c2 A3 c3, e = .returned (.tuple #[.slice A2 a.length c2, .slice A3 a.length c3, .bool (sumL a == sumL b)]) ∧ IR w' w.heap.size w'.heap.size A2 (topsL a) ∧ IR w' w.heap.size w'.heap.size A3 (topsL b) ∧ Below w.heap.size w w' := by
  have H0 := Lib.hid h0; have H1 := Lib.hid h1; have HT := Lib.hid ht
  obtain ⟨r0, r1, hl⟩ := twoB_true ht
  have hla := (rowB_true.1 r0).2
  have R0 := Lib.hid r0; have R1 := Lib.hid r1
  have HX : Hid ((topsL a).length = a.length) := topsL_len a
  have HY : Hid ((topsL b).length = a.length) := (topsL_len b).trans hl.symm
  have HXL : Hid ((topsL a).getD (a.length - 1) 0 = sumL a) := by
    show _ = _; rw [topsL_getD a (by omega), show a.length - 1 + 1 = a.length by omega, topS_all]
  have HYL : Hid ((topsL b).getD (a.length - 1) 0 = sumL b) := by
    show _ = _; rw [topsL_getD b (by omega), show a.length - 1 + 1 = b.length by omega, topS_all]
  have HLB := Lib.hid hl
  clear h0 h1 ht r0 r1 hl
  go_enter Try.func33, Try.ntmps33
  go_wp2_with fail
  refine (isAlike_any _ _ a _ _ b _ _ _ _ _ H0.out H1.out).mono ?_; rintro e w1 ⟨rfl, b1⟩
  rw [HT.out]
  replace H0 := Lib.hid (H0.out.grow b1); replace H1 := Lib.hid (H1.out.grow b1)
  have B1 := Lib.hid b1; clear b1
  go_wp2_with fail
  refine (tops_any A0 c0 a _ H0.out.toAll R0.out).mono ?_
  rintro e w2 ⟨A2, c2, rfl, i2, b2⟩
  replace H1 := Lib.hid (H1.out.below b2 B1.out.size)
  have I2 := Lib.hid i2; have B2 := Lib.hid (below_then B1.out (Nat.le_refl _) b2)
  clear i2 b2
  go_wp2_with fail
  refine (tops_any A1 c1 b _ H1.out.toAll R1.out).mono ?_
  rintro e w3 ⟨A3, c3, rfl, i3, b3⟩
  replace I2 := Lib.hid (I2.out.toIR.grow b3)
  have I3 := Lib.hid i3; have B3 := Lib.hid (below_then B2.out (Nat.le_refl _) b3)
  have S3 := Lib.hid b3.size
  clear i3 b3
  have hp : a.length - 1 < (topsL a).length := by rw [HX.out]; omega
  have hq : a.length - 1 < (topsL b).length := by rw [HY.out]; omega
  obtain ⟨ba, oa, rfl, _, _, hca⟩ := I2.out.at_ hp
  obtain ⟨bb, ob, rfl, _, _, hcb⟩ := I3.out.toIR.at_ hq
  rw [← getD_in hp, HXL.out] at hca
  rw [← getD_in hq, HYL.out] at hcb
  rw [HX.out, HY.out]
  obtain ⟨n, hn⟩ : ∃ n, a.length = n := ⟨_, rfl⟩
  rw [hn] at hca hcb hla
  rw [hn]
  have hne : ((n : Int) - 1).toNat = n - 1 := by omega
  have n0 : (0 : Int) ≤ (n : Int) - 1 := by omega
  have n1 : (n : Int) - 1 < (n : Int) := by omega
  have s1 : IntKind.i64.wrap ((n : Int) - 1) = (n : Int) - 1 := IntWalk.i64_in _ (by omega)
  clear hp hq
  go_wp2
  go_quiet (fail)
  go_wp2
  go_ret3
  exact ⟨some ⟨ba, oa, none⟩, c2, some ⟨bb, ob, none⟩, c3, by rw [hn]; rfl, (I2.out.wide B1.out.size S3.out (Nat.le_refl _)).drewN _, (I3.out.toIR.wide B2.out.size (Nat.le_refl _) (Nat.le_refl _)).drewN _, below_drawN B3.out _⟩

set_option maxRecDepth 100000 in
set_option maxHeartbeats 1000000 in
theorem implEvenIs_any (A0 : Option Addr) (c0 : Nat) (a : List Int) (A1 : Option Addr) (c1 : Nat) (b : List Int) (w : World) (h0 : IR w 0 w.heap.size A0 a) (h1 : IR w 0 w.heap.size A1 b) :
    Calls Try.prog 11 #[.slice A0 a.length c0, .slice A1 b.length c1] w fun e w' => e = .returned (.bool (evenIsB a b)) ∧ Below w.heap.size w w' := by
  have H0 := Lib.hid h0; have H1 := Lib.hid h1
  clear h0 h1
  cases ht : twoB a b with
  | false =>
    have HM : Hid (evenIsB a b = false) := by show _ = _; unfold evenIsB; rw [ht]; rfl
    have HT := Lib.hid ht; clear ht
    go_enter Try.func11, Try.ntmps11
    go_wp2_with fail
    refine (topsOf_false _ _ a _ _ b _ H0.out H1.out HT.out).mono ?_; rintro e w1 ⟨rfl, b1⟩
    have B1 := Lib.hid b1; clear b1
    go_wp2
    go_ret
    exact ⟨ret_bool HM.out.symm, B1.out⟩
  | true =>
    have HM : Hid (evenIsB a b = evB a b) := by show _ = _; unfold evenIsB; rw [ht]; rfl
    obtain ⟨r0, r1, hl⟩ := twoB_true ht
    have HT := Lib.hid ht
    have hla := (rowB_true.1 r0).2
    have HL := Lib.hid hl
    have HX : Hid ((topsL a).length = a.length) := topsL_len a
    have HY : Hid ((topsL b).length = a.length) := (topsL_len b).trans hl.symm
    clear ht r0 r1 hl
    cases hs : (sumL a == sumL b) with
    | false =>
      have HE : Hid (evB a b = false) := by
        show _ = _; unfold evB; rw [decide_eq_false (by simpa using hs)]; rfl
      have HS := Lib.hid hs; clear hs
      go_enter Try.func11, Try.ntmps11
      go_wp2_with fail
      refine (topsOf_true _ _ a _ _ b _ H0.out H1.out HT.out).mono ?_; rintro e w1 ⟨A2, c2, A3, c3, rfl, -, -, b1⟩
      rw [HS.out]
      have B1 := Lib.hid b1; clear b1
      go_wp2
      go_ret
      exact ⟨ret_bool (by rw [HM.out, HE.out]), B1.out⟩
    | true =>
      have HSE : Hid (sumL a = sumL b) := by show _ = _; simpa using hs
      have HS := Lib.hid hs; clear hs
      obtain ⟨n, hn⟩ : ∃ n, a.length = n := ⟨_, rfl⟩
      have HN := Lib.hid hn
      rw [hn] at HX HY hla
      clear hn
      go_enter Try.func11, Try.ntmps11
      go_wp2_with fail
      refine (topsOf_true _ _ a _ _ b _ H0.out H1.out HT.out).mono ?_; rintro e w1 ⟨A2, c2, A3, c3, rfl, i2, i3, b1⟩
      rw [HS.out, HN.out]
      have B1 := Lib.hid b1; have I2 := Lib.hid i2; have I3 := Lib.hid i3; clear b1 i2 i3
      go_wp2
      go_loop [21] (fun i => ∃ k : Nat, k ≤ n ∧ i = .int .i64 (k : Int) ∧ Hid (∀ j, j ≤ k → topS a j ≤ topS b j)) (fun i => n - (intOf i).toNat)
      case atStart => exact ⟨0, Nat.zero_le _, rfl, Lib.hid (fun j hj => by rw [show j = 0 by omega, topS_zero, topS_zero]; exact Int.le_refl _)⟩
      case round =>
        obtain ⟨k, hk, rfl, hall⟩ := hrel
        by_cases hlt : k < n
        · have hx : k < (topsL a).length := by rw [HX.out]; exact hlt
          have hy : k < (topsL b).length := by rw [HY.out]; exact hlt
          obtain ⟨ba, oa, rfl, _, _, hca⟩ := I2.out.at_ hx
          obtain ⟨bb, ob, rfl, _, _, hcb⟩ := I3.out.at_ hy
          have hlt' : (k : Int) < (n : Int) := by omega
          have t1 := topsL_getD a (k := k) (by rw [HN.out]; exact hlt)
          have t2 := topsL_getD b (k := k) (by rw [← HL.out, HN.out]; exact hlt)
          rw [getD_in hx] at t1
          rw [getD_in hy] at t2
          have HNO := Lib.hid (fun h => ev_no (a := a) (b := b) (k := k + 1) (by rw [HN.out]; omega) h)
          rw [t1] at hca
          rw [t2] at hcb
          have HD1 : Hid (topS a (k + 1) = sumL ((downL a).take (k + 1))) := rfl
          have HD2 : Hid (topS b (k + 1) = sumL ((downL b).take (k + 1))) := rfl
          obtain ⟨x, hxx⟩ : ∃ x, topS a (k + 1) = x := ⟨_, rfl⟩
          obtain ⟨y, hyy⟩ : ∃ y, topS b (k + 1) = y := ⟨_, rfl⟩
          have HXX := Lib.hid hxx; have HYY := Lib.hid hyy
          rw [hxx] at hca HD1
          rw [hyy] at hcb HD2
          clear t1 t2 hxx hyy hx hy
          by_cases hgt : y < x
          · have HE := Lib.hid (HNO.out (by rw [← HD1.out, ← HD2.out]; exact hgt))
            go_wp2
            go_ret
            exact ⟨ret_bool (by rw [HM.out, HE.out]), B1.out⟩
          · go_wp2
            go_round
            case rel => exact ⟨k + 1, by omega, by go_num, Lib.hid (fun j hj => by
              by_cases e : j = k + 1
              · subst e; rw [HXX.out, HYY.out]; omega
              · exact hall.out j (by omega))⟩
            case measure => simp [intOf]; omega
        · obtain rfl : k = n := by omega
          have HE : Hid (evB a b = true) := by
            have h := ev_end (a := a) (b := b) HL.out (by rw [HN.out]; exact hall.out)
            show _ = _
            rw [h, down_sum, show sumL ((downL b).take a.length) = sumL b by rw [HL.out]; exact down_sum b]
            exact HS.out
          go_wp2
          go_ret
          exact ⟨ret_bool (by rw [HM.out, HE.out]), B1.out⟩

set_option maxRecDepth 100000 in
set_option maxHeartbeats 2000000 in
theorem implEvenMeet_any (A0 : Option Addr) (c0 : Nat) (a : List Int) (A1 : Option Addr) (c1 : Nat) (b : List Int) (w : World) (h0 : IR w 0 w.heap.size A0 a) (h1 : IR w 0 w.heap.size A1 b) :
    Calls Try.prog 30 #[.slice A0 a.length c0, .slice A1 b.length c1] w (RetSB w (meetM a b)) := by
  have H0 := Lib.hid h0; have H1 := Lib.hid h1
  clear h0 h1
  cases ht : twoB a b with
  | false =>
    have HM := Lib.hid (meet_no ht)
    have HT := Lib.hid ht; clear ht
    go_enter Try.func30, Try.ntmps30
    go_wp2_with fail
    refine (topsOf_false _ _ a _ _ b _ H0.out H1.out HT.out).mono ?_; rintro e w1 ⟨rfl, b1⟩
    have B1 := Lib.hid b1; clear b1
    go_wp2
    go_ret2
    rw [HM.out]
    exact retSB_none B1.out
  | true =>
    obtain ⟨r0, r1, hl⟩ := twoB_true ht
    have HT := Lib.hid ht
    have hla := (rowB_true.1 r0).2
    have HL := Lib.hid hl
    have R0 := Lib.hid r0; have R1 := Lib.hid r1
    have HX : Hid ((topsL a).length = a.length) := topsL_len a
    have HY : Hid ((topsL b).length = a.length) := (topsL_len b).trans hl.symm
    have HML : Hid ((meetL a b).length = a.length) := meet_len a b
    clear r0 r1 hl
    cases hs : (sumL a == sumL b) with
    | false =>
      have HM := Lib.hid (meet_no2 (a := a) (b := b) (by simpa using hs))
      have HS := Lib.hid hs; clear hs ht
      go_enter Try.func30, Try.ntmps30
      go_wp2_with fail
      refine (topsOf_true _ _ a _ _ b _ H0.out H1.out HT.out).mono ?_; rintro e w1 ⟨A2, c2, A3, c3, rfl, -, -, b1⟩
      rw [HS.out]
      have B1 := Lib.hid b1; clear b1
      go_wp2
      go_ret2
      rw [HM.out]
      exact retSB_none B1.out
    | true =>
      have HM := Lib.hid (meet_yes ht (by simpa using hs))
      have HRM := Lib.hid (meet_row ht (by simpa using hs))
      have HS := Lib.hid hs; clear hs ht
      obtain ⟨n, hn⟩ : ∃ n, a.length = n := ⟨_, rfl⟩
      have HN := Lib.hid hn
      rw [hn] at HX HY HML hla
      have hmk := run_makeInts n (by omega)
      clear hn
      go_enter Try.func30, Try.ntmps30
      go_wp2_with fail
      refine (topsOf_true _ _ a _ _ b _ H0.out H1.out HT.out).mono ?_; rintro e w1 ⟨A2, c2, A3, c3, rfl, i2, i3, b1⟩
      rw [HS.out, HN.out]
      have B1 := Lib.hid b1; have I2 := Lib.hid i2; have I3 := Lib.hid i3; clear b1 i2 i3
      go_wp2
      go_loopw [10, 28] (fun d i wr => ∃ k : Nat, k ≤ n ∧ i = .int .i64 (k : Int) ∧ d = .int .i64 (meetTo a b k) ∧ Cells wr w1.heap.size 0 (fillTo (meetL a b) k) ∧ Below w1.heap.size w1 wr ∧ w1.heap.size < wr.heap.size) (fun _ i _ => n - (intOf i).toNat)
      case atStart => exact ⟨0, Nat.zero_le _, rfl, by unfold meetTo; rw [topS_zero, topS_zero]; rfl, by rw [fillTo_zero, HML.out]; exact Cells.made w1 n _, (Below.refl _ _).alloc (Nat.le_refl _) _, by simp⟩
      case round =>
        obtain ⟨k, hk, rfl, rfl, hc, hb, hsz⟩ := hrel
        have HC := Lib.hid hc; have HB := Lib.hid hb
        clear hc hb
        by_cases hlt : k < n
        · have hx : k < (topsL a).length := by rw [HX.out]; exact hlt
          have hy : k < (topsL b).length := by rw [HY.out]; exact hlt
          have hm : k < (meetL a b).length := by rw [HML.out]; exact hlt
          obtain ⟨ba, oa, rfl, _, _, hca⟩ := (I2.out.below HB.out I2.out.2.2.1).at_ hx
          obtain ⟨bb, ob, rfl, _, _, hcb⟩ := (I3.out.below HB.out I3.out.2.2.1).at_ hy
          have hlt' : (k : Int) < (n : Int) := by omega
          have t1 := topsL_getD a (k := k) (by rw [HN.out]; exact hlt)
          have t2 := topsL_getD b (k := k) (by rw [← HL.out, HN.out]; exact hlt)
          rw [getD_in hx] at t1
          rw [getD_in hy] at t2
          rw [t1] at hca
          rw [t2] at hcb
          have g1 := topS_bd R0.out (k := k) (by rw [HN.out]; exact hk)
          have g2 := topS_bd R1.out (k := k) (by rw [← HL.out, HN.out]; exact hk)
          have g3 := topS_bd R0.out (k := k + 1) (by rw [HN.out]; exact hlt)
          have g4 := topS_bd R1.out (k := k + 1) (by rw [← HL.out, HN.out]; exact hlt)
          have hmk0 : meetTo a b k = min (topS a k) (topS b k) := rfl
          have hmk1 : meetTo a b (k + 1) = min (topS a (k + 1)) (topS b (k + 1)) := rfl
          have hmv := meet_getD a b (k := k) (by rw [HN.out]; exact hlt)
          rw [getD_in hm] at hmv
          have hcm := HC.out.fillAt hm
          have HN2 := Lib.hid (HC.out.fill hm)
          rw [hmv, hmk1] at HN2
          obtain ⟨hc2, hc3⟩ := hcm
          rw [Nat.zero_add] at hc2 hc3 HN2
          obtain ⟨D, hD⟩ : ∃ D, meetTo a b k = D := ⟨_, rfl⟩
          rw [hD] at hmk0 HN2
          rw [hD]
          obtain ⟨x, hxx⟩ : ∃ x, topS a (k + 1) = x := ⟨_, rfl⟩
          obtain ⟨y, hyy⟩ : ∃ y, topS b (k + 1) = y := ⟨_, rfl⟩
          rw [hxx] at hca g3 HN2 hmk1
          rw [hyy] at hcb g4 HN2 hmk1
          have HM1 := Lib.hid hmk1
          have s3 : IntKind.i64.wrap (min x y - D) = min x y - D := IntWalk.i64_in _ (by omega)
          clear t1 t2 hxx hyy hx hy hmv hmk0 hmk1 hD
          go_wp2
          go_roundw
          case rel => exact ⟨k + 1, by omega, by go_num, by rw [HM1.out], HN2.out, HB.out.setCell (Nat.le_refl _) _, by simpa [World.setCell] using hsz⟩
          case measure => simp [intOf]; omega
        · obtain rfl : k = n := by omega
          have hc := HC.out
          rw [show fillTo (meetL a b) k = meetL a b by rw [← HML.out]; exact fillTo_all _] at hc
          have HI := Lib.hid (hc.iw HML.out (Nat.le_refl _) hsz (Nat.le_refl _) (by omega) (fun z hz => i64_of_fits ((rowB_true.1 HRM.out).1 z hz)))
          clear hc
          go_wp2
          go_ret2
          rw [HM.out]
          exact retSB_some HML.out.symm (HI.out.wide B1.out.size (Nat.le_refl _) (Nat.le_refl _)) (B1.out.trans (HB.out.mono B1.out.size))
end Go.Proofs.Ytkghpmjbclnojab

namespace Go.Proofs.Ytkghpmjbclnojab
open Go.RowKit Go.Shelf Go.ChangeShapes Go.WideShapes
attribute [local go_sem] Oper.semAt_some

theorem evenL_none (n : Nat) (q : Int) : evenL n q 0 = List.replicate n q := by
  apply List.ext_getElem
  · simp [evenL]
  · intro i h1 h2
    simp [evenL]
    omega
theorem evenL_get (n : Nat) (q r : Int) (i : Nat) (h : i < (evenL n q r).length) : (evenL n q r)[i] = if (i : Int) < r then q + 1 else q := by simp [evenL]
theorem evenL_set (n : Nat) (q : Int) (k : Nat) : (evenL n q (k : Int)).set k (q + 1) = evenL n q ((k : Int) + 1) := by
  apply List.ext_getElem
  · simp [evenL]
  · intro i h1 h2
    rw [List.getElem_set, evenL_get, evenL_get]
    by_cases e : k = i
    · subst e; rw [if_pos rfl, if_pos (by omega)]
    · rw [if_neg e]
      by_cases c : (i : Int) < (k : Int)
      · rw [if_pos c, if_pos (by omega)]
      · rw [if_neg c, if_neg (by omega)]

set_option maxRecDepth 100000 in
set_option maxHeartbeats 2000000 in
theorem mostEven_any (A : Option Addr) (c : Nat) (a : List Int) (w : World) (h : IR w 0 w.heap.size A a) (ra : rowB a = true) :
    Calls Try.prog 45 #[.slice A a.length c] w (RetS w (mostEv a)) := by
  have hlb := (rowB_true.1 ra).2
  have hq := most_q ra
  have hr := most_r (a := a) (by omega)
  have hs := row_sum ra
  have HB := Lib.hid (rowB_true.1 ra).1
  have HQ : Hid (sumL a / (a.length : Int) = mostQ a) := rfl
  have HRR : Hid (sumL a - mostQ a * (a.length : Int) = mostR a) := rfl
  have H := Lib.hid h; have RA := Lib.hid ra
  have HML : Hid (mostEv a = evenL a.length (mostQ a) (mostR a)) := rfl
  clear h ra
  refine (callsIn_wide (n := 6)).1 ?_
  refine callsIn_of_wp_marks Try.func45 rfl trivial ?_ rfl
  simp only [Try.ntmps45, List.size_toArray, List.length_cons, List.length_nil, Nat.reduceAdd, Nat.reduceSub, Array.replicate_succ, Array.replicate_zero, List.push_toArray, List.append_toArray, List.nil_append, List.cons_append]
  gi_wp2_with (refine ⟨trivial, ?_⟩; gi_at_call 48; refine (entries_in _ _ trivial rfl _ _ _ _).mono ?_; rintro e w' ⟨rfl, rfl⟩)
  have b1 := (Boxed.new w 3 (.int .i64 0)).alloc (.cells #[.slice A a.length c] 43)
  have hb1 : Below w.heap.size w ((w.alloc (.cells #[.int .i64 0] 3)).alloc (.cells #[.slice A a.length c] 43)) := ((Below.refl _ w).alloc (Nat.le_refl _) _).alloc (by simp) _
  have hbox : ((w.alloc (.cells #[.int .i64 0] 3)).alloc (.cells #[.slice A a.length c] 43)).cell? ⟨w.heap.size + 1, 0, none⟩ = some (.slice A a.length c) := by
    rw [World.cell?_alloc_at _ _ _ _ (by simp)]; rfl
  obtain ⟨W1, hW1⟩ : ∃ W1, (w.alloc (.cells #[.int .i64 0] 3)).alloc (.cells #[.slice A a.length c] 43) = W1 := ⟨_, rfl⟩
  have hs1 : W1.heap.size = w.heap.size + 2 := by rw [← hW1]; simp
  rw [hW1] at b1 hb1 hbox
  rw [hW1]
  clear hW1
  have hR1 : IR W1 0 w.heap.size A a := H.out.below hb1 (Nat.le_refl _)
  have B1 := Lib.hid hb1
  clear hb1
  apply (fun a₁ => wpIn_rangeFunc_ownF (F := Fence.wide) rfl (by decide) (gf := 74) (lb := #[.pointer (some ⟨w.heap.size + 1, 0, none⟩)]) rfl trivial (enters_of Try.func74 (by kernel_rfl) rfl)
    (entries_stops Fence.wide (6 - 1) trivial rfl (by decide) (w.heap.size + 1) w.heap.size c A a W1 (by omega) (by omega) hbox hR1) belowK_t (belowK_b (by omega)) (Below.refl _ _) (fun _ => rfl)
    (fun pre W => Boxed W w.heap.size 3 (.int .i64 (sumL (valsP a pre))) ∧ Below w.heap.size W1 W)
    (fun _ _ _ => False)
    (OwnFrom.and (Own.from (boxed_own _ _ _) _) (ownFrom_below (by omega) (by omega)))
    (fun _ _ _ _ _ hs _ _ => hs)
    ⟨b1, Below.refl _ _⟩ a₁)
  case hassign =>
    intro l x W K hK
    gi_wp2
    exact hK
  case hbody =>
    rintro l pre x W ⟨hM, hBW⟩ hlt
    have g1 := sum_bd (valsP a pre) fun z hz => HB.out z (valsP_mem hz)
    have g2 := HB.out _ (List.getElem_mem x.2)
    rw [valsP_len] at g1
    have HS1 : Hid (sumL (valsP a (pre ++ [x])) = sumL (valsP a pre) + a[x.1]) := by show _ = _; rw [valsP_snoc, sumL_snoc]
    obtain ⟨T, hT⟩ : ∃ T, sumL (valsP a pre) = T := ⟨_, rfl⟩
    obtain ⟨y, hy⟩ : ∃ y, a[x.1] = y := ⟨_, rfl⟩
    rw [hT] at g1 hM HS1
    rw [hy] at g2 HS1
    have HY : Hid (a[x.1] = y) := hy
    clear hT hy
    have s1 : IntKind.i64.wrap (T + y) = T + y := IntWalk.i64_in _ (by omega)
    have cM := hM.cell; have fM := hM.frozen
    have HM2 := Lib.hid (hM.set (.int .i64 (T + y)))
    have HBW := Lib.hid hBW
    clear hM hBW
    simp only [HY.out]
    gi_wp2
    exact ⟨KeepsOthers.setCell _ _ _, (Below.refl _ W).setCell (p := ⟨w.heap.size, 0, none⟩) (Nat.le_refl _) _, by rw [HS1.out]; exact HM2.out, HBW.out.setCell (p := ⟨w.heap.size, 0, none⟩) (Nat.le_refl _) _⟩
  case hdone =>
    rintro D ys W hD rfl ⟨hM, hBW⟩ hK
    rw [valsP_all] at hM
    obtain ⟨q, hqq⟩ : ∃ q, mostQ a = q := ⟨_, rfl⟩
    obtain ⟨r, hrr⟩ : ∃ r : Nat, mostR a = (r : Int) := ⟨(mostR a).toNat, by omega⟩
    obtain ⟨m, hm⟩ : ∃ m, a.length = m := ⟨_, rfl⟩
    obtain ⟨S, hS⟩ : ∃ S, sumL a = S := ⟨_, rfl⟩
    rw [hqq, hrr, hm] at HML
    rw [hqq] at HQ hq
    rw [hqq, hrr] at HRR
    rw [hm] at HQ HRR hr hlb
    rw [hrr] at hr
    rw [hS] at HQ HRR hs hM
    have HM := Lib.hid hm
    have t1 : IntKind.i64.wrap (q * (m : Int)) = q * (m : Int) := IntWalk.i64_in _ (by have := HRR.out; omega)
    have t2 : IntKind.i64.wrap (S - q * (m : Int)) = (r : Int) := by rw [IntWalk.i64_in _ (by have := HRR.out; omega)]; exact HRR.out
    have BB := Lib.hid (B1.out.trans (hBW.mono (Nat.le_refl _)))
    have hSW := hBW.size
    have cM := hM.cell
    rw [hm]
    have HK := Lib.hid hK; have HMB := Lib.hid hM
    have hDl : D < W.heap.size := (Array.getElem?_eq_some_iff.1 hK).1
    clear hqq hrr hm hS hK hM hBW
    gi_wp2_with fail
    refine ⟨trivial, ?_⟩
    gi_at_call 70
    refine (callsIn_wide.2 (floorDivide_any S (m : Int) (by omega) (by omega) (by omega) (by omega) _)).mono ?_
    rintro e w1 ⟨rfl, rfl⟩
    rw [HQ.out]
    gi_wp2_with fail
    have hcq : (W.alloc (.cells #[.int .i64 q] 3)).cell? ⟨W.heap.size, 0, none⟩ = some (.int .i64 q) := by
      rw [World.cell?_alloc_at _ _ _ _ rfl]; rfl
    have hb2 : Below W.heap.size W (W.alloc (.cells #[.int .i64 q] 3)) := (Below.refl _ _).alloc (Nat.le_refl _) _
    obtain ⟨W2, hW2⟩ : ∃ W2, W.alloc (.cells #[.int .i64 q] 3) = W2 := ⟨_, rfl⟩
    have hs2 : W2.heap.size = W.heap.size + 1 := by rw [← hW2]; simp
    rw [hW2] at hcq hb2
    rw [hW2]
    clear hW2
    refine ⟨trivial, ?_⟩
    gi_at_call 71
    refine (callsIn_wide.2 (repeat_any W.heap.size 0 1 m q W2 (by omega) hcq (by omega) (by omega))).mono ?_
    rintro e W3 ⟨rfl, hc3, hs3, hb3⟩
    have hb13 := hb2.trans (hb3.mono (by omega))
    rw [← evenL_none] at hc3
    have BB3 := Lib.hid (BB.out.trans (hb13.mono (by omega)))
    have cM3 := (boxed_below HMB.out hb13).cell
    have HK3 : Hid (W3.heap[D]? = some (.deferred (some []))) := (hb13.block D hDl).trans HK.out
    have HC3 := Lib.hid hc3
    have HS23 := Lib.hid hb3.size
    have HS2 := Lib.hid hs2
    clear hs2 hc3 hb3 hb2 hcq hb13 cM HMB HK BB
    gi_wp2
    gi_loopw [31] (fun i wr => ∃ k : Nat, k ≤ r ∧ i = .int .i64 (k : Int) ∧ Cells wr W2.heap.size 0 (evenL m q (k : Int)) ∧ Below W2.heap.size W3 wr ∧ W3.heap.size ≤ wr.heap.size) (fun i _ => r - (intOf i).toNat)
    case atStart => exact ⟨0, Nat.zero_le _, rfl, HC3.out, Below.refl _ _, Nat.le_refl _⟩
    case round =>
      obtain ⟨k, hk, rfl, hc, hb, hsz⟩ := hrel
      have HC := Lib.hid hc; have HBk := Lib.hid hb; have HSk := Lib.hid hsz
      clear hc hb hsz HC3
      by_cases hlt : k < r
      · have hlt' : (k : Int) < (r : Int) := by omega
        have hkm : k < m := by omega
        have hkm' : (k : Int) < (m : Int) := by omega
        have hkl : k < (evenL m q (k : Int)).length := by rw [evenL_len]; exact hkm
        obtain ⟨hc1, hc2⟩ := HC.out k hkl
        rw [evenL_get, if_neg (by omega), Nat.zero_add] at hc1
        rw [Nat.zero_add] at hc2
        have HN := Lib.hid (HC.out.set_ k hkl (q + 1))
        rw [evenL_set, Nat.zero_add] at HN
        have s3 : IntKind.i64.wrap (q + 1) = q + 1 := IntWalk.i64_in _ (by omega)
        clear hkl
        gi_wp2
        go_roundw
        case rel => exact ⟨k + 1, by omega, by go_num, HN.out, HBk.out.setCell (Nat.le_refl _) _, by have := HSk.out; simpa [World.setCell] using this⟩
        case measure => simp [intOf]; omega
      · obtain rfl : k = r := by omega
        have HI := Lib.hid (HC.out.iw (n := m) (lo := W2.heap.size) (hi := wr.heap.size) (evenL_len _ _ _) (Nat.le_refl _) (by have := HSk.out; have := HS23.out; omega) (Nat.le_refl _) (by omega) (fun z hz => by
          have := evenL_mem hz
          exact ⟨by omega, by omega⟩))
        have hs2 := HS2.out
        have HKr : Hid (wr.heap[D]? = some (.deferred (some []))) := (HBk.out.block D (by omega)).trans HK3.out
        have BBr := Lib.hid (BB3.out.trans (HBk.out.mono (by omega)))
        clear HC hs2
        gi_wp2
        have hs2 := HS2.out
        refine ⟨by simp, .inl ⟨_, _, rfl, run_takeDeferred HKr.out, ?_⟩⟩
        have bb := BBr.out.trans (belowK_b (w := w) (Nat.le_refl _) wr D _ (.deferred none) (by omega) HKr.out rfl rfl)
        have hi := HI.out.keep (grownBy_putObj' wr D (.deferred none)).size (fun k' h1 h2 => (grownBy_putObj' wr D (.deferred none)).block k' h2 (by simp; omega))
        rw [← HML.out] at hi
        exact ⟨_, results_tmp rfl _ _ _, some ⟨W2.heap.size, 0, none⟩, m, by rw [most_len, HM.out]; rfl, hi.wide (by omega) (by simp [World.putObj]) (Nat.le_refl _), bb⟩
  case hstop =>
    rintro D cd pre W _ _ h _
    exact h.elim

set_option maxHeartbeats 400000 in
theorem implEvenMost_any (A : Option Addr) (c : Nat) (a : List Int) (w : World) (h : IR w 0 w.heap.size A a) :
    Calls Try.prog 18 #[.slice A a.length c] w (RetSB w (mostM a)) := by
  have H := Lib.hid h; clear h
  cases hr : rowB a with
  | false =>
    have HM : Hid (mostM a = none) := by show _ = _; simp [mostM, hr]
    have HR := Lib.hid hr; clear hr
    go_enter Try.func18, Try.ntmps18
    go_wp2_with fail
    refine (implRowIn_any _ _ a _ H.out).mono ?_; rintro e w1 ⟨rfl, b1⟩
    rw [HR.out]
    have B1 := Lib.hid b1; clear b1
    go_wp2
    go_ret2
    rw [HM.out]
    exact retSB_none B1.out
  | true =>
    have HM : Hid (mostM a = some (mostEv a)) := by show _ = _; simp [mostM, hr]
    have HR := Lib.hid hr; clear hr
    go_enter Try.func18, Try.ntmps18
    go_wp2_with fail
    refine (implRowIn_any _ _ a _ H.out).mono ?_; rintro e w1 ⟨rfl, b1⟩
    rw [HR.out]
    replace H := Lib.hid (H.out.grow b1)
    have B1 := Lib.hid b1; clear b1
    go_wp2_with fail
    refine (mostEven_any _ _ a _ H.out.toAll HR.out).mono ?_; rintro e w2 ⟨A2, c2, rfl, hi, hb⟩
    have HI := Lib.hid hi; have HB := Lib.hid hb; clear hi hb
    go_wp2
    go_ret2
    rw [HM.out]
    exact retSB_some rfl (HI.out.wide B1.out.size (Nat.le_refl _) (Nat.le_refl _)) (below_then B1.out (Nat.le_refl _) HB.out)

/-- The steps at the places that came. -/
def stP (X Y : List Int) (pre : List (Fin X.length)) : Int := sumL (pre.map fun x => max 0 (X[x.1] - Y.getD x.1 0))
theorem stP_snoc (X Y : List Int) (pre : List (Fin X.length)) (x : Fin X.length) : stP X Y (pre ++ [x]) = stP X Y pre + max 0 (X[x.1] - Y.getD x.1 0) := by
  unfold stP; rw [List.map_append, sumL_append]; simp [sumL]
theorem stP_take (X Y : List Int) : ∀ k, k ≤ X.length → stP X Y ((List.finRange X.length).take k) = sumN (fun i => max 0 (X.getD i 0 - Y.getD i 0)) k := by
  intro k
  induction k with
  | zero => intro _; rfl
  | succ k ih =>
    intro hk
    rw [← finRange_succ (show k < X.length by omega), stP_snoc, ih (by omega)]
    show _ = sumN _ k + max 0 (X.getD k 0 - Y.getD k 0)
    rw [getD_in (show k < X.length by omega)]
theorem stP_all (X Y : List Int) : stP X Y (List.finRange X.length) = sumN (fun i => max 0 (X.getD i 0 - Y.getD i 0)) X.length := by
  have := stP_take X Y X.length (Nat.le_refl _)
  rwa [List.take_of_length_le (by simp)] at this
theorem stP_bd {X Y : List Int} (hx : ∀ z, z ∈ X → -1000 ≤ z ∧ z ≤ 1000) (hy : ∀ k, k < X.length → -1000 ≤ Y.getD k 0 ∧ Y.getD k 0 ≤ 1000) : ∀ pre : List (Fin X.length), 0 ≤ stP X Y pre ∧ stP X Y pre ≤ 2000 * (pre.length : Int)
  | [] => by simp [stP, sumL]
  | x :: pre => by
    have ih := stP_bd hx hy pre
    have g1 := hx _ (List.getElem_mem x.2)
    have g2 := hy x.1 x.2
    have e : stP X Y (x :: pre) = max 0 (X[x.1] - Y.getD x.1 0) + stP X Y pre := by simp [stP, sumL]
    rw [e, List.length_cons]
    omega

set_option maxRecDepth 100000 in
set_option maxHeartbeats 2000000 in
theorem implEvenSteps_any (A : Option Addr) (c : Nat) (a : List Int) (w : World) (h : IR w 0 w.heap.size A a) :
    Calls Try.prog 24 #[.slice A a.length c] w fun e w' => e = .returned (.tuple #[.int .i64 (stepsV a), .bool (rowB a)]) ∧ Below w.heap.size w w' := by
  have H := Lib.hid h; clear h
  cases hr : rowB a with
  | false =>
    have HM : Hid (stepsV a = 0) := by show _ = _; simp [stepsV, hr]
    have HR := Lib.hid hr; clear hr
    go_enter Try.func24, Try.ntmps24
    go_wp2_with fail
    refine (isRow_any _ _ a _ H.out).mono ?_; rintro e w1 ⟨rfl, b1⟩
    rw [HR.out]
    have B1 := Lib.hid b1; clear b1
    go_wp2
    go_ret2
    rw [HM.out]
    exact ⟨rfl, B1.out⟩
  | true =>
    have HM : Hid (stepsV a = sumN (fun i => max 0 ((downL a).getD i 0 - (mostEv a).getD i 0)) a.length) := by show _ = _; simp [stepsV, hr, stepsL]
    have HXL : Hid ((downL a).length = a.length) := down_len a
    have HYL : Hid ((mostEv a).length = a.length) := most_len a
    have hlb := (rowB_true.1 hr).2
    have HXR := Lib.hid (rowB_true.1 (down_row hr)).1; have HYR := Lib.hid (rowB_true.1 (most_row hr)).1
    have HR := Lib.hid hr; clear hr
    refine (callsIn_wide (n := 6)).1 ?_
    refine callsIn_of_wp_marks Try.func24 rfl trivial ?_ rfl
    simp only [Try.ntmps24, List.size_toArray, List.length_cons, List.length_nil, Nat.reduceAdd, Nat.reduceSub, Array.replicate_succ, Array.replicate_zero, List.push_toArray, List.append_toArray, List.nil_append, List.cons_append]
    gi_wp2_with fail
    refine ⟨trivial, ?_⟩
    gi_at_call 47
    refine (callsIn_wide.2 (isRow_any _ _ a _ H.out)).mono ?_; rintro e w1 ⟨rfl, b1⟩
    rw [HR.out]
    replace H := Lib.hid (H.out.grow b1)
    have S1 := b1.size
    have B1 := Lib.hid b1; clear b1
    gi_wp2_with fail
    refine ⟨trivial, ?_⟩
    gi_at_call 45
    refine (callsIn_wide.2 (mostEven_any _ _ a _ H.out.toAll HR.out)).mono ?_; rintro e w2 ⟨AE, ce, rfl, hi, hb⟩
    replace H := Lib.hid (H.out.below hb S1)
    have S2 := hb.size
    have HE := Lib.hid hi.toIR; have B2 := Lib.hid (below_then B1.out (Nat.le_refl _) hb); clear hi hb
    obtain ⟨X, hX⟩ : ∃ X, downL a = X := ⟨_, rfl⟩
    obtain ⟨Y, hY⟩ : ∃ Y, mostEv a = Y := ⟨_, rfl⟩
    obtain ⟨m, hm⟩ : ∃ m, a.length = m := ⟨_, rfl⟩
    have HMM := Lib.hid hm; have HXX := Lib.hid hX
    rw [hX] at HM HXL HXR
    rw [hY] at HM HYL HYR HE
    rw [hm] at HM HXL HYL hlb
    rw [hY, HYL.out, hm]
    clear hX hY hm
    gi_wp2_with fail
    have b5 := (Boxed.new w2 43 (.slice AE m ce)).alloc (.cells #[.int .i64 0] 3)
    have b6 := Boxed.new (w2.alloc (.cells #[.slice AE m ce] 43)) 3 (.int .i64 0)
    rw [World.size_alloc] at b6
    have hb3 : Below w2.heap.size w2 ((w2.alloc (.cells #[.slice AE m ce] 43)).alloc (.cells #[.int .i64 0] 3)) := ((Below.refl _ w2).alloc (Nat.le_refl _) _).alloc (by simp) _
    obtain ⟨W3, hW3⟩ : ∃ W3, (w2.alloc (.cells #[.slice AE m ce] 43)).alloc (.cells #[.int .i64 0] 3) = W3 := ⟨_, rfl⟩
    have hs3 : W3.heap.size = w2.heap.size + 2 := by rw [← hW3]; simp
    rw [hW3] at b5 b6 hb3
    rw [hW3]
    clear hW3
    replace H := Lib.hid (H.out.below hb3 (by omega))
    replace HE := Lib.hid (HE.out.below hb3 (Nat.le_refl _))
    have B3 := Lib.hid (below_then B2.out (Nat.le_refl _) hb3)
    have HF := Lib.hid (falling_any A c a W3 H.out.toAll HR.out)
    rw [HMM.out, HXX.out] at HF
    clear hb3
    refine ⟨trivial, ?_⟩
    gi_at_call 40
    refine (callsIn_wide.2 HF.out).mono ?_
    rintro e W4 ⟨A4, c4, rfl, i4, bb4⟩
    rw [HXL.out]
    replace b5 := boxed_below b5 bb4
    replace b6 := boxed_below b6 bb4
    replace HE := Lib.hid (HE.out.below bb4 (by omega))
    have S4 := bb4.size
    have B4 := below_then B3.out (Nat.le_refl _) bb4
    clear bb4
    gi_wp2_with (refine ⟨trivial, ?_⟩; gi_at_call 48; refine (entries_in _ _ trivial rfl _ _ _ _).mono ?_; rintro e w' ⟨rfl, rfl⟩)
    have hb5 : Below W4.heap.size W4 (W4.alloc (.cells #[.slice A4 m c4] 43)) := (Below.refl _ W4).alloc (Nat.le_refl _) _
    have hbox : (W4.alloc (.cells #[.slice A4 m c4] 43)).cell? ⟨W4.heap.size, 0, none⟩ = some (.slice A4 m c4) := by
      rw [World.cell?_alloc_at _ _ _ _ rfl]; rfl
    obtain ⟨W5, hW5⟩ : ∃ W5, W4.alloc (.cells #[.slice A4 m c4] 43) = W5 := ⟨_, rfl⟩
    have hs5 : W5.heap.size = W4.heap.size + 1 := by rw [← hW5]; simp
    rw [hW5] at hb5 hbox
    rw [hW5]
    clear hW5
    have hR5 : IR W5 W3.heap.size W5.heap.size A4 X := (i4.toIR.below hb5 (Nat.le_refl _)).wide (Nat.le_refl _) (by omega) (Nat.le_refl _)
    replace b5 := boxed_below b5 hb5
    replace b6 := boxed_below b6 hb5
    replace HE := Lib.hid (HE.out.below hb5 (by omega))
    have B5 := Lib.hid (B4.trans (hb5.mono (by have := B4.size; omega)))
    have SW := B2.out.size
    rw [← HXL.out] at hbox
    clear i4 hb5 B4
    apply (fun a₁ => wpIn_rangeFunc_ownF (F := Fence.wide) rfl (by decide) (gf := 74) (lb := #[.pointer (some ⟨W4.heap.size, 0, none⟩)]) rfl trivial (enters_of Try.func74 (by kernel_rfl) rfl)
      (entries_mid Fence.wide (6 - 1) trivial rfl (by decide) W4.heap.size W3.heap.size W5.heap.size c4 A4 X W5 (by omega) (Nat.le_refl _) hbox hR5) (fun h k => h.trans k) (keepM_b (Nat.le_refl _)) (Below.refl _ _) (fun _ => rfl)
      (fun pre W => Boxed W (w2.heap.size + 1) 3 (.int .i64 (stP X Y pre)) ∧ Below (w2.heap.size + 1) W5 W)
      (fun _ _ _ => False)
      (OwnFrom.and (Own.from (boxed_own _ _ _) _) (ownFrom_below (by omega) (by omega)))
      (fun _ _ _ _ _ hs _ _ => hs)
      ⟨b6, Below.refl _ _⟩ a₁)
    case hassign =>
      intro l x W K hK
      gi_wp2
      exact hK
    case hbody =>
      rintro l pre x W ⟨hM, hBW⟩ hlt
      have hSW := hBW.size
      have hxm : x.1 < m := by have := x.2; rw [← HXL.out]; exact this
      have hyl : x.1 < Y.length := by rw [HYL.out]; exact hxm
      have hEW := HE.out.below hBW (by omega)
      obtain ⟨be, oe, e, hbe, _, hcy⟩ := hEW.at_ hyl
      have hbe' : be < w2.heap.size := by omega
      have g1 := stP_bd HXR.out (fun k hk => by
        have hk' : k < Y.length := by rw [HYL.out, ← HXL.out]; exact hk
        rw [getD_in hk']; exact HYR.out _ (List.getElem_mem hk')) pre
      have g2 := HXR.out _ (List.getElem_mem x.2)
      have g3 := HYR.out _ (List.getElem_mem hyl)
      have hsn := stP_snoc X Y pre x
      rw [getD_in hyl] at hsn
      have hpl : pre.length < 12 := by have := HXL.out; omega
      obtain ⟨T, hT⟩ : ∃ T, stP X Y pre = T := ⟨_, rfl⟩
      obtain ⟨xv, hxv⟩ : ∃ y, X[x.1] = y := ⟨_, rfl⟩
      obtain ⟨yv, hyv⟩ : ∃ y, Y[x.1] = y := ⟨_, rfl⟩
      rw [hT] at g1 hM hsn
      rw [hxv] at g2 hsn
      rw [hyv] at g3 hsn hcy
      have HXV : Hid (X[x.1] = xv) := hxv
      have HSN := Lib.hid hsn
      clear hT hxv hyv hsn
      have b5W : Boxed W w2.heap.size 43 (.slice AE m ce) := (hBW.block _ (by omega)).trans b5
      rw [e] at b5W
      have kE : ∀ {W' : World}, Below (w2.heap.size + 1) W W' → W'.cell? ⟨w2.heap.size, 0, none⟩ = some (.slice (some ⟨be, oe, none⟩) m ce) := fun hb => (hb.cell (p := ⟨w2.heap.size, 0, none⟩) (by show w2.heap.size < _; omega)).trans b5W.cell
      have kY : ∀ {W' : World}, Below (w2.heap.size + 1) W W' → W'.cell? ⟨be, oe + x.1, none⟩ = some (.int .i64 yv) := fun hb => (hb.cell (p := ⟨be, oe + x.1, none⟩) (by show be < _; omega)).trans hcy
      have s1 : IntKind.i64.wrap (xv - yv) = xv - yv := IntWalk.i64_in _ (by omega)
      have s2 : IntKind.i64.wrap (T + max 0 (xv - yv)) = T + max 0 (xv - yv) := IntWalk.i64_in _ (by omega)
      have hx0 : (0 : Int) ≤ ((x.1 : Nat) : Int) := by omega
      have hxm' : ((x.1 : Nat) : Int) < (m : Int) := by omega
      have cM := hM.cell; have fM := hM.frozen
      have HM2 := Lib.hid hM; have HBW := Lib.hid hBW
      clear hM hBW hEW hcy b5W
      simp only [HXV.out]
      gi_wp2
      refine region_anyS (fun W' => Below (w2.heap.size + 1) W W') (by kernel_rfl) ?_
      have hS0 : Below (w2.heap.size + 1) W W.drew := (Below.refl _ _).drew
      refine anyS_first 1 (v := .int .i64 xv) rfl (by kernel_rfl) (by kernel_rfl) (by kernel_rfl) (fun _ _ _ h => h) hS0 ⟨fun _ => rfl, .inl ⟨by rfl, fun W' hW' => (by go_simp)⟩⟩ ?_
      refine anyS_first 2 (v := .slice (some ⟨be, oe, none⟩) m ce) rfl (by kernel_rfl) (by kernel_rfl) (by kernel_rfl) (fun _ _ _ h => h) hS0 ⟨fun _ => rfl, .inl ⟨by rfl, fun W' hW' => (by have e1 := kE hW'; go_simp)⟩⟩ ?_
      refine anyS_first 3 (v := .int .i64 ((x.1 : Nat) : Int)) rfl (by kernel_rfl) (by kernel_rfl) (by kernel_rfl) (fun _ _ _ h => h) hS0 ⟨fun _ => rfl, .inl ⟨by rfl, fun W' hW' => (by go_simp)⟩⟩ ?_
      refine anyS_first 4 (v := .pointer (some ⟨be, oe + x.1, none⟩)) rfl (by kernel_rfl) (by kernel_rfl) (by kernel_rfl) (fun _ _ _ h => h) hS0 ⟨fun _ => rfl, .inl ⟨by rfl, fun W' hW' => (by go_simp)⟩⟩ ?_
      refine anyS_first 5 (v := .int .i64 yv) rfl (by kernel_rfl) (by kernel_rfl) (by kernel_rfl) (fun _ _ _ h => h) hS0 ⟨fun _ => rfl, .inl ⟨by rfl, fun W' hW' => (by have e1 := kY hW'; go_simp)⟩⟩ ?_
      refine anyS_first 6 (v := .int .i64 (xv - yv)) rfl (by kernel_rfl) (by kernel_rfl) (by kernel_rfl) (fun _ _ _ h => h) hS0 ⟨fun _ => rfl, .inl ⟨by rfl, fun W' hW' => (by go_simp)⟩⟩ ?_
      refine anyS_first 7 (v := .int .i64 (max 0 (xv - yv))) rfl (by kernel_rfl) (by kernel_rfl) (by kernel_rfl) (fun _ _ _ h => h) hS0 ⟨fun _ => rfl, .inl ⟨by rfl, fun W' hW' => (by go_simp)⟩⟩ ?_
      refine anyS_one 0 rfl (by kernel_rfl) hS0 ?_
      refine wpOpIn_step rfl fun K0 hK0 => ?_
      go_simp
      refine hK0 _ _ ?_
      clear hK0
      refine anyS_one 8 rfl (by kernel_rfl) hS0 ?_
      refine wpOpIn_step rfl fun K8 hK8 => ?_
      go_simp
      refine hK8 _ _ ?_
      clear hK8
      refine anyS_one 9 rfl (by kernel_rfl) hS0 ?_
      refine wpOpIn_step rfl fun K9 hK9 => ?_
      go_simp
      refine hK9 _ _ ?_
      clear hK9
      have hS9 : Below (w2.heap.size + 1) W (W.drew.setCell ⟨w2.heap.size + 1, 0, none⟩ (.int .i64 (T + max 0 (xv - yv)))) := hS0.setCell (p := ⟨w2.heap.size + 1, 0, none⟩) (Nat.le_refl _) _
      refine anyS_done (by kernel_rfl) hS9 ?_
      have hk9 : ∀ k, k ≠ w2.heap.size + 1 → (W.drew.setCell ⟨w2.heap.size + 1, 0, none⟩ (.int .i64 (T + max 0 (xv - yv)))).heap[k]? = W.heap[k]? := fun k hk => Below.heap_setCell W.drew ⟨w2.heap.size + 1, 0, none⟩ _ k hk
      exact ⟨(keeps_below (Below.refl _ W).drew).trans (KeepsOthers.setCell W.drew _ _), ⟨hS9.size, fun k h1 _ => hk9 k (by omega)⟩, by rw [HSN.out]; exact (show Boxed W.drew (w2.heap.size + 1) 3 (.int .i64 T) from HM2.out).set _, HBW.out.trans hS9⟩
    case hdone =>
      rintro D ys W hD rfl ⟨hM, hBW⟩ hK
      rw [stP_all, HXL.out, ← HM.out] at hM
      have cM := hM.cell
      have BB := Lib.hid (B5.out.trans (hBW.mono (by omega))); have HK := Lib.hid hK
      obtain ⟨y, hy⟩ : ∃ y, stepsV a = y := ⟨_, rfl⟩
      rw [hy] at cM
      have HY := Lib.hid hy
      clear hM hBW hK hy
      gi_wp2
      refine ⟨by simp, .inl ⟨_, _, rfl, run_takeDeferred HK.out, ?_⟩⟩
      refine ⟨.tuple #[.int .i64 y, .bool true], ?_, by rw [HY.out], BB.out.trans (belowK_b (w := w) (Nat.le_refl _) W D _ _ (by omega) HK.out rfl rfl)⟩
      simp [results, Try.f24, go_sem]
    case hstop =>
      rintro D cd pre W _ _ h _
      exact h.elim

set_option maxRecDepth 100000 in
set_option maxHeartbeats 2000000 in
theorem implEvenSum_any (A0 : Option Addr) (c0 : Nat) (f : List Int) (A1 : Option Addr) (c1 : Nat) (a : List Int) (w : World) (h0 : IR w 0 w.heap.size A0 f) (h1 : IR w 0 w.heap.size A1 a) :
    Calls Try.prog 13 #[.slice A0 f.length c0, .slice A1 a.length c1] w fun e w' => e = .returned (.tuple #[.int .i64 (evenSumL f a), .bool (atB f a)]) ∧ Below w.heap.size w w' := by
  have H0 := Lib.hid h0; have H1 := Lib.hid h1
  clear h0 h1
  have HNO : Hid (atB f a = false → evenSumL f a = 0) := fun h => by unfold evenSumL; rw [h]; rfl
  cases hb : (rowB f && bentB f) with
  | false =>
    have HM := Lib.hid (at_no1 (a := a) hb)
    have HB := Lib.hid hb; clear hb
    go_enter Try.func13, Try.ntmps13
    go_wp2_with fail
    refine (implBent_of _ _ _ _ f _ H0.out HB.out rfl).mono ?_; rintro e w1 ⟨rfl, b1⟩
    have B1 := Lib.hid b1; clear b1
    go_wp2
    go_ret2
    rw [HNO.out HM.out, HM.out]
    exact ⟨rfl, B1.out⟩
  | true =>
  have HB := Lib.hid hb
  cases ha : rowB a with
  | false =>
    have HM := Lib.hid (at_no2 (f := f) ha)
    have HA := Lib.hid ha; clear hb ha
    go_enter Try.func13, Try.ntmps13
    go_wp2_with fail
    refine (implBent_of _ _ _ _ f _ H0.out HB.out rfl).mono ?_; rintro e w1 ⟨rfl, b1⟩
    have B1 := Lib.hid b1; replace H1 := Lib.hid (H1.out.grow b1); clear b1
    go_wp2_with fail
    refine (implRowIn_any _ _ a _ H1.out.toAll).mono ?_; rintro e w2 ⟨rfl, b2⟩
    rw [HA.out]
    have B2 := Lib.hid (below_then B1.out (Nat.le_refl _) b2); clear b2
    go_wp2
    go_ret2
    rw [HNO.out HM.out, HM.out]
    exact ⟨rfl, B2.out⟩
  | true =>
    have hf : rowB f = true := by rw [Bool.and_eq_true] at hb; exact hb.1
    have HA := Lib.hid ha; have HF := Lib.hid hf
    have hlf := (rowB_true.1 hf).2; have hla := (rowB_true.1 ha).2
    have HY : Hid (atB f a = true → evenSumL f a = sumAt f a) := fun h => by unfold evenSumL; rw [h]; rfl
    clear hb ha hf
    go_enter Try.func13, Try.ntmps13
    go_wp2_with fail
    refine (implBent_of _ _ _ _ f _ H0.out HB.out rfl).mono ?_; rintro e w1 ⟨rfl, b1⟩
    have B1 := Lib.hid b1; replace H1 := Lib.hid (H1.out.grow b1); replace H0 := Lib.hid (H0.out.grow b1); clear b1
    go_wp2_with fail
    refine (implRowIn_any _ _ a _ H1.out.toAll).mono ?_; rintro e w2 ⟨rfl, b2⟩
    rw [HA.out]
    replace H1 := Lib.hid (H1.out.below b2 B1.out.size); replace H0 := Lib.hid (H0.out.below b2 B1.out.size)
    have B2 := Lib.hid (below_then B1.out (Nat.le_refl _) b2); clear b2
    go_wp2
    obtain ⟨n, hn⟩ : ∃ n, a.length = n := ⟨_, rfl⟩
    obtain ⟨m, hm⟩ : ∃ m, f.length = m := ⟨_, rfl⟩
    have HN := Lib.hid hn; have HM := Lib.hid hm
    rw [hm] at hlf
    rw [hn] at hla
    rw [hn, hm]
    clear hn hm
    go_loop [6, 19] (fun s i => ∃ k : Nat, k ≤ n ∧ i = .int .i64 (k : Int) ∧ s = .int .i64 (sumAt f (a.take k)) ∧ Hid (∀ j, j < k → inB 0 ((m : Int) - 1) (a.getD j 0) = true)) (fun _ i => n - (intOf i).toNat)
    case atStart => exact ⟨0, Nat.zero_le _, rfl, rfl, Lib.hid (fun j hj => by omega)⟩
    case round =>
      obtain ⟨k, hk, rfl, rfl, hall⟩ := hrel
      by_cases hlt : k < n
      · have hx : k < a.length := by rw [HN.out]; exact hlt
        have hlt' : (k : Int) < (n : Int) := by omega
        obtain ⟨ba, oa, rfl, _, _, hca⟩ := H1.out.at_ hx
        have e1 := sumAt_take f a hx
        have g1 := sumAt_bd HF.out (a.take k)
        have HD : Hid (a.getD k 0 = a[k]) := getD_in hx
        have HN3 := Lib.hid (fun h => at_no3 (f := f) (a := a) hx h)
        obtain ⟨x, hxx⟩ : ∃ x, a[k] = x := ⟨_, rfl⟩
        obtain ⟨T, hT⟩ : ∃ T, sumAt f (a.take k) = T := ⟨_, rfl⟩
        have hmin : ((a.take k).length : Int) ≤ 12 := by rw [List.length_take]; omega
        rw [hxx, hT] at e1
        rw [hxx] at hca HD HN3
        rw [hT] at g1
        rw [HM.out] at HN3
        rw [hT]
        cases hin : inB 0 ((m : Int) - 1) x with
        | false =>
          have HI := Lib.hid hin
          have HFA := Lib.hid (HN3.out hin)
          clear hin hxx hT e1
          go_wp2_with fail
          refine (isPlace_b false _ _ _ _ _ HI.out).mono ?_; rintro e w' ⟨rfl, rfl⟩
          go_wp2
          go_ret2
          rw [HNO.out HFA.out, HFA.out]
          exact ⟨rfl, B2.out⟩
        | true =>
          have HI := Lib.hid hin
          have hin' := inB_true.1 hin
          have hxm : x.toNat < f.length := by rw [HM.out]; omega
          obtain ⟨bf, of, rfl, _, _, hcf⟩ := H0.out.at_ hxm
          have g2 := row_getD HF.out _ hxm
          rw [getD_in hxm] at e1 g2
          obtain ⟨y, hyy⟩ : ∃ y, f[x.toNat] = y := ⟨_, rfl⟩
          rw [hyy] at e1 g2 hcf
          have HE1 := Lib.hid e1
          have x0 : 0 ≤ x := hin'.1
          have x1 : x < (m : Int) := by omega
          have s1 : IntKind.i64.wrap (T + y) = T + y := IntWalk.i64_in _ (by omega)
          clear hin hin' hxx hT e1 hyy hxm hx
          go_wp2_with fail
          refine (isPlace_b true _ _ _ _ _ HI.out).mono ?_; rintro e w' ⟨rfl, rfl⟩
          go_wp2
          go_round
          case rel => exact ⟨k + 1, by omega, by go_num, by rw [HE1.out], Lib.hid (fun j hj => by
            by_cases e : j = k
            · subst e; rw [HD.out]; exact HI.out
            · exact hall.out j (by omega))⟩
          case measure => simp [intOf]; omega
      · obtain rfl : k = n := by omega
        have HT := Lib.hid (at_yes HB.out HA.out (by rw [HN.out, HM.out]; exact hall.out))
        have HTK : Hid (a.take k = a) := by show _ = _; rw [← HN.out]; exact List.take_length
        rw [HTK.out]
        go_wp2
        go_ret2
        rw [HY.out HT.out, HT.out]
        exact ⟨rfl, B2.out⟩
end Go.Proofs.Ytkghpmjbclnojab
