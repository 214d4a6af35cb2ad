/-
  A table of the program as lists: slices.Clone, lists. Conditions: the entries are 64-bit numbers.
-/
import Derived.Test.YtlbimmhlijelfaaTbL
import Derived.Test.YtlbimmhlijelfaaLawT
import Derived.Test.YtlbimmhlijelfaaDraw2
namespace Go.Proofs.Ytlbimmhlijelfaa
open Go.RowKit Go.Shelf
attribute [local go_sem] Oper.semAt_some

set_option maxHeartbeats 1000000 in
set_option maxRecDepth 100000 in
theorem cloneInts_any (A : Option Addr) (c lo hi : Nat) (ys : List Int) (w : World) (hp : 0 < ys.length) (h : IR w lo hi A ys) :
    Calls Try.prog 69 #[.slice A ys.length c] w (RetSC w ys) := by
  obtain ⟨b, off, rfl, _, _, _⟩ := h.at_ hp
  have HC := Lib.hid (h.below ((Below.refl w.heap.size w).alloc (Nat.le_refl _) (.cells #[] 3)) h.2.2.1)
  have HLe : Hid (([] : List Int).length + ys.length ≤ 17592186044416) := by have := h.1; show _ ≤ _; simp; omega
  have hnil := fun (w : World) => Lib.run_eql_slice_nil (P := Try.prog) w _ _ (some ⟨b, off, none⟩) ys.length c 0 0 Try.underlying23
  clear h
  go_enter Try.func69, Try.ntmps69
  go_wp2_with (at_builtin; refine wpList_appendsI rfl _ _ rfl w.heap.size _ [] ys (some ⟨b, off, none⟩) lo hi ys.length c rfl rfl rfl (OwnI.made w) HC.out HLe.out ?_; intro v1 w1 ho1 hb1; have HO1 := Lib.hid ho1; have HB1 := Lib.hid hb1; clear ho1 hb1; obtain ⟨A1, c1, rfl, hi1, hcap⟩ := HO1.out.iwc (n := ys.length) (by simp) (by simpa using HLe.out); have HI1 := Lib.hid hi1; have HCP := Lib.hid hcap; clear hi1 hcap HO1)
  go_ret
  exact ⟨A1, c1, rfl, HCP.out, HI1.out, ((Below.refl _ _).alloc (Nat.le_refl _) _).trans HB1.out⟩


set_option maxRecDepth 100000 in
theorem wp_stS {o : Oper} {a : Act} {w : World} {K : Act → World → Prop} {Q : Exit → Act → World → Prop} {x y : Operand} (ho : o.op = .store 23 x y) {p : Addr} {A : Option Addr} {n c : Nat} {v : Value} (hv : v = .slice A n c) {u : Value} (hx : a.eval x = .pointer (some p)) (hy : a.eval y = v) (hc : w.cell? p = some u) (hf : w.frozen? p = false)
    (h : K (a.put o.dst undef) (w.setCell p v)) : WpS Try.prog o a w K Q := by
  subst hv
  refine ⟨?_⟩
  have hr : (execOp a.eval o).run Try.prog w = .ok .skip (w.setCell p (.slice A n c)) := by
    unfold execOp
    simp only [ho, hx, hy]
    simp [go_sem, hc, hf]
  unfold Oper.wp
  rw [hr]
  exact h
set_option maxRecDepth 100000 in
theorem BT.segI {W : World} {B n m : Nat} {f : Nat → Nat → Int} (h : BT W B n m f) {i a d : Nat} (hi : i < 6) (hd : a + d < 6) (hb : ∀ k, a ≤ k → k ≤ a + d → I64 (f i k)) : IR W 0 W.heap.size (some ⟨B, 2 + i * 6 + a, none⟩) (segL (f i) a d) := by
  refine ⟨by rw [segL_len]; omega, fun z hz => ?_, Nat.le_refl _, fun _ => ⟨B, _, rfl, Nat.zero_le _, h.lt, fun j hj => ?_⟩⟩
  · obtain ⟨j, hj, rfl⟩ := List.getElem_of_mem hz
    rw [segL_len] at hj
    have := hb (a + j) (by omega) (by omega)
    simp only [segL, List.getElem_map, List.getElem_range]
    exact this
  · rw [segL_len] at hj
    have := h.entry hi (k := a + j) (by omega)
    rw [show 2 + i * 6 + a + j = 2 + i * 6 + (a + j) by omega, this]
    simp [segL]
set_option maxRecDepth 100000 in
theorem seg_row (n m : Nat) (f : Nat → Nat → Int) {i : Nat} (hm : 1 ≤ m) (hi : i < (tabL n m f).length) : (tabL n m f)[i] = segL (f i) 0 (m - 1) := by
  have e : segL (f i) 0 (m - 1) = (List.range m).map fun k => f i k := by
    unfold segL
    rw [show m - 1 + 1 = m by omega]
    simp
  rw [e]
  simp [tabL]

set_option maxRecDepth 100000 in
set_option maxHeartbeats 1000000 in
theorem lists_any (n m : Nat) (f : Nat → Nat → Int) (hn : 1 ≤ n ∧ n ≤ 6) (hm : 1 ≤ m ∧ m ≤ 6) (hb : ∀ i k, i < n → k < m → I64 (f i k)) (w : World) :
    Calls Try.prog 42 #[.agg (tabV n m f)] w (RetT w (tabL n m f)) := by
  have HBD := Lib.hid hb
  clear hb
  have hl : (tabL n m f).length = n := (tab_sh n m f).1
  have HL := Lib.hid hl
  have bT := BT.new w n m f
  have c0 := bT.rows
  have hmk := run_makeRows n (by omega) (w.alloc (.cells (tabV n m f) 56))
  rw [World.size_alloc] at hmk
  have h0 := rows_made (w.alloc (.cells (tabV n m f) 56)) (tabL n m f) 23
  rw [World.size_alloc, hl, show w.heap.size + 1 + 1 = ((w.alloc (.cells (tabV n m f) 56)).alloc (.cells (madeCells #[.slice none 0 0] n) 23)).heap.size by simp] at h0
  have H0 := Lib.hid h0
  have HT0 := Lib.hid (bT.alloc (.cells (madeCells #[.slice none 0 0] n) 23))
  have HB0 : Hid (Below w.heap.size w ((w.alloc (.cells (tabV n m f) 56)).alloc (.cells (madeCells #[.slice none 0 0] n) 23))) := ((Below.refl _ w).alloc (Nat.le_refl _) _).alloc (by simp) _
  have HS0 : Hid (w.heap.size + 2 ≤ ((w.alloc (.cells (tabV n m f) 56)).alloc (.cells (madeCells #[.slice none 0 0] n) 23)).heap.size) := by show _ ≤ _; simp
  have HZ0 : Hid (∀ o, ((w.alloc (.cells (tabV n m f) 56)).alloc (.cells (madeCells #[.slice none 0 0] n) 23)).frozen? ⟨w.heap.size + 1, o, none⟩ = false) := fun o => World.frozen?_alloc_at _ _ _ _ (by simp)
  clear h0 bT hl
  go_enter Try.func42, Try.ntmps42
  go_wp2
  clear c0 hmk
  go_loopw [10] (fun v wr => ∃ (p : Nat) (F : Nat → Option Addr) (C : Nat → Nat), p ≤ n ∧ v = .int .i64 (p : Int) ∧ BT wr w.heap.size n m f ∧ Rows_ wr (w.heap.size + 1) wr.heap.size (some ⟨w.heap.size + 1, 0, none⟩) (fillT (tabL n m f) p) (w.heap.size + 1) 0 F C ∧ (∀ o, wr.frozen? ⟨w.heap.size + 1, o, none⟩ = false) ∧ Below w.heap.size w wr ∧ w.heap.size + 2 ≤ wr.heap.size) (fun v _ => n - (intOf v).toNat)
  case atStart => exact ⟨0, _, _, Nat.zero_le _, rfl, HT0.out, H0.out, HZ0.out, HB0.out, HS0.out⟩
  case round =>
    clear H0 HT0 HB0 HS0 HZ0
    obtain ⟨p, F, C, hp, rfl, hT, hrr, hfz, hB, hs⟩ := hrel
    have c1 := hT.cols
    have HT := Lib.hid hT; have HRR := Lib.hid hrr; have HB := Lib.hid hB; have HS := Lib.hid hs; have HFZ := Lib.hid hfz
    clear hrr hB hs hfz
    by_cases hlt : p < n
    · have hlt' : (p : Int) < (n : Int) := by omega
      have hpl : p < (tabL n m f).length := by rw [HL.out]; exact hlt
      have hkl : p < (fillT (tabL n m f) p).length := by rw [fillT_len]; exact hpl
      have hset := fillT_set (tabL n m f) p hpl
      rw [seg_row n m f hm.1 hpl] at hset
      have HSET := Lib.hid hset
      have hsl : (segL (f p) 0 (m - 1)).length = m := by rw [segL_len]; omega
      have HSL := Lib.hid hsl
      clear hset
      have p0 : (0 : Int) ≤ (p : Int) := by omega
      have p6 : (p : Int) < 6 := by omega
      have m6 : m ≤ 6 := hm.2
      have m6' : (m : Int) ≤ 6 := by omega
      have m0 : (0 : Int) ≤ (m : Int) := by omega
      go_wp2
      refine wp_region_held_drew (S := fun W => BT W w.heap.size n m f) (by kernel_rfl) HT.out (fun hS => ?_)
      refine anyH_take 0 (v := .slice (some ⟨w.heap.size + 1, 0, none⟩) n n) rfl (by kernel_rfl) (by kernel_rfl) (by kernel_rfl) (fun _ _ _ h => h) rfl (fun W hW => by kernel_rfl) hS ?_
      refine anyH_take 1 (v := .int .i64 (p : Int)) rfl (by kernel_rfl) (by kernel_rfl) (by kernel_rfl) (fun _ _ _ h => h) rfl (fun W hW => by kernel_rfl) hS ?_
      refine anyH_take 2 (v := .int .i64 (p : Int)) rfl (by kernel_rfl) (by kernel_rfl) (by kernel_rfl) (fun _ _ _ h => h) rfl (fun W hW => by kernel_rfl) hS ?_
      refine anyH_take 3 (v := .pointer (some ⟨w.heap.size, 2, none⟩)) rfl (by kernel_rfl) (by kernel_rfl) (by kernel_rfl) (fun _ _ _ h => h) rfl (fun W hW => by go_simp) hS ?_
      refine anyH_take 4 (v := .pointer (some ⟨w.heap.size, 2 + p * 6, none⟩)) rfl (by kernel_rfl) (by kernel_rfl) (by kernel_rfl) (fun _ _ _ h => h) rfl (fun W hW => by go_simp) hS ?_
      refine anyH_take 5 (v := .pointer (some ⟨w.heap.size, 1, none⟩)) rfl (by kernel_rfl) (by kernel_rfl) (by kernel_rfl) (fun _ _ _ h => h) rfl (fun W hW => by go_simp) hS ?_
      refine anyH_take 6 (v := .int .i64 (m : Int)) rfl (by kernel_rfl) (by kernel_rfl) (by kernel_rfl) (fun _ _ _ h => h) rfl (fun W hW => by have c1 := hW.cols; go_simp) hS ?_
      refine anyH_take 7 (v := .slice (some ⟨w.heap.size, 2 + p * 6, none⟩) m 6) rfl (by kernel_rfl) (by kernel_rfl) (by kernel_rfl) (fun _ _ _ h => h) rfl (fun W hW => by go_simp) hS ?_
      refine anyH_one 8 rfl (by kernel_rfl) (by kernel_rfl) ?_
      refine wp_callF (args := #[.slice (some ⟨w.heap.size, 2 + p * 6, none⟩) m 6]) rfl Try.call69 (by kernel_rfl) ?_
      have hsg := BT.segI (W := wr.drew) HT.out (i := p) (a := 0) (d := m - 1) (by omega) (by omega) (fun k _ hk => HBD.out p k hlt (by omega))
      rw [Nat.add_zero] at hsg
      have hCL := cloneInts_any (some ⟨w.heap.size, 2 + p * 6, none⟩) 6 _ _ (segL (f p) 0 (m - 1)) wr.drew (by rw [hsl]; omega) hsg
      rw [hsl] at hCL
      refine hCL.mono ?_
      rintro e w2 ⟨A2, c2, rfl, hcap, hiw, hb2⟩
      have hb2' : Below wr.heap.size wr w2 := ⟨hb2.os, hb2.tape, hb2.output, hb2.size, hb2.block⟩
      have hT2 : BT w2 w.heap.size n m f := HT.out.grow hb2'
      have hput := HRR.out.put (A' := A2) (Nat.le_refl _) hkl hb2' rfl hiw (c := c2) (by rw [hsl] at hcap ⊢; exact hcap)
      rw [HSET.out, Nat.zero_add] at hput
      have hss := HS.out
      have hcell := (HRR.out.row p hkl).1
      rw [Nat.zero_add] at hcell
      have hcell2 := (hb2'.cell (p := ⟨w.heap.size + 1, p, none⟩) (by show w.heap.size + 1 < wr.heap.size; omega)).trans hcell
      have hfz2 : ∀ o, w2.frozen? ⟨w.heap.size + 1, o, none⟩ = false := fun o => (World.frozen?_of_block (hb2'.block (w.heap.size + 1) (by omega))).trans (HFZ.out o)
      have hfp := hfz2 p
      have HP := Lib.hid hput; have HB2 := Lib.hid (below_then HB.out (Nat.le_refl _) (hb2'.mono (Nat.le_refl _)))
      have HF2 := Lib.hid hfz2; have HS2 := Lib.hid (Nat.le_trans hss hb2'.size)
      rw [hsl] at HP
      have HT3 : Hid (BT (w2.setCell ⟨w.heap.size + 1, p, none⟩ (.slice A2 m c2)) w.heap.size n m f) := hT2.other (by show w.heap.size ≠ w.heap.size + 1; omega) _
      rw [hsl]
      refine ⟨_, rfl, hT2, ?_⟩
      refine anyH_take 9 (v := .pointer (some ⟨w.heap.size + 1, p, none⟩)) rfl (by kernel_rfl) (by kernel_rfl) (by kernel_rfl) (fun _ _ _ h => h) rfl (fun W hW => by go_simp) hT2 ?_
      refine anyH_one 10 rfl (by kernel_rfl) (by kernel_rfl) ?_
      refine wp_stS (v := .slice A2 m c2) (x := .tmp 22) (y := .tmp 21) rfl rfl (by kernel_rfl) (by kernel_rfl) hcell2 hfp ?_
      refine ⟨HT3.out, ?_⟩
      refine wpAnyH_done (by kernel_rfl) ?_ _
      clear hput hfz2 hcell hcell2 hfp hb2 hb2' hT2 hS hss hsg hCL hiw hcap c1 hT
      go_wp2
      go_roundw
      case rel =>
        refine ⟨p + 1, fun i => if i = p then A2 else F i, fun i => if i = p then c2 else C i, by omega, by go_num, HT3.out, ?_, fun o => ?_, HB2.out.setCell (p := ⟨w.heap.size + 1, p, none⟩) (by show w.heap.size ≤ w.heap.size + 1; omega) _, ?_⟩
        · rw [show (w2.setCell ⟨w.heap.size + 1, p, none⟩ (.slice A2 m c2)).heap.size = w2.heap.size by simp [World.setCell]]
          exact HP.out
        · rw [World.frozen?_setCell]; exact HF2.out o
        · simpa [World.setCell] using HS2.out
      case measure => simp [intOf]; omega
    · obtain rfl : p = n := by omega
      have hlt' : ¬ (p : Int) < (p : Int) := by omega
      have hrr := HRR.out
      have hfa := fillT_all (tabL p m f)
      rw [HL.out] at hfa
      rw [hfa] at hrr
      have HR2 := Lib.hid hrr
      clear hrr hfa
      go_wp2
      go_ret
      have HROWS : Rows_ wr w.heap.size wr.heap.size (some ⟨w.heap.size + 1, 0, none⟩) (tabL p m f) (w.heap.size + 1) 0 F C := by
        obtain ⟨q1, q2, q3⟩ := HR2.out
        exact ⟨fun h0 => by obtain ⟨r1, r2, r3⟩ := q1 h0; exact ⟨r1, by omega, r3⟩, fun k hk => by obtain ⟨r1, r2, r3, r4⟩ := q2 k hk; exact ⟨r1, r2, r3.wide (by omega) (Nat.le_refl _) (Nat.le_refl _), r4⟩, q3⟩
      exact ⟨_, p, by rw [HL.out]; rfl, by rw [HL.out]; exact Nat.le_refl _, ⟨by rw [HL.out]; omega, Nat.le_refl _, _, _, _, _, HROWS⟩, HB.out⟩
end Go.Proofs.Ytlbimmhlijelfaa
