/-
  leastColumn, leastColumns and TableLeast of the program. Conditions: the lists' cells are there.
-/
import Derived.Test.YtanoojpmokbiaaaTbA
import Derived.Test.YtanoojpmokbiaaaLeast2
import Derived.Test.YtanoojpmokbiaaaTsA
import Derived.Test.YtanoojpmokbiaaaMathA
namespace Go.Proofs.Ytanoojpmokbiaaa
open Go.RowKit Go.Shelf
attribute [local go_sem] Oper.semAt_some

set_option maxRecDepth 100000 in
theorem Fst.congr {f g : Nat → Int} {a b i : Nat} (h : Fst f a b i) (e : ∀ k, a ≤ k → k ≤ b → f k = g k) : Fst g a b i := by
  obtain ⟨h1, h2, h3, h4⟩ := h
  refine ⟨h1, h2, fun k q1 q2 => ?_, fun k q1 q2 => ?_⟩
  · rw [← e i h1 h2, ← e k q1 q2]; exact h3 k q1 q2
  · rw [← e i h1 h2, ← e k q1 (by omega)]; exact h4 k q1 q2
set_option maxRecDepth 100000 in
theorem fstTo_congr {f g : Nat → Int} {a d : Nat} (e : ∀ k, a ≤ k → k ≤ a + d → f k = g k) : fstTo f a d = fstTo g a d :=
  ((fstTo_is f a d).congr e).uniq (fstTo_is g a d)
/-- A part of a row. -/
def segL (f : Nat → Int) (a d : Nat) : List Int := (List.range (d + 1)).map fun j => f (a + j)
set_option maxRecDepth 100000 in
theorem segL_len (f : Nat → Int) (a d : Nat) : (segL f a d).length = d + 1 := by simp [segL]
set_option maxRecDepth 100000 in
theorem segL_get (f : Nat → Int) (a d j : Nat) (h : j ≤ d) : (segL f a d).getD j 0 = f (a + j) := by
  unfold segL
  rw [getD_in (show j < _ by simp; omega)]
  simp
set_option maxRecDepth 100000 in
theorem seg_least (f : Nat → Int) (a d : Nat) : a + (leastTo (segL f a d) (segL f a d).length).1 = fstTo f a d := by
  rw [segL_len]
  obtain ⟨h1, h2, h3, h4⟩ := leastTo_spec (segL f a d) d
  obtain ⟨s, hs⟩ : ∃ s, (leastTo (segL f a d) (d + 1)).1 = s := ⟨_, rfl⟩
  rw [hs] at h1 h3 h4
  rw [hs]
  have hsd : s ≤ d := by omega
  refine Fst.uniq (f := f) (a := a) (b := a + d) ⟨by omega, by omega, fun k q1 q2 => ?_, fun k q1 q2 => ?_⟩ (fstTo_is f a d)
  · have := (h4 (k - a) (by omega)).1
    rw [segL_get _ _ _ _ hsd, segL_get _ _ _ _ (by omega), show a + (k - a) = k by omega] at this
    exact this
  · obtain ⟨g1, g2⟩ := h4 (k - a) (by omega)
    rw [segL_get _ _ _ _ hsd, segL_get _ _ _ _ (show k - a ≤ d by omega), show a + (k - a) = k by omega] at g1 g2
    rcases Int.lt_or_eq_of_le g1 with c | c
    · exact c
    · have := (g2 c.symm).1; omega
set_option maxRecDepth 100000 in
/-- A row's part in a table's block. -/
theorem BT.seg {W : World} {B n m : Nat} {f : Nat → Nat → Int} (h : BT W B n m f) {i a d : Nat} (hi : i < 6) (hd : a + d < 6) (hb : ∀ k, a ≤ k → k ≤ a + d → -1000 ≤ f i k ∧ f i k ≤ 1000) : IR W 0 W.heap.size (some ⟨B, 2 + i * 6 + a, none⟩) (segL (f i) a d) := by
  refine ⟨by rw [segL_len]; omega, fun z hz => ?_, Nat.le_refl _, fun _ => ⟨B, _, rfl, Nat.zero_le _, h.lt, fun j hj => ?_⟩⟩
  · obtain ⟨j, hj, rfl⟩ := List.getElem_of_mem hz
    rw [segL_len] at hj
    have := hb (a + j) (by omega) (by omega)
    simp only [segL, List.getElem_map, List.getElem_range]
    exact ⟨by omega, by omega⟩
  · rw [segL_len] at hj
    have := h.entry hi (k := a + j) (by omega)
    rw [show 2 + i * 6 + a + j = 2 + i * 6 + (a + j) by omega, this]
    simp [segL]

set_option maxRecDepth 100000 in
set_option maxHeartbeats 1000000 in
theorem leastColumn_any (n m : Nat) (f : Nat → Nat → Int) (i a d : Nat) (hi : i < 6) (hd : a + d < 6) (hb : ∀ k, a ≤ k → k ≤ a + d → -1000 ≤ f i k ∧ f i k ≤ 1000) (w : World) :
    Calls Try.prog 51 #[.agg (tabV n m f), .int .i64 (i : Int), .int .i64 (a : Int), .int .i64 ((a + d : Nat) : Int)] w fun e w' => e = .returned (.int .i64 (fstTo (f i) a d : Int)) ∧ Below w.heap.size w w' := by
  have bT := BT.new w n m f
  have HI := Lib.hid (bT.seg hi hd hb)
  have hr : rowB (segL (f i) a d) = true := by
    rw [rowB_true, segL_len]
    refine ⟨fun z hz => ?_, by omega, by omega⟩
    obtain ⟨j, hj, rfl⟩ := List.getElem_of_mem hz
    rw [segL_len] at hj
    have := hb (a + j) (by omega) (by omega)
    simpa [segL] using this
  have HR := Lib.hid hr
  have HS := Lib.hid (seg_least (f i) a d)
  have hl := segL_len (f i) a d
  obtain ⟨E, hE⟩ : ∃ E : Int, ((a + d : Nat) : Int) = E := ⟨_, rfl⟩
  rw [hE]
  have i0 : (0 : Int) ≤ (i : Int) := by omega
  have i6 : (i : Int) < 6 := by omega
  have a0 : (0 : Int) ≤ (a : Int) := by omega
  have e0 : IntKind.i64.wrap (E + 1) = E + 1 := IntWalk.i64_in _ (by omega)
  have e1 : (E + 1).toNat = a + d + 1 := by omega
  have e2 : (a : Int) ≤ E + 1 := by omega
  have e3 : E + 1 ≤ 6 := by omega
  have e4 : (0 : Int) ≤ E + 1 := by omega
  have e5 : ¬ 6 = a := by omega
  have e6 : a + d + 1 - a = d + 1 := by omega
  clear hb hr hE
  go_enter Try.func51, Try.ntmps51
  go_wp2_with fail
  rw [← hl]
  refine (least_any _ _ _ _ HI.out HR.out).mono ?_
  obtain ⟨s, hs⟩ : ∃ s, (leastTo (segL (f i) a d) (segL (f i) a d).length).1 = s := ⟨_, rfl⟩
  rw [hs] at HS
  rw [hs]
  obtain ⟨v1, hv1⟩ : ∃ v, (segL (f i) a d).getD s 0 = v := ⟨_, rfl⟩
  obtain ⟨v2, hv2⟩ : ∃ v : Int, ((leastTo (segL (f i) a d) (segL (f i) a d).length).2 : Int) = v := ⟨_, rfl⟩
  rw [hv1, hv2]
  rintro e w1 ⟨rfl, hb1⟩
  have hsd : a + s ≤ a + d := by have := (fstTo_is (f i) a d).2.1; rw [← HS.out] at this; exact this
  have s1 : IntKind.i64.wrap ((a : Int) + (s : Int)) = (a : Int) + (s : Int) := IntWalk.i64_in _ (by omega)
  have HB := Lib.hid (below_then ((Below.refl _ w).alloc (Nat.le_refl _) (.cells (tabV n m f) 50)) (Nat.le_refl _) hb1)
  clear hs hv1 hv2 hb1 hsd
  go_wp2
  go_ret
  exact ⟨by rw [← HS.out]; simp, HB.out⟩

set_option maxRecDepth 100000 in
theorem Cells.grow {w w' : World} {b off : Nat} {xs : List Int} (h : Cells w b off xs) (hb : Below w.heap.size w w') (hl : b < w.heap.size) : Cells w' b off xs := fun j hj =>
  ⟨(hb.cell (p := ⟨b, off + j, none⟩) hl).trans (h j hj).1, (World.frozen?_of_block (a := ⟨b, off + j, none⟩) (hb.block b hl)).trans (h j hj).2⟩
/-- The least columns of all rows. -/
def colsL (n m : Nat) (f : Nat → Nat → Int) : List Int := (List.range n).map fun i => (fstTo (f i) 0 (m - 1) : Int)
set_option maxRecDepth 100000 in
theorem colsL_len (n m : Nat) (f : Nat → Nat → Int) : (colsL n m f).length = n := by simp [colsL]

set_option maxRecDepth 100000 in
set_option maxHeartbeats 1000000 in
theorem leastColumns_any (n m : Nat) (f : Nat → Nat → Int) (hn : 1 ≤ n ∧ n ≤ 6) (hm : 1 ≤ m ∧ m ≤ 6) (hb : ∀ i k, i < n → k < m → -1000 ≤ f i k ∧ f i k ≤ 1000) (w : World) :
    Calls Try.prog 32 #[.agg (tabV n m f)] w (RetS w (colsL n m f)) := by
  have HBD := Lib.hid hb
  clear hb
  have bT := BT.new w n m f
  have c0 := bT.rows
  have hmk : (Instr.makeSlice 31 (.int .i64 (n : Int)) (.int .i64 (n : Int))).run Try.prog (w.alloc (.cells (tabV n m f) 50)) = .ok (.slice (some ⟨w.heap.size + 1, 0, none⟩) n n) ((w.alloc (.cells (tabV n m f) 50)).alloc (.cells (madeCells #[.int .i64 0] n) 3)) := by
    have := run_makeInts n (by omega) (w.alloc (.cells (tabV n m f) 50))
    rwa [World.size_alloc] at this
  have hC0 := Cells.made (w.alloc (.cells (tabV n m f) 50)) n 3
  rw [World.size_alloc] at hC0
  have hl := colsL_len n m f
  rw [show List.replicate n (0 : Int) = fillTo (colsL n m f) 0 by rw [fillTo_zero, hl]] at hC0
  have HC0 := Lib.hid hC0
  have HT0 := Lib.hid (bT.alloc (.cells (madeCells #[.int .i64 0] n) 3))
  have HB0 : Hid (Below w.heap.size w ((w.alloc (.cells (tabV n m f) 50)).alloc (.cells (madeCells #[.int .i64 0] n) 3))) := ((Below.refl _ w).alloc (Nat.le_refl _) _).alloc (by simp) _
  have HS0 : Hid (w.heap.size + 2 ≤ ((w.alloc (.cells (tabV n m f) 50)).alloc (.cells (madeCells #[.int .i64 0] n) 3)).heap.size) := by show _ ≤ _; simp
  clear hC0 bT
  go_enter Try.func32, Try.ntmps32
  go_wp2
  clear c0 hmk
  go_loopw [10] (fun v wr => ∃ p : Nat, p ≤ n ∧ v = .int .i64 (p : Int) ∧ BT wr w.heap.size n m f ∧ Cells wr (w.heap.size + 1) 0 (fillTo (colsL n m f) p) ∧ Below w.heap.size w wr ∧ w.heap.size + 2 ≤ wr.heap.size) (fun v _ => n - (intOf v).toNat)
  case atStart => exact ⟨0, by omega, rfl, HT0.out, HC0.out, HB0.out, HS0.out⟩
  case round =>
    clear HT0 HC0 HB0 HS0
    obtain ⟨p, hp, rfl, hT, hC, hB, hs⟩ := hrel
    have c1 := hT.cols
    have HT := Lib.hid hT; have HC := Lib.hid hC; have HB := Lib.hid hB; have HS := Lib.hid hs
    clear hC hB hs
    by_cases hlt : p < n
    · have hlt' : (p : Int) < (n : Int) := by omega
      have p0 : (0 : Int) ≤ (p : Int) := by omega
      have s1 : IntKind.i64.wrap ((m : Int) - 1) = (m : Int) - 1 := IntWalk.i64_in _ (by omega)
      have hLC := fun W => leastColumn_any n m f p 0 (m - 1) (by omega) (by omega) (fun k _ hk => HBD.out p k hlt (by omega)) W
      rw [show ((0 + (m - 1) : Nat) : Int) = (m : Int) - 1 by omega] at hLC
      have HLC := Lib.hid hLC
      clear hLC
      go_wp2_with (refine wpList_ldT rfl _ rfl rfl hT ?_)
      refine (HLC.out _).mono ?_
      rintro e w1 ⟨rfl, hb1⟩
      have hsz := HS.out
      have hC1 := Cells.grow HC.out hb1 (by omega)
      have hpl : p < (colsL n m f).length := by rw [hl]; exact hlt
      have hget : (colsL n m f)[p] = (fstTo (f p) 0 (m - 1) : Int) := by simp [colsL]
      obtain ⟨cc, ff⟩ := hC1 p (by rw [fillTo_len _ _ (by omega)]; exact hpl)
      rw [Nat.zero_add] at cc ff
      have HC2 := Lib.hid (hC1.fill hpl)
      rw [hget, Nat.zero_add] at HC2
      have HT1 := Lib.hid (HT.out.grow hb1)
      have HB1 := Lib.hid (HB.out.trans (hb1.mono HB.out.size))
      have HS1 : Hid (w.heap.size + 2 ≤ w1.heap.size) := Nat.le_trans HS.out hb1.size
      obtain ⟨v, hv⟩ : ∃ v, (fillTo (colsL n m f) p)[p]'(by rw [fillTo_len _ _ (by omega)]; exact hpl) = v := ⟨_, rfl⟩
      rw [hv] at cc
      obtain ⟨z, hz⟩ : ∃ z : Int, (fstTo (f p) 0 (m - 1) : Int) = z := ⟨_, rfl⟩
      rw [hz] at HC2
      rw [hz]
      clear hT hb1 hsz hC1 hget hv hz c1
      go_wp2
      go_roundw
      case rel => exact ⟨p + 1, by omega, by go_num, HT1.out.other (by show w.heap.size ≠ w.heap.size + 1; omega) _, HC2.out, HB1.out.setCell (p := ⟨w.heap.size + 1, p, none⟩) (by show w.heap.size ≤ w.heap.size + 1; omega) _, by simpa [World.setCell] using HS1.out⟩
      case measure => simp [intOf]; omega
    · obtain rfl : p = n := by omega
      have hlt' : ¬ (p : Int) < (p : Int) := by omega
      have hC := HC.out
      have hfa := fillTo_all (colsL p m f)
      rw [hl] at hfa
      rw [hfa] at hC
      have hsz := HS.out
      have HIW := Lib.hid (hC.iw (lo := w.heap.size) (hi := wr.heap.size) hl (by omega) (by omega) (Nat.le_refl _))
      go_wp2
      go_ret
      refine ⟨_, p, by rw [hl]; rfl, HIW.out (by omega) (fun z hz => ?_), HB.out⟩
      obtain ⟨j, hj, rfl⟩ := List.getElem_of_mem hz
      simp only [colsL, List.getElem_map, List.getElem_range]
      have := (fstTo_is (f j) 0 (m - 1)).2.1
      exact ⟨by omega, by omega⟩

set_option maxRecDepth 100000 in
theorem cols_table {t : List (List Int)} {n m : Nat} {f : Nat → Nat → Int} (ht : tableB t = true) (hn : n = t.length) (hm : m = colsN t) (hf : ∀ i k, i < t.length → k < colsN t → f i k = ent t i k) : colsL n m f = t.map fun r => (firstOf r : Int) := by
  subst hn; subst hm
  obtain ⟨h1, h2, h3, h4⟩ := table_sh ht
  apply List.ext_getElem
  · simp [colsL]
  · intro i q1 q2
    have hi : i < t.length := by simpa [colsL] using q1
    simp only [colsL, List.getElem_map, List.getElem_range]
    unfold firstOf
    rw [table_row ht hi]
    congr 1
    refine fstTo_congr fun k _ hk => ?_
    rw [hf i k hi (by omega)]
    unfold ent
    rw [show t.getD i [] = t[i] by simp [List.getD, hi]]

set_option maxRecDepth 100000 in
set_option maxHeartbeats 1000000 in
theorem implTableLeast_any (A : Option Addr) (c : Nat) (t : List (List Int)) (w : World) (h : IRR w 0 w.heap.size A t) :
    Calls Try.prog 16 #[.slice A t.length c] w (RetSB w (leastCM t)) := by
  have H := Lib.hid h
  clear h
  go_enter Try.func16, Try.ntmps16
  go_wp2_with fail
  refine (tableIn_any A c _ _ t _ H.out).mono ?_
  rintro e w1 ⟨n, m, f, rfl, -, hf, hb1⟩
  have bT := BT.new w1 0 0 zF
  have HB := Lib.hid (below_setRow (hb1.alloc hb1.size (.cells (tabV 0 0 zF) 50)) hb1.size (tabV n m f))
  have bT2 : BT ((w1.alloc (.cells (tabV 0 0 zF) 50)).setRow w1.heap.size (tabV n m f)) w1.heap.size n m f := bT.put
  cases hb : tableB t with
  | false =>
    have HM : Hid (leastCM t = none) := by show _ = _; unfold leastCM; rw [hb]; rfl
    clear hf hb
    go_wp2_with (first | (refine wpList_alT rfl rfl ?_) | (refine wpList_stT rfl _ _ rfl rfl rfl bT ?_))
    go_ret2
    rw [HM.out]
    exact retSB_none HB.out
  | true =>
    obtain ⟨hsh, hn, hm, hE⟩ := table_sh hb
    obtain ⟨e1, e2, e3⟩ := hf hb
    have HM : Hid (leastCM t = some (colsL n m f)) := by show _ = _; unfold leastCM; rw [hb, cols_table hb e1 e2 e3]; rfl
    have HLC := Lib.hid (fun W => leastColumns_any n m f (by omega) (by omega) (fun i k hi hk => by rw [e3 i k (by omega) (by omega)]; exact hE i k (by omega) (by omega)) W)
    clear hf hb hsh hn hm hE e1 e2 e3
    go_wp2_with (first | (refine wpList_alT rfl rfl ?_) | (refine wpList_stT rfl _ _ rfl rfl rfl bT ?_) | (refine wpList_ldT rfl _ rfl rfl bT2 ?_))
    refine (HLC.out _).mono ?_
    rintro e w2 ⟨A2, c2, rfl, hi2, hb2⟩
    have HI2 := Lib.hid hi2; have HB2 := Lib.hid (below_then HB.out (Nat.le_refl _) hb2)
    have hsz : w.heap.size ≤ ((w1.alloc (.cells (tabV 0 0 zF) 50)).setRow w1.heap.size (tabV n m f)).heap.size := HB.out.size
    clear hi2 hb2
    go_wp2
    go_ret2
    rw [HM.out]
    exact retSB_some rfl (HI2.out.wide hsz (Nat.le_refl _) (Nat.le_refl _)) HB2.out
end Go.Proofs.Ytanoojpmokbiaaa
