/-
  The program's steps of all rows in order, and the greedy sharing. Conditions: the rows' cells are there.
-/
import Derived.Test.YtanoojpmokbiaabGrC
namespace Go.Proofs.Ytanoojpmokbiaab
open Go.RowKit Go.Shelf Go.Lib Go.Sort
attribute [local go_sem] Oper.semAt_some

theorem st_short {rs : List (List Int)} (h : ∀ r, r ∈ rs → r.length ≤ 12) : ∀ i, (stTo rs i).length ≤ 12 * i
  | 0 => Nat.le_refl _
  | i + 1 => by
    have ih := st_short h i
    simp only [stTo]
    rw [List.length_append, List.length_map, slopesL_len]
    have : (rowAt rs i).length ≤ 12 := by
      by_cases c : i < rs.length
      · exact h _ (row_at_mem c)
      · unfold rowAt; rw [List.getD_eq_getElem?_getD, List.getElem?_eq_none (by omega)]; simp
    omega
def StB (W w : World) (B : Nat) (L : List (Nat × Int)) : Prop := (∃ v, Boxed W B 57 v ∧ OwnS W B v L) ∧ Below B w W
/-- The frame at the loop's head. -/
def stFrame (A : Option Addr) (n c B i : Nat) (f x2 x3 x6 x7 x8 : Value) (y z : Nat → Value) (ds : List Nat) : Act :=
  { tmps := #[.slice A n c, f, x2, x3, .slice none 0 0, .pointer (some ⟨B, 0, none⟩), x6, x7, x8, .slice A n c, .int .i64 (n : Int), .int .i64 (i : Int), y 0, y 1, y 2, y 3, y 4, y 5, z 0, z 1, z 2, z 3, z 4, z 5, z 6, z 7, z 8, z 9, z 10, z 11], defers := dsOf ds }

set_option maxRecDepth 100000 in
set_option maxHeartbeats 4000000 in
theorem steps_any (A : Option Addr) (c n : Nat) (rs : List (List Int)) (w : World) (h : IRR w 0 w.heap.size A rs) (hr : ∀ r, r ∈ rs → rowB r = true) (hn : rs.length = n) (hn4 : n ≤ 4) :
    Calls Try.prog 36 #[.slice A n c, .func (.func 37) #[] #[]] w fun e w' => ∃ A' c', e = .returned (.slice A' (stepsR rs).length c') ∧ ((stepsR rs).length ≤ c' ∧ c' ≤ 9223372036854775807) ∧
      (0 < (stepsR rs).length → ∃ b, A' = some ⟨b, 0, none⟩ ∧ w.heap.size ≤ b ∧ b < w'.heap.size ∧ HoldsK encS 2 w' b 0 ((stepsR rs).mergeSort leS).toArray) ∧ Below w.heap.size w w' := by
  have H := Lib.hid h
  have HR := Lib.hid hr
  have HN := Lib.hid hn
  clear h hr hn
  obtain ⟨B, hB⟩ : ∃ B, w.heap.size = B := ⟨_, rfl⟩
  have HB := Lib.hid hB
  have hb0 := Boxed.new w 57 (.slice none 0 0)
  rw [hB] at hb0
  have HB0 : Hid (StB (w.alloc (.cells #[.slice none 0 0] 57)) w B (stTo rs 0)) := ⟨⟨_, hb0, OwnS.nil _ _ (by simp; omega)⟩, by rw [← hB]; exact (Below.refl _ w).alloc (Nat.le_refl _) _⟩
  clear hb0
  refine (callsIn_wide (n := 6)).1 ?_
  refine callsIn_of_wp_marks Try.func36 rfl trivial ?_ rfl
  simp only [Try.ntmps36, List.size_toArray, List.length_cons, List.length_nil, Nat.reduceAdd, Nat.reduceSub, Array.replicate_succ, Array.replicate_zero, List.push_toArray, List.append_toArray, List.nil_append, List.cons_append]
  gi_wp2
  clear hB
  obtain ⟨I, hI⟩ : ∃ I : Act → World → Prop, I = fun a W => ∃ (i : Nat) (ds : List Nat) (x2 x3 x6 x7 x8 : Value) (y z : Nat → Value), a = stFrame A n c B i (.func (.func 37) #[] #[]) x2 x3 x6 x7 x8 y z ds ∧ i ≤ n ∧ StB W w B (stTo rs i) ∧ Marks W B ds := ⟨_, rfl⟩
  have HI : Hid (I = _) := hI
  refine wpIn_loop I (fun a _ => n - (intOf (a.tmps.getD 11 undef)).toNat) ?start ?round
  case start =>
    rw [hI]
    exact ⟨0, [], undef, undef, undef, undef, undef, fun _ => undef, fun _ => undef, rfl, Nat.zero_le _, HB0.out, List.Pairwise.nil, fun D hD => by cases hD⟩
  case round =>
    clear HB0
    intro a W ha
    rw [hI] at ha
    obtain ⟨i, ds, x2, x3, x6, x7, x8, y, z, rfl, hin, hst, hmk⟩ := ha
    clear hI
    unfold stFrame
    have HM := Lib.hid hmk
    obtain ⟨⟨v, hv, hown⟩, hbw⟩ := hst
    have HV := Lib.hid hv; have HO := Lib.hid hown; have HBW := Lib.hid hbw
    obtain ⟨DS, hDS⟩ : ∃ DS, dsOf ds = DS := ⟨_, rfl⟩
    have HDS := Lib.hid hDS
    rw [hDS]
    clear hmk hv hown hbw hDS
    by_cases hlt : i < n
    · have hir : i < rs.length := by rw [HN.out]; exact hlt
      obtain ⟨b, off, Ak, ck, rfl, hbl, hc, hcl, hrow⟩ := (H.out.below HBW.out (by rw [HB.out]; exact Nat.le_refl _)).at_ hir
      have HROW := Lib.hid hrow
      have hlt' : (i : Int) < (n : Int) := by omega
      have i0 : (0 : Int) ≤ (i : Int) := by omega
      obtain ⟨m, hm⟩ : ∃ m, rs[i].length = m := ⟨_, rfl⟩
      rw [hm] at hc
      have HMM := Lib.hid hm
      clear hrow hm
      gi_wp2_with (refine ⟨trivial, ?_⟩; gi_at_call 50; refine (callsIn_wide.2 (slopes_any _ _ _ _)).mono ?_; rintro e w' ⟨rfl, rfl⟩)
      obtain ⟨X, hX⟩ : ∃ X, (W.alloc (.cells #[.int .i64 (i : Int)] 3)).alloc (.cells #[.slice Ak m ck] 56) = X := ⟨_, rfl⟩
      have hsX : X.heap.size = W.heap.size + 2 := by rw [← hX]; simp
      have hbX : Below W.heap.size W X := by rw [← hX]; exact ((Below.refl _ W).alloc (Nat.le_refl _) _).alloc (by simp) _
      have bI : Boxed X W.heap.size 3 (.int .i64 (i : Int)) := by rw [← hX]; exact (Boxed.new W _ _).alloc _
      have bR : Boxed X (W.heap.size + 1) 56 (.slice Ak m ck) := by
        rw [← hX]
        have := Boxed.new (W.alloc (.cells #[.int .i64 (i : Int)] 3)) 56 (.slice Ak m ck)
        rwa [World.size_alloc] at this
      have hKX : KeepsOthers W X := by rw [← hX]; exact (KeepsOthers.alloc W _).trans (KeepsOthers.alloc _ _)
      rw [hX]
      clear hX
      have hBW := HBW.out.size
      rw [HB.out] at hBW
      have hlB : B < W.heap.size := HV.out.lt
      obtain ⟨S, hS⟩ : ∃ S, W.heap.size = S := ⟨_, rfl⟩
      rw [hS] at hsX hbX bI bR hlB
      rw [hS]
      have hrb := HR.out rs[i] (List.getElem_mem hir)
      have HOX : Hid (OwnS X B v (stTo rs i)) := HO.out.below hbX (Nat.le_of_eq hS)
      have HVX : Hid (Boxed X B 57 v) := (hbX.block B hlB).trans HV.out
      have HBX : Hid (Below B w X) := HBW.out.trans (hbX.mono (by omega))
      have HMX : Hid (Marks X B ds) := HM.out.grow hKX
      have HDL : Hid (∀ D, D ∈ ds → D < S) := fun D hD => by rw [← hS]; exact (Array.getElem?_eq_some_iff.1 (HM.out.2 D hD).2).1
      obtain rfl : m = rs[i].length := HMM.out.symm
      have hbl2 : rs[i].length ≤ 12 := (rowB_true.1 hrb).2.2
      have HSL := Lib.hid (slopesL_len rs[i])
      have hiw : IR X 0 B Ak rs[i] := by rw [← HB.out]; exact HROW.out.below hbX (by rw [HB.out]; omega)
      have hsq := slopes_pf (6 - 1) (S + 1) B ck Ak rs[i] hrb X (by omega) (by omega) bR.cell hiw
      have HHB := Lib.hid hsX; have HSB := Lib.hid hlB; have HII := Lib.hid bI; have HRR := Lib.hid bR; have HL12 := Lib.hid hbl2
      obtain ⟨sl, hsl⟩ : ∃ sl : Fin (slopesL rs[i]).length → Int, sl = fun x => (slopesL rs[i])[x] := ⟨_, rfl⟩
      have HSLF := Lib.hid hsl
      obtain ⟨J, hJ⟩ : ∃ J : List (Fin (slopesL rs[i]).length) → World → Prop, J = fun pre Y => (((∃ v, Boxed Y B 57 v ∧ OwnS Y B v (stTo rs i ++ pre.map fun x => (i, sl x))) ∧ (Boxed Y S 3 (.int .i64 (i : Int)) ∧ Boxed Y (S + 1) 56 (.slice Ak rs[i].length ck))) ∧ Below B w Y) ∧ Marks Y B ds := ⟨_, rfl⟩
      have HJ := Lib.hid hJ
      have hJo : OwnFrom X.heap.size J := by
        rw [hJ]
        refine OwnFrom.and (OwnFrom.and (OwnFrom.and (fun s Y Z row h hg hr => ?_) (OwnFrom.and (Own.from (boxed_own _ _ _) _) (Own.from (boxed_own _ _ _) _))) (ownFrom_below (by rw [HB.out]; exact Nat.le_refl _) (by omega))) (fun s Y Z row h hg hr => ⟨h.1, fun D hD => ⟨(h.2 D hD).1, ?_⟩⟩)
        · obtain ⟨v, h1, h2⟩ := h
          exact ⟨v, (Own.from (boxed_own (β := Unit) _ _ (fun _ => _)) _) () Y Z row h1 hg hr, ownS_own (β := Unit) _ _ _ (fun _ => _) () Y Z row h2 hg hr⟩
        · have hlt := (Array.getElem?_eq_some_iff.1 (h.2 D hD).2).1
          refine (hg.block D hlt fun e => ?_).trans (h.2 D hD).2
          have := (hr D e.symm).1
          have := HDL.out D hD
          omega
      have hJ0 : J [] X := by rw [hJ]; exact ⟨⟨⟨⟨v, HVX.out, by rw [List.map_nil, List.append_nil]; exact HOX.out⟩, HII.out, HRR.out⟩, HBX.out⟩, HMX.out⟩
      have HJO := Lib.hid hJo; have HJ0 := Lib.hid hJ0; have HSQ := Lib.hid hsq
      clear hsX hbX bI bR hKX hBW hlB hrb hbl2 hiw hsq hsl hJ hJo hJ0 hS hc hcl hbl
      refine wpIn_rangeFunc_ownF (F := Fence.wide) ?h1 ?h2 (gf := 62) (lb := #[.pointer (some ⟨S + 1, 0, none⟩)]) ?h3 ?h4 ?h5 HSQ.out ?h6 ?h7 ?h8 ?h9 J (fun _ _ _ => False) HJO.out (fun _ _ _ _ _ hs _ _ => hs) HJ0.out ?a1 ?hassign ?hbody ?hdone ?hstop
      case h1 => rfl
      case h2 => decide
      case h3 => rfl
      case h4 => trivial
      case h5 => exact enters_of Try.func62 (by kernel_rfl) rfl
      case h6 => exact fun h1 h2 => KeepAt.trans h1 h2
      case h7 => exact keepAt_b (by have := HHB.out; have := HSB.out; omega) (by have := HHB.out; omega)
      case h8 => exact Below.refl _ _
      case h9 => exact fun _ => rfl
      case hassign =>
        intro l x Y K hK
        go_simp
        repeat (first | gi_guarded | gi_step | gi_upon | gi_in | gi_back)
        exact hK
      case hbody =>
        rintro l pre x Y hy hlt
        rw [HJ.out] at hy
        obtain ⟨⟨⟨⟨u, hv, ho⟩, hi2, hr2⟩, hb2⟩, hm2⟩ := hy
        have cv := hv.cell; have ci := hi2.cell
        have hll : (stTo rs i ++ pre.map fun x => (i, sl x)).length < 1000000 := by
          have h1 := HSL.out; have h2 := HL12.out
          have h3 : (stTo rs i).length ≤ 12 * i := st_short (fun r hr => (rowB_true.1 (HR.out r hr)).2.2) i
          rw [List.length_append, List.length_map]; omega
        obtain ⟨s, hs⟩ : ∃ s, (slopesL rs[i])[x.1]'x.2 = s := ⟨_, rfl⟩
        rw [hs]
        have HS1 : Hid (sl x = s) := by show _ = _; rw [HSLF.out]; exact hs
        have HV2 := Lib.hid hv; have HO2 := Lib.hid ho; have HI2 := Lib.hid hi2; have HR2 := Lib.hid hr2; have HB2 := Lib.hid hb2; have HM2 := Lib.hid hm2; have HLL := Lib.hid hll
        clear hv ho hi2 hr2 hb2 hm2 hll hs hlt
        gi_wp2_with (gi_at_builtin; refine wpListIn_pushS (i, s) rfl _ _ rfl B _ _ rfl rfl HO2.out HLL.out ?_; intro v' w1 ho1 hg1; obtain ⟨g', cap', rfl⟩ := ownS_some ho1; obtain ⟨p1, p2, p3, p4, p5⟩ := push_box HV2.out HO2.out ho1 hg1; have hc1 := p1.cell; have hf1 := p1.frozen)
        have q1 := push_other (v' := .slice (some ⟨g', 0, none⟩) ((stTo rs i ++ pre.map fun x => (i, sl x)).length + 1) cap') HI2.out (by decide) (by have := HSB.out; omega) HO2.out hg1
        have q2 := push_other (v' := .slice (some ⟨g', 0, none⟩) ((stTo rs i ++ pre.map fun x => (i, sl x)).length + 1) cap') HR2.out (by decide) (by have := HSB.out; omega) HO2.out hg1
        have q3 := push_same (v' := .slice (some ⟨g', 0, none⟩) ((stTo rs i ++ pre.map fun x => (i, sl x)).length + 1) cap') HR2.out (by decide) (by have := HSB.out; omega) HO2.out hg1
        have hlm : (stTo rs i ++ pre.map fun x => (i, sl x)).length = (stTo rs i).length + pre.length := by rw [List.length_append, List.length_map]
        rw [hlm] at p2 p3 p4 p5 q1 q2 q3
        refine ⟨p4, ⟨p5.size, fun k hk => ?_⟩, ?_⟩
        · rcases hk with hk | hk
          · exact p5.block k hk
          · rw [hk]; exact q3
        · rw [HJ.out]
          refine ⟨⟨⟨⟨_, p2, ?_⟩, q1, q2⟩, HB2.out.trans (p5.mono (by omega))⟩, HM2.out.grow p4⟩
          rw [List.map_append, ← List.append_assoc]
          show OwnS _ _ _ (_ ++ [(i, sl x)])
          rw [HS1.out]; exact p3
      case hdone =>
        rintro D ys Y hD rfl hy hK
        rw [HJ.out] at hy
        obtain ⟨⟨⟨⟨u, hv, ho⟩, hi2, hr2⟩, hb2⟩, hm2⟩ := hy
        have HV2 := Lib.hid hv; have HO2 := Lib.hid ho; have HB2 := Lib.hid hb2; have HM2 := Lib.hid hm2; have HK2 := Lib.hid hK; have HD2 := Lib.hid hD
        clear hv ho hi2 hr2 hb2 hm2 hK hD
        gi_wp2
        have ei : ((i + 1 : Nat) : Int) = (i : Int) + 1 := by omega
        have hst : stTo rs (i + 1) = stTo rs i ++ (List.finRange (slopesL rs[i]).length).map fun x => (i, sl x) := by
          simp only [stTo]
          congr 1
          rw [rowAt_get hir]
          refine List.ext_getElem (by simp) fun j h1 h2 => ?_
          have hsl2 : ∀ x, sl x = (slopesL rs[i])[x] := fun x => by rw [HSLF.out]
          rw [List.getElem_map, List.getElem_map, List.getElem_finRange, hsl2]; rfl
        refine ⟨?_, by simp [intOf]; omega⟩
        rw [HI.out]
        refine ⟨i + 1, D :: ds, x2, x3, .pointer (some ⟨S, 0, none⟩), .slice Ak rs[i].length ck, x8, fun j => ([.bool true, .int .i64 (i : Int), .pointer (some ⟨b, off + i, none⟩), .slice Ak rs[i].length ck, .slice Ak rs[i].length ck, .func (.func 62) #[] #[.pointer (some ⟨S + 1, 0, none⟩)]] : List Value).getD j undef, fun j => if j = 7 then .int .i64 ((i : Int) + 1) else z j, ?_, by omega, ⟨⟨u, HV2.out, by rw [hst]; exact HO2.out⟩, HB2.out⟩, List.pairwise_cons.2 ⟨fun E hE => ?_, HM2.out.1⟩, fun E hE => ?_⟩
        · unfold stFrame
          rw [ei, ← HDS.out]; rfl
        · have := HDL.out E hE; have := HD2.out; have := HHB.out; omega
        · rcases List.mem_cons.1 hE with rfl | hE
          · exact ⟨by have := HD2.out; have := HHB.out; have := HSB.out; omega, HK2.out⟩
          · exact HM2.out.2 E hE
      case hstop => exact fun _ _ _ _ _ _ h _ => h.elim
    · obtain rfl : i = n := by omega
      have hlt' : ¬ (i : Int) < (i : Int) := by omega
      have hSR : stTo rs i = stepsR rs := by unfold stepsR; rw [HN.out]
      rw [hSR] at HO
      have c0 := HV.out.cell
      have hlen : (stepsR rs).length ≤ 48 := by
        have := st_short (fun r hr => (rowB_true.1 (HR.out r hr)).2.2) i
        rw [hSR] at this; omega
      have HLE := Lib.hid hlen
      rcases HO.out.1.2 with ⟨rfl, h0⟩ | ⟨g, cap, cur, rfl, hg, hh, hnc, hcm, -⟩
      · have HC := Lib.hid (fun W => AnyF.slices_SortFunc_none { sortF_lays with } none 0 (.func (.func 37) #[] #[]) W)
        have H0 := Lib.hid h0
        clear h0 hSR hlen
        gi_wp2_with (refine ⟨trivial, ?_⟩; gi_at_call 51; refine (callsIn_wide.2 (HC.out _)).mono ?_; rintro e w' ⟨rfl, rfl⟩)
        show LeavesInM _ _ _ _ _ _ DS .returning _
        rw [← HDS.out]
        refine marks_leave (B := B) ds _ HM.out fun W' hb hk => ⟨_, results_tmp rfl _ _ _, none, 0, by rw [H0.out]; rfl, by rw [H0.out]; omega, fun h => by rw [H0.out] at h; omega, by rw [HB.out]; exact HBW.out.trans hb⟩
      · obtain ⟨e1, -, e3, e4⟩ := HO.out.holds
        have eg : ∀ args w, (callFunc 37 args).run Try.prog w = .ok (.enter 37 args) w := enters_of Try.func37 (by kernel_rfl) rfl
        have hC := (AnyQ.slices_SortFunc_total sortF_lays 2 Try.isAgg61 Try.sizeOf61 encS (fun _ => rfl) (fun x v hv => by simp [encS] at hv; rcases hv with rfl | rfl <;> rfl) cfS swoS 37 #[] g 0 cap (stepsR rs).toArray W eg (cmpS g 0 _ W) e4 e3 (by rw [List.size_toArray]; omega) totS)
        change Calls Try.prog 51 #[.slice (some ⟨g, 0, none⟩) (stepsR rs).length cap, .func (.func 37) #[] #[]] W _ at hC
        have HC := Lib.hid hC
        have HNE : Hid (B ≠ g) := by
          intro e
          have h1 : W.heap[B]? = some (.cells #[.slice (some ⟨g, 0, none⟩) (stepsR rs).length cap] 57 (0, 0)) := HV.out
          rw [e, hh] at h1
          simp at h1
        clear hC
        have HE4 := Lib.hid e4; have HE3 := Lib.hid e3; have HG := Lib.hid hg; have HHH := Lib.hid hh; have HCP := Lib.hid (And.intro hnc hcm)
        clear e1 e3 e4 hSR hlen eg hg hh hnc hcm
        gi_wp2_with (refine ⟨trivial, ?_⟩; gi_at_call 51; refine (callsIn_wide.2 HC.out).mono ?_; rintro e w' ⟨rfl, nq, os, hw⟩; have c1 : w'.cell? ⟨B, 0, none⟩ = some (.slice (some ⟨g, 0, none⟩) (stepsR rs).length cap) := (by rw [hw]; exact (World.cell?_of_block (a := ⟨B, 0, none⟩) (sw_block HNE.out HV.out.lt)).trans HV.out.cell); have HW := Lib.hid hw; clear hw)
        have hmw : Marks w' B ds := ⟨HM.out.1, fun D hD => ⟨(HM.out.2 D hD).1, by
          rw [HW.out]
          refine (sw_block ?_ (Array.getElem?_eq_some_iff.1 (HM.out.2 D hD).2).1).trans (HM.out.2 D hD).2
          intro e
          have h1 := (HM.out.2 D hD).2
          rw [e, HHH.out] at h1
          simp at h1⟩⟩
        have hgd : g ∉ ds := fun e => by
          have h1 := (HM.out.2 g e).2
          rw [HHH.out] at h1
          simp at h1
        have hbw : Below B W w' := by rw [HW.out]; exact sw_below HG.out (by have := HBW.out.size; rw [HB.out] at this; exact this)
        have hgs : g < w'.heap.size := Nat.lt_of_lt_of_le HE3.out hbw.size
        have hho : HoldsK encS 2 w' g 0 ((stepsR rs).mergeSort leS).toArray := by
          rw [HW.out]
          exact holdsK_sortWorldK_c encS 2 W g 0 (stepsR rs).toArray _ nq os HE4.out HE3.out (by simp)
        show LeavesInM _ _ _ _ _ _ DS .returning _
        rw [← HDS.out]
        refine marks_leave (B := B) ds _ hmw fun W' hb hk => ⟨_, results_tmp rfl _ _ _, some ⟨g, 0, none⟩, cap, rfl, ⟨HCP.out.1, by have := HCP.out.2; unfold maxLen at this; omega⟩, fun _ => ⟨g, rfl, by rw [HB.out]; exact HG.out, Nat.lt_of_lt_of_le hgs hb.size, holdsK_block hho (hk g hgs hgd)⟩, by rw [HB.out]; exact (HBW.out.trans hbw).trans hb⟩
end Go.Proofs.Ytanoojpmokbiaab
