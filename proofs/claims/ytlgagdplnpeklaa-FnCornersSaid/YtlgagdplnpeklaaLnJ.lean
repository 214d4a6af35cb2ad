/-
  Rows that are what hangs below them (LineWhole), and corners (LineCorners), in the program. Conditions: the cells are there.
-/
import Derived.Test.YtlgagdplnpeklaaLnI
import Derived.Test.YtlgagdplnpeklaaColl
import Derived.Test.YtlgagdplnpeklaaLn3
namespace Go.Proofs.Ytlgagdplnpeklaa
open Go.RowKit Go.Shelf
attribute [local go_sem] Oper.semAt_some

set_option maxHeartbeats 1000000 in
theorem equal_any (A A' : Option Addr) (c c' lo hi lo' hi' n n' : Nat) (xs ys : List Int) (w : World) (h : IR w lo hi A xs) (h' : IR w lo' hi' A' ys) (hn : n = xs.length) (hn' : n' = ys.length) (hl : ys.length = xs.length) :
    Calls Try.prog 86 #[.slice A n c, .slice A' n' c'] w fun e w' => e = .returned (.bool (decide (xs = ys))) ∧ Below w.heap.size w w' := by
  subst hn
  rw [hl] at hn'
  subst hn'
  have hlx := h.1
  have HL := Lib.hid hl
  clear hl
  go_enter Try.func86, Try.ntmps86
  go_wp2
  go_loopw [13] (fun i wr => ∃ k m : Nat, k ≤ xs.length ∧ i = .int .i64 k ∧ wr = w.drewN m ∧ ∀ j, j < k → xs.getD j 0 = ys.getD j 0) (fun i _ => xs.length - (intOf i).toNat)
  case atStart => exact ⟨0, 0, Nat.zero_le _, rfl, rfl, fun j hj => by omega⟩
  case round =>
    obtain ⟨k, m, hk, rfl, rfl, hall⟩ := hrel
    have HA := Lib.hid hall
    clear hall
    by_cases hlt : k < xs.length
    · have hlt2 : k < ys.length := by rw [HL.out]; exact hlt
      obtain ⟨b, off, rfl, _, _, hc⟩ := h.at_ hlt
      obtain ⟨b', off', rfl, _, _, hc'⟩ := h'.at_ hlt2
      have hlt' : (k : Int) < (xs.length : Int) := by omega
      have G1 := Lib.hid (getD_in hlt); have G2 := Lib.hid (getD_in hlt2)
      by_cases e : xs[k] = ys[k]
      · have E := Lib.hid e
        go_wp2
        go_quiet (fail)
        go_wp2
        go_roundw
        case rel =>
          refine ⟨k + 1, _, by omega, by go_num, rfl, fun j hj => ?_⟩
          by_cases ej : j = k
          · subst ej; rw [G1.out, G2.out]; exact E.out
          · exact HA.out j (by omega)
        case measure => simp [intOf]; omega
      · have E := Lib.hid e
        go_wp2
        go_quiet (fail)
        go_wp2
        go_ret
        refine ⟨ret_bool ?_, below_drawN (below_drawN (Below.refl _ _) _) _⟩
        rw [Eq.comm, decide_eq_false_iff_not]
        intro hq
        apply E.out
        subst hq; rfl
    · obtain rfl : k = xs.length := by omega
      go_wp2
      go_ret
      refine ⟨ret_bool ?_, below_drawN (Below.refl _ _) _⟩
      rw [Eq.comm, decide_eq_true_iff]
      apply List.ext_getElem HL.out.symm
      intro j j1 j2
      have := HA.out j j1
      rwa [getD_in j1, getD_in j2] at this

set_option maxHeartbeats 1000000 in
theorem implLineWhole_any (A : Option Addr) (c : Nat) (zs : List Int) (w : World) (h : IR w 0 w.heap.size A zs) :
    Calls Try.prog 50 #[.slice A zs.length c] w fun e w' => e = .returned (.bool (wholeB zs)) ∧ Below w.heap.size w w' := by
  have H := Lib.hid h; clear h
  cases hr : rowB zs with
  | false =>
    have HM : Hid (wholeB zs = false) := by show _ = _; simp [wholeB, hr]
    have HR := Lib.hid hr; clear hr
    go_enter Try.func50, Try.ntmps50
    go_wp2_with fail
    refine (isRow_false _ _ _ _ zs _ H.out HR.out).mono ?_; rintro e w1 ⟨rfl, bb⟩
    have HB := Lib.hid bb; clear bb
    go_wp2
    go_ret
    exact ⟨ret_bool HM.out.symm, HB.out⟩
  | true =>
    have HM : Hid (wholeB zs = decide (zs = hangL zs)) := by
      show _ = _
      rw [wholeB, hr, Bool.true_and]
      exact decide_eq_decide.2 ⟨Eq.symm, Eq.symm⟩
    have HR := Lib.hid hr; clear hr
    have HHL := Lib.hid (show (hangL zs).length = zs.length by simp [hangL])
    go_enter Try.func50, Try.ntmps50
    go_wp2_with fail
    refine (isRow_true _ _ _ _ zs _ H.out HR.out).mono ?_; rintro e w1 ⟨rfl, bb⟩
    have HB := Lib.hid bb; have H1 := Lib.hid (H.out.grow bb).toAll; clear bb
    go_wp2_with fail
    refine (hang_any _ _ _ zs _ H1.out HR.out rfl).mono ?_; rintro e w2 ⟨A', c', rfl, hi, hb⟩
    have HI := Lib.hid hi; have HB2 := Lib.hid (below_then HB.out (Nat.le_refl _) hb); have H2 := Lib.hid (H1.out.grow hb); clear hi hb
    go_wp2_with fail
    refine (equal_any _ _ _ _ _ _ _ _ _ _ zs (hangL zs) w2 H2.out HI.out.toIR rfl rfl HHL.out).mono ?_; rintro e w3 ⟨rfl, bb⟩
    have HB3 := Lib.hid (below_then HB2.out (Nat.le_refl _) bb); clear bb
    rw [← HM.out]
    go_wp2
    go_ret
    exact ⟨rfl, HB3.out⟩

theorem Bk.belowB {w w' : World} {b n C : Nat} {T : Int → Prop} {F : Int → Int} (h : Bk w b n T F) (hb : Below C w w') (hlt : b < C) : Bk w' b n T F := by
  obtain ⟨D, ⟨es, clock, h0, r⟩, k⟩ := h
  exact ⟨D, ⟨es, clock, (hb.block b hlt).trans h0, r⟩, k⟩
/-- The corners among the places seen. -/
def cornOf (zs : List Int) (pre : List (Fin zs.length)) : List Int := pre.foldl (fun l x => if (hangL zs).getD x.1 0 = zs.getD x.1 0 then l ++ [((x.1 : Nat) : Int)] else l) []
theorem cornOf_snoc (zs : List Int) (pre : List (Fin zs.length)) (x : Fin zs.length) : cornOf zs (pre ++ [x]) = if (hangL zs).getD x.1 0 = zs.getD x.1 0 then cornOf zs pre ++ [((x.1 : Nat) : Int)] else cornOf zs pre := by simp [cornOf]
theorem cornOf_take (zs : List Int) (k : Nat) (hk : k ≤ zs.length) : cornOf zs ((List.finRange zs.length).take k) = cornersTo zs k := by
  induction k with
  | zero => simp [cornOf, cornersTo]
  | succ k ih =>
    rw [← finRange_succ (show k < zs.length by omega), cornOf_snoc, ih (by omega)]
    by_cases c : (hangL zs).getD k 0 = zs.getD k 0
    · rw [if_pos c, corners_hit c]
    · rw [if_neg c, corners_skip c]
theorem cornOf_all (zs : List Int) : cornOf zs (List.finRange zs.length) = cornersL zs := by
  have := cornOf_take zs zs.length (Nat.le_refl _)
  rwa [List.take_of_length_le (by simp)] at this
theorem cornOf_len (zs : List Int) (pre : List (Fin zs.length)) : (cornOf zs pre).length ≤ pre.length := by
  induction pre using snocInd with
  | nil => simp [cornOf]
  | snoc pre x ih =>
    rw [cornOf_snoc]
    by_cases c : (hangL zs).getD x.1 0 = zs.getD x.1 0
    · rw [if_pos c]; simp; exact ih
    · rw [if_neg c]; simp; omega
/-- The boxes of LineCorners: the row, the book. -/
def CBox (W : World) (B b : Nat) (v : Value) : Prop := Boxed W B 48 v ∧ Boxed W (b + 1) 67 (.map (some b))
theorem cBox_own {β : Type} (B b : Nat) (v : Value) : Own (fun (_ : β) W => CBox W B b v) := by
  rintro t X Y row ⟨h1, h2⟩ hg hrow
  have key : ∀ (g : Nat) (o : Obj), X.heap[g]? = some o → o.isCells = true → some g ≠ row := by
    intro g o hb ho' e'
    obtain ⟨o', ho, hc⟩ := hrow g e'.symm
    rw [hb] at ho; cases ho; rw [ho'] at hc; cases hc
  exact ⟨h1.kept hg (key _ _ h1 rfl), h2.kept hg (key _ _ h2 rfl)⟩
theorem CBox.below {W W' : World} {B b C : Nat} {v : Value} (h : CBox W B b v) (hb : Below C W W') (h1 : B < C) (h2 : b + 1 < C) : CBox W' B b v :=
  ⟨(hb.block _ h1).trans h.1, (hb.block _ h2).trans h.2⟩

set_option maxRecDepth 100000 in
set_option maxHeartbeats 4000000 in
theorem implLineCorners_any (A : Option Addr) (c : Nat) (zs : List Int) (w : World) (h : IR w 0 w.heap.size A zs) :
    Calls Try.prog 41 #[.slice A zs.length c] w (RetSB w (cornersM zs)) := by
  have H := Lib.hid h
  have hmm := @run_makeMap Try.prog
  have hb0 : Below w.heap.size w (w.alloc (.cells #[.slice A zs.length c] 48)) := (Below.refl _ w).alloc (Nat.le_refl _) _
  have HB0 := Lib.hid hb0
  clear h hb0
  cases hr : rowB zs with
  | false =>
    have HM : Hid (cornersM zs = none) := by show _ = _; simp [cornersM, hr]
    have HR := Lib.hid hr; clear hr
    refine (callsIn_wide (n := 6)).1 ?_
    refine callsIn_of_wp_marks Try.func41 rfl trivial ?_ rfl
    simp only [Try.ntmps41, List.size_toArray, List.length_cons, List.length_nil, Nat.reduceAdd, Nat.reduceSub, Array.replicate_succ, Array.replicate_zero, List.push_toArray, List.append_toArray, List.nil_append, List.cons_append]
    gi_wp2_with fail
    refine ⟨trivial, ?_⟩
    gi_at_call 58
    refine (callsIn_wide.2 (isRow_false _ _ _ _ zs _ (H.out.below HB0.out (Nat.le_refl _)).toAll HR.out)).mono ?_; rintro e w1 ⟨rfl, bb⟩
    have HB := Lib.hid (below_then HB0.out (Nat.le_refl _) bb); clear bb
    gi_wp2
    rw [HM.out]
    refine ⟨.tuple #[.slice none 0 0, .bool false], ?_, retSB_none HB.out⟩
    simp [results, Try.f41, go_sem]
  | true =>
    have HM : Hid (cornersM zs = some (cornersL zs)) := by show _ = _; simp [cornersM, hr]
    have hl := (rowB_true.1 hr).2
    have HR := Lib.hid hr; clear hr
    refine (callsIn_wide (n := 6)).1 ?_
    refine callsIn_of_wp_marks Try.func41 rfl trivial ?_ rfl
    simp only [Try.ntmps41, List.size_toArray, List.length_cons, List.length_nil, Nat.reduceAdd, Nat.reduceSub, Array.replicate_succ, Array.replicate_zero, List.push_toArray, List.append_toArray, List.nil_append, List.cons_append]
    gi_wp2_with fail
    refine ⟨trivial, ?_⟩
    gi_at_call 58
    refine (callsIn_wide.2 (isRow_true _ _ _ _ zs _ (H.out.below HB0.out (Nat.le_refl _)).toAll HR.out)).mono ?_; rintro e w1 ⟨rfl, bb⟩
    have hx1 : Boxed w1 w.heap.size 48 (.slice A zs.length c) := (bb.block _ (by simp)).trans (Boxed.new w _ _)
    have HB1 := Lib.hid (below_then HB0.out (Nat.le_refl _) bb)
    have hlt1 : w.heap.size < w1.heap.size := hx1.lt
    have hcx := hx1.cell
    obtain ⟨W2, hW2⟩ : ∃ W2, (w1.alloc (.map #[] 0)).alloc (.cells #[.map (some w1.heap.size)] 67) = W2 := ⟨_, rfl⟩
    have hb12 : Below w1.heap.size w1 W2 := by rw [← hW2]; exact ((Below.refl _ w1).alloc (Nat.le_refl _) _).alloc (by simp) _
    have hs2 : W2.heap.size = w1.heap.size + 2 := by rw [← hW2]; simp
    have hc2 : CBox W2 w.heap.size w1.heap.size (.slice A zs.length c) := by
      refine ⟨(hb12.block _ hlt1).trans hx1, ?_⟩
      have n1 := Boxed.new (w1.alloc (.map #[] 0)) 67 (.map (some w1.heap.size))
      rw [World.size_alloc] at n1
      rw [← hW2]; exact n1
    have HBK2 := Lib.hid (show Bk W2 w1.heap.size 0 (fun _ => False) (fallL zs) from by rw [← hW2]; exact (Bk.made w1 (fallL zs)).kept (World.grownBy_alloc _ _ none) (by simp))
    have HB2 := Lib.hid (below_then HB1.out (Nat.le_refl _) hb12)
    have HC2 := Lib.hid hc2; have HS2 := Lib.hid hs2
    have d1 := hc2.1.cell; have d2 := hc2.2.cell
    clear bb hx1 hb12 hs2 hc2
    gi_wp2_with fail
    refine ⟨trivial, ?_⟩
    gi_at_call 80
    refine (callsIn_wide.2 (ask_any A c zs.length w.heap.size zs w1.heap.size 0 (fun _ => False) (fallL zs) W2 (H.out.below HB2.out (Nat.le_refl _)) (Nat.le_of_lt hlt1) HR.out rfl HBK2.out)).mono ?_
    rintro e w3 ⟨rfl, hbk, hg⟩
    have hc3 : CBox w3 w.heap.size w1.heap.size (.slice A zs.length c) := ⟨HC2.out.1.kept hg (by simp; omega), HC2.out.2.kept hg (by simp)⟩
    have hs3 : w1.heap.size + 2 ≤ w3.heap.size := by have := hg.size; have := HS2.out; omega
    have HB3 := Lib.hid (HB2.out.trans (grown_below hg (Nat.le_of_lt hlt1) HB2.out.size))
    have HBK3 := Lib.hid hbk; have HC3 := Lib.hid hc3
    have d3 := hc3.1.cell; have d4 := hc3.2.cell
    have dq : (w3.alloc (.cells #[.slice none 0 0] 23)).cell? ⟨w.heap.size, 0, none⟩ = some (.slice A zs.length c) := by
      rw [World.cell?_alloc_past _ _ _ (by show w.heap.size < w3.heap.size; omega)]; exact d3
    clear hbk hg hc3 d1 d2 HC2 HBK2 HS2 hW2
    gi_wp2_with (refine ⟨trivial, ?_⟩; gi_at_call 57; refine (entries_in _ _ trivial rfl _ _ _ _).mono ?_; rintro e w' ⟨rfl, rfl⟩)
    obtain ⟨W4, hW4⟩ : ∃ W4, (w3.alloc (.cells #[.slice none 0 0] 23)).alloc (.cells #[.slice A zs.length c] 48) = W4 := ⟨_, rfl⟩
    have hsz4 : W4.heap.size = w3.heap.size + 2 := by rw [← hW4]; simp
    have hb34 : Below w3.heap.size w3 W4 := by rw [← hW4]; exact ((Below.refl _ w3).alloc (Nat.le_refl _) _).alloc (by simp) _
    have hb4 : Below w.heap.size w W4 := below_then HB3.out (Nat.le_refl _) hb34
    have hC4 : CBox W4 w.heap.size w1.heap.size (.slice A zs.length c) := HC3.out.below hb34 (by omega) (by omega)
    have hBK4 : Bk W4 w1.heap.size 400 (Asked zs) (fallL zs) := HBK3.out.below hb34
    have hO4 : BoxOwn W4 w3.heap.size w3.heap.size (cornOf zs []) := by
      refine ⟨.slice none 0 0, ?_, OwnI.nil _ _ (by omega)⟩
      rw [← hW4]; exact (Boxed.new w3 23 (.slice none 0 0)).alloc _
    have hbox : W4.cell? ⟨w3.heap.size + 1, 0, none⟩ = some (.slice A zs.length c) := by
      rw [← hW4, World.cell?_alloc_at _ _ _ _ (by simp)]; rfl
    have hR4 : IR W4 0 w.heap.size A zs := H.out.below hb4 (Nat.le_refl _)
    rw [hW4]
    clear hW4 hb34 d3 d4 dq
    apply (fun a₁ => wpIn_rangeFunc_ownF (F := Fence.wide) rfl (by decide) (gf := 90) (lb := #[.pointer (some ⟨w3.heap.size + 1, 0, none⟩)]) rfl trivial (enters_of Try.func90 (by kernel_rfl) rfl)
      (entries_stops Fence.wide (6 - 1) trivial rfl (by decide) (w3.heap.size + 1) w.heap.size c A zs _ (by omega) (by omega) hbox hR4) belowK_t (belowK_b (by omega)) (Below.refl _ _) (fun _ => rfl)
      (fun pre W => ((CBox W w.heap.size w1.heap.size (.slice A zs.length c) ∧ Bk W w1.heap.size 400 (Asked zs) (fallL zs)) ∧ (BoxOwn W w3.heap.size w3.heap.size (cornOf zs pre) ∧ w3.heap.size ≤ W.heap.size)) ∧ Below w.heap.size w W)
      (fun _ _ _ => False)
      (OwnFrom.and (OwnFrom.and (OwnFrom.and (Own.from (cBox_own _ _ _) _) (bk_own (n := fun _ => 400) (T := fun _ => Asked zs) (by omega) (fallL zs))) (boxOwn_own _ _ _ _)) (ownFrom_below (Nat.le_refl _) (by omega)))
      (fun _ _ _ _ _ hs _ _ => hs)
      ⟨⟨⟨hC4, hBK4⟩, ⟨hO4, by omega⟩⟩, hb4⟩ a₁)
    case hassign =>
      intro l x W K hK
      gi_wp2
      exact hK
    case hbody =>
      rintro l pre x W ⟨⟨⟨hC, hBK⟩, ⟨hO, hs⟩⟩, hB⟩ hlt
      have d1 := hC.1.cell; have d2 := hC.2.cell
      have HIR := Lib.hid (H.out.below hB (Nat.le_refl _))
      have HC := Lib.hid hC; have HBK := Lib.hid hBK; have HO := Lib.hid hO; have HB := Lib.hid hB
      have hlC : w1.heap.size + 1 < W.heap.size := hC.2.lt
      have hsn := cornOf_snoc zs pre x
      have HLL := Lib.hid (show (cornOf zs pre).length < 17592186044416 by have := cornOf_len zs pre; omega)
      clear hC hBK hO hB
      gi_wp2_with fail
      refine ⟨trivial, ?_⟩
      gi_at_call 81
      refine (CallsIn.inRound l (callsIn_wide.2 (hasLineAt_any A c zs.length w.heap.size zs x.1 w1.heap.size 400 (Asked zs) (fallL zs) W HIR.out HR.out rfl x.2 HBK.out (fun s hs => by have := asked_bd HR.out hs; omega) (fun s hs => by have a := asked_bd HR.out hs; have b := fall_bd HR.out (show -3000 ≤ s by omega) (show s ≤ 3000 by omega); omega)))).mono ?_
      rintro e w5 ⟨⟨r, rfl, hr⟩, hb5⟩
      rw [corner_asked HR.out x.2] at hr
      obtain ⟨v, hv, ho⟩ := HO.out
      have hv5 : Boxed w5 w3.heap.size 23 v := (hb5.block _ hv.lt).trans hv
      have ho5 : OwnI w5 w3.heap.size v (cornOf zs pre) := ho.below hb5 (Nat.le_refl _)
      have hko : KeepsOthers W w5 := KeepsOthers.of_grownBy (below_grown hb5 none) (fun j o e _ => by cases e)
      have HKO := Lib.hid hko
      have HB5 := Lib.hid (hb5.mono HB.out.size)
      have HC5 := Lib.hid (HC.out.below hb5 (by omega) hlC)
      have HBK5 := Lib.hid (HBK.out.below hb5)
      have hs5 : w3.heap.size ≤ w5.heap.size := Nat.le_trans hs hb5.size
      have hcx := hv5.cell
      have HV5 := Lib.hid hv5; have HO5 := Lib.hid ho5; have HSN := Lib.hid hsn; have HRR := Lib.hid hr
      clear hb5 hv ho hv5 ho5 hko hsn hr
      cases r with
      | true =>
        have hcn : cornOf zs (pre ++ [x]) = cornOf zs pre ++ [((x.1 : Nat) : Int)] := by rw [HSN.out, if_pos (HRR.out.1 rfl)]
        have HCN := Lib.hid hcn
        have hy : I64 ((x.1 : Nat) : Int) := by have := x.2; unfold I64; omega
        have HY := Lib.hid hy
        clear hcn hy
        gi_wp2_with (gi_at_builtin; refine wpListIn_push rfl _ _ rfl w3.heap.size _ _ rfl rfl HO5.out HLL.out HY.out ?_; intro v' w6 ho1 hg1; obtain ⟨g', cap', rfl⟩ := ownI_some ho1; obtain ⟨hv1, hv2, hk2, hb2⟩ := box_push HV5.out HO5.out (Nat.le_refl _) ho1 hg1; have hc1 := hv1.cell; have hf1 := hv1.frozen)
        have hs63 : w3.heap.size ≤ (w6.setCell ⟨w3.heap.size, 0, none⟩ (.slice (some ⟨g', 0, none⟩) ((cornOf zs pre).length + 1) cap')).heap.size := Nat.le_trans hs5 hb2.size
        have hbw : Below w.heap.size W (w6.setCell ⟨w3.heap.size, 0, none⟩ (.slice (some ⟨g', 0, none⟩) ((cornOf zs pre).length + 1) cap')) := HB5.out.trans (hb2.mono (by omega))
        refine ⟨HKO.out.trans hk2, hbw, ⟨⟨HC5.out.below hb2 (by omega) (by omega), HBK5.out.belowB hb2 (by omega)⟩, ⟨?_, hs63⟩⟩, HB.out.trans hbw⟩
        rw [HCN.out]
        exact hv2
      | false =>
        have hcn : cornOf zs (pre ++ [x]) = cornOf zs pre := by rw [HSN.out, if_neg (fun h => by have := HRR.out.2 h; cases this)]
        have HCN := Lib.hid hcn
        clear hcn
        gi_wp2
        refine ⟨HKO.out, HB5.out, ⟨⟨HC5.out, HBK5.out⟩, ⟨?_, hs5⟩⟩, HB.out.trans HB5.out⟩
        rw [HCN.out]
        exact ⟨v, HV5.out, HO5.out⟩
    case hdone =>
      rintro D ys W hD rfl ⟨⟨⟨hC, hBK⟩, ⟨⟨v, hv, ho⟩, hs⟩⟩, hB⟩ hK
      rw [cornOf_all] at ho
      have hcx := hv.cell
      have HO := Lib.hid ho; have HBB := Lib.hid hB; have HV := Lib.hid hv
      have hlen : (cornersL zs).length ≤ 12 := by have := (corners_len zs zs.length).1; show (cornersTo zs zs.length).length ≤ 12; omega
      clear ho hB hv hC hBK
      gi_wp2
      refine ⟨by simp, .inl ⟨_, _, rfl, run_takeDeferred hK, ?_⟩⟩
      obtain ⟨A', c', rfl, hi⟩ := (ownI_putObj HO.out (.deferred none) hK rfl).iw (by omega)
      rw [HM.out]
      refine ⟨.tuple #[.slice A' (cornersL zs).length c', .bool true], ?_, retSB_some rfl (hi.wide (by omega) (Nat.le_refl _) (Nat.le_refl _)) (HBB.out.trans (belowK_b (w := w) (Nat.le_refl _) W D _ _ (by omega) hK rfl rfl))⟩
      simp [results, Try.f41, go_sem]
    case hstop =>
      rintro D cd pre W _ _ h _
      exact h.elim
end Go.Proofs.Ytlgagdplnpeklaa
