/-
  RowBelow of the model and of the program: both answer whether two rows are alike and no entry of the first is greater than that of the second. Conditions: the rows' cells are there.
-/
import Derived.Test.YtlgagdplnpeklaaImp2
namespace Go.Proofs.Ytlgagdplnpeklaa
open Go.RowKit Go.Shelf

def leB (a b : List Int) : Bool := (List.range a.length).all fun k => decide (a.getD k 0 ≤ b.getD k 0)
theorem leB_true {a b : List Int} (h : ∀ k, k < a.length → a.getD k 0 ≤ b.getD k 0) : leB a b = true := by
  unfold leB
  rw [List.all_eq_true]
  intro k hk
  exact decide_eq_true (h k (List.mem_range.1 hk))
theorem leB_false {a b : List Int} {k : Nat} (hk : k < a.length) (h : b.getD k 0 < a.getD k 0) : leB a b = false := by
  unfold leB
  rw [List.all_eq_false]
  exact ⟨k, List.mem_range.2 hk, by simp only [decide_eq_true_eq]; omega⟩
def LeAt (a b : List Int) (x : Fin a.length) : Prop := a.getD x.1 0 ≤ b.getD x.1 0
def GtAt (a b : List Int) (x : Fin a.length) : Prop := b.getD x.1 0 < a.getD x.1 0
def belowB (a b : List Int) : Bool := twoB a b && leB a b

set_option maxHeartbeats 2000000 in
theorem specRowBelow_any (A0 : Option Addr) (c0 : Nat) (zs0 : List Int) (A1 : Option Addr) (c1 : Nat) (zs1 : List Int) (w : World) (h0 : IR w 0 w.heap.size A0 zs0) (h1 : IR w 0 w.heap.size A1 zs1) :
    Calls Try.prog 20 #[.slice A0 zs0.length c0, .slice A1 zs1.length c1] w fun e w' => e = .returned (.bool (belowB zs0 zs1)) ∧ Below w.heap.size w w' := by
  have H0 := Lib.hid h0; have H1 := Lib.hid h1
  clear h0 h1
  cases ht : twoB zs0 zs1 with
  | false =>
    have HM : Hid (belowB zs0 zs1 = false) := by show _ = _; simp [belowB, ht]
    have HT := Lib.hid ht; clear ht
    go_enter Try.func20, Try.ntmps20
    go_wp2_with fail
    refine (l1Two_false _ _ zs0 _ _ zs1 _ _ _ _ _ H0.out H1.out HT.out).mono ?_; rintro e w' ⟨rfl, rfl⟩
    go_wp2
    go_ret
    exact ⟨ret_bool HM.out.symm, Below.refl _ _⟩
  | true =>
    have HM : Hid (belowB zs0 zs1 = leB zs0 zs1) := by show _ = _; simp [belowB, ht]
    have HT := Lib.hid ht; clear ht
    have HLe := Lib.hid (twoB_true HT.out).2.2
    have hl := (rowB_true.1 (twoB_true HT.out).1).2
    go_enter Try.func20, Try.ntmps20
    go_wp2_with fail
    refine (l1Two_true _ _ zs0 _ _ zs1 _ _ _ _ _ H0.out H1.out HT.out).mono ?_; rintro e w' ⟨rfl, rfl⟩
    go_wp2
    go_loopw [5] (fun i wr => ∃ k : Nat, k ≤ zs0.length ∧ i = .int .i64 k ∧ IR wr 0 w.heap.size A0 zs0 ∧ IR wr 0 w.heap.size A1 zs1 ∧ Below w.heap.size w wr ∧ Hid (∀ j, j < k → zs0.getD j 0 ≤ zs1.getD j 0)) (fun i _ => zs0.length - (intOf i).toNat)
    case atStart => exact ⟨0, Nat.zero_le _, rfl, H0.out, H1.out, Below.refl _ _, Lib.hid (fun j hj => absurd hj (by omega))⟩
    case round =>
      obtain ⟨k, hk, rfl, r0, r1, hb, hall⟩ := hrel
      have R0 := Lib.hid r0; have R1 := Lib.hid r1; have HB := Lib.hid hb
      clear r0 r1 hb
      by_cases hlt : k < zs0.length
      · have hlt1 : k < zs1.length := by have := HLe.out; omega
        obtain ⟨b, off, rfl, _, _, hc0⟩ := R0.out.at_ hlt
        obtain ⟨b', off', rfl, _, _, hc1⟩ := R1.out.at_ hlt1
        have g0 := Lib.hid (getD_in hlt); have g1 := Lib.hid (getD_in hlt1)
        have k0 : (k : Int) < (zs0.length : Int) := by omega
        have k1 : (k : Int) < (zs1.length : Int) := by omega
        by_cases hcmp : (zs1[k]'hlt1) < (zs0[k]'hlt)
        · go_wp2
          go_quiet (fail)
          clear hc0 hc1
          go_wp2
          go_ret
          exact ⟨ret_bool (by rw [HM.out]; exact (leB_false hlt (by rw [g0.out, g1.out]; exact hcmp)).symm), below_drawN HB.out _⟩
        · go_wp2
          go_quiet (fail)
          clear hc0 hc1
          go_wp2
          go_roundw
          case rel => exact ⟨k + 1, by omega, by go_num, R0.out.drewN _, R1.out.drewN _, below_drawN HB.out _, Lib.hid (fun j hj => by
            by_cases hjk : j = k
            · subst hjk; rw [g0.out, g1.out]; omega
            · exact hall.out j (by omega))⟩
          case measure => simp [intOf]; omega
      · obtain rfl : k = zs0.length := by omega
        go_wp2
        go_ret
        exact ⟨ret_bool (by rw [HM.out]; exact (leB_true fun j hj => hall.out j hj).symm), HB.out⟩

theorem isAlike_true (A0 : Option Addr) (c0 : Nat) (zs0 : List Int) (A1 : Option Addr) (c1 : Nat) (zs1 : List Int) (lo hi lo' hi' : Nat) (w : World) (h0 : IR w lo hi A0 zs0) (h1 : IR w lo' hi' A1 zs1) (h : twoB zs0 zs1 = true) :
    Calls Try.prog 56 #[.slice A0 zs0.length c0, .slice A1 zs1.length c1] w fun e w' => e = .returned (.bool true) ∧ Below w.heap.size w w' := by
  have := isAlike_any A0 c0 zs0 A1 c1 zs1 lo hi lo' hi' w h0 h1; rwa [h] at this
theorem isAlike_false (A0 : Option Addr) (c0 : Nat) (zs0 : List Int) (A1 : Option Addr) (c1 : Nat) (zs1 : List Int) (lo hi lo' hi' : Nat) (w : World) (h0 : IR w lo hi A0 zs0) (h1 : IR w lo' hi' A1 zs1) (h : twoB zs0 zs1 = false) :
    Calls Try.prog 56 #[.slice A0 zs0.length c0, .slice A1 zs1.length c1] w fun e w' => e = .returned (.bool false) ∧ Below w.heap.size w w' := by
  have := isAlike_any A0 c0 zs0 A1 c1 zs1 lo hi lo' hi' w h0 h1; rwa [h] at this

attribute [local go_sem] Oper.semAt_some
theorem boxed2_own {β : Type} (B B' : Nat) (t t' : TypeId) (v v' : Value) (p : β → Prop) : Own (fun s W => Boxed W B t v ∧ Boxed W B' t' v' ∧ p s) := by
  rintro s X Y row ⟨hv, hv', hp⟩ hg hrow
  have key : ∀ (g : Nat) (tt : TypeId) (u : Value), Boxed X g tt u → some g ≠ row := by
    intro g tt u hb e'
    obtain ⟨o, ho, hc⟩ := hrow g e'.symm
    rw [show X.heap[g]? = _ from hb] at ho; cases ho; cases hc
  exact ⟨hv.kept hg (key _ _ _ hv), hv'.kept hg (key _ _ _ hv'), hp⟩

set_option maxRecDepth 100000 in
set_option maxHeartbeats 2000000 in
theorem implRowBelow_any (A0 : Option Addr) (c0 : Nat) (zs0 : List Int) (A1 : Option Addr) (c1 : Nat) (zs1 : List Int) (w : World) (h0 : IR w 0 w.heap.size A0 zs0) (h1 : IR w 0 w.heap.size A1 zs1) :
    Calls Try.prog 19 #[.slice A0 zs0.length c0, .slice A1 zs1.length c1] w fun e w' => e = .returned (.bool (belowB zs0 zs1)) ∧ Below w.heap.size w w' := by
  have hb2 : Below w.heap.size w ((w.alloc (.cells #[.slice A1 zs1.length c1] 23)).alloc (.cells #[.bool false] 4)) := ((Below.refl _ w).alloc (Nat.le_refl _) _).alloc (by rw [World.size_alloc]; omega) _
  have B2 := Lib.hid hb2; have H0 := Lib.hid (h0.grow hb2); have H1 := Lib.hid (h1.grow hb2)
  clear hb2 h0 h1
  refine (callsIn_wide (n := 6)).1 ?_
  refine callsIn_of_wp_marks Try.func19 rfl trivial ?_ rfl
  simp only [Try.ntmps19, List.size_toArray, List.length_cons, List.length_nil, Nat.reduceAdd, Nat.reduceSub, Array.replicate_succ, Array.replicate_zero, List.push_toArray, List.append_toArray, List.nil_append, List.cons_append]
  cases ht : twoB zs0 zs1 with
  | false =>
    have HM : Hid (belowB zs0 zs1 = false) := by show _ = _; simp [belowB, ht]
    have HT := Lib.hid ht; clear ht
    gi_wp2_with fail
    refine ⟨trivial, ?_⟩
    gi_at_call 56
    refine (callsIn_wide.2 (isAlike_false _ _ zs0 _ _ zs1 _ _ _ _ _ H0.out H1.out HT.out)).mono ?_
    rintro e w3 ⟨rfl, b3⟩
    have hcr : w3.cell? ⟨w.heap.size + 1, 0, none⟩ = some (.bool false) := (b3.cell (p := ⟨w.heap.size + 1, 0, none⟩) (by show w.heap.size + 1 < _; rw [World.size_alloc, World.size_alloc]; omega)).trans (by rw [World.cell?_alloc_at _ _ _ _ (by rw [World.size_alloc])]; rfl)
    have hfr : w3.frozen? ⟨w.heap.size + 1, 0, none⟩ = false := (b3.frozen (p := ⟨w.heap.size + 1, 0, none⟩) (by show w.heap.size + 1 < _; rw [World.size_alloc, World.size_alloc]; omega)).trans (World.frozen?_alloc_at _ _ _ _ (by rw [World.size_alloc]))
    have B3 := Lib.hid b3; clear b3
    gi_wp2
    refine ⟨.bool false, ?_, ret_bool HM.out.symm, (below_then B2.out (Nat.le_refl _) B3.out).setCell (p := ⟨w.heap.size + 1, 0, none⟩) (by show w.heap.size ≤ w.heap.size + 1; omega) _⟩
    have hcs : (w3.setCell ⟨w.heap.size + 1, 0, none⟩ (.bool false)).cell? ⟨w.heap.size + 1, 0, none⟩ = some (.bool false) := World.cell?_setCell_same' _ _ _ (by rw [hcr]; rfl)
    simp [results, Try.f19, go_sem, hcs]
  | true =>
    have HM : Hid (belowB zs0 zs1 = leB zs0 zs1) := by show _ = _; simp [belowB, ht]
    have HT := Lib.hid ht; clear ht
    have HLe := Lib.hid (twoB_true HT.out).2.2
    have hl := (rowB_true.1 (twoB_true HT.out).1).2
    gi_wp2_with fail
    refine ⟨trivial, ?_⟩
    gi_at_call 56
    refine (callsIn_wide.2 (isAlike_true _ _ zs0 _ _ zs1 _ _ _ _ _ H0.out H1.out HT.out)).mono ?_
    rintro e w3 ⟨rfl, b3⟩
    have hbB : Boxed w3 w.heap.size 23 (.slice A1 zs1.length c1) := (b3.block _ (by rw [World.size_alloc, World.size_alloc]; omega)).trans ((Below.heap_alloc _ _ _ (by rw [World.size_alloc]; omega)).trans (Boxed.new w _ _))
    have hbR : Boxed w3 (w.heap.size + 1) 4 (.bool false) := (b3.block _ (by rw [World.size_alloc, World.size_alloc]; omega)).trans (by have := Boxed.new (w.alloc (.cells #[.slice A1 zs1.length c1] 23)) 4 (.bool false); rwa [World.size_alloc] at this)
    have R0 := Lib.hid (H0.out.grow b3); have R1 := Lib.hid (H1.out.grow b3)
    have B3 := Lib.hid (below_then B2.out (Nat.le_refl _) b3)
    have hs3 : w.heap.size + 2 ≤ w3.heap.size := by have := hbR.lt; omega
    have HBB := Lib.hid hbB; have HBR := Lib.hid hbR
    clear b3 hbB hbR
    gi_wp2_with (refine ⟨trivial, ?_⟩; gi_at_call 57; refine (entries_in _ _ trivial rfl _ _ _ _).mono ?_; rintro e w' ⟨rfl, rfl⟩)
    have hb4 : Below w3.heap.size w3 (w3.alloc (.cells #[.slice A0 zs0.length c0] 48)) := (Below.refl _ w3).alloc (Nat.le_refl _) _
    have hB04 : Below w.heap.size w (w3.alloc (.cells #[.slice A0 zs0.length c0] 48)) := below_then B3.out (Nat.le_refl _) hb4
    apply (fun a₁ => wpIn_rangeFunc_ownF (F := Fence.wide) rfl (by decide) (gf := 90) (lb := #[.pointer (some ⟨w3.heap.size, 0, none⟩)]) rfl trivial (enters_of Try.func90 (by kernel_rfl) rfl)
      (entries_stops Fence.wide (6 - 1) trivial rfl (by decide) w3.heap.size w.heap.size c0 A0 zs0 _ (by rw [World.size_alloc]; omega) (by rw [World.size_alloc]; omega) (by rw [World.cell?_alloc_at _ _ _ _ rfl]; rfl) (R0.out.below hb4 (by omega))) belowK_t (belowK_b (by rw [World.size_alloc]; omega)) (Below.refl _ _) (fun _ => rfl)
      (fun pre W => (Boxed W w.heap.size 23 (.slice A1 zs1.length c1) ∧ Boxed W (w.heap.size + 1) 4 (.bool false) ∧ ∀ x, x ∈ pre → LeAt zs0 zs1 x) ∧ Below w.heap.size w W)
      (fun cd pre W => (Boxed W w.heap.size 23 (.slice A1 zs1.length c1) ∧ Boxed W (w.heap.size + 1) 4 (.bool false) ∧ cd = .ret ∧ ∃ x : Fin zs0.length, x ∈ pre ∧ GtAt zs0 zs1 x) ∧ Below w.heap.size w W)
      (OwnFrom.and (Own.from (boxed2_own _ _ _ _ _ _ _) _) (ownFrom_below (Nat.le_refl _) (by rw [World.size_alloc]; omega)))
      (fun cd => OwnFrom.and (Own.from (boxed2_own _ _ _ _ _ _ _) _) (ownFrom_below (Nat.le_refl _) (by rw [World.size_alloc]; omega)))
      ⟨⟨HBB.out.alloc _, HBR.out.alloc _, by simp⟩, hB04⟩ a₁)
    case hassign =>
      intro l x W K hK
      gi_wp2
      exact hK
    case hbody =>
      rintro l pre x W ⟨⟨hb, hr, hall⟩, hB⟩ hlt
      have hx1 : x.1 < zs1.length := by have := HLe.out; have := x.2; omega
      have hR1 := (H1.out.wide (Nat.le_refl _) (Nat.le_refl _) H1.out.2.2.1).keep (w' := W) (by have := hB.size; have := hr.lt; rw [World.size_alloc, World.size_alloc]; omega) (fun p _ h2 => by
        have e1 := hB.cell (p := p) h2
        have e2 := B2.out.cell (p := p) h2
        exact e1.trans e2.symm)
      obtain ⟨b, off, rfl, _, _, hc1⟩ := hR1.at_ hx1
      have g0 := Lib.hid (getD_in x.2); have g1 := Lib.hid (getD_in hx1)
      have hcb := hb.cell
      have hcr := hr.cell
      have hfr := hr.frozen
      have hx0' : (0 : Int) ≤ ((x.1 : Nat) : Int) := Int.natCast_nonneg _
      have hx1' : ((x.1 : Nat) : Int) < (zs1.length : Int) := by omega
      have HX := Lib.hid hb; have HRr := Lib.hid hr; have HA := Lib.hid hall; have HB := Lib.hid hB
      clear hb hr hall hB hR1
      by_cases hcmp : (zs1[x.1]'hx1) < (zs0[x.1]'x.2)
      · gi_wp2
        exact ⟨KeepsOthers.setCell _ _ _, ⟨HX.out.kept (grownBy_setCell' _ _ _) (by simp), HRr.out.set _, rfl, x, by simp, by show zs1.getD x.1 0 < zs0.getD x.1 0; rw [g0.out, g1.out]; exact hcmp⟩, HB.out.setCell (p := ⟨w.heap.size + 1, 0, none⟩) (by show w.heap.size ≤ w.heap.size + 1; omega) _⟩
      · gi_wp2
        exact ⟨KeepsOthers.refl _, Below.refl _ _, ⟨HX.out, HRr.out, by
          intro y hy
          rcases List.mem_append.1 hy with hy | hy
          · exact HA.out y hy
          · obtain rfl := List.mem_singleton.1 hy; show zs0.getD y.1 0 ≤ zs1.getD y.1 0; rw [g0.out, g1.out]; omega⟩, HB.out⟩
    case hdone =>
      rintro D ys W hD rfl ⟨⟨hb, hr, hall⟩, hB⟩ hK
      have hm : belowB zs0 zs1 = true := by rw [HM.out]; exact leB_true fun k hk => hall ⟨k, hk⟩ (List.mem_finRange _)
      have hcr := hr.cell
      have hfr := hr.frozen
      have HRr := Lib.hid hr; have HB := Lib.hid hB; have HMM := Lib.hid hm
      clear hb hr hall hB hm
      gi_wp2
      refine ⟨by simp, .inl ⟨_, _, rfl, run_takeDeferred ((KeepsOthers.setCell _ _ _).same D _ hK rfl), ?_⟩⟩
      refine ⟨.bool true, ?_, ?_⟩
      · have hc4 : ((W.setCell ⟨w.heap.size + 1, 0, none⟩ (.bool true)).putObj D (.deferred none)).cell? ⟨w.heap.size + 1, 0, none⟩ = some (.bool true) :=
          cell_kept (HRr.out.set (.bool true)).cell (grownBy_putObj' _ D (.deferred none)) (fun r e => by cases e; exact ⟨_, (KeepsOthers.setCell _ _ _).same D _ hK rfl, rfl⟩)
        simp [results, Try.f19, go_sem, hc4]
      · exact ⟨ret_bool HMM.out.symm, (HB.out.setCell (p := ⟨w.heap.size + 1, 0, none⟩) (by show w.heap.size ≤ w.heap.size + 1; omega) _).trans (belowK_b (w := w) (Nat.le_refl _) _ D _ _ (by rw [World.size_alloc] at hD; omega) ((KeepsOthers.setCell _ _ _).same D _ hK rfl) rfl rfl)⟩
    case hstop =>
      rintro D cd pre W hD _ ⟨⟨hb, hr, rfl, x, _, hf⟩, hB⟩ hK
      have hm : belowB zs0 zs1 = false := by rw [HM.out]; exact leB_false x.2 hf
      have hcr := hr.cell
      have HRr := Lib.hid hr; have HB := Lib.hid hB; have HMM := Lib.hid hm
      clear hb hr hB hm hf
      gi_wp2
      refine ⟨by simp, .inl ⟨_, _, rfl, run_takeDeferred hK, ?_⟩⟩
      refine ⟨.bool false, ?_, ?_⟩
      · have hc4 : (W.putObj D (.deferred none)).cell? ⟨w.heap.size + 1, 0, none⟩ = some (.bool false) :=
          cell_kept HRr.out.cell (grownBy_putObj' _ D (.deferred none)) (fun r e => by cases e; exact ⟨_, hK, rfl⟩)
        simp [results, Try.f19, go_sem, hc4]
      · exact ⟨ret_bool HMM.out.symm, HB.out.trans (belowK_b (w := w) (Nat.le_refl _) _ D _ _ (by rw [World.size_alloc] at hD; omega) hK rfl rfl)⟩
end Go.Proofs.Ytlgagdplnpeklaa
