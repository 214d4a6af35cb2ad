/-
  ValleyOne of the program: a row that never rises ahead of a fall. Conditions: the list's cells are there.
-/
import Derived.Test.YtnphmapiagiocaaVl1
import Derived.Test.YtnphmapiagiocaaIter3
namespace Go.Proofs.Ytnphmapiagiocaa
open Go.RowKit Go.Shelf
attribute [local go_sem] Oper.semAt_some

/-- Whether a slope so far rises, and whether none falls behind one that rises. -/
def upP (zs : List Int) (pre : List (Fin (slopesL zs).length)) : Bool := pre.foldl (fun (s : Bool) (x : Fin (slopesL zs).length) => s || decide (0 < (slopesL zs)[x])) false
def okP (zs : List Int) (pre : List (Fin (slopesL zs).length)) : Bool × Bool := pre.foldl (fun (s : Bool × Bool) (x : Fin (slopesL zs).length) => (s.1 || decide (0 < (slopesL zs)[x]), s.2 && !(s.1 && decide ((slopesL zs)[x] < 0)))) (false, true)
theorem okP_snoc (zs : List Int) (pre : List (Fin (slopesL zs).length)) (x : Fin (slopesL zs).length) : okP zs (pre ++ [x]) = ((okP zs pre).1 || decide (0 < (slopesL zs)[x]), (okP zs pre).2 && !((okP zs pre).1 && decide ((slopesL zs)[x] < 0))) := by
  simp [okP, List.foldl_append]
theorem slope_at (zs : List Int) {k : Nat} (h : k < (slopesL zs).length) : k + 1 < zs.length ∧ (slopesL zs)[(⟨k, h⟩ : Fin (slopesL zs).length)] = zs.getD (k + 1) 0 - zs.getD k 0 := by
  have hl := slopesL_len zs
  have h1 : k + 1 < zs.length := by omega
  refine ⟨h1, ?_⟩
  rw [getD_in h1, getD_in (show k < zs.length by omega)]
  exact slopesL_get zs k h1
theorem okP_take (zs : List Int) : ∀ k : Nat, k ≤ (slopesL zs).length → (okP zs ((List.finRange (slopesL zs).length).take k)).1 = riseB zs k ∧ ((okP zs ((List.finRange (slopesL zs).length).take k)).2 = true → OneTo zs k) := by
  intro k
  induction k with
  | zero => intro _; exact ⟨by simp [okP, riseB], fun _ => oneTo_zero zs⟩
  | succ k ih =>
    intro hk
    obtain ⟨i1, i2⟩ := ih (by omega)
    obtain ⟨h1, h2⟩ := slope_at zs (k := k) (by omega)
    rw [← finRange_succ (show k < (slopesL zs).length by omega), okP_snoc, i1, h2]
    constructor
    · rw [riseB_succ]
      have e : (0 < zs.getD (k + 1) 0 - zs.getD k 0) ↔ (zs.getD k 0 < zs.getD (k + 1) 0) := by omega
      rw [decide_eq_decide.2 e]
    · intro h
      rw [Bool.and_eq_true] at h
      refine oneTo_succ (i2 h.1) h1 ?_
      rintro ⟨c1, c2⟩
      rw [c1, getD_in h1, getD_in (show k < zs.length by omega), decide_eq_true (show zs[k + 1] - zs[k] < 0 by omega)] at h
      simp at h
theorem okP_all {zs : List Int} (h : (okP zs (List.finRange (slopesL zs).length)).2 = true) : oneB zs = true := by
  have hl := slopesL_len zs
  have := (okP_take zs (slopesL zs).length (Nat.le_refl _)).2
  rw [List.take_of_length_le (by simp)] at this
  exact oneTo_all (this h) (by omega)
theorem okP_stop {zs : List Int} {l : List (Fin (slopesL zs).length)} {x : Fin (slopesL zs).length} (hp : Pfx (slopesL zs).length (l ++ [x])) (h1 : (okP zs l).1 = true) (h2 : (slopesL zs)[x] < 0) : oneB zs = false := by
  have e := finRange_init hp
  rw [e, (okP_take zs x.1 (by have := x.2; omega)).1] at h1
  obtain ⟨g1, g2⟩ := slope_at zs x.2
  refine oneB_false g1 h1 ?_
  have : (slopesL zs)[x] = zs.getD (x.1 + 1) 0 - zs.getD x.1 0 := g2
  omega
theorem own_pure {β : Type} (C : Nat) (p : β → Prop) : OwnFrom C (fun s (_ : World) => p s) := fun _ _ _ _ h _ _ => h
theorem okP_next {zs : List Int} {pre : List (Fin (slopesL zs).length)} {x : Fin (slopesL zs).length} (h : (okP zs pre).2 = true) (hn : ¬ ((okP zs pre).1 = true ∧ (slopesL zs)[x] < 0)) : (okP zs (pre ++ [x])).2 = true := by
  rw [okP_snoc, h]
  simp only [Bool.true_and, Bool.not_eq_true', Bool.and_eq_false_imp, decide_eq_false_iff_not]
  intro h1 h2
  exact hn ⟨h1, h2⟩

set_option maxRecDepth 100000 in
set_option maxHeartbeats 2000000 in
theorem hasOne_any (A : Option Addr) (c : Nat) (zs : List Int) (w : World) (h : IR w 0 w.heap.size A zs) (hr : rowB zs = true) :
    Calls Try.prog 46 #[.slice A zs.length c] w fun e w' => e = .returned (.bool (oneB zs)) ∧ Below w.heap.size w w' := by
  have hl := h.1
  have HI := Lib.hid (slopes_i64 hr)
  have hb2 : Below w.heap.size w ((w.alloc (.cells #[.bool false] 4)).alloc (.cells #[.bool false] 4)) := ((Below.refl _ w).alloc (Nat.le_refl _) _).alloc (by rw [World.size_alloc]; omega) _
  refine (callsIn_wide (n := 6)).1 ?_
  refine callsIn_of_wp_marks Try.func46 rfl trivial ?_ rfl
  simp only [Try.ntmps46, List.size_toArray, List.length_cons, List.length_nil, Nat.reduceAdd, Nat.reduceSub, Array.replicate_succ, Array.replicate_zero, List.push_toArray, List.append_toArray, List.nil_append, List.cons_append]
  gi_wp2_with (refine ⟨trivial, ?_⟩; gi_at_call 71; refine (callsIn_wide.2 (slopes_any _ _ _ _)).mono ?_; rintro e w' ⟨rfl, rfl⟩)
  have bO := Boxed.new w 4 (.bool false)
  have bN := Boxed.new (w.alloc (.cells #[.bool false] 4)) 4 (.bool false)
  have bS := Boxed.new ((w.alloc (.cells #[.bool false] 4)).alloc (.cells #[.bool false] 4)) 41 (.slice A zs.length c)
  rw [World.size_alloc] at bN
  rw [World.size_alloc, World.size_alloc] at bS
  obtain ⟨W3, hW3⟩ : ∃ W3, ((w.alloc (.cells #[.bool false] 4)).alloc (.cells #[.bool false] 4)).alloc (.cells #[.slice A zs.length c] 41) = W3 := ⟨_, rfl⟩
  have bO3 : Boxed W3 w.heap.size 4 (.bool false) := by rw [← hW3]; exact (bO.alloc _).alloc _
  have bN3 : Boxed W3 (w.heap.size + 1) 4 (.bool (okP zs []).1) := by rw [← hW3]; exact bN.alloc _
  have hsz : W3.heap.size = w.heap.size + 3 := by rw [← hW3]; simp
  have hB0 : Below w.heap.size w W3 := by rw [← hW3]; exact hb2.alloc (by rw [World.size_alloc, World.size_alloc]; omega) _
  rw [hW3] at bS
  rw [hW3]
  clear hW3 bO bN hb2
  have hR0 := h.grow hB0
  apply (fun a₁ => wpIn_rangeFunc_ownF (F := Fence.wide) rfl (by decide) (gf := 90) (lb := #[.pointer (some ⟨w.heap.size + 2, 0, none⟩)]) rfl trivial (enters_of Try.func90 (by kernel_rfl) rfl)
    (slopes_pf (6 - 1) (w.heap.size + 2) w.heap.size c A zs hr _ (by omega) (by omega) bS.cell hR0) (fun h1 h2 => KeepAt.trans h1 h2) (keepAt_b (by omega) (by omega)) (Below.refl _ _) (fun _ => rfl)
    (fun pre W => ((Boxed W w.heap.size 4 (.bool false) ∧ Boxed W (w.heap.size + 1) 4 (.bool (okP zs pre).1)) ∧ (okP zs pre).2 = true) ∧ Below w.heap.size w W)
    (fun cd pre W => (Boxed W w.heap.size 4 (.bool false) ∧ (cd = .ret ∧ ∃ (l : List (Fin (slopesL zs).length)) (x : Fin (slopesL zs).length), pre = l ++ [x] ∧ (okP zs l).1 = true ∧ (slopesL zs)[x] < 0)) ∧ Below w.heap.size w W)
    (OwnFrom.and (OwnFrom.and (OwnFrom.and (Own.from (boxed_own _ _ _) _) (Own.from (boxed_own _ _ _) _)) (own_pure _ _)) (ownFrom_below (Nat.le_refl _) (by omega)))
    (fun cd => OwnFrom.and (OwnFrom.and (Own.from (boxed_own _ _ _) _) (own_pure _ _)) (ownFrom_below (Nat.le_refl _) (by omega)))
    ⟨⟨⟨bO3, bN3⟩, rfl⟩, hB0⟩ a₁)
  case hassign =>
    intro l x W K hK
    gi_wp2
    exact hK
  case hbody =>
    rintro l pre x W ⟨⟨⟨hO, hN⟩, hok⟩, hB⟩ hlt
    have hi := HI.out x
    have hsn := okP_snoc zs pre x
    have hnx := fun hn => okP_next (x := x) hok hn
    simp only [Fin.getElem_fin] at hi hsn hnx
    have HSN := Lib.hid hsn; have HNX := Lib.hid hnx
    have c1 := hO.cell; have f1 := hO.frozen
    have c2 := hN.cell; have f2 := hN.frozen
    have HO := Lib.hid hO; have HN := Lib.hid hN; have HB := Lib.hid hB
    have hk2 : ∀ (j : Nat) (v : Value), j < w.heap.size + 2 → w.heap.size ≤ j → KeepAt w.heap.size (w.heap.size + 2) W (W.setCell ⟨j, 0, none⟩ v) := fun j v h1 h2 => ⟨by simp [World.setCell], fun k hk => Below.heap_setCell W ⟨j, 0, none⟩ v k (by show k ≠ j; omega)⟩
    have HK2 := Lib.hid hk2
    clear hO hN hB hk2 hok hsn hnx
    cases hu : (okP zs pre).1 with
    | true =>
      rw [hu] at c2 HNX HSN
      have HU := Lib.hid hu; clear hu
      by_cases hneg : (slopesL zs)[x.1]'x.2 < 0
      · gi_wp2
        exact ⟨KeepsOthers.setCell _ _ _, ⟨HO.out.set _, rfl, pre, x, rfl, HU.out, hneg⟩, HB.out.setCell (p := ⟨w.heap.size, 0, none⟩) (Nat.le_refl _) _⟩
      · have HX := Lib.hid (HNX.out fun q => hneg q.2)
        gi_wp2
        exact ⟨KeepsOthers.setCell _ _ _, HK2.out (w.heap.size + 1) _ (by omega) (by omega), ⟨⟨HO.out.other (by omega) _, by rw [HSN.out]; simpa using HN.out.set _⟩, HX.out⟩, HB.out.setCell (p := ⟨w.heap.size + 1, 0, none⟩) (by show w.heap.size ≤ w.heap.size + 1; omega) _⟩
    | false =>
      rw [hu] at c2 HNX HSN
      have HU := Lib.hid hu; clear hu
      have HX := Lib.hid (HNX.out fun q => absurd q.1 (by simp))
      gi_wp2
      exact ⟨KeepsOthers.setCell _ _ _, HK2.out (w.heap.size + 1) _ (by omega) (by omega), ⟨⟨HO.out.other (by omega) _, by rw [HSN.out]; simpa using HN.out.set _⟩, HX.out⟩, HB.out.setCell (p := ⟨w.heap.size + 1, 0, none⟩) (by show w.heap.size ≤ w.heap.size + 1; omega) _⟩
  case hdone =>
    rintro D ys W hD rfl ⟨⟨⟨hO, hN⟩, hok⟩, hB⟩ hK
    have HM := Lib.hid (okP_all hok)
    have c1 := hO.cell; have f1 := hO.frozen
    have HO := Lib.hid hO; have HB := Lib.hid hB
    clear hO hN hB hok
    gi_wp2
    refine ⟨by simp, .inl ⟨_, _, rfl, run_takeDeferred ((KeepsOthers.setCell _ _ _).same D _ hK rfl), ?_⟩⟩
    refine ⟨.bool true, ?_, ?_⟩
    · have hc4 : ((W.setCell ⟨w.heap.size, 0, none⟩ (.bool true)).putObj D (.deferred none)).cell? ⟨w.heap.size, 0, none⟩ = some (.bool true) :=
        cell_kept (HO.out.set (.bool true)).cell (grownBy_putObj' _ D (.deferred none)) (fun r e => by cases e; exact ⟨_, (KeepsOthers.setCell _ _ _).same D _ hK rfl, rfl⟩)
      simp [results, Try.f46, go_sem, hc4]
    · exact ⟨ret_bool HM.out.symm, (HB.out.setCell (p := ⟨w.heap.size, 0, none⟩) (Nat.le_refl _) _).trans (belowK_b (w := w) (Nat.le_refl _) _ D _ _ (by omega) ((KeepsOthers.setCell _ _ _).same D _ hK rfl) rfl rfl)⟩
  case hstop =>
    rintro D cd pre W hD hp ⟨⟨hO, rfl, l, x, rfl, h1, h2⟩, hB⟩ hK
    have HM := Lib.hid (okP_stop hp h1 h2)
    have c1 := hO.cell
    have HO := Lib.hid hO; have HB := Lib.hid hB
    clear hO hB h1 h2 hp
    gi_wp2
    refine ⟨by simp, .inl ⟨_, _, rfl, run_takeDeferred hK, ?_⟩⟩
    refine ⟨.bool false, ?_, ?_⟩
    · have hc4 : (W.putObj D (.deferred none)).cell? ⟨w.heap.size, 0, none⟩ = some (.bool false) :=
        cell_kept HO.out.cell (grownBy_putObj' _ D (.deferred none)) (fun r e => by cases e; exact ⟨_, hK, rfl⟩)
      simp [results, Try.f46, go_sem, hc4]
    · exact ⟨ret_bool HM.out.symm, HB.out.trans (belowK_b (w := w) (Nat.le_refl _) _ D _ _ (by omega) hK rfl rfl)⟩

theorem implValleyOne_any (A : Option Addr) (c : Nat) (zs : List Int) (w : World) (h : IR w 0 w.heap.size A zs) :
    Calls Try.prog 16 #[.slice A zs.length c] w fun e w' => e = .returned (.bool (valleyOneB zs)) ∧ Below w.heap.size w w' := by
  have H := Lib.hid h; clear h
  cases hr : rowB zs with
  | false =>
    have HM : Hid (valleyOneB zs = false) := by show _ = _; simp [valleyOneB, hr]
    have HR := Lib.hid hr; clear hr
    go_enter Try.func16, Try.ntmps16
    go_wp2_with fail
    refine (isRow_false _ _ _ _ zs _ H.out HR.out).mono ?_; rintro e w1 ⟨rfl, b1⟩
    go_wp2
    go_ret
    exact ⟨ret_bool HM.out.symm, b1⟩
  | true =>
    have HM : Hid (valleyOneB zs = oneB zs) := by show _ = _; simp [valleyOneB, hr]
    have HR := Lib.hid hr; clear hr
    go_enter Try.func16, Try.ntmps16
    go_wp2_with fail
    refine (isRow_true _ _ _ _ zs _ H.out HR.out).mono ?_; rintro e w1 ⟨rfl, b1⟩
    have B1 := Lib.hid b1; have H1 := Lib.hid (H.out.grow b1).toAll; clear b1
    go_wp2_with fail
    refine (hasOne_any _ _ zs _ H1.out HR.out).mono ?_; rintro e w2 ⟨rfl, b2⟩
    go_wp2
    go_ret
    exact ⟨ret_bool (by rw [HM.out]), below_then B1.out (Nat.le_refl _) b2⟩
end Go.Proofs.Ytnphmapiagiocaa
