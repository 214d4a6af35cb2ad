/-
  The program's own small functions of chapter 1: entryFits, isRow, RowIn: what they answer for every list. Conditions: the list's cells are there.
-/
import Derived.Test.YtanoojpmokbiaabIter
namespace Go.Proofs.Ytanoojpmokbiaab
open Go.RowKit Go.Shelf

set_option maxHeartbeats 400000 in
theorem entryFits_any (x : Int) (w : World) : Calls Try.prog 58 #[.int .i64 x] w fun e w' => e = .returned (.bool (fits x)) ∧ w = w' := by
  by_cases h1 : -1000 ≤ x
  · by_cases h2 : x ≤ 1000
    · have h : fits x = true := inB_true.2 ⟨h1, h2⟩
      have H := Lib.hid h; clear h
      go_enter Try.func58, Try.ntmps58
      go_wp2
      go_ret
      exact ⟨ret_bool H.out.symm, rfl⟩
    · have h : fits x = false := by simp [fits, inB, h2]
      have H := Lib.hid h; clear h
      go_enter Try.func58, Try.ntmps58
      go_wp2
      go_ret
      exact ⟨ret_bool (by rw [H.out]), rfl⟩
  · have h : fits x = false := by simp [fits, inB, h1]
    have H := Lib.hid h; clear h
    go_enter Try.func58, Try.ntmps58
    go_wp2
    go_ret
    exact ⟨ret_bool H.out.symm, rfl⟩
theorem entryFits_true (x : Int) (w : World) (h : fits x = true) : Calls Try.prog 58 #[.int .i64 x] w fun e w' => e = .returned (.bool true) ∧ w = w' := by
  have := entryFits_any x w; rwa [h] at this
theorem entryFits_false (x : Int) (w : World) (h : fits x = false) : Calls Try.prog 58 #[.int .i64 x] w fun e w' => e = .returned (.bool false) ∧ w = w' := by
  have := entryFits_any x w; rwa [h] at this

attribute [local go_sem] Oper.semAt_some

theorem rowB_short {zs : List Int} (h : ¬ (1 ≤ zs.length ∧ zs.length ≤ 12)) : rowB zs = false := by
  cases hr : rowB zs
  · rfl
  · exact absurd (rowB_true.1 hr).2 h
theorem rowB_bad {zs : List Int} {x : Fin zs.length} (h : fits zs[x] = false) : rowB zs = false := rowB_of (k := x.1) x.2 h
theorem rowB_good {zs : List Int} (h1 : 1 ≤ zs.length) (h2 : zs.length ≤ 12) (h : ∀ x : Fin zs.length, fits zs[x] = true) : rowB zs = true := by
  unfold rowB
  rw [Bool.and_eq_true, List.all_eq_true]
  refine ⟨fun z hz => ?_, inB_true.2 ⟨by omega, by omega⟩⟩
  obtain ⟨i, hi, rfl⟩ := List.mem_iff_getElem.1 hz
  exact h ⟨i, hi⟩

theorem boxedAnd_own {β : Type} (B : Nat) (t : TypeId) (v : Value) (p : β → Prop) : Own (fun s W => Boxed W B t v ∧ p s) := by
  rintro s X Y row ⟨hv, hp⟩ hg hrow
  refine ⟨hv.kept hg (fun e' => ?_), hp⟩
  obtain ⟨o, ho, hc⟩ := hrow B e'.symm
  rw [show X.heap[B]? = _ from hv] at ho; cases ho; cases hc

set_option maxRecDepth 100000 in
set_option maxHeartbeats 1000000 in
theorem isRow_any (A : Option Addr) (c : Nat) (zs : List Int) (w : World) (h : IR w 0 w.heap.size A zs) :
    Calls Try.prog 45 #[.slice A zs.length c] w fun e w' => e = .returned (.bool (rowB zs)) ∧ Below w.heap.size w w' := by
  have hl := h.1
  refine (callsIn_wide (n := 6)).1 ?_
  refine callsIn_of_wp_marks Try.func45 rfl trivial ?_ rfl
  simp only [Try.ntmps45, List.size_toArray, List.length_cons, List.length_nil, Nat.reduceAdd, Nat.reduceSub, Array.replicate_succ, Array.replicate_zero, List.push_toArray, List.append_toArray, List.nil_append, List.cons_append]
  by_cases hn1 : zs.length < 1
  · have hr := rowB_short (zs := zs) (by omega)
    have HR := Lib.hid hr; clear hr
    have hn1' : (zs.length : Int) < 1 := by omega
    gi_wp2
    refine ⟨.bool false, ?_, ret_bool HR.out.symm, (Below.refl _ _).alloc (Nat.le_refl _) _⟩
    simp [results, Try.f45, go_sem]
  · by_cases hn2 : 12 < zs.length
    · have hr := rowB_short (zs := zs) (by omega)
      have HR := Lib.hid hr; clear hr
      have hn1' : ¬ (zs.length : Int) < 1 := by omega
      have hn2' : (12 : Int) < (zs.length : Int) := by omega
      gi_wp2
      refine ⟨.bool false, ?_, ret_bool HR.out.symm, (Below.refl _ _).alloc (Nat.le_refl _) _⟩
      simp [results, Try.f45, go_sem]
    · gi_wp2_with (refine ⟨trivial, ?_⟩; gi_at_call 43; refine (entries_in _ _ trivial rfl _ _ _ _).mono ?_; rintro e w' ⟨rfl, rfl⟩)
      have bO := Boxed.new w 4 (.bool false)
      have bN := Boxed.new (w.alloc (.cells #[.bool false] 4)) 56 (.slice A zs.length c)
      rw [World.size_alloc] at bN
      have hB0 : Below w.heap.size w ((w.alloc (.cells #[.bool false] 4)).alloc (.cells #[.slice A zs.length c] 56)) := ((Below.refl _ w).alloc (Nat.le_refl _) _).alloc (by simp) _
      have hR0 := h.grow hB0
      apply (fun a₁ => wpIn_rangeFunc_ownF (F := Fence.wide) rfl (by decide) (gf := 57) (lb := #[.pointer (some ⟨w.heap.size + 1, 0, none⟩)]) rfl trivial (enters_of Try.func57 (by kernel_rfl) rfl)
        (entries_stops Fence.wide (6 - 1) trivial rfl (by decide) (w.heap.size + 1) w.heap.size c A zs _ (by simp) (by simp; omega) bN.cell hR0) belowK_t (belowK_b (by simp; omega)) (Below.refl _ _) (fun _ => rfl)
        (fun pre W => (Boxed W w.heap.size 4 (.bool false) ∧ ∀ x, x ∈ pre → fits zs[x] = true) ∧ Below w.heap.size w W)
        (fun cd pre W => (Boxed W w.heap.size 4 (.bool false) ∧ cd = .ret ∧ ∃ x, x ∈ pre ∧ fits zs[x] = false) ∧ Below w.heap.size w W)
        (OwnFrom.and (Own.from (boxedAnd_own _ _ _ _) _) (ownFrom_below (Nat.le_refl _) (by simp; omega)))
        (fun cd => OwnFrom.and (Own.from (boxedAnd_own _ _ _ _) _) (ownFrom_below (Nat.le_refl _) (by simp; omega)))
        ⟨⟨bO.alloc _, by simp⟩, hB0⟩ a₁)
      case hassign =>
        intro l x W K hK
        gi_wp2
        exact hK
      case hbody =>
        rintro l pre x W ⟨⟨hx, hall⟩, hB⟩ hlt
        have hcx := hx.cell
        have hfx := hx.frozen
        have HX := Lib.hid hx; have HA := Lib.hid hall; have HB := Lib.hid hB
        clear hx hall hB
        cases hf : fits zs[x] with
        | true =>
          have HF := Lib.hid hf; clear hf
          gi_wp2_with (refine ⟨trivial, ?_⟩; gi_at_call 58; refine (CallsIn.inRound l (callsIn_wide.2 (entryFits_true _ _ HF.out))).mono ?_; rintro e w' ⟨rfl, rfl⟩)
          exact ⟨KeepsOthers.refl _, Below.refl _ _, ⟨HX.out, by
            intro y hy
            rcases List.mem_append.1 hy with hy | hy
            · exact HA.out y hy
            · obtain rfl := List.mem_singleton.1 hy; exact HF.out⟩, HB.out⟩
        | false =>
          have HF := Lib.hid hf; clear hf
          gi_wp2_with (refine ⟨trivial, ?_⟩; gi_at_call 58; refine (CallsIn.inRound l (callsIn_wide.2 (entryFits_false _ _ HF.out))).mono ?_; rintro e w' ⟨rfl, rfl⟩)
          exact ⟨KeepsOthers.setCell _ _ _, ⟨HX.out.set _, rfl, x, by simp, HF.out⟩, HB.out.setCell (p := ⟨w.heap.size, 0, none⟩) (Nat.le_refl _) _⟩
      case hdone =>
        rintro D ys W hD rfl ⟨⟨hx, hall⟩, hB⟩ hK
        have hr := rowB_good (by omega) (by omega) (fun x => hall x (List.mem_finRange x))
        have hcx := hx.cell
        have hfx := hx.frozen
        have HX := Lib.hid hx; have HB := Lib.hid hB; have HR := Lib.hid hr
        clear hx hall hB hr
        gi_wp2
        refine ⟨by simp, .inl ⟨_, _, rfl, run_takeDeferred ((KeepsOthers.setCell _ _ _).same D _ hK rfl), ?_⟩⟩
        refine ⟨.bool true, ?_, ?_⟩
        · have hc4 : ((W.setCell ⟨w.heap.size, 0, none⟩ (.bool true)).putObj D (.deferred none)).cell? ⟨w.heap.size, 0, none⟩ = some (.bool true) :=
            cell_kept (HX.out.set (.bool true)).cell (grownBy_putObj' _ D (.deferred none)) (fun r e => by cases e; exact ⟨_, (KeepsOthers.setCell _ _ _).same D _ hK rfl, rfl⟩)
          simp [results, Try.f45, go_sem, hc4]
        · exact ⟨ret_bool HR.out.symm, (HB.out.setCell (p := ⟨w.heap.size, 0, none⟩) (Nat.le_refl _) _).trans (belowK_b (w := w) (Nat.le_refl _) _ D _ _ (by simp at hD; omega) ((KeepsOthers.setCell _ _ _).same D _ hK rfl) rfl rfl)⟩
      case hstop =>
        rintro D cd pre W hD _ ⟨⟨hx, rfl, x, _, hf⟩, hB⟩ hK
        have hr := rowB_bad hf
        have hcx := hx.cell
        have HX := Lib.hid hx; have HB := Lib.hid hB; have HR := Lib.hid hr
        clear hx hB hr hf
        gi_wp2
        refine ⟨by simp, .inl ⟨_, _, rfl, run_takeDeferred hK, ?_⟩⟩
        refine ⟨.bool false, ?_, ?_⟩
        · have hc4 : (W.putObj D (.deferred none)).cell? ⟨w.heap.size, 0, none⟩ = some (.bool false) :=
            cell_kept HX.out.cell (grownBy_putObj' _ D (.deferred none)) (fun r e => by cases e; exact ⟨_, hK, rfl⟩)
          simp [results, Try.f45, go_sem, hc4]
        · exact ⟨ret_bool HR.out.symm, HB.out.trans (belowK_b (w := w) (Nat.le_refl _) _ D _ _ (by simp at hD; omega) hK rfl rfl)⟩

end Go.Proofs.Ytanoojpmokbiaab
