/-
  Whole lines between two rows in the program: leastBetween, LineBetween. Conditions: the cells are there.
-/
import Derived.Test.YtlgagdplnpeklaaLnG
import Derived.Test.YtlgagdplnpeklaaLn6
import Derived.Test.YtlgagdplnpeklaaImp4
import Derived.Test.YtlgagdplnpeklaaBelow
import Derived.Test.YtlgagdplnpeklaaBent2
import Derived.Test.YtlgagdplnpeklaaLn3
namespace Go.Proofs.Ytlgagdplnpeklaa
open Go.RowKit Go.Shelf
attribute [local go_sem] Oper.semAt_some

theorem LeastSo.congr {low high : List Int} {p p' : Nat → Nat → Prop} {v : Int} (h : LeastSo low high p v) (hp : ∀ i k, i < k → k < low.length → (p' i k ↔ p i k)) : LeastSo low high p' v := by
  obtain ⟨a, b, c⟩ := h
  refine ⟨a, fun i k h1 h2 h3 => b i k ((hp i k h2 h3).1 h1) h2 h3, ?_⟩
  rcases c with c | ⟨i, k, h1, h2, h3, h4⟩
  · exact .inl c
  · exact .inr ⟨i, k, (hp i k h2 h3).2 h1, h2, h3, h4⟩
/-- The boxes of leastBetween: the lower row, the slope. -/
def LBx (W : World) (B : Nat) (v : Value) (s : Int) : Prop := Boxed W B 48 v ∧ Boxed W (B + 1) 3 (.int .i64 s)
theorem lbx_own {β : Type} (B : Nat) (v : Value) {f : β → Int → Prop} : Own (fun (t : β) W => ∃ s, LBx W B v s ∧ f t s) := by
  rintro t X Y row ⟨s, ⟨h1, h2⟩, hf⟩ hg hrow
  have key : ∀ (g : Nat) (o : Obj), X.heap[g]? = some o → o.isCells = true → some g ≠ row := by
    intro g o hb ho' e'
    obtain ⟨o', ho, hc⟩ := hrow g e'.symm
    rw [hb] at ho; cases ho; rw [ho'] at hc; cases hc
  exact ⟨s, ⟨h1.kept hg (key _ _ h1 rfl), h2.kept hg (key _ _ h2 rfl)⟩, hf⟩
theorem LBx.set {W : World} {B : Nat} {v : Value} {s : Int} (h : LBx W B v s) (x : Int) : LBx (W.setCell ⟨B + 1, 0, none⟩ (.int .i64 x)) B v x :=
  ⟨h.1.kept (grownBy_setCell' _ _ _) (by simp), h.2.set _⟩

set_option maxRecDepth 100000 in
set_option maxHeartbeats 4000000 in
theorem leastBetween_any (A0 : Option Addr) (c0 n0 : Nat) (low : List Int) (A1 : Option Addr) (c1 n1 : Nat) (high : List Int) (w : World) (h0 : IR w 0 w.heap.size A0 low) (h1 : IR w 0 w.heap.size A1 high) (hr0 : rowB low = true) (hr1 : rowB high = true) (he : low.length = high.length) (hn0 : n0 = low.length) (hn1 : n1 = high.length) :
    Calls Try.prog 84 #[.slice A0 n0 c0, .slice A1 n1 c1] w fun e w' => (∃ v, e = .returned (.int .i64 v) ∧ LeastSo low high (fun _ _ => True) v) ∧ Below w.heap.size w w' := by
  subst hn0; subst hn1
  have hl := (rowB_true.1 hr0).2
  have HR0 := Lib.hid hr0; have HR1 := Lib.hid hr1; have H0 := Lib.hid h0; have H1 := Lib.hid h1
  have HE := Lib.hid he
  clear hr0 hr1 h0 h1 he
  refine (callsIn_wide (n := 6)).1 ?_
  refine callsIn_of_wp_marks Try.func84 rfl trivial ?_ rfl
  simp only [Try.ntmps84, List.size_toArray, List.length_cons, List.length_nil, Nat.reduceAdd, Nat.reduceSub, Array.replicate_succ, Array.replicate_zero, List.push_toArray, List.append_toArray, List.nil_append, List.cons_append]
  gi_wp2_with (refine ⟨trivial, ?_⟩; gi_at_call 57; refine (entries_in _ _ trivial rfl _ _ _ _).mono ?_; rintro e w' ⟨rfl, rfl⟩)
  obtain ⟨W4, hW4⟩ : ∃ W4, ((w.alloc (.cells #[.slice A0 low.length c0] 48)).alloc (.cells #[.int .i64 (-2000)] 3)).alloc (.cells #[.slice A1 high.length c1] 48) = W4 := ⟨_, rfl⟩
  have hsz4 : W4.heap.size = w.heap.size + 3 := by rw [← hW4]; simp
  have hb4 : Below w.heap.size w W4 := by rw [← hW4]; exact (((Below.refl _ w).alloc (Nat.le_refl _) _).alloc (by simp) _).alloc (by simp; omega) _
  have hL4 : LBx W4 w.heap.size (.slice A0 low.length c0) (-2000) := by
    have n1 := Boxed.new (w.alloc (.cells #[.slice A0 low.length c0] 48)) 3 (.int .i64 (-2000))
    rw [World.size_alloc] at n1
    rw [← hW4]
    exact ⟨((Boxed.new w _ _).alloc _).alloc _, n1.alloc _⟩
  have hbox : W4.cell? ⟨w.heap.size + 2, 0, none⟩ = some (.slice A1 high.length c1) := by
    rw [← hW4, World.cell?_alloc_at _ _ _ _ (by simp)]; rfl
  have hR4 : IR W4 0 w.heap.size A1 high := H1.out.below hb4 (Nat.le_refl _)
  rw [hW4]
  clear hW4
  apply (fun a₁ => wpIn_rangeFunc_ownF (F := Fence.wide) rfl (by decide) (gf := 90) (lb := #[.pointer (some ⟨w.heap.size + 2, 0, none⟩)]) rfl trivial (enters_of Try.func90 (by kernel_rfl) rfl)
    (entries_stops Fence.wide (6 - 1) trivial rfl (by decide) (w.heap.size + 2) w.heap.size c1 A1 high _ (by omega) (by omega) hbox hR4) belowK_t (belowK_b (by omega)) (Below.refl _ _) (fun _ => rfl)
    (fun pre W => (∃ s, LBx W w.heap.size (.slice A0 low.length c0) s ∧ LeastSo low high (fun i _ => ∃ y, y ∈ pre ∧ y.1 = i) s) ∧ Below w.heap.size w W)
    (fun _ _ _ => False)
    (OwnFrom.and (Own.from (lbx_own _ _) _) (ownFrom_below (Nat.le_refl _) (by omega)))
    (fun _ _ _ _ _ hs _ _ => hs)
    ⟨⟨-2000, hL4, Int.le_refl _, fun i k h => (by obtain ⟨y, hy, _⟩ := h; cases hy), .inl rfl⟩, hb4⟩ a₁)
  case hassign =>
    intro l x W K hK
    gi_wp2
    exact hK
  case hbody =>
    rintro l pre x W ⟨⟨s, hL, hS⟩, hB⟩ hlt
    have hx : x.1 < high.length := x.2
    have hh12 : high.length ≤ 12 := by have := HE.out; omega
    have HL := Lib.hid hL; have HS := Lib.hid hS; have HB := Lib.hid hB
    clear hL hS hB
    gi_wp2
    gi_loopw [8] (fun i wr => ∃ (kk : Nat) (s : Int), x.1 + 1 ≤ kk ∧ kk ≤ low.length ∧ i = .int .i64 kk ∧ (LBx wr w.heap.size (.slice A0 low.length c0) s ∧ LeastSo low high (fun i k => (∃ y, y ∈ pre ∧ y.1 = i) ∨ (i = x.1 ∧ k < kk)) s) ∧ (KeepsOthers W wr ∧ Below w.heap.size W wr)) (fun i _ => low.length - (intOf i).toNat)
    case atStart =>
      refine ⟨x.1 + 1, s, Nat.le_refl _, (by have h := HE.out; rw [h]; exact hx), by go_num, ⟨HL.out, HS.out.congr fun i k h1 h2 => ?_⟩, KeepsOthers.refl _, Below.refl _ _⟩
      exact ⟨fun h => h.elim id (fun h => by omega), .inl⟩
    case round =>
      obtain ⟨kk, s, hk1, hk2, rfl, ⟨hL, hS⟩, hKO, hBW⟩ := hrel
      have e0 := hL.1.cell; have e1 := hL.2.cell; have f1 := hL.2.frozen
      have HLr := Lib.hid hL; have HSr := Lib.hid hS; have HKO := Lib.hid hKO; have HBW := Lib.hid hBW
      clear hL hS hKO hBW
      by_cases hlt2 : kk < low.length
      · have hIR := (H0.out.below (HB.out.trans HBW.out) (Nat.le_refl _))
        obtain ⟨b0, off, rfl, hbh, _, hc⟩ := hIR.at_ hlt2
        clear hIR
        obtain ⟨r1, r2⟩ := row_get HR1.out x
        obtain ⟨r3, r4⟩ := row_get HR0.out ⟨kk, hlt2⟩
        simp only [Fin.getElem_fin] at r1 r2 r3 r4
        have hkl : (kk : Int) < (low.length : Int) := by omega
        have hxk : ((x.1 : Nat) : Int) < (kk : Int) := by omega
        have HD := Lib.hid (show -((high[x.1] - low[kk]) / ((kk : Int) - ((x.1 : Nat) : Int))) = bdS low high x.1 kk by rw [bdS, getD_in hlt2, getD_in hx])
        have HDB := Lib.hid (bdS_bd HR0.out HR1.out HE.out (show x.1 < kk by omega) hlt2)
        have HS2 := Lib.hid (HSr.out.more (i0 := x.1) (k0 := kk) (p' := fun i k => (∃ y, y ∈ pre ∧ y.1 = i) ∨ (i = x.1 ∧ k < kk + 1)) (by omega) hlt2 (fun i k => by
          constructor
          · rintro (h | ⟨h1, h2⟩)
            · exact .inl (.inl h)
            · by_cases e : k = kk
              · exact .inr ⟨h1, e⟩
              · exact .inl (.inr ⟨h1, by omega⟩)
          · rintro ((h | ⟨h1, h2⟩) | ⟨h1, h2⟩)
            · exact .inl h
            · exact .inr ⟨h1, by omega⟩
            · exact .inr ⟨h1, by omega⟩))
        obtain ⟨q1, q2⟩ := HDB.out
        have HCL := Lib.hid hc
        have hS0 : wr.drew.cell? ⟨w.heap.size, 0, none⟩ = some (.slice (some ⟨b0, off, none⟩) low.length c0) ∧ wr.drew.cell? ⟨b0, off + kk, none⟩ = some (.int .i64 low[kk]) := ⟨e0, hc⟩
        gi_wp2
        refine region_anyS (fun W' => W'.cell? ⟨w.heap.size, 0, none⟩ = some (.slice (some ⟨b0, off, none⟩) low.length c0) ∧ W'.cell? ⟨b0, off + kk, none⟩ = some (.int .i64 low[kk])) (by kernel_rfl) ?_
        refine anyS_first 1 (v := .int .i64 high[x.1]) rfl (by kernel_rfl) (by kernel_rfl) (by kernel_rfl) (fun _ _ _ h => h) hS0 ⟨fun _ => rfl, .inl ⟨by rfl, fun W' hW' => (by go_simp)⟩⟩ ?_
        refine anyS_first 2 (v := .slice (some ⟨b0, off, none⟩) low.length c0) rfl (by kernel_rfl) (by kernel_rfl) (by kernel_rfl) (fun _ _ _ h => h) hS0 ⟨fun _ => rfl, .inl ⟨by rfl, fun W' hW' => (by have g1 := hW'.1; go_simp)⟩⟩ ?_
        refine anyS_first 3 (v := .int .i64 (kk : Int)) rfl (by kernel_rfl) (by kernel_rfl) (by kernel_rfl) (fun _ _ _ h => h) hS0 ⟨fun _ => rfl, .inl ⟨by rfl, fun W' hW' => (by go_simp)⟩⟩ ?_
        refine anyS_first 4 (v := .pointer (some ⟨b0, off + kk, none⟩)) rfl (by kernel_rfl) (by kernel_rfl) (by kernel_rfl) (fun _ _ _ h => h) hS0 ⟨fun _ => rfl, .inl ⟨by rfl, fun W' hW' => (by go_simp)⟩⟩ ?_
        refine anyS_first 5 (v := .int .i64 low[kk]) rfl (by kernel_rfl) (by kernel_rfl) (by kernel_rfl) (fun _ _ _ h => h) hS0 ⟨fun _ => rfl, .inl ⟨by rfl, fun W' hW' => (by have g1 := hW'.2; go_simp)⟩⟩ ?_
        refine anyS_first 6 (v := .int .i64 (high[x.1] - low[kk])) rfl (by kernel_rfl) (by kernel_rfl) (by kernel_rfl) (fun _ _ _ h => h) hS0 ⟨fun _ => rfl, .inl ⟨by rfl, fun W' hW' => (by go_simp; rw [IntWalk.i64_in _ (by omega)])⟩⟩ ?_
        refine anyS_first 7 (v := .int .i64 (kk : Int)) rfl (by kernel_rfl) (by kernel_rfl) (by kernel_rfl) (fun _ _ _ h => h) hS0 ⟨fun _ => rfl, .inl ⟨by rfl, fun W' hW' => (by go_simp)⟩⟩ ?_
        refine anyS_first 8 (v := .int .i64 ((x.1 : Nat) : Int)) rfl (by kernel_rfl) (by kernel_rfl) (by kernel_rfl) (fun _ _ _ h => h) hS0 ⟨fun _ => rfl, .inl ⟨by rfl, fun W' hW' => (by go_simp)⟩⟩ ?_
        refine anyS_first 9 (v := .int .i64 ((kk : Int) - ((x.1 : Nat) : Int))) rfl (by kernel_rfl) (by kernel_rfl) (by kernel_rfl) (fun _ _ _ h => h) hS0 ⟨fun _ => rfl, .inl ⟨by rfl, fun W' hW' => (by go_simp; rw [IntWalk.i64_in _ (by omega)])⟩⟩ ?_
        refine anyS_two 0 10 (by kernel_rfl) hS0 ?pa ?pb
        case' pa =>
          refine wpOpIn_step rfl fun K0 hK0 => ?_
          go_simp
          refine hK0 _ _ ?_
          refine anyS_one 10 rfl (by kernel_rfl) hS0 ?_
          refine wpOpIn_step rfl fun K1 hK1 => ?_
          go_simp
          refine ⟨trivial, (CallsIn.inRound l (callsIn_wide.2 (floorDivide_any _ _ (by omega) (by omega) (by omega) (by omega) wr.drew))).mono ?_⟩
          rintro e w' ⟨rfl, rfl⟩
          refine hK1 _ _ ?_
          refine anyS_first 11 (v := .int .i64 (bdS low high x.1 kk)) rfl (by kernel_rfl) (by kernel_rfl) (by kernel_rfl) (fun _ _ _ h => h) hS0 ⟨fun _ => rfl, .inl ⟨by rfl, fun W' hW' => (by go_simp; rw [HD.out, IntWalk.i64_in _ (by omega)])⟩⟩ ?_
          clear hK0 hK1
        case' pb =>
          refine wpOpIn_step rfl fun K1 hK1 => ?_
          go_simp
          refine ⟨trivial, (CallsIn.inRound l (callsIn_wide.2 (floorDivide_any _ _ (by omega) (by omega) (by omega) (by omega) wr.drew))).mono ?_⟩
          rintro e w' ⟨rfl, rfl⟩
          refine hK1 _ _ ?_
          refine anyS_first 11 (v := .int .i64 (bdS low high x.1 kk)) rfl (by kernel_rfl) (by kernel_rfl) (by kernel_rfl) (fun _ _ _ h => h) hS0 ⟨fun _ => rfl, .inl ⟨by rfl, fun W' hW' => (by go_simp; rw [HD.out, IntWalk.i64_in _ (by omega)])⟩⟩ ?_
          refine anyS_one 0 rfl (by kernel_rfl) hS0 ?_
          refine wpOpIn_step rfl fun K0 hK0 => ?_
          go_simp
          refine hK0 _ _ ?_
          clear hK0 hK1
        all_goals
          by_cases hcc : s < bdS low high x.1 kk
          · have HU := Lib.hid (show (if s < bdS low high x.1 kk then bdS low high x.1 kk else s) = bdS low high x.1 kk from if_pos hcc)
            rw [HU.out] at HS2
            refine anyS_one 12 rfl (by kernel_rfl) hS0 ?_
            refine wpOpIn_step rfl fun K12 hK12 => ?_
            go_simp
            refine hK12 _ _ ?_
            refine anyS_one 13 rfl (by kernel_rfl) hS0 ?_
            refine wpOpIn_step rfl fun K13 hK13 => ?_
            go_simp
            refine hK13 _ _ ?_
            have hL2 := HLr.out.set (bdS low high x.1 kk)
            refine anyS_done (by kernel_rfl) ⟨hL2.1.cell, (World.cell?_setCell_other _ _ _ _ (by intro e'; injection e' with e' _ _; omega)).trans HCL.out⟩ ?_
            have hk3 : KeepsOthers W (wr.drew.setCell ⟨w.heap.size + 1, 0, none⟩ (.int .i64 (bdS low high x.1 kk))) := (HKO.out.trans (KeepsOthers.drew wr)).trans (KeepsOthers.setCell _ _ _)
            have hb3 : Below w.heap.size W (wr.drew.setCell ⟨w.heap.size + 1, 0, none⟩ (.int .i64 (bdS low high x.1 kk))) := HBW.out.drew.setCell (p := ⟨w.heap.size + 1, 0, none⟩) (Nat.le_succ _) _
            have HK3 := Lib.hid hk3; have HB3 := Lib.hid hb3; have HL2 := Lib.hid hL2
            clear hk3 hb3 hL2
            gi_wp2
            go_roundw
            case rel => exact ⟨kk + 1, _, by omega, by omega, by go_num, ⟨HL2.out, HS2.out⟩, HK3.out, HB3.out⟩
            case measure => simp [intOf]; omega
          · have HU := Lib.hid (show (if s < bdS low high x.1 kk then bdS low high x.1 kk else s) = s from if_neg hcc)
            rw [HU.out] at HS2
            refine anyS_one 12 rfl (by kernel_rfl) hS0 ?_
            refine wpOpIn_step rfl fun K12 hK12 => ?_
            go_simp
            refine hK12 _ _ ?_
            refine anyS_one 13 rfl (by kernel_rfl) hS0 ?_
            refine wpOpIn_step rfl fun K13 hK13 => ?_
            go_simp
            refine hK13 _ _ ?_
            have hL2 := HLr.out.set (s)
            refine anyS_done (by kernel_rfl) ⟨hL2.1.cell, (World.cell?_setCell_other _ _ _ _ (by intro e'; injection e' with e' _ _; omega)).trans HCL.out⟩ ?_
            have hk3 : KeepsOthers W (wr.drew.setCell ⟨w.heap.size + 1, 0, none⟩ (.int .i64 (s))) := (HKO.out.trans (KeepsOthers.drew wr)).trans (KeepsOthers.setCell _ _ _)
            have hb3 : Below w.heap.size W (wr.drew.setCell ⟨w.heap.size + 1, 0, none⟩ (.int .i64 (s))) := HBW.out.drew.setCell (p := ⟨w.heap.size + 1, 0, none⟩) (Nat.le_succ _) _
            have HK3 := Lib.hid hk3; have HB3 := Lib.hid hb3; have HL2 := Lib.hid hL2
            clear hk3 hb3 hL2
            gi_wp2
            go_roundw
            case rel => exact ⟨kk + 1, _, by omega, by omega, by go_num, ⟨HL2.out, HS2.out⟩, HK3.out, HB3.out⟩
            case measure => simp [intOf]; omega
      · obtain rfl : kk = low.length := by omega
        gi_wp2
        refine ⟨HKO.out, HBW.out, ⟨s, HLr.out, HSr.out.congr fun i k h1 h2 => ?_⟩, HB.out.trans HBW.out⟩
        constructor
        · rintro ⟨y, hy, rfl⟩
          rcases List.mem_append.1 hy with hy | hy
          · exact .inl ⟨y, hy, rfl⟩
          · obtain rfl := List.mem_singleton.1 hy; exact .inr ⟨rfl, h2⟩
        · rintro (⟨y, hy, rfl⟩ | ⟨rfl, _⟩)
          · exact ⟨y, by simp [hy], rfl⟩
          · exact ⟨x, by simp, rfl⟩
  case hdone =>
    rintro D ys W hD rfl ⟨⟨s, hL, hS⟩, hB⟩ hK
    have c2 := hL.2.cell
    have HB := Lib.hid hB; have HS := Lib.hid hS
    have HE2 := HE.out
    clear hL hB hS
    gi_wp2
    refine ⟨by simp, .inl ⟨_, _, rfl, run_takeDeferred hK, ?_⟩⟩
    refine ⟨_, results_tmp rfl _ _ _, ⟨s, rfl, HS.out.congr fun i k h1 h2 => ⟨fun _ => ⟨⟨i, by omega⟩, List.mem_finRange _, rfl⟩, fun _ => trivial⟩⟩, HB.out.trans (belowK_b (w := w) (Nat.le_refl _) W D _ _ (by omega) hK rfl rfl)⟩
  case hstop =>
    rintro D cd pre W _ _ h _
    exact h.elim

theorem times_turn {zs : List Int} (hr : rowB zs = true) : timesM zs (-1) = some (turnL zs) := by
  have e : chgL zs (timesG zs (-1)) = turnL zs := by
    apply List.ext_getElem
    · simp [chgL, turnL]
    · intro j h1 h2
      have h3 : j < zs.length := by rw [turn_len] at h2; exact h2
      simp [chgL, turnL, timesG]
  rw [timesM_of (by decide) hr, chgM, hr, e, row_turn hr]
  rfl
theorem betweenM_no {low high : List Int} (h : betweenOk low high = false) : betweenM low high = none := by simp [betweenM, h]

set_option maxHeartbeats 2000000 in
theorem implLineBetween_any (A0 : Option Addr) (c0 : Nat) (low : List Int) (A1 : Option Addr) (c1 : Nat) (high : List Int) (w : World) (h0 : IR w 0 w.heap.size A0 low) (h1 : IR w 0 w.heap.size A1 high) :
    Calls Try.prog 44 #[.slice A0 low.length c0, .slice A1 high.length c1] w fun e w' => e = .returned (tellII (betweenM low high)) ∧ Below w.heap.size w w' := by
  have H0 := Lib.hid h0; have H1 := Lib.hid h1
  clear h0 h1
  cases hb : belowB low high with
  | false =>
    have HM : Hid (betweenM low high = none) := betweenM_no (by simp [betweenOk, hb])
    have HBL := Lib.hid hb; clear hb
    go_enter Try.func44, Try.ntmps44
    go_wp2_with fail
    refine (implRowTimes_any A0 c0 low (-1) w H0.out).mono ?_; rintro e w1 ⟨A', c', rfl, hi, bb⟩
    have HB1 := Lib.hid bb; have G0 := Lib.hid (H0.out.grow bb); have G1 := Lib.hid (H1.out.grow bb); clear hi bb
    go_wp2_with fail
    refine (implBelow_of _ _ _ _ low _ _ _ _ high w1 G0.out G1.out HBL.out rfl rfl).mono ?_; rintro e w2 ⟨rfl, bb⟩
    have HB2 := Lib.hid (below_then HB1.out (Nat.le_refl _) bb); clear bb
    go_wp2
    go_ret3
    rw [HM.out]; exact ⟨rfl, HB2.out⟩
  | true =>
    obtain ⟨h2, hle⟩ := belowB_true.1 hb
    obtain ⟨hr0, hr1, he⟩ := twoB_true h2
    have HBL := Lib.hid hb; have HR0 := Lib.hid hr0; have HR1 := Lib.hid hr1; have HE := Lib.hid he
    have HT := Lib.hid (times_turn hr0)
    have HTR := Lib.hid (row_turn hr0)
    have HTL := Lib.hid (turn_len low)
    clear hb h2 hle hr0 hr1 he
    have hv := (implRowTimes_any A0 c0 low (-1) w H0.out)
    rw [HT.out] at hv
    have HV := Lib.hid hv
    clear hv
    cases hbt : bentB (turnL low) with
    | false =>
      have HM : Hid (betweenM low high = none) := betweenM_no (by simp [betweenOk, hbt])
      have HBT := Lib.hid (show (rowB (turnL low) && bentB (turnL low)) = false by rw [hbt]; simp)
      clear hbt
      go_enter Try.func44, Try.ntmps44
      go_wp2_with fail
      refine HV.out.mono ?_; rintro e w1 ⟨A', c', rfl, hi, bb⟩
      have HB1 := Lib.hid bb; have G0 := Lib.hid (H0.out.grow bb); have G1 := Lib.hid (H1.out.grow bb); have GT := Lib.hid hi; clear hi bb
      go_wp2_with fail
      refine (implBelow_of _ _ _ _ low _ _ _ _ high w1 G0.out G1.out HBL.out rfl rfl).mono ?_; rintro e w2 ⟨rfl, bb⟩
      have HB2 := Lib.hid (below_then HB1.out (Nat.le_refl _) bb); have GT2 := Lib.hid (GT.out.toIR.grow bb); clear bb
      go_wp2_with fail
      refine (implBent_of _ _ _ _ (turnL low) w2 GT2.out HBT.out rfl).mono ?_; rintro e w3 ⟨rfl, bb⟩
      have HB3 := Lib.hid (below_then HB2.out (Nat.le_refl _) bb); clear bb
      go_wp2
      go_ret3
      rw [HM.out]; exact ⟨rfl, HB3.out⟩
    | true =>
      have HBT := Lib.hid (show (rowB (turnL low) && bentB (turnL low)) = true by rw [hbt, HTR.out]; rfl)
      have HQT := Lib.hid hbt
      clear hbt
      cases hbh : bentB high with
      | false =>
        have HM : Hid (betweenM low high = none) := betweenM_no (by simp [betweenOk, hbh])
        have HBH := Lib.hid (show (rowB high && bentB high) = false by rw [hbh]; simp)
        clear hbh
        go_enter Try.func44, Try.ntmps44
        go_wp2_with fail
        refine HV.out.mono ?_; rintro e w1 ⟨A', c', rfl, hi, bb⟩
        have HB1 := Lib.hid bb; have G0 := Lib.hid (H0.out.grow bb); have G1 := Lib.hid (H1.out.grow bb); have GT := Lib.hid hi; clear hi bb
        go_wp2_with fail
        refine (implBelow_of _ _ _ _ low _ _ _ _ high w1 G0.out G1.out HBL.out rfl rfl).mono ?_; rintro e w2 ⟨rfl, bb⟩
        have HB2 := Lib.hid (below_then HB1.out (Nat.le_refl _) bb); have GT2 := Lib.hid (GT.out.toIR.grow bb); have G2 := Lib.hid (G1.out.grow bb); clear bb
        go_wp2_with fail
        refine (implBent_of _ _ _ _ (turnL low) w2 GT2.out HBT.out rfl).mono ?_; rintro e w3 ⟨rfl, bb⟩
        have HB3 := Lib.hid (below_then HB2.out (Nat.le_refl _) bb); have G3 := Lib.hid (G2.out.grow bb); clear bb
        go_wp2_with fail
        refine (implBent_of _ _ _ _ high w3 G3.out HBH.out rfl).mono ?_; rintro e w4 ⟨rfl, bb⟩
        have HB4 := Lib.hid (below_then HB3.out (Nat.le_refl _) bb); clear bb
        go_wp2
        go_ret3
        rw [HM.out]; exact ⟨rfl, HB4.out⟩
      | true =>
        have hok : betweenOk low high = true := by simp [betweenOk, hbh, HQT.out, HBL.out]
        have HOK := Lib.hid hok
        have HBH := Lib.hid (show (rowB high && bentB high) = true by rw [hbh, HR1.out]; rfl)
        clear hbh hok
        go_enter Try.func44, Try.ntmps44
        go_wp2_with fail
        refine HV.out.mono ?_; rintro e w1 ⟨A', c', rfl, hi, bb⟩
        have HB1 := Lib.hid bb; have F1 := Lib.hid (H0.out.grow bb); have G1 := Lib.hid (H1.out.grow bb); have GT := Lib.hid hi; clear hi bb
        go_wp2_with fail
        refine (implBelow_of _ _ _ _ low _ _ _ _ high w1 F1.out G1.out HBL.out rfl rfl).mono ?_; rintro e w2 ⟨rfl, bb⟩
        have HB2 := Lib.hid (below_then HB1.out (Nat.le_refl _) bb); have GT2 := Lib.hid (GT.out.toIR.grow bb); have G2 := Lib.hid (G1.out.grow bb); have F2 := Lib.hid (F1.out.grow bb); clear bb
        go_wp2_with fail
        refine (implBent_of _ _ _ _ (turnL low) w2 GT2.out HBT.out rfl).mono ?_; rintro e w3 ⟨rfl, bb⟩
        have HB3 := Lib.hid (below_then HB2.out (Nat.le_refl _) bb); have G3 := Lib.hid (G2.out.grow bb); have F3 := Lib.hid (F2.out.grow bb); have GT3 := Lib.hid (GT2.out.grow bb); clear bb
        go_wp2_with fail
        refine (implBent_of _ _ _ _ high w3 G3.out HBH.out rfl).mono ?_; rintro e w4 ⟨rfl, bb⟩
        have HB4 := Lib.hid (below_then HB3.out (Nat.le_refl _) bb); have G4 := Lib.hid (G3.out.grow bb); have F4 := Lib.hid (F3.out.grow bb); have GT4 := Lib.hid (GT3.out.grow bb); clear bb
        go_wp2_with fail
        refine (leastBetween_any _ _ _ low _ _ _ high w4 F4.out.toAll G4.out.toAll HR0.out HR1.out HE.out rfl rfl).mono ?_; rintro e w5 ⟨⟨v, rfl, hv⟩, bb⟩
        obtain ⟨hM, v1, v2⟩ := between_least HOK.out hv
        rw [Int.zero_sub] at hM
        have HM := Lib.hid hM
        have HB5 := Lib.hid (below_then HB4.out (Nat.le_refl _) bb); have GT5 := Lib.hid (GT4.out.grow bb); clear bb hM hv
        go_wp2_with fail
        refine (fall_any _ _ _ (turnL low) (-v) w5 GT5.out.toAll HTR.out (by omega) (by omega) rfl).mono ?_; rintro e w6 ⟨rfl, bb⟩
        have HB6 := Lib.hid (below_then HB5.out (Nat.le_refl _) bb); clear bb
        go_wp2
        go_ret3
        rw [HM.out]; exact ⟨rfl, HB6.out⟩
end Go.Proofs.Ytlgagdplnpeklaa
