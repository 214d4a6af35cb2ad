/-
  The program's range over its book, and whether one of its lines meets a row: hasLineAt. Conditions: the row's cells and the book's block are there.
-/
import Derived.Test.YtlgagdplnpeklaaLn7
import Derived.Maps.OwnIn
namespace Go.Proofs.Ytlgagdplnpeklaa
open Go.RowKit Go.Shelf

/-- A range over the book under way: done are the keys that have come. -/
def Rg (w : World) (b r n : Nat) (T : Int → Prop) (F : Int → Int) (done : Int → Prop) (cnt : Nat) : Prop :=
  ∃ (D : DataW Unit) (left : Lit → Bool), w.ranges Try.prog 3 (plainElem Try.prog 3) b r n D left cnt ∧ (∀ s, Maps.has D (.int .i64 s) = true ↔ T s) ∧ (∀ s z, T s → D.atKey (.int .i64 s) z = .lit (.int .i64 (F s))) ∧
    (∀ s, left (.int .i64 s) = true → T s) ∧ ∀ s, done s ↔ T s ∧ left (.int .i64 s) = false
theorem Rg.kept {w w' : World} {row : Option Nat} {b r n : Nat} {T : Int → Prop} {F : Int → Int} {done : Int → Prop} {cnt : Nat} (h : Rg w b r n T F done cnt) (hg : w.grownBy w' row) (hb : some b ≠ row) (hr : some r ≠ row) : Rg w' b r n T F done cnt := by
  obtain ⟨D, left, h, k⟩ := h; exact ⟨D, left, h.kept hg hb hr, k⟩
theorem Rg.lt {w : World} {b r n : Nat} {T : Int → Prop} {F : Int → Int} {done : Int → Prop} {cnt : Nat} (h : Rg w b r n T F done cnt) : b < w.heap.size ∧ r < w.heap.size := by
  obtain ⟨D, left, h, k⟩ := h; exact ⟨h.owns.lt, h.lt⟩
theorem Rg.below {w w' : World} {b r n : Nat} {T : Int → Prop} {F : Int → Int} {done : Int → Prop} {cnt : Nat} (h : Rg w b r n T F done cnt) (hb : Below w.heap.size w w') : Rg w' b r n T F done cnt := h.kept (below_grown hb none) (by simp) (by simp)
theorem Rg.left_eq {w : World} {b r n : Nat} {T : Int → Prop} {F : Int → Int} {done : Int → Prop} {cnt : Nat} (h : Rg w b r n T F done cnt) : w.rangeLeft b r = cnt := by
  obtain ⟨D, left, h, k⟩ := h; exact h.left_eq

section
variable (w : World) {ops : Array Oper} {rest : List Oper} {o : Oper} {a : Act} {Q : Exit → Act → World → Prop} {Fn : Fence} {nF : Nat}
theorem rg_start {w' : World} {b r n : Nat} {D : DataW Unit} {T : Int → Prop} {F : Int → Int} (h1 : ∀ s, Maps.has D (.int .i64 s) = true ↔ T s) (h2 : ∀ s z, T s → D.atKey (.int .i64 s) z = .lit (.int .i64 (F s)))
    (h : w'.ranges Try.prog 3 (plainElem Try.prog 3) b r n D (Maps.has D) (Maps.size D)) : Rg w' b r n T F (fun _ => False) (Maps.size D) :=
  ⟨D, Maps.has D, h, h1, h2, fun s hs => (h1 s).1 hs, fun s => ⟨fun hf => hf.elim, fun hf => by have := (h1 s).2 hf.1; rw [hf.2] at this; cases this⟩⟩
theorem rg_next {w' : World} {b r n : Nat} {D : DataW Unit} {T : Int → Prop} {F : Int → Int} {done : Int → Prop} {left : Lit → Bool} {cnt' : Nat} {x c : Int} (h1 : ∀ s, Maps.has D (.int .i64 s) = true ↔ T s) (h2 : ∀ s z, T s → D.atKey (.int .i64 s) z = .lit (.int .i64 (F s)))
    (h3 : ∀ s, left (.int .i64 s) = true → T s) (h4 : ∀ s, done s ↔ T s ∧ left (.int .i64 s) = false) (hl : left (.int .i64 x) = true) (hat : ∀ zd, D.atKey (.int .i64 x) zd = .lit (.int .i64 c))
    (h : w'.ranges Try.prog 3 (plainElem Try.prog 3) b r n D (fun z => left z && !z.sameKey (.int .i64 x)) cnt') : T x ∧ c = F x ∧ Rg w' b r n T F (fun s => done s ∨ s = x) cnt' := by
  have hT := h3 x hl
  have hc : c = F x := by
    have e1 := hat (.lit (.int .i64 0))
    rw [h2 x _ hT] at e1
    cases e1; rfl
  refine ⟨hT, hc, D, _, h, h1, h2, fun s hs => h3 s (by simp at hs; exact hs.1), fun s => ?_⟩
  by_cases e : s = x
  · subst e
    simp [hT, sameKey_self]
  · have hne := Maps.sameKey_ne (keyNe e)
    show (done s ∨ s = x) ↔ _
    rw [h4 s]
    simp [e, hne]
theorem wpList_range_bk (hg : o.guard = none) (m : Operand) (hop : o.op = Op.range 67 m) (b n : Nat) (T : Int → Prop) (F : Int → Int) (hm : a.eval m = .map (some b)) (hb : Bk w b n T F)
    (hK : ∀ w' cnt, Rg w' b w.heap.size n T F (fun _ => False) cnt → w.grownBy w' none → w'.heap.size = w.heap.size + 1 → wpList Try.prog ops Q rest (a.put o.dst (.pointer (some ⟨w.heap.size, 0, none⟩))) w') : wpList Try.prog ops Q (o :: rest) a w := by
  obtain ⟨D, hown, h1, h2⟩ := hb
  exact wpList_range_own w hg m 67 hop 3 3 keyInt Try.underlying67 _ b n D hm hown (fun w' h hgr hs => hK w' _ (rg_start h1 h2 h) hgr hs)
theorem wpList_next_bk (hg : o.guard = none) (it : Operand) (hop : o.op = Op.next it false) (b r n : Nat) (T : Int → Prop) (F : Int → Int) (done : Int → Prop) (cnt : Nat) (hit : a.eval it = .pointer (some ⟨r, 0, none⟩)) (h : Rg w b r n T F done cnt)
    (hDone : (∀ s, done s ↔ T s) → wpList Try.prog ops Q rest (a.put o.dst (.tuple #[.bool false])) w)
    (hMore : ∀ (x : Int) (w' : World) (cnt' : Nat), I64 x → I64 (F x) → T x → Rg w' b r n T F (fun s => done s ∨ s = x) cnt' → cnt' < cnt → w.grownBy w' (some r) → w'.heap.size = w.heap.size →
      (Instr.entry (.pointer (some ⟨r, 0, none⟩))).run Try.prog w' = .ok (.tuple #[.int .i64 x, .int .i64 (F x)]) w' → wpList Try.prog ops Q rest (a.put o.dst (.tuple #[.bool true, .int .i64 x, .int .i64 (F x)])) w') : wpList Try.prog ops Q (o :: rest) a w := by
  obtain ⟨D, left, hr, h1, h2, h3, h4⟩ := h
  refine wpList_next_ranges_ii w hg it hop 3 3 .i64 .i64 keyInt Try.underlying3 Try.underlying3 b r n D left cnt hit hr (fun _ hl => hDone fun s => by rw [h4 s, hl]; simp) ?_
  intro x c w' cnt' hwx hwc hl hat hr' hlt hgr hs hen
  obtain ⟨hT, rfl, hrg⟩ := rg_next h1 h2 h3 h4 hl hat hr'
  exact hMore x w' cnt' (i64_wf hwx) (i64_wf hwc) hT hrg hlt hgr hs hen
theorem wpListIn_range_bk (hg : o.guard = none) (m : Operand) (hop : o.op = Op.range 67 m) (b n : Nat) (T : Int → Prop) (F : Int → Int) (hm : a.eval m = .map (some b)) (hb : Bk w b n T F)
    (hK : ∀ w' cnt, Rg w' b w.heap.size n T F (fun _ => False) cnt → w.grownBy w' none → w'.heap.size = w.heap.size + 1 → wpListIn Fn nF Try.prog ops Q rest (a.put o.dst (.pointer (some ⟨w.heap.size, 0, none⟩))) w') : wpListIn Fn nF Try.prog ops Q (o :: rest) a w := by
  obtain ⟨D, hown, h1, h2⟩ := hb
  exact wpListIn_range_own w hg m 67 hop 3 3 keyInt Try.underlying67 _ b n D hm hown (fun w' h hgr hs => hK w' _ (rg_start h1 h2 h) hgr hs)
theorem wpListIn_next_bk (hg : o.guard = none) (it : Operand) (hop : o.op = Op.next it false) (b r n : Nat) (T : Int → Prop) (F : Int → Int) (done : Int → Prop) (cnt : Nat) (hit : a.eval it = .pointer (some ⟨r, 0, none⟩)) (h : Rg w b r n T F done cnt)
    (hDone : (∀ s, done s ↔ T s) → wpListIn Fn nF Try.prog ops Q rest (a.put o.dst (.tuple #[.bool false])) w)
    (hMore : ∀ (x : Int) (w' : World) (cnt' : Nat), I64 x → I64 (F x) → T x → Rg w' b r n T F (fun s => done s ∨ s = x) cnt' → cnt' < cnt → w.grownBy w' (some r) → w'.heap.size = w.heap.size →
      (Instr.entry (.pointer (some ⟨r, 0, none⟩))).run Try.prog w' = .ok (.tuple #[.int .i64 x, .int .i64 (F x)]) w' → wpListIn Fn nF Try.prog ops Q rest (a.put o.dst (.tuple #[.bool true, .int .i64 x, .int .i64 (F x)])) w') : wpListIn Fn nF Try.prog ops Q (o :: rest) a w := by
  obtain ⟨D, left, hr, h1, h2, h3, h4⟩ := h
  refine wpListIn_next_ranges_ii w hg it hop 3 3 .i64 .i64 keyInt Try.underlying3 Try.underlying3 b r n D left cnt hit hr (fun _ hl => hDone fun s => by rw [h4 s, hl]; simp) ?_
  intro x c w' cnt' hwx hwc hl hat hr' hlt hgr hs hen
  obtain ⟨hT, rfl, hrg⟩ := rg_next h1 h2 h3 h4 hl hat hr'
  exact hMore x w' cnt' (i64_wf hwx) (i64_wf hwc) hT hrg hlt hgr hs hen
end

set_option maxRecDepth 100000 in
set_option maxHeartbeats 1000000 in
theorem hasLineAt_any (A : Option Addr) (c m hi : Nat) (zs : List Int) (k b n : Nat) (T : Int → Prop) (F : Int → Int) (w : World) (h : IR w 0 hi A zs) (hr : rowB zs = true) (hm : m = zs.length) (hk : k < zs.length) (hb : Bk w b n T F) (hT : ∀ s, T s → -3000 ≤ s ∧ s ≤ 3000) (hF : ∀ s, T s → -1000000 ≤ F s ∧ F s ≤ 1000000) :
    Calls Try.prog 81 #[.map (some b), .slice A m c, .int .i64 (k : Int)] w fun e w' => (∃ r : Bool, e = .returned (.bool r) ∧ (r = true ↔ ∃ s, T s ∧ zs.getD k 0 - (k : Int) * s = -(F s))) ∧ Below w.heap.size w w' := by
  subst hm
  have HR := Lib.hid hr; have H := Lib.hid h; have HT := Lib.hid hT; have HF := Lib.hid hF
  have hlt := hb.lt
  clear hr h hT hF
  go_enter Try.func81, Try.ntmps81
  go_wp2_with (at_range; refine wpList_range_bk _ rfl _ rfl b n T F rfl hb ?_; intro w0 cnt0 hrg0 hg0 hs0)
  go_frame
  go_loopw [7] (fun _ wr => ∃ cnt done, Rg wr b w.heap.size n T F done cnt ∧ (∀ s, done s → T s ∧ ¬ zs.getD k 0 - (k : Int) * s = -(F s)) ∧ Below w.heap.size w wr) (fun _ wr => wr.rangeLeft b w.heap.size)
  case atStart => exact ⟨cnt0, _, hrg0, fun _ h => h.elim, ⟨hg0.os, hg0.tape, hg0.output, hg0.size, fun i hi => hg0.block i hi (by simp)⟩⟩
  case round =>
    obtain ⟨cnt, done, hrg, hd, hB⟩ := hrel
    have HD := Lib.hid hd; have HB := Lib.hid hB
    clear hd hB
    go_wp2_with (at_next; refine wpList_next_bk _ rfl _ rfl b w.heap.size n T F done cnt rfl hrg ?_ ?_)
    · intro hall
      have HAll := Lib.hid hall
      clear hall
      go_wp2
      go_ret
      exact ⟨⟨false, rfl, fun h => (by cases h), fun ⟨s, hs, e⟩ => absurd e (HD.out s ((HAll.out s).2 hs)).2⟩, HB.out⟩
    · intro x w1 cnt1 hwx hwf hTx hrg1 hlt1 hg1 hs1 hen
      have HB1 := Lib.hid (HB.out.trans (grown_below hg1 (Nat.le_refl _) HB.out.size))
      have HIR := Lib.hid ((H.out.below HB1.out H.out.2.2.1).toAll)
      obtain ⟨t1, t2⟩ := HT.out x hTx
      obtain ⟨p1, p2⟩ := HF.out x hTx
      have HG := Lib.hid hrg1
      have HTX := Lib.hid hTx
      have HLT := Lib.hid hlt1
      have HRG := Lib.hid hrg
      have HN := Lib.hid hs1
      clear hrg1 hg1 hTx hlt1 hrg hs1
      by_cases hc : zs.getD k 0 - (k : Int) * x = -(F x)
      · have HC := Lib.hid hc
        rw [getD_in hk] at hc
        go_wp2_with fail
        refine (rowLineAt_any _ _ _ _ _ zs k x w1 HIR.out HR.out hk t1 t2 rfl).mono ?_; rintro e w2 ⟨rfl, bb⟩
        have HB2 := Lib.hid (HB1.out.trans (bb.mono HB1.out.size))
        clear bb
        go_wp2
        go_ret
        exact ⟨⟨true, rfl, fun _ => ⟨x, HTX.out, HC.out⟩, fun _ => rfl⟩, HB2.out⟩
      · have HC := Lib.hid hc
        rw [getD_in hk] at hc
        go_wp2_with fail
        refine (rowLineAt_any _ _ _ _ _ zs k x w1 HIR.out HR.out hk t1 t2 rfl).mono ?_; rintro e w2 ⟨rfl, bb⟩
        have HB2 := Lib.hid (HB1.out.trans (bb.mono HB1.out.size))
        have HG2 := Lib.hid (HG.out.below bb)
        clear bb
        go_wp2
        go_roundw
        case rel =>
          refine ⟨cnt1, _, HG2.out, fun s hs => ?_, HB2.out⟩
          rcases hs with hs | rfl
          · exact HD.out s hs
          · exact ⟨HTX.out, HC.out⟩
        case measure => rw [HG2.out.left_eq, HRG.out.left_eq]; exact HLT.out
end Go.Proofs.Ytlgagdplnpeklaa
