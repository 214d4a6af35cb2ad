/-
  The program's question to its book: ask. Conditions: the row's cells and the book's block are there.
-/
import Derived.Test.YtlgagdplnpeklaaLn7
import Derived.RangeFuncNested
namespace Go.Proofs.Ytlgagdplnpeklaa
open Go.RowKit Go.Shelf
attribute [local go_sem] Oper.semAt_some

/-- The slopes asked when the places of pre are done, and of the place x the places ahead of kk. -/
def AskP (zs : List Int) (pre : List (Fin zs.length)) (s : Int) : Prop := AskedTo zs (fun i _ => ∃ y, y ∈ pre ∧ y.1 = i) s
def AskQ (zs : List Int) (pre : List (Fin zs.length)) (x kk : Nat) (s : Int) : Prop := AskedTo zs (fun i k => (∃ y, y ∈ pre ∧ y.1 = i) ∨ (i = x ∧ k < kk)) s
theorem askP_nil (zs : List Int) (s : Int) : AskP zs [] s ↔ s = 0 := by
  unfold AskP AskedTo
  constructor
  · rintro (h | ⟨i, k, ⟨y, hy, _⟩, _⟩)
    · exact h
    · cases hy
  · exact .inl
theorem askQ_start (zs : List Int) (pre : List (Fin zs.length)) (x : Nat) (s : Int) : AskQ zs pre x (x + 1) s ↔ AskP zs pre s := by
  unfold AskP AskQ AskedTo
  constructor
  · rintro (h | ⟨i, k, h1 | ⟨rfl, h1⟩, h2, h3⟩)
    · exact .inl h
    · exact .inr ⟨i, k, h1, h2, h3⟩
    · omega
  · rintro (h | ⟨i, k, h1, h2⟩)
    · exact .inl h
    · exact .inr ⟨i, k, .inl h1, h2⟩
theorem askQ_next (zs : List Int) (pre : List (Fin zs.length)) (x kk : Nat) (s : Int) (h1 : x < kk) (h2 : kk < zs.length) : AskQ zs pre x (kk + 1) s ↔ (AskQ zs pre x kk s ∨ s = flS zs x kk) ∨ s = flS zs x kk + 1 := by
  unfold AskQ AskedTo
  constructor
  · rintro (h | ⟨i, k, g1 | ⟨rfl, g1⟩, g2, g3, g4⟩)
    · exact .inl (.inl (.inl h))
    · exact .inl (.inl (.inr ⟨i, k, .inl g1, g2, g3, g4⟩))
    · by_cases e : k = kk
      · subst e
        rcases g4 with g4 | g4
        · exact .inl (.inr g4)
        · exact .inr g4
      · exact .inl (.inl (.inr ⟨i, k, .inr ⟨rfl, by omega⟩, g2, g3, g4⟩))
  · rintro (((h | ⟨i, k, g1, g2⟩) | h) | h)
    · exact .inl h
    · refine .inr ⟨i, k, ?_, g2⟩
      rcases g1 with g1 | ⟨g1, g3⟩
      · exact .inl g1
      · exact .inr ⟨g1, by omega⟩
    · exact .inr ⟨x, kk, .inr ⟨rfl, by omega⟩, h1, h2, .inl h⟩
    · exact .inr ⟨x, kk, .inr ⟨rfl, by omega⟩, h1, h2, .inr h⟩
theorem askQ_end (zs : List Int) (pre : List (Fin zs.length)) (x : Fin zs.length) (s : Int) : AskP zs (pre ++ [x]) s ↔ AskQ zs pre x.1 zs.length s := by
  unfold AskP AskQ AskedTo
  constructor
  · rintro (h | ⟨i, k, ⟨y, hy, rfl⟩, h2, h3, h4⟩)
    · exact .inl h
    · refine .inr ⟨y.1, k, ?_, h2, h3, h4⟩
      rcases List.mem_append.1 hy with hy | hy
      · exact .inl ⟨y, hy, rfl⟩
      · obtain rfl := List.mem_singleton.1 hy; exact .inr ⟨rfl, h3⟩
  · rintro (h | ⟨i, k, ⟨y, hy, rfl⟩ | ⟨rfl, _⟩, h2⟩)
    · exact .inl h
    · exact .inr ⟨y.1, k, ⟨y, by simp [hy], rfl⟩, h2⟩
    · exact .inr ⟨x.1, k, ⟨x, by simp, rfl⟩, h2⟩
theorem askP_all (zs : List Int) (s : Int) : Asked zs s ↔ AskP zs (List.finRange zs.length) s := by
  unfold AskP Asked AskedTo
  constructor
  · rintro (h | ⟨i, k, _, h2, h3, h4⟩)
    · exact .inl h
    · exact .inr ⟨i, k, ⟨⟨i, by omega⟩, List.mem_finRange _, rfl⟩, h2, h3, h4⟩
  · rintro (h | ⟨i, k, _, h2⟩)
    · exact .inl h
    · exact .inr ⟨i, k, trivial, h2⟩
theorem bk_own {β : Type} {B b : Nat} (hb : b < B) (n : β → Nat) (T : β → Int → Prop) (F : Int → Int) : OwnFrom B (fun s W => Bk W b (n s) (T s) F) :=
  fun _ _ _ _ hs hg hr => hs.kept hg (fun e => by have := (hr b e.symm).1; omega)
theorem grown_own {β : Type} {B b : Nat} {w : World} (hB : w.heap.size ≤ B) : OwnFrom B (fun (_ : β) W => w.grownBy W (some b)) :=
  fun _ _ _ _ hs hg hr => hs.andThen hg (fun j hj => .inl (Nat.le_trans hB (hr j hj).1))

/-- The boxes of ask: the book, the row. -/
def ABox (W : World) (B b : Nat) (v : Value) : Prop := Boxed W B 67 (.map (some b)) ∧ Boxed W (B + 1) 48 v
theorem aBox_own {β : Type} (B b : Nat) (v : Value) : Own (fun (_ : β) W => ABox W B b v) := by
  rintro t X Y row ⟨h1, h2⟩ hg hrow
  have key : ∀ (g : Nat) (o : Obj), X.heap[g]? = some o → o.isCells = true → some g ≠ row := by
    intro g o hb ho' e'
    obtain ⟨o', ho, hc⟩ := hrow g e'.symm
    rw [hb] at ho; cases ho; rw [ho'] at hc; cases hc
  exact ⟨h1.kept hg (key _ _ h1 rfl), h2.kept hg (key _ _ h2 rfl)⟩
theorem ABox.grown {W W' : World} {B b : Nat} {v : Value} (h : ABox W B b v) (hb : b < B) (hg : W.grownBy W' (some b)) : ABox W' B b v :=
  ⟨h.1.kept hg (by simp; omega), h.2.kept hg (by simp; omega)⟩

set_option maxRecDepth 100000 in
set_option maxHeartbeats 2000000 in
theorem ask_any (A : Option Addr) (c m hi : Nat) (zs : List Int) (b n : Nat) (T : Int → Prop) (F0 : Int → Int) (w : World) (h : IR w 0 hi A zs) (hib : hi ≤ b) (hr : rowB zs = true) (hm : m = zs.length) (hb : Bk w b n T F0) :
    Calls Try.prog 80 #[.map (some b), .slice A m c] w fun e w' => e = .returned (.tuple #[]) ∧ Bk w' b 400 (Asked zs) (fallL zs) ∧ w.grownBy w' (some b) := by
  subst hm
  have hl := (rowB_true.1 hr).2
  have hbl := hb.lt
  have HR := Lib.hid hr; clear hr
  have H := Lib.hid h; clear h
  have hb2 : Bk ((w.alloc (.cells #[.map (some b)] 67)).alloc (.cells #[.slice A zs.length c] 48)) b n T F0 := (hb.kept (World.grownBy_alloc w _ none) (by simp)).kept (World.grownBy_alloc _ _ none) (by simp)
  obtain ⟨w1, hcl, hb1, hg1⟩ := hb2.clear (fallL zs)
  have HBK := Lib.hid hb1
  have hab : ABox w1 w.heap.size b (.slice A zs.length c) := by
    have n0 := Boxed.new w 67 (.map (some b))
    have n1 := Boxed.new (w.alloc (.cells #[.map (some b)] 67)) 48 (.slice A zs.length c)
    rw [World.size_alloc] at n1
    exact ABox.grown ⟨n0.alloc _, n1⟩ hbl hg1
  have hg01 : w.grownBy w1 (some b) := ((World.grownBy.but (World.grownBy_alloc w _ none) (some b)).andThen (World.grownBy.but (World.grownBy_alloc _ _ none) (some b)) (fun j hj => .inr hj)).andThen hg1 (fun j hj => .inr hj)
  have HAB := Lib.hid hab; have HG := Lib.hid hg01
  have c0 := hab.1.cell
  have c1 := hab.2.cell
  clear hb hb2 hb1 hg1 hab hg01
  refine (callsIn_wide (n := 6)).1 ?_
  refine callsIn_of_wp_marks Try.func80 rfl trivial ?_ rfl
  simp only [Try.ntmps80, List.size_toArray, List.length_cons, List.length_nil, Nat.reduceAdd, Nat.reduceSub, Array.replicate_succ, Array.replicate_zero, List.push_toArray, List.append_toArray, List.nil_append, List.cons_append]
  gi_wp2_with fail
  refine ⟨trivial, ?_⟩
  gi_at_call 98
  refine (callsIn_wide.2 (keep_any A c zs.length hi zs 0 b 0 (fun _ => False) w1 (H.out.grown HG.out hib) HR.out (by omega) (by omega) rfl HBK.out (by omega))).mono ?_
  rintro e w2 ⟨rfl, hbk, hg⟩
  have hab2 := HAB.out.grown hbl hg
  have HBK2 := Lib.hid hbk; have HG2 := Lib.hid (grown_trans HG.out hg); have HAB2 := Lib.hid hab2
  have d0 := hab2.1.cell
  have d1 := hab2.2.cell
  clear hbk hg hab2 c0 c1
  gi_wp2_with (refine ⟨trivial, ?_⟩; gi_at_call 57; refine (entries_in _ _ trivial rfl _ _ _ _).mono ?_; rintro e w' ⟨rfl, rfl⟩)
  obtain ⟨W4, hW4⟩ : ∃ W4, w2.alloc (.cells #[.slice A zs.length c] 48) = W4 := ⟨_, rfl⟩
  have hsz4 : W4.heap.size = w2.heap.size + 1 := by rw [← hW4]; simp
  have hszw : w.heap.size + 2 ≤ w2.heap.size := by have := HAB2.out.2.lt; omega
  have hg24 : w2.grownBy W4 (some b) := by rw [← hW4]; exact World.grownBy.but (World.grownBy_alloc w2 _ none) _
  have hg4 : w.grownBy W4 (some b) := grown_trans HG2.out hg24
  have hAB4 : ABox W4 w.heap.size b (.slice A zs.length c) := HAB2.out.grown hbl hg24
  have hBK4 : Bk W4 b (1 + 24 * ([] : List (Fin zs.length)).length) (AskP zs []) (fallL zs) := by
    rw [← hW4]
    exact (HBK2.out.kept (World.grownBy_alloc w2 _ none) (by simp)).congr (fun s => by rw [askP_nil]; simp) (fun _ _ => rfl)
  have hbox : W4.cell? ⟨w2.heap.size, 0, none⟩ = some (.slice A zs.length c) := by
    rw [← hW4, World.cell?_alloc_at _ _ _ _ rfl]; rfl
  have hR4 : IR W4 0 hi A zs := H.out.grown hg4 hib
  have hhi : hi ≤ w.heap.size := by omega
  rw [hW4]
  clear hW4 hg24 HAB2 HBK2 HG2 HAB HBK HG d0 d1
  apply (fun a₁ => wpIn_rangeFunc_ownG_of_H (F := Fence.wide) rfl (by decide) (gf := 90) (lb := #[.pointer (some ⟨w2.heap.size, 0, none⟩)]) rfl trivial (enters_of Try.func90 (by kernel_rfl) rfl)
    (entries_stops Fence.wide (6 - 1) trivial rfl (by decide) w2.heap.size hi c A zs _ (by omega) (by omega) hbox hR4) belowK_t (belowK_b (by omega)) (Below.refl _ _) (fun _ => rfl)
    (fun pre W => (ABox W w.heap.size b (.slice A zs.length c) ∧ w.grownBy W (some b)) ∧ Bk W b (1 + 24 * pre.length) (AskP zs pre) (fallL zs))
    (fun _ _ _ => False)
    (OwnFrom.and (OwnFrom.and (Own.from (aBox_own _ _ _) _) (grown_own (by omega))) (bk_own (by omega) _ _ _))
    (fun _ _ _ _ _ hs _ _ => hs)
    ⟨⟨hAB4, hg4⟩, hBK4⟩ a₁)
  case hassign =>
    intro l x W K hK
    gi_wp2
    exact hK
  case hbody =>
    rintro l pre x W ⟨⟨hAB, hG⟩, hBK⟩ hlt
    have HAB := Lib.hid hAB; have HG := Lib.hid hG; have HBK := Lib.hid hBK
    have hx := x.2
    clear hAB hG hBK
    gi_wp2
    gi_loopw [6] (fun i wr => ∃ kk : Nat, x.1 + 1 ≤ kk ∧ kk ≤ zs.length ∧ i = .int .i64 kk ∧ W.grownBy wr (some b) ∧ Bk wr b (1 + 24 * pre.length + 2 * kk) (AskQ zs pre x.1 kk) (fallL zs)) (fun i _ => zs.length - (intOf i).toNat)
    case atStart => exact ⟨x.1 + 1, Nat.le_refl _, by omega, by go_num, World.grownBy.but ⟨rfl, rfl, rfl, Nat.le_refl _, fun _ _ _ => rfl⟩ _, (HBK.out.mono (by omega)).congr (askQ_start zs pre x.1) (fun _ _ => rfl)⟩
    case round =>
      obtain ⟨kk, hk1, hk2, rfl, hgw, hbk⟩ := hrel
      have hab := HAB.out.grown hbl hgw
      have e0 := hab.1.cell
      have e1 := hab.2.cell
      have HABr := Lib.hid hab; have HGW := Lib.hid hgw; have HBKr := Lib.hid hbk
      clear hab hgw hbk
      by_cases hlt2 : kk < zs.length
      · have hIR := H.out.grown (grown_trans HG.out HGW.out) hib
        obtain ⟨b0, off, rfl, _, _, hc⟩ := hIR.at_ hlt2
        have HIR := Lib.hid hIR
        clear hIR
        obtain ⟨r1, r2⟩ := row_get HR.out x
        obtain ⟨r3, r4⟩ := row_get HR.out ⟨kk, hlt2⟩
        simp only [Fin.getElem_fin] at r1 r2 r3 r4
        have hkl : (kk : Int) < (zs.length : Int) := by omega
        have hxk : ((x.1 : Nat) : Int) < (kk : Int) := by omega
        have q1 : ((kk : Int) - ((x.1 : Nat) : Int)).toNat = kk - x.1 := by omega
        have HFS := Lib.hid (show (zs[kk] - zs[x.1]) / ((kk : Int) - ((x.1 : Nat) : Int)) = flS zs x.1 kk by rw [flS, getD_in hlt2, getD_in hx])
        have HFB := Lib.hid (flS_bd HR.out (show x.1 < kk by omega) hlt2)
        obtain ⟨f1, f2⟩ := HFB.out
        have hp12 : pre.length < 12 := by omega
        gi_wp2_with fail
        refine ⟨trivial, ?_⟩
        gi_at_call 99
        refine (CallsIn.inRound l (callsIn_wide.2 (floorDivide_any _ _ (by omega) (by omega) (by omega) (by omega) wr))).mono ?_
        rintro e w' ⟨rfl, rfl⟩
        rw [HFS.out]
        gi_wp2_with fail
        refine ⟨trivial, ?_⟩
        gi_at_call 98
        refine (CallsIn.inRound l (callsIn_wide.2 (keep_any _ c zs.length hi zs (flS zs x.1 kk) b (1 + 24 * pre.length + 2 * kk) (AskQ zs pre x.1 kk) wr HIR.out HR.out (by omega) (by omega) rfl HBKr.out (by omega)))).mono ?_
        rintro e w5 ⟨rfl, hbk5, hg5⟩
        have hab5 := HABr.out.grown hbl hg5
        have HIR5 := Lib.hid (HIR.out.grown hg5 hib)
        have HBK5 := Lib.hid hbk5; have HG5 := Lib.hid hg5; have HAB5 := Lib.hid hab5
        have g0 := hab5.1.cell
        have g1 := hab5.2.cell
        clear hbk5 hg5 hab5 e0 e1
        gi_wp2_with fail
        refine ⟨trivial, ?_⟩
        gi_at_call 98
        refine (CallsIn.inRound l (callsIn_wide.2 (keep_any _ c zs.length hi zs (flS zs x.1 kk + 1) b (1 + 24 * pre.length + 2 * kk + 1) _ w5 HIR5.out HR.out (by omega) (by omega) rfl HBK5.out (by omega)))).mono ?_
        rintro e w6 ⟨rfl, hbk6, hg6⟩
        have HBK6 := Lib.hid hbk6; have HG6 := Lib.hid hg6
        clear hbk6 hg6 g0 g1
        gi_wp2
        go_roundw
        case rel => exact ⟨kk + 1, by omega, by omega, by go_num, grown_trans HGW.out (grown_trans HG5.out HG6.out), (HBK6.out.mono (by omega)).congr (fun s => askQ_next zs pre x.1 kk s (by omega) hlt2) (fun _ _ => rfl)⟩
        case measure => simp [intOf]; omega
      · obtain rfl : kk = zs.length := by omega
        gi_wp2
        refine ⟨KeepsFrom.of_grownBy HGW.out (fun j hj => by cases hj; omega), grown_below HGW.out hib (Nat.le_trans hhi HG.out.size), ⟨HABr.out, grown_trans HG.out HGW.out⟩, ?_⟩
        exact (HBKr.out.mono (by simp; omega)).congr (askQ_end zs pre x) (fun _ _ => rfl)
  case hdone =>
    rintro D ys W hD rfl ⟨⟨hAB, hG⟩, hBK⟩ hK
    have hbD : b < D := by omega
    have HBK := Lib.hid hBK; have HG := Lib.hid hG
    have hpl : (List.finRange zs.length).length = zs.length := by simp
    clear hAB hBK hG
    gi_wp2
    refine ⟨by simp, .inl ⟨_, _, rfl, run_takeDeferred hK, ?_⟩⟩
    refine ⟨_, results_none rfl _ _ _, rfl, ?_, HG.out.andThen (grownBy_putObj' W D _) (fun j hj => by cases hj; left; omega)⟩
    refine ((HBK.out.mono (by omega)).congr (askP_all zs) (fun _ _ => rfl)).kept (grownBy_putObj' W D _) (by simp; omega)
  case hKr => exact fun W => Below.refl _ W
  case hstop =>
    rintro D cd pre W _ _ h _
    exact h.elim
end Go.Proofs.Ytlgagdplnpeklaa
