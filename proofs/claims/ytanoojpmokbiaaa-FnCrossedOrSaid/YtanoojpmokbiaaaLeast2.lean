/-
  RowLeast of the program: the least entry, its first place and its last. Conditions: the row's cells are there.
-/
import Derived.Test.YtanoojpmokbiaaaLeast
import Derived.Test.YtanoojpmokbiaaaHeld
namespace Go.Proofs.Ytanoojpmokbiaaa
open Go.RowKit Go.Shelf
attribute [local go_sem] Oper.semAt_some

/-- The three boxes: the least entry, the first place, the last place. -/
def LBox (W : World) (B : Nat) (zs : List Int) (s : Nat × Nat) : Prop :=
  Boxed W B 3 (.int .i64 (zs.getD s.1 0)) ∧ Boxed W (B + 1) 3 (.int .i64 (s.1 : Int)) ∧ Boxed W (B + 2) 3 (.int .i64 (s.2 : Int))
def leastOf (zs : List Int) (pre : List (Fin zs.length)) : Nat × Nat := pre.foldl (fun s x => lstep zs s x.1) (0, 0)
theorem leastOf_snoc (zs : List Int) (pre : List (Fin zs.length)) (x : Fin zs.length) : leastOf zs (pre ++ [x]) = lstep zs (leastOf zs pre) x.1 := by simp [leastOf]
theorem leastOf_eq (zs : List Int) (pre : List (Fin zs.length)) : zs.getD (leastOf zs pre).2 0 = zs.getD (leastOf zs pre).1 0 := by
  unfold leastOf
  generalize hs : ((0, 0) : Nat × Nat) = s
  have h0 : zs.getD s.2 0 = zs.getD s.1 0 := by rw [← hs]
  clear hs
  induction pre generalizing s with
  | nil => exact h0
  | cons x pre ih => exact ih _ (lstep_eq h0 x.1)
theorem leastOf_take (zs : List Int) (k : Nat) (hk : k ≤ zs.length) : leastOf zs ((List.finRange zs.length).take k) = leastTo zs k := by
  induction k with
  | zero => simp [leastOf, leastTo]
  | succ k ih =>
    rw [← finRange_succ (show k < zs.length by omega), leastOf_snoc, ih (by omega)]
    rfl
theorem leastOf_all (zs : List Int) : leastOf zs (List.finRange zs.length) = leastTo zs zs.length := by
  have := leastOf_take zs zs.length (Nat.le_refl _)
  rwa [List.take_of_length_le (by simp)] at this
theorem lBox_own {β : Type} (B : Nat) (zs : List Int) (f : β → Nat × Nat) : Own (fun s W => LBox W B zs (f s)) := by
  rintro s X Y row ⟨h1, h2, h3⟩ hg hrow
  have key : ∀ (g : Nat) (tt : TypeId) (u : Value), Boxed X g tt u → some g ≠ row := by
    intro g tt u hb e'
    obtain ⟨o, ho, hc⟩ := hrow g e'.symm
    rw [show X.heap[g]? = _ from hb] at ho; cases ho; cases hc
  exact ⟨h1.kept hg (key _ _ _ h1), h2.kept hg (key _ _ _ h2), h3.kept hg (key _ _ _ h3)⟩
/-- What a round does to the boxes. -/
theorem lBox_step {W : World} {B : Nat} {zs : List Int} {s : Nat × Nat} (h : LBox W B zs s) (he : zs.getD s.2 0 = zs.getD s.1 0) (i : Nat) :
    (zs.getD i 0 < zs.getD s.1 0 → LBox (((W.setCell ⟨B, 0, none⟩ (.int .i64 (zs.getD i 0))).setCell ⟨B + 1, 0, none⟩ (.int .i64 (i : Int))).setCell ⟨B + 2, 0, none⟩ (.int .i64 (i : Int))) B zs (lstep zs s i)) ∧
    (zs.getD i 0 = zs.getD s.1 0 → LBox (W.setCell ⟨B + 2, 0, none⟩ (.int .i64 (i : Int))) B zs (lstep zs s i)) ∧
    (zs.getD s.1 0 < zs.getD i 0 → LBox W B zs (lstep zs s i)) := by
  obtain ⟨h1, h2, h3⟩ := h
  have far : ∀ {W : World} {g g' : Nat} {u v : Value}, Boxed W g 3 u → g' ≠ g → Boxed (W.setCell ⟨g', 0, none⟩ v) g 3 u := fun hb hne => hb.kept (grownBy_setCell' _ _ _) (by simp; omega)
  refine ⟨fun hlt => ?_, fun heq => ?_, fun hgt => ?_⟩
  · have e : lstep zs s i = (i, i) := by
      unfold lstep
      rw [if_pos hlt, if_pos (by omega)]
    rw [e]
    exact ⟨far (far (h1.set _) (by omega)) (by omega), far ((far h2 (by omega)).set _) (by omega), (far (far h3 (by omega)) (by omega)).set _⟩
  · have e : lstep zs s i = (s.1, i) := by
      unfold lstep
      rw [if_neg (by omega), if_pos (by omega)]
    rw [e]
    exact ⟨far h1 (by omega), far h2 (by omega), h3.set _⟩
  · have e : lstep zs s i = s := by
      unfold lstep
      rw [if_neg (by omega), if_neg (by omega)]
    rw [e]
    exact ⟨h1, h2, h3⟩

def LBoxV (W : World) (B : Nat) (e f l : Int) : Prop :=
  Boxed W B 3 (.int .i64 e) ∧ Boxed W (B + 1) 3 (.int .i64 f) ∧ Boxed W (B + 2) 3 (.int .i64 l)
theorem lBox_same1 {W : World} {B : Nat} {e f l : Int} (h : LBoxV W B e f l) : LBoxV (W.setCell ⟨B, 0, none⟩ (.int .i64 e)) B e f l :=
  ⟨h.1.set _, h.2.1.kept (grownBy_setCell' _ _ _) (by simp), h.2.2.kept (grownBy_setCell' _ _ _) (by simp)⟩
theorem lBox_same2 {W : World} {B : Nat} {e f l : Int} (h : LBoxV W B e f l) : LBoxV (W.setCell ⟨B + 1, 0, none⟩ (.int .i64 f)) B e f l :=
  ⟨h.1.kept (grownBy_setCell' _ _ _) (by simp), h.2.1.set _, h.2.2.kept (grownBy_setCell' _ _ _) (by simp)⟩
theorem lBox_same3 {W : World} {B : Nat} {e f l : Int} (h : LBoxV W B e f l) : LBoxV (W.setCell ⟨B + 2, 0, none⟩ (.int .i64 l)) B e f l :=
  ⟨h.1.kept (grownBy_setCell' _ _ _) (by simp), h.2.1.kept (grownBy_setCell' _ _ _) (by simp), h.2.2.set _⟩

set_option maxRecDepth 100000 in
set_option maxHeartbeats 2000000 in
theorem least_anyL (A : Option Addr) (c : Nat) (zs : List Int) (w : World) (h : IR w 0 w.heap.size A zs) (hl : 1 ≤ zs.length ∧ zs.length ≤ 12) :
    Calls Try.prog 61 #[.slice A zs.length c] w fun e w' => e = .returned (.tuple #[.int .i64 (zs.getD (leastTo zs zs.length).1 0), .int .i64 ((leastTo zs zs.length).1 : Int), .int .i64 ((leastTo zs zs.length).2 : Int)]) ∧ Below w.heap.size w w' := by
  have H := Lib.hid h
  obtain ⟨b, off, e, _, hbs, hc0⟩ := h.at_ (k := 0) (by omega)
  subst e
  rw [Nat.add_zero] at hc0
  have g0 := Lib.hid (getD_in (zs := zs) (k := 0) (by omega))
  have hn0 : (0 : Int) < (zs.length : Int) := by omega
  have hb3 : Below w.heap.size w (((w.alloc (.cells #[.int .i64 0] 3)).alloc (.cells #[.int .i64 0] 3)).alloc (.cells #[.int .i64 0] 3)) := (((Below.refl _ w).alloc (Nat.le_refl _) _).alloc (by simp) _).alloc (by simp; omega) _
  have hc3 : (((w.alloc (.cells #[.int .i64 0] 3)).alloc (.cells #[.int .i64 0] 3)).alloc (.cells #[.int .i64 0] 3)).cell? ⟨b, off, none⟩ = some (.int .i64 (zs[0]'(by omega))) := (hb3.cell (p := ⟨b, off, none⟩) hbs).trans hc0
  have HB3 := Lib.hid hb3
  clear h hb3
  refine (callsIn_wide (n := 6)).1 ?_
  refine callsIn_of_wp_marks Try.func61 rfl trivial ?_ rfl
  simp only [Try.ntmps61, List.size_toArray, List.length_cons, List.length_nil, Nat.reduceAdd, Nat.reduceSub, Array.replicate_succ, Array.replicate_zero, List.push_toArray, List.append_toArray, List.nil_append, List.cons_append]
  gi_wp2_with (refine ⟨trivial, ?_⟩; gi_at_call 64; refine (entries_in _ _ trivial rfl _ _ _ _).mono ?_; rintro e w' ⟨rfl, rfl⟩)
  obtain ⟨W4, hW4⟩ : ∃ W4, (((w.alloc (.cells #[.int .i64 (zs[0]'(by omega))] 3)).alloc (.cells #[.int .i64 0] 3)).alloc (.cells #[.int .i64 0] 3)).alloc (.cells #[.slice (some ⟨b, off, none⟩) zs.length c] 91) = W4 := ⟨_, rfl⟩
  have hsz : W4.heap.size = w.heap.size + 4 := by rw [← hW4]; simp
  have hb04 : Below w.heap.size w W4 := by rw [← hW4]; exact ((((Below.refl _ w).alloc (Nat.le_refl _) _).alloc (by simp) _).alloc (by simp; omega) _).alloc (by simp; omega) _
  have hbox : W4.cell? ⟨w.heap.size + 3, 0, none⟩ = some (.slice (some ⟨b, off, none⟩) zs.length c) := by
    rw [← hW4, World.cell?_alloc_at _ _ _ _ (by simp)]; rfl
  have hL : LBox W4 w.heap.size zs (0, 0) := by
    have n0 := Boxed.new w 3 (.int .i64 (zs[0]'(by omega)))
    have n1 := Boxed.new (w.alloc (.cells #[.int .i64 (zs[0]'(by omega))] 3)) 3 (.int .i64 0)
    have n2 := Boxed.new ((w.alloc (.cells #[.int .i64 (zs[0]'(by omega))] 3)).alloc (.cells #[.int .i64 0] 3)) 3 (.int .i64 0)
    rw [World.size_alloc] at n1 n2
    rw [World.size_alloc] at n2
    refine ⟨?_, ?_, ?_⟩
    · rw [g0.out, ← hW4]; exact ((n0.alloc _).alloc _).alloc _
    · rw [← hW4]; exact (n1.alloc _).alloc _
    · rw [← hW4]; exact n2.alloc _
  have hR4 : IR W4 0 w.heap.size (some ⟨b, off, none⟩) zs := H.out.below hb04 (Nat.le_refl _)
  rw [hW4]
  clear hW4 hc3 hc0
  apply (fun a₁ => wpIn_rangeFunc_ownF (F := Fence.wide) rfl (by decide) (gf := 65) (lb := #[.pointer (some ⟨w.heap.size + 3, 0, none⟩)]) rfl trivial (enters_of Try.func65 (by kernel_rfl) rfl)
    (entries_stops Fence.wide (6 - 1) trivial rfl (by decide) (w.heap.size + 3) w.heap.size c (some ⟨b, off, none⟩) zs _ (by omega) (by omega) hbox hR4) belowK_t (belowK_b (by omega)) (Below.refl _ _) (fun _ => rfl)
    (fun pre W => LBox W w.heap.size zs (leastOf zs pre) ∧ Below w.heap.size w W)
    (fun _ _ _ => False)
    (OwnFrom.and (Own.from (lBox_own _ _ _) _) (ownFrom_below (Nat.le_refl _) (by omega)))
    (fun _ _ _ _ _ hs _ _ => hs)
    ⟨hL, hb04⟩ a₁)
  case hassign =>
    intro l x W K hK
    gi_wp2
    exact hK
  case hbody =>
    rintro l pre x W ⟨hM, hB⟩ hlt
    have hst := lBox_step hM (leastOf_eq zs pre) x.1
    rw [← leastOf_snoc] at hst
    have gx := getD_in x.2
    have c1 := hM.1.cell
    have f1 := hM.1.frozen
    have c2 := hM.2.1.cell
    have f2 := hM.2.1.frozen
    have c3 := hM.2.2.cell
    have f3 := hM.2.2.frozen
    have HB := Lib.hid hB
    have HM := Lib.hid hM
    rw [gx] at hst
    obtain ⟨e, he⟩ : ∃ e, zs.getD (leastOf zs pre).1 0 = e := ⟨_, rfl⟩
    rw [he] at hst c1
    have HS := Lib.hid hst
    obtain ⟨v2, hv2⟩ : ∃ v2, ((leastOf zs pre).1 : Int) = v2 := ⟨_, rfl⟩
    obtain ⟨v3, hv3⟩ : ∃ v3, ((leastOf zs pre).2 : Int) = v3 := ⟨_, rfl⟩
    rw [hv2] at c2
    rw [hv3] at c3
    clear hst hM hB gx he hv2 hv3
    by_cases hlt1 : (zs[x.1]'x.2) < e
    · have HSS := Lib.hid (HS.out.1 hlt1)
      have hq : ((zs[x.1]'x.2) == (zs[x.1]'x.2)) = true := beq_self_eq_true _
      gi_wp2
      have bs : Below w.heap.size W (((W.setCell ⟨w.heap.size, 0, none⟩ (.int .i64 (zs[x.1]'x.2))).setCell ⟨w.heap.size + 1, 0, none⟩ (.int .i64 ((x.1 : Nat) : Int))).setCell ⟨w.heap.size + 2, 0, none⟩ (.int .i64 ((x.1 : Nat) : Int))) :=
        (((Below.refl _ W).setCell (p := ⟨w.heap.size, 0, none⟩) (Nat.le_refl _) _).setCell (p := ⟨w.heap.size + 1, 0, none⟩) (by show w.heap.size ≤ w.heap.size + 1; omega) _).setCell (p := ⟨w.heap.size + 2, 0, none⟩) (by show w.heap.size ≤ w.heap.size + 2; omega) _
      exact ⟨((KeepsOthers.setCell _ _ _).trans (KeepsOthers.setCell _ _ _)).trans (KeepsOthers.setCell _ _ _), bs, HSS.out, HB.out.trans bs⟩
    · by_cases heq : (zs[x.1]'x.2) = e
      · have HSS := Lib.hid (HS.out.2.1 heq)
        have hq : ((zs[x.1]'x.2) == e) = true := beq_iff_eq.2 heq
        clear heq
        gi_wp2
        exact ⟨KeepsOthers.setCell _ _ _, (Below.refl _ W).setCell (p := ⟨w.heap.size + 2, 0, none⟩) (by show w.heap.size ≤ w.heap.size + 2; omega) _, HSS.out, HB.out.setCell (p := ⟨w.heap.size + 2, 0, none⟩) (by show w.heap.size ≤ w.heap.size + 2; omega) _⟩
      · have HSS := Lib.hid (HS.out.2.2 (by omega))
        have hq : ((zs[x.1]'x.2) == e) = false := by rw [beq_eq_false_iff_ne]; exact heq
        clear heq
        gi_wp2
        exact ⟨KeepsOthers.refl _, Below.refl _ _, HSS.out, HB.out⟩
  case hdone =>
    rintro D ys W hD rfl ⟨hM, hB⟩ hK
    rw [leastOf_all] at hM
    obtain ⟨ev, he⟩ : ∃ ev, zs.getD (leastTo zs zs.length).1 0 = ev := ⟨_, rfl⟩
    obtain ⟨fv, hf⟩ : ∃ fv, ((leastTo zs zs.length).1 : Int) = fv := ⟨_, rfl⟩
    obtain ⟨lv, hl'⟩ : ∃ lv, ((leastTo zs zs.length).2 : Int) = lv := ⟨_, rfl⟩
    have hM : LBoxV W w.heap.size ev fv lv := by rw [← he, ← hf, ← hl']; exact hM
    have HE := Lib.hid he; have HF := Lib.hid hf; have HLv := Lib.hid hl'
    clear he hf hl'
    have c1 := hM.1.cell
    have c2 := hM.2.1.cell
    have c3 := hM.2.2.cell
    have HM := Lib.hid hM; have HB := Lib.hid hB
    clear hM hB
    gi_wp2
    refine wpIn_mono (Q := Exit.then (fun a' w' => ∃ v23 v24 v25, a' = { tmps := #[.slice (some ⟨b, off, none⟩) zs.length c, undef, .pointer (some ⟨w.heap.size, 0, none⟩), .pointer (some ⟨w.heap.size + 1, 0, none⟩), .pointer (some ⟨w.heap.size + 1 + 1, 0, none⟩), undef, undef, .slice (some ⟨b, off, none⟩) zs.length c, .pointer (some ⟨b, off, none⟩), .int .i64 (zs[0]'(by omega)), .slice (some ⟨b, off, none⟩) zs.length c, .func (.func 65) #[] #[.pointer (some ⟨w.heap.size + 1 + 1 + 1, 0, none⟩)], undef, undef, undef, undef, undef, undef, undef, undef, undef, undef, undef, v23, v24, v25], defers := [{ target := .collected D, args := #[] }] } ∧ LBoxV w' w.heap.size ev fv lv ∧ KeepsOthers W w' ∧ Below w.heap.size w w') (fun _ _ _ => False)) ?reg ?rest
    case reg =>
      refine region_anyS (fun W' => LBoxV W' w.heap.size ev fv lv) (by kernel_rfl) ?_
      have hS0 : LBoxV W.drew w.heap.size ev fv lv := HM.out
      refine anyS_first 0 (v := .int .i64 ev) rfl (by kernel_rfl) (by kernel_rfl) (by kernel_rfl) (fun _ _ _ h => h) hS0 ⟨fun _ => rfl, .inl ⟨by rfl, fun W' hW' => (by have e1 := hW'.1.cell; go_simp)⟩⟩ ?_
      refine anyS_first 1 (v := .int .i64 fv) rfl (by kernel_rfl) (by kernel_rfl) (by kernel_rfl) (fun _ _ _ h => h) hS0 ⟨fun _ => rfl, .inl ⟨by rfl, fun W' hW' => (by have e1 := hW'.2.1.cell; go_simp)⟩⟩ ?_
      refine anyS_first 2 (v := .int .i64 lv) rfl (by kernel_rfl) (by kernel_rfl) (by kernel_rfl) (fun _ _ _ h => h) hS0 ⟨fun _ => rfl, .inl ⟨by rfl, fun W' hW' => (by have e1 := hW'.2.2.cell; go_simp)⟩⟩ ?_
      have hW0 := HM.out
      have s1 := lBox_same1 hW0
      have s2 := lBox_same2 s1
      have s3 := lBox_same3 s2
      have S1 := Lib.hid s1; have S2 := Lib.hid s2; have S3 := Lib.hid s3
      have d1 := hW0.1.cell; have e1 := hW0.1.frozen
      have d2 := s1.2.1.cell; have e2 := s1.2.1.frozen
      have d3 := s2.2.2.cell; have e3 := s2.2.2.frozen
      clear s1 s2 s3 hW0
      refine anyS_one 3 rfl (by kernel_rfl) hS0 ?_
      refine wpOpIn_step rfl fun K' hK' => ?_
      go_simp
      refine hK' _ _ ?_
      refine anyS_one 4 rfl (by kernel_rfl) S1.out ?_
      refine wpOpIn_step rfl fun K2 hK2 => ?_
      go_simp
      refine hK2 _ _ ?_
      refine anyS_one 5 rfl (by kernel_rfl) S2.out ?_
      refine wpOpIn_step rfl fun K3 hK3 => ?_
      go_simp
      refine hK3 _ _ ?_
      refine anyS_done (by kernel_rfl) S3.out ?_
      exact ⟨_, _, _, rfl, S3.out, (((KeepsOthers.drew W).trans (KeepsOthers.setCell _ _ _)).trans (KeepsOthers.setCell _ _ _)).trans (KeepsOthers.setCell _ _ _),
        ((HB.out.drew.setCell (p := ⟨w.heap.size, 0, none⟩) (Nat.le_refl _) _).setCell (p := ⟨w.heap.size + 1, 0, none⟩) (by show w.heap.size ≤ w.heap.size + 1; omega) _).setCell (p := ⟨w.heap.size + 2, 0, none⟩) (by show w.heap.size ≤ w.heap.size + 2; omega) _⟩
    case rest =>
      intro e a' w' hp
      cases e <;> try exact hp.elim
      obtain ⟨v23, v24, v25, rfl, hL', hko, hbb⟩ := hp
      have hK' := hko.same D _ hK rfl
      have r1 := cell_kept hL'.1.cell (grownBy_putObj' _ D (.deferred none)) (fun r e => by cases e; exact ⟨_, hK', rfl⟩)
      have r2 := cell_kept hL'.2.1.cell (grownBy_putObj' _ D (.deferred none)) (fun r e => by cases e; exact ⟨_, hK', rfl⟩)
      have r3 := cell_kept hL'.2.2.cell (grownBy_putObj' _ D (.deferred none)) (fun r e => by cases e; exact ⟨_, hK', rfl⟩)
      have R1 := Lib.hid r1; have R2 := Lib.hid r2; have R3 := Lib.hid r3
      clear r1 r2 r3 hL' c1 c2 c3
      gi_wp2
      refine ⟨by simp, .inl ⟨_, _, rfl, run_takeDeferred hK', ?_⟩⟩
      have r1 := R1.out; have r2 := R2.out; have r3 := R3.out
      refine ⟨.tuple #[.int .i64 ev, .int .i64 fv, .int .i64 lv], ?_, by rw [HE.out, HF.out, HLv.out], ?_⟩
      · simp [results, Try.f61, go_sem, r1, r2, r3]
      · exact hbb.trans (belowK_b (w := w) (Nat.le_refl _) _ D _ _ (by omega) hK' rfl rfl)
  case hstop =>
    rintro D cd pre W _ _ h _
    exact h.elim
theorem least_any (A : Option Addr) (c : Nat) (zs : List Int) (w : World) (h : IR w 0 w.heap.size A zs) (hr : rowB zs = true) :
    Calls Try.prog 61 #[.slice A zs.length c] w fun e w' => e = .returned (.tuple #[.int .i64 (zs.getD (leastTo zs zs.length).1 0), .int .i64 ((leastTo zs zs.length).1 : Int), .int .i64 ((leastTo zs zs.length).2 : Int)]) ∧ Below w.heap.size w w' :=
  least_anyL A c zs w h (rowB_true.1 hr).2

end Go.Proofs.Ytanoojpmokbiaaa
