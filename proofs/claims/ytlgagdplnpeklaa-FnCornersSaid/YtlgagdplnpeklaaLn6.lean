/-
  The program's meeting places: met, LineMeets. Conditions: the rows' cells are there.
-/
import Derived.Test.YtlgagdplnpeklaaLn5
import Derived.Test.YtlgagdplnpeklaaHeld
namespace Go.Proofs.Ytlgagdplnpeklaa
open Go.RowKit Go.Shelf
attribute [local go_sem] Oper.semAt_some

/-- Block G is a line: two cells. -/
def Line2 (W : World) (G : Nat) (a s : Int) : Prop := W.heap[G]? = some (.cells #[.int .i64 a, .int .i64 s] 86 (0, 0))
theorem Line2.new (W : World) (a s : Int) : Line2 (W.alloc (.cells #[.int .i64 a, .int .i64 s] 86)) W.heap.size a s := World.alloc_heap_new W _
theorem Line2.lt {W : World} {G : Nat} {a s : Int} (h : Line2 W G a s) : G < W.heap.size := (Array.getElem?_eq_some_iff.1 h).1
theorem Line2.c0 {W : World} {G : Nat} {a s : Int} (h : Line2 W G a s) : W.cell? ⟨G, 0, none⟩ = some (.int .i64 a) := by simp [World.cell?, show W.heap[G]? = _ from h]
theorem Line2.c1 {W : World} {G : Nat} {a s : Int} (h : Line2 W G a s) : W.cell? ⟨G, 1, none⟩ = some (.int .i64 s) := by simp [World.cell?, show W.heap[G]? = _ from h]
theorem Line2.f0 {W : World} {G : Nat} {a s : Int} (h : Line2 W G a s) : W.frozen? ⟨G, 0, none⟩ = false := by simp [World.frozen?, show W.heap[G]? = _ from h]
theorem Line2.f1 {W : World} {G : Nat} {a s : Int} (h : Line2 W G a s) : W.frozen? ⟨G, 1, none⟩ = false := by simp [World.frozen?, show W.heap[G]? = _ from h]
theorem Line2.kept {W W' : World} {row : Option Nat} {G : Nat} {a s : Int} (h : Line2 W G a s) (hg : W.grownBy W' row) (hne : some G ≠ row) : Line2 W' G a s := (hg.block G h.lt hne).trans h
theorem Line2.below {W W' : World} {G : Nat} {a s : Int} (h : Line2 W G a s) (hb : Below W.heap.size W W') : Line2 W' G a s := (hb.block G h.lt).trans h
theorem Line2.set0 {W : World} {G : Nat} {a s : Int} (v : Int) (h : Line2 W G a s) : Line2 (W.setCell ⟨G, 0, none⟩ (.int .i64 v)) G v s := by
  obtain ⟨hlt, hk⟩ := Array.getElem?_eq_some_iff.1 h
  show (W.heap.modify G _)[G]? = _
  rw [Array.getElem?_eq_getElem (by rw [Array.size_modify]; exact hlt), Array.getElem_modify_self, hk]
  rfl
theorem Line2.set1 {W : World} {G : Nat} {a s : Int} (v : Int) (h : Line2 W G a s) : Line2 (W.setCell ⟨G, 1, none⟩ (.int .i64 v)) G a v := by
  obtain ⟨hlt, hk⟩ := Array.getElem?_eq_some_iff.1 h
  show (W.heap.modify G _)[G]? = _
  rw [Array.getElem?_eq_getElem (by rw [Array.size_modify]; exact hlt), Array.getElem_modify_self, hk]
  rfl
/-- The boxes of met: the row, the slope, the first place, the last one, the line. -/
def MBox (W : World) (B G : Nat) (v : Value) (s a first last : Int) : Prop :=
  (Boxed W B 48 v ∧ Boxed W (B + 1) 3 (.int .i64 s)) ∧ (Boxed W (B + 2) 3 (.int .i64 first) ∧ Boxed W (B + 3) 3 (.int .i64 last)) ∧ (B + 4 ≤ G ∧ Line2 W G a s)
theorem MBox.below {W W' : World} {B G : Nat} {v : Value} {s a first last : Int} (h : MBox W B G v s a first last) (hb : Below W.heap.size W W') : MBox W' B G v s a first last :=
  ⟨⟨(hb.block _ h.1.1.lt).trans h.1.1, (hb.block _ h.1.2.lt).trans h.1.2⟩, ⟨(hb.block _ h.2.1.1.lt).trans h.2.1.1, (hb.block _ h.2.1.2.lt).trans h.2.1.2⟩, h.2.2.1, h.2.2.2.below hb⟩
theorem MBox.first {W : World} {B G : Nat} {v : Value} {s a first last : Int} (h : MBox W B G v s a first last) (x : Int) : MBox (W.setCell ⟨B + 2, 0, none⟩ (.int .i64 x)) B G v s a x last := by
  have := h.2.2.1
  exact ⟨⟨h.1.1.kept (grownBy_setCell' _ _ _) (by simp), h.1.2.kept (grownBy_setCell' _ _ _) (by simp)⟩, ⟨h.2.1.1.set _, h.2.1.2.kept (grownBy_setCell' _ _ _) (by simp)⟩, h.2.2.1, h.2.2.2.kept (grownBy_setCell' _ _ _) (by simp; omega)⟩
theorem MBox.last {W : World} {B G : Nat} {v : Value} {s a first last : Int} (h : MBox W B G v s a first last) (x : Int) : MBox (W.setCell ⟨B + 3, 0, none⟩ (.int .i64 x)) B G v s a first x := by
  have := h.2.2.1
  exact ⟨⟨h.1.1.kept (grownBy_setCell' _ _ _) (by simp), h.1.2.kept (grownBy_setCell' _ _ _) (by simp)⟩, ⟨h.2.1.1.kept (grownBy_setCell' _ _ _) (by simp), h.2.1.2.set _⟩, h.2.2.1, h.2.2.2.kept (grownBy_setCell' _ _ _) (by simp; omega)⟩
theorem mBox_own {β : Type} (B G : Nat) (v : Value) (s a : Int) (f : β → Int × Int) : Own (fun t W => MBox W B G v s a (f t).1 (f t).2) := by
  rintro t X Y row ⟨⟨h1, h2⟩, ⟨h3, h4⟩, hG, h5⟩ hg hrow
  have key : ∀ (g : Nat) (o : Obj), X.heap[g]? = some o → o.isCells = true → some g ≠ row := by
    intro g o hb ho' e'
    obtain ⟨o', ho, hc⟩ := hrow g e'.symm
    rw [hb] at ho; cases ho; rw [ho'] at hc; cases hc
  exact ⟨⟨h1.kept hg (key _ _ h1 rfl), h2.kept hg (key _ _ h2 rfl)⟩, ⟨h3.kept hg (key _ _ h3 rfl), h4.kept hg (key _ _ h4 rfl)⟩, hG, h5.kept hg (key _ _ h5 rfl)⟩

/-- The first place and the last one over the places seen. -/
def mstep (zs : List Int) (s : Int) (t : Int × Int) (k : Nat) : Int × Int := if s * (k : Int) - zs.getD k 0 = fallL zs s then (min t.1 (k : Int), (k : Int)) else t
def metOf (zs : List Int) (s : Int) (pre : List (Fin zs.length)) : Int × Int := pre.foldl (fun t x => mstep zs s t x.1) ((zs.length : Int), 0)
theorem metOf_snoc (zs : List Int) (s : Int) (pre : List (Fin zs.length)) (x : Fin zs.length) : metOf zs s (pre ++ [x]) = mstep zs s (metOf zs s pre) x.1 := by simp [metOf]
theorem metOf_take (zs : List Int) (s : Int) (k : Nat) (hk : k ≤ zs.length) : metOf zs s ((List.finRange zs.length).take k) = metTo zs s k := by
  induction k with
  | zero => rw [metTo_zero]; simp [metOf]
  | succ k ih =>
    rw [← finRange_succ (show k < zs.length by omega), metOf_snoc, ih (by omega)]
    unfold mstep
    by_cases c : s * (k : Int) - zs.getD k 0 = fallL zs s
    · rw [if_pos c, metTo_hit (by omega) c]
    · rw [if_neg c, metTo_skip c]
theorem metOf_all {zs : List Int} (s : Int) (h0 : 0 < zs.length) : metOf zs s (List.finRange zs.length) = meetsTo zs s zs.length := by
  have := metOf_take zs s zs.length (Nat.le_refl _)
  rw [List.take_of_length_le (by simp)] at this
  rw [this, metTo_end h0]

section
variable {F : Fence} {n : Nat} {P : Program} {ops : Array Oper} {Q : Exit → Act → World → Prop} {md : Region.Mode} {S : World → Prop}
/-- Two may come up. -/
theorem anyS_two (i j : Nat) {fuel : Nat} {listed : Array Bool} {a : Act} {w : World} (hr : Region.ready md ops listed = [i, j]) (hS : S w)
    (h1 : wpOpIn F n P ops Q i (anyS F n P md ops Q S fuel (listed.setIfInBounds i true)) a w) (h2 : wpOpIn F n P ops Q j (anyS F n P md ops Q S fuel (listed.setIfInBounds j true)) a w) : anyS F n P md ops Q S (fuel + 1) listed a w :=
  ⟨hS, fun h0 => (by rw [hr] at h0; cases h0), fun k hk => by
    rw [hr] at hk
    rcases List.mem_cons.1 hk with rfl | hk
    · exact h1
    · obtain rfl := List.mem_singleton.1 hk; exact h2⟩
end

set_option maxRecDepth 100000 in
set_option maxHeartbeats 2000000 in
theorem met_any (A : Option Addr) (c n : Nat) (zs : List Int) (s : Int) (w : World) (h : IR w 0 w.heap.size A zs) (hr : rowB zs = true) (hs1 : -3000 ≤ s) (hs2 : s ≤ 3000) (hn : n = zs.length) :
    Calls Try.prog 68 #[.slice A n c, .int .i64 s] w fun e w' => e = .returned (.tuple #[.int .i64 (meetsTo zs s zs.length).1, .int .i64 (meetsTo zs s zs.length).2]) ∧ Below w.heap.size w w' := by
  subst hn
  have hl := (rowB_true.1 hr).2
  have HR := Lib.hid hr; clear hr
  have h0 : 0 < zs.length := by omega
  have H := Lib.hid h; clear h
  refine (callsIn_wide (n := 6)).1 ?_
  refine callsIn_of_wp_marks Try.func68 rfl trivial ?_ rfl
  simp only [Try.ntmps68, List.size_toArray, List.length_cons, List.length_nil, Nat.reduceAdd, Nat.reduceSub, Array.replicate_succ, Array.replicate_zero, List.push_toArray, List.append_toArray, List.nil_append, List.cons_append]
  gi_wp2
  obtain ⟨W0, hW0⟩ : ∃ W0, ((((w.alloc (Obj.cells #[Value.slice A zs.length c] 48)).alloc (Obj.cells #[Value.int IntKind.i64 s] 3)).alloc (Obj.cells #[Value.int IntKind.i64 0] 3)).alloc (Obj.cells #[Value.int IntKind.i64 0] 3)) = W0 := ⟨_, rfl⟩
  have hsz : W0.heap.size = w.heap.size + 4 := by rw [← hW0]; simp
  have hb0 : Below w.heap.size w W0 := by rw [← hW0]; exact ((((Below.refl _ w).alloc (Nat.le_refl _) _).alloc (by simp) _).alloc (by simp; omega) _).alloc (by simp; omega) _
  have b0 : Boxed W0 w.heap.size 48 (.slice A zs.length c) := by
    rw [← hW0]; exact (((Boxed.new w _ _).alloc _).alloc _).alloc _
  have b1 : Boxed W0 (w.heap.size + 1) 3 (.int .i64 s) := by
    have n1 := Boxed.new (w.alloc (Obj.cells #[Value.slice A zs.length c] 48)) 3 (.int .i64 s)
    rw [World.size_alloc] at n1
    rw [← hW0]; exact (n1.alloc _).alloc _
  have b2 : Boxed W0 (w.heap.size + 2) 3 (.int .i64 0) := by
    have n1 := Boxed.new ((w.alloc (Obj.cells #[Value.slice A zs.length c] 48)).alloc (Obj.cells #[Value.int IntKind.i64 s] 3)) 3 (.int .i64 0)
    rw [World.size_alloc, World.size_alloc] at n1
    rw [← hW0]; exact n1.alloc _
  have b3 : Boxed W0 (w.heap.size + 3) 3 (.int .i64 0) := by
    have n1 := Boxed.new (((w.alloc (Obj.cells #[Value.slice A zs.length c] 48)).alloc (Obj.cells #[Value.int IntKind.i64 s] 3)).alloc (Obj.cells #[Value.int IntKind.i64 0] 3)) 3 (.int .i64 0)
    rw [World.size_alloc, World.size_alloc, World.size_alloc] at n1
    rw [← hW0]; exact n1
  rw [hW0]
  clear hW0
  obtain ⟨F, hF⟩ : ∃ F, F = fallL zs s := ⟨_, rfl⟩
  have g := fall_bd HR.out hs1 hs2
  rw [← hF] at g
  obtain ⟨g1, g2⟩ := g
  have HF := Lib.hid hF; clear hF
  have B0 := Lib.hid b0; have B1 := Lib.hid b1; have B2 := Lib.hid b2; have B3 := Lib.hid b3; have HB0 := Lib.hid hb0
  have HSZ := Lib.hid hsz
  have c0 := b0.cell
  have c1 := b1.cell
  clear b0 b1 b2 b3 hb0 hsz
  have HH := Lib.hid (show IR W0.drew 0 W0.drew.heap.size A zs from (H.out.below HB0.out (Nat.le_refl _)).toAll)
  have SK : ∀ {W W' : World}, Below W0.heap.size W W' → (W.cell? ⟨w.heap.size, 0, none⟩ = some (.slice A zs.length c) ∧ W.cell? ⟨w.heap.size + 1, 0, none⟩ = some (.int .i64 s)) → (W'.cell? ⟨w.heap.size, 0, none⟩ = some (.slice A zs.length c) ∧ W'.cell? ⟨w.heap.size + 1, 0, none⟩ = some (.int .i64 s)) := by
    rintro W W' hb ⟨e1, e2⟩
    have := HSZ.out
    exact ⟨(hb.cell (p := ⟨w.heap.size, 0, none⟩) (by show w.heap.size < _; omega)).trans e1, (hb.cell (p := ⟨w.heap.size + 1, 0, none⟩) (by show w.heap.size + 1 < _; omega)).trans e2⟩
  have BK : ∀ {W W' : World} {g : Nat} {t : TypeId} {v : Value}, Below W.heap.size W W' → Boxed W g t v → Boxed W' g t v := fun hb hx => (hb.block _ hx.lt).trans hx
  refine wpIn_mono (Q := Exit.then (fun a' w' => ∃ G v8 v9 v10 v11 v12 v13, a' = { tmps := #[.slice A zs.length c, .int .i64 s, .pointer (some ⟨w.heap.size, 0, none⟩), .pointer (some ⟨w.heap.size + 1, 0, none⟩), .pointer (some ⟨w.heap.size + 1 + 1, 0, none⟩), .pointer (some ⟨w.heap.size + 1 + 1 + 1, 0, none⟩), .pointer (some ⟨G, 0, none⟩), undef, v8, v9, v10, v11, v12, v13, undef, undef, undef, undef, undef, undef, undef, undef, undef, undef, undef, undef, undef, undef, undef, undef, undef, undef], defers := [] } ∧ MBox w' w.heap.size G (.slice A zs.length c) s (-F) 0 0 ∧ Below w.heap.size w w') (fun _ _ _ => False)) ?reg ?rest
  case reg =>
    refine region_anyS (fun W' => W'.cell? ⟨w.heap.size, 0, none⟩ = some (.slice A zs.length c) ∧ W'.cell? ⟨w.heap.size + 1, 0, none⟩ = some (.int .i64 s)) (by kernel_rfl) ?_
    have hS0 : W0.drew.cell? ⟨w.heap.size, 0, none⟩ = some (.slice A zs.length c) ∧ W0.drew.cell? ⟨w.heap.size + 1, 0, none⟩ = some (.int .i64 s) := ⟨c0, c1⟩
    refine anyS_first 0 (v := .slice A zs.length c) rfl (by kernel_rfl) (by kernel_rfl) (by kernel_rfl) (fun _ _ _ h => h) hS0 ⟨fun _ => rfl, .inl ⟨by rfl, fun W' hW' => (by obtain ⟨e1, e2⟩ := hW'; go_simp)⟩⟩ ?_
    refine anyS_first 1 (v := .int .i64 s) rfl (by kernel_rfl) (by kernel_rfl) (by kernel_rfl) (fun _ _ _ h => h) hS0 ⟨fun _ => rfl, .inl ⟨by rfl, fun W' hW' => (by obtain ⟨e1, e2⟩ := hW'; go_simp)⟩⟩ ?_
    refine anyS_first 4 (v := .int .i64 s) rfl (by kernel_rfl) (by kernel_rfl) (by kernel_rfl) (fun _ _ _ h => h) hS0 ⟨fun _ => rfl, .inl ⟨by rfl, fun W' hW' => (by obtain ⟨e1, e2⟩ := hW'; go_simp)⟩⟩ ?_
    refine anyS_two 2 6 (by kernel_rfl) hS0 ?_ ?_
    · refine wpOpIn_step rfl fun K' hK' => ?_
      go_simp
      refine ⟨trivial, (callsIn_wide.2 (fall_any _ _ _ zs s W0.drew HH.out HR.out hs1 hs2 rfl)).mono ?_⟩
      rintro e W5 ⟨rfl, hb5⟩
      rw [← HF.out]
      have hS5 := SK hb5 hS0
      refine hK' _ _ ?_
      refine anyS_first 3 (v := .int .i64 (-F)) rfl (by kernel_rfl) (by kernel_rfl) (by kernel_rfl) (fun _ _ _ h => h) hS5 ⟨fun _ => rfl, .inl ⟨by rfl, fun W' hW' => (by go_simp; rw [IntWalk.i64_in _ (by omega)])⟩⟩ ?_
      refine anyS_first 5 (v := .agg #[.int .i64 (-F), .int .i64 s]) rfl (by kernel_rfl) (by kernel_rfl) (by kernel_rfl) (fun _ _ _ h => h) hS5 ⟨fun _ => rfl, .inl ⟨by rfl, fun W' hW' => (by go_simp)⟩⟩ ?_
      refine anyS_one 6 rfl (by kernel_rfl) hS5 ?_
      refine wpOpIn_step rfl fun K6 hK6 => ?_
      go_simp
      refine hK6 _ _ ?_
      have hS6 := SK (Below.alloc (Below.refl _ W5) (by have := hb5.size; exact this) (Obj.cells #[Value.int IntKind.i64 0, Value.int IntKind.i64 0] 86)) hS5
      refine anyS_one 7 rfl (by kernel_rfl) hS6 ?_
      refine wpOpIn_step rfl fun K7 hK7 => ?_
      go_simp
      refine hK7 _ _ ?_
      have hb6 := Below.alloc (Below.refl W5.heap.size W5) (Nat.le_refl _) (Obj.cells #[Value.int IntKind.i64 (-F), Value.int IntKind.i64 s] 86)
      have hb5' : Below W0.heap.size W0 W5 := ⟨hb5.os, hb5.tape, hb5.output, hb5.size, hb5.block⟩
      have hb7 : Below W0.heap.size W0 (W5.alloc (Obj.cells #[Value.int IntKind.i64 (-F), Value.int IntKind.i64 s] 86)) := below_then hb5' (Nat.le_refl _) hb6
      refine anyS_done (by kernel_rfl) (SK hb7 hS0) ?_
      refine ⟨W5.heap.size, _, _, _, _, _, _, rfl, ⟨⟨BK hb7 B0.out, BK hb7 B1.out⟩, ⟨BK hb7 B2.out, BK hb7 B3.out⟩, ?_, Line2.new _ _ _⟩, below_then HB0.out (Nat.le_refl _) hb7⟩
      have := hb5'.size; have := HSZ.out; omega
    · refine wpOpIn_step rfl fun K' hK' => ?_
      go_simp
      refine hK' _ _ ?_
      obtain ⟨W1, hW1⟩ : ∃ W1, (W0.alloc (Obj.cells #[Value.int IntKind.i64 0, Value.int IntKind.i64 0] 86)).drew = W1 := ⟨_, rfl⟩
      have hb1 : Below W0.heap.size W0 W1 := by rw [← hW1]; exact (Below.alloc (Below.refl W0.heap.size W0) (Nat.le_refl _) _).drew
      have hl1 : Line2 W1 W0.heap.size 0 0 := by rw [← hW1]; exact Line2.new _ _ _
      rw [hW1]
      clear hW1
      have hS1 := SK hb1 hS0
      have HH1 := Lib.hid (show IR W1 0 W1.heap.size A zs from ((show IR W0 0 W0.heap.size A zs from HH.out).below hb1 (Nat.le_refl _)).toAll)
      refine anyS_one 2 rfl (by kernel_rfl) hS1 ?_
      refine wpOpIn_step rfl fun K2 hK2 => ?_
      go_simp
      refine ⟨trivial, (callsIn_wide.2 (fall_any _ _ _ zs s W1 HH1.out HR.out hs1 hs2 rfl)).mono ?_⟩
      rintro e W5 ⟨rfl, hb5⟩
      rw [← HF.out]
      have hl5 := hl1.below hb5
      have hb5' : Below W0.heap.size W0 W5 := below_then hb1 (Nat.le_refl _) hb5
      have hS5 := SK hb5' hS0
      refine hK2 _ _ ?_
      refine anyS_one 3 rfl (by kernel_rfl) hS5 ?_
      refine wpOpIn_step rfl fun K3 hK3 => ?_
      go_simp
      refine hK3 _ _ ?_
      rw [IntWalk.i64_in _ (by omega)]
      refine anyS_one 5 rfl (by kernel_rfl) hS5 ?_
      refine wpOpIn_step rfl fun K5 hK5 => ?_
      go_simp
      refine hK5 _ _ ?_
      refine anyS_one 7 rfl (by kernel_rfl) hS5 ?_
      refine wpOpIn_step rfl fun K7 hK7 => ?_
      have d0 := hl5.c0; have d1 := hl5.c1; have e0 := hl5.f0; have e1 := hl5.f1
      go_simp
      refine hK7 _ _ ?_
      have hl7 := (hl5.set0 (-F)).set1 s
      have hb7 : Below W0.heap.size W0 ((W5.setCell ⟨W0.heap.size, 0, none⟩ (.int .i64 (-F))).setCell ⟨W0.heap.size, 1, none⟩ (.int .i64 s)) := (hb5'.setCell (p := ⟨W0.heap.size, 0, none⟩) (Nat.le_refl _) _).setCell (p := ⟨W0.heap.size, 1, none⟩) (Nat.le_refl _) _
      refine anyS_done (by kernel_rfl) (SK hb7 hS0) ?_
      refine ⟨W0.heap.size, _, _, _, _, _, _, rfl, ⟨⟨BK hb7 B0.out, BK hb7 B1.out⟩, ⟨BK hb7 B2.out, BK hb7 B3.out⟩, ?_, hl7⟩, below_then HB0.out (Nat.le_refl _) hb7⟩
      have := HSZ.out; omega
  case rest =>
    intro e a' w' hp
    cases e <;> try exact hp.elim
    obtain ⟨G, v8, v9, v10, v11, v12, v13, rfl, hM, hB⟩ := hp
    have HM := Lib.hid hM; have HB := Lib.hid hB
    have c0 := hM.1.1.cell
    have c2 := hM.2.1.1.cell
    have f2 := hM.2.1.1.frozen
    clear hM hB
    gi_wp2_with (refine ⟨trivial, ?_⟩; gi_at_call 57; refine (entries_in _ _ trivial rfl _ _ _ _).mono ?_; rintro e w' ⟨rfl, rfl⟩)
    have hM1 := HM.out.first (zs.length : Int)
    have hb1 : Below w.heap.size w (w'.setCell ⟨w.heap.size + 2, 0, none⟩ (.int .i64 (zs.length : Int))) := HB.out.setCell (p := ⟨w.heap.size + 2, 0, none⟩) (by show w.heap.size ≤ w.heap.size + 2; omega) _
    obtain ⟨W3, hW3⟩ : ∃ W3, w'.setCell ⟨w.heap.size + 2, 0, none⟩ (.int .i64 (zs.length : Int)) = W3 := ⟨_, rfl⟩
    rw [hW3] at hM1 hb1
    have hsz3 : w.heap.size + 4 ≤ W3.heap.size := by have := hM1.2.1.2.lt; omega
    have hwsz : w'.heap.size = W3.heap.size := by rw [← hW3]; simp
    obtain ⟨W4, hW4⟩ : ∃ W4, W3.alloc (.cells #[.slice A zs.length c] 48) = W4 := ⟨_, rfl⟩
    have hsz4 : W4.heap.size = W3.heap.size + 1 := by rw [← hW4]; simp
    have hb34 : Below W3.heap.size W3 W4 := by rw [← hW4]; exact (Below.refl _ W3).alloc (Nat.le_refl _) _
    have hb4 : Below w.heap.size w W4 := below_then hb1 (Nat.le_refl _) hb34
    have hM4 : MBox W4 w.heap.size G (.slice A zs.length c) s (-F) (metOf zs s []).1 (metOf zs s []).2 := hM1.below hb34
    have hbox : W4.cell? ⟨W3.heap.size, 0, none⟩ = some (.slice A zs.length c) := by
      rw [← hW4, World.cell?_alloc_at _ _ _ _ rfl]; rfl
    have hR4 : IR W4 0 w.heap.size A zs := H.out.below hb4 (Nat.le_refl _)
    rw [hW3, hW4, hwsz]
    clear hW3 hW4 hwsz hb34 hb1 hM1 c0 c2 f2 HM
    apply (fun a₁ => wpIn_rangeFunc_ownF (F := Fence.wide) rfl (by decide) (gf := 90) (lb := #[.pointer (some ⟨W3.heap.size, 0, none⟩)]) rfl trivial (enters_of Try.func90 (by kernel_rfl) rfl)
      (entries_stops Fence.wide (6 - 1) trivial rfl (by decide) W3.heap.size w.heap.size c A zs _ (by omega) (by omega) hbox hR4) belowK_t (belowK_b (by omega)) (Below.refl _ _) (fun _ => rfl)
      (fun pre W => MBox W w.heap.size G (.slice A zs.length c) s (-F) (metOf zs s pre).1 (metOf zs s pre).2 ∧ Below w.heap.size w W)
      (fun _ _ _ => False)
      (OwnFrom.and (Own.from (mBox_own _ _ _ _ _ _) _) (ownFrom_below (Nat.le_refl _) (by omega)))
      (fun _ _ _ _ _ hs _ _ => hs)
      ⟨hM4, hb4⟩ a₁)
    case hassign =>
      intro l x W K hK
      gi_wp2
      exact hK
    case hbody =>
      rintro l pre x W ⟨hM, hB⟩ hlt
      have hst := metOf_snoc zs s pre x
      obtain ⟨fv, hfv⟩ : ∃ fv, (metOf zs s pre).1 = fv := ⟨_, rfl⟩
      obtain ⟨lv, hlv⟩ : ∃ lv, (metOf zs s pre).2 = lv := ⟨_, rfl⟩
      rw [hfv, hlv] at hM
      have hcond : (s * ((x.1 : Nat) : Int) - zs.getD x.1 0 = F) ↔ (zs[x.1]'x.2 - ((x.1 : Nat) : Int) * s = -F) := by
        rw [getD_in x.2, Int.mul_comm]
        exact ⟨fun h => by omega, fun h => by omega⟩
      rw [mstep, ← HF.out, hfv] at hst
      have hst' : (zs[x.1]'x.2 - ((x.1 : Nat) : Int) * s = -F → metOf zs s (pre ++ [x]) = (min fv ((x.1 : Nat) : Int), ((x.1 : Nat) : Int))) ∧ (¬ (zs[x.1]'x.2 - ((x.1 : Nat) : Int) * s = -F) → metOf zs s (pre ++ [x]) = metOf zs s pre) := by
        refine ⟨fun h => by rw [hst, if_pos (hcond.2 h)], fun h => by rw [hst, if_neg (fun h' => h (hcond.1 h'))]⟩
      have HST := Lib.hid hst'
      have HM := Lib.hid hM; have HB := Lib.hid hB
      have hIR := Lib.hid ((H.out.below hB (Nat.le_refl _)).toAll)
      have HFV := Lib.hid hfv; have HLV := Lib.hid hlv
      clear hst hst' hcond hfv hlv hM hB
      have hS0 : MBox W.drew w.heap.size G (.slice A zs.length c) s (-F) fv lv := HM.out
      gi_wp2
      refine region_anyS (fun W' => MBox W' w.heap.size G (.slice A zs.length c) s (-F) fv lv) (by kernel_rfl) ?_
      refine anyS_first 0 (v := .slice A zs.length c) rfl (by kernel_rfl) (by kernel_rfl) (by kernel_rfl) (fun _ _ _ h => h) hS0 ⟨fun _ => rfl, .inl ⟨by rfl, fun W' hW' => (by have e1 := hW'.1.1.cell; go_simp)⟩⟩ ?_
      refine anyS_first 1 (v := .int .i64 ((x.1 : Nat) : Int)) rfl (by kernel_rfl) (by kernel_rfl) (by kernel_rfl) (fun _ _ _ h => h) hS0 ⟨fun _ => rfl, .inl ⟨by rfl, fun W' hW' => (by go_simp)⟩⟩ ?_
      refine anyS_first 2 (v := .int .i64 s) rfl (by kernel_rfl) (by kernel_rfl) (by kernel_rfl) (fun _ _ _ h => h) hS0 ⟨fun _ => rfl, .inl ⟨by rfl, fun W' hW' => (by have e1 := hW'.1.2.cell; go_simp)⟩⟩ ?_
      refine anyS_first 4 (v := .agg #[.int .i64 (-F), .int .i64 s]) rfl (by kernel_rfl) (by kernel_rfl) (by kernel_rfl) (fun _ _ _ h => h) hS0 ⟨fun _ => rfl, .inl ⟨by rfl, fun W' hW' => (by have e1 := hW'.2.2.2.c0; have e2 := hW'.2.2.2.c1; go_simp)⟩⟩ ?_
      refine anyS_one 3 rfl (by kernel_rfl) hS0 ?_
      refine wpOpIn_step rfl fun K' hK' => ?_
      go_simp
      refine ⟨trivial, (CallsIn.inRound l (callsIn_wide.2 (rowLineAt_any _ _ _ _ _ zs x.1 s W.drew hIR.out HR.out x.2 hs1 hs2 rfl))).mono ?_⟩
      rintro e W5 ⟨rfl, hb5⟩
      have hb5' : Below W.heap.size W W5 := ⟨hb5.os, hb5.tape, hb5.output, hb5.size, hb5.block⟩
      have hM5 := HM.out.below hb5'
      have hko : KeepsOthers W W5 := KeepsOthers.of_grownBy (row := none) ⟨hb5.os, hb5.tape, hb5.output, hb5.size, fun k hk _ => hb5.block k hk⟩ (fun j o e _ => by cases e)
      have hBW : Below w.heap.size W W5 := hb5'.mono HB.out.size
      refine hK' _ _ ?_
      have HKO := Lib.hid hko; have HBW := Lib.hid hBW; have HM5 := Lib.hid hM5
      have d1 := hM5.2.1.1.cell; have d2 := hM5.2.1.1.frozen; have d3 := hM5.2.1.2.cell; have d4 := hM5.2.1.2.frozen
      clear hko hBW hM5 hb5' hb5 hS0
      by_cases hc : zs[x.1]'x.2 - ((x.1 : Nat) : Int) * s = -F
      · have HS2 := Lib.hid (HST.out.1 hc)
        refine anyS_one 5 rfl (by kernel_rfl) HM5.out ?_
        refine wpOpIn_step rfl fun K2 hK2 => ?_
        go_simp
        refine hK2 _ _ ?_
        refine anyS_done (by kernel_rfl) HM5.out ?_
        clear hc
        by_cases hmn : fv ≤ ((x.1 : Nat) : Int)
        · gi_wp2
          have hm1 := HM5.out.first fv
          have hm2 := hm1.last ((x.1 : Nat) : Int)
          have bs : Below w.heap.size W ((W5.setCell ⟨w.heap.size + 2, 0, none⟩ (.int .i64 fv)).setCell ⟨w.heap.size + 3, 0, none⟩ (.int .i64 ((x.1 : Nat) : Int))) := (HBW.out.setCell (p := ⟨w.heap.size + 2, 0, none⟩) (by show w.heap.size ≤ w.heap.size + 2; omega) _).setCell (p := ⟨w.heap.size + 3, 0, none⟩) (by show w.heap.size ≤ w.heap.size + 3; omega) _
          refine ⟨(HKO.out.trans (KeepsOthers.setCell _ _ _)).trans (KeepsOthers.setCell _ _ _), bs, ?_, HB.out.trans bs⟩
          rw [HS2.out]
          show MBox _ _ _ _ _ _ (min fv ((x.1 : Nat) : Int)) ((x.1 : Nat) : Int)
          rw [show min fv ((x.1 : Nat) : Int) = fv by omega]
          exact hm2
        · gi_wp2
          have hm1 := HM5.out.first ((x.1 : Nat) : Int)
          have hm2 := hm1.last ((x.1 : Nat) : Int)
          have bs : Below w.heap.size W ((W5.setCell ⟨w.heap.size + 2, 0, none⟩ (.int .i64 ((x.1 : Nat) : Int))).setCell ⟨w.heap.size + 3, 0, none⟩ (.int .i64 ((x.1 : Nat) : Int))) := (HBW.out.setCell (p := ⟨w.heap.size + 2, 0, none⟩) (by show w.heap.size ≤ w.heap.size + 2; omega) _).setCell (p := ⟨w.heap.size + 3, 0, none⟩) (by show w.heap.size ≤ w.heap.size + 3; omega) _
          refine ⟨(HKO.out.trans (KeepsOthers.setCell _ _ _)).trans (KeepsOthers.setCell _ _ _), bs, ?_, HB.out.trans bs⟩
          rw [HS2.out]
          show MBox _ _ _ _ _ _ (min fv ((x.1 : Nat) : Int)) ((x.1 : Nat) : Int)
          rw [show min fv ((x.1 : Nat) : Int) = ((x.1 : Nat) : Int) by omega]
          exact hm2
      · have HS2 := Lib.hid (HST.out.2 hc)
        refine anyS_one 5 rfl (by kernel_rfl) HM5.out ?_
        refine wpOpIn_step rfl fun K2 hK2 => ?_
        go_simp
        refine hK2 _ _ ?_
        refine anyS_done (by kernel_rfl) HM5.out ?_
        clear hc
        gi_wp2
        refine ⟨HKO.out, HBW.out, ?_, HB.out.trans HBW.out⟩
        rw [HS2.out, HFV.out, HLV.out]
        exact HM5.out
    case hdone =>
      rintro D ys W hD rfl ⟨hM, hB⟩ hK
      rw [metOf_all s h0] at hM
      obtain ⟨fv, hf⟩ : ∃ fv, (meetsTo zs s zs.length).1 = fv := ⟨_, rfl⟩
      obtain ⟨lv, hl'⟩ : ∃ lv, (meetsTo zs s zs.length).2 = lv := ⟨_, rfl⟩
      rw [hf, hl'] at hM
      have HFv := Lib.hid hf; have HLv := Lib.hid hl'
      clear hf hl'
      have c2 := hM.2.1.1.cell
      have c3 := hM.2.1.2.cell
      have HM := Lib.hid hM; have HB := Lib.hid hB
      clear hM hB
      gi_wp2
      refine wpIn_mono (Q := Exit.then (fun a' w' => ∃ v30 v31, a' = { tmps := #[.slice A zs.length c, .int .i64 s, .pointer (some ⟨w.heap.size, 0, none⟩), .pointer (some ⟨w.heap.size + 1, 0, none⟩), .pointer (some ⟨w.heap.size + 1 + 1, 0, none⟩), .pointer (some ⟨w.heap.size + 1 + 1 + 1, 0, none⟩), .pointer (some ⟨G, 0, none⟩), undef, v8, v9, v10, v11, v12, v13, .slice A zs.length c, .int .i64 (zs.length : Int), .slice A zs.length c, .func (.func 90) #[] #[.pointer (some ⟨W3.heap.size, 0, none⟩)], undef, undef, undef, undef, undef, undef, undef, undef, undef, undef, undef, undef, v30, v31], defers := [{ target := .collected D, args := #[] }] } ∧ MBox w' w.heap.size G (.slice A zs.length c) s (-F) fv lv ∧ KeepsOthers W w' ∧ Below w.heap.size w w') (fun _ _ _ => False)) ?reg ?rest
      case reg =>
        refine region_anyS (fun W' => MBox W' w.heap.size G (.slice A zs.length c) s (-F) fv lv) (by kernel_rfl) ?_
        have hS0 : MBox W.drew w.heap.size G (.slice A zs.length c) s (-F) fv lv := HM.out
        refine anyS_first 0 (v := .int .i64 fv) rfl (by kernel_rfl) (by kernel_rfl) (by kernel_rfl) (fun _ _ _ h => h) hS0 ⟨fun _ => rfl, .inl ⟨by rfl, fun W' hW' => (by have e1 := hW'.2.1.1.cell; go_simp)⟩⟩ ?_
        refine anyS_first 1 (v := .int .i64 lv) rfl (by kernel_rfl) (by kernel_rfl) (by kernel_rfl) (fun _ _ _ h => h) hS0 ⟨fun _ => rfl, .inl ⟨by rfl, fun W' hW' => (by have e1 := hW'.2.1.2.cell; go_simp)⟩⟩ ?_
        have hW0 := HM.out
        have s1 := hW0.first fv
        have s2 := s1.last lv
        have S1 := Lib.hid s1; have S2 := Lib.hid s2
        have d1 := hW0.2.1.1.cell; have e1 := hW0.2.1.1.frozen
        have d2 := s1.2.1.2.cell; have e2 := s1.2.1.2.frozen
        clear s1 s2 hW0
        refine anyS_one 2 rfl (by kernel_rfl) hS0 ?_
        refine wpOpIn_step rfl fun K' hK' => ?_
        go_simp
        refine hK' _ _ ?_
        refine anyS_one 3 rfl (by kernel_rfl) S1.out ?_
        refine wpOpIn_step rfl fun K2 hK2 => ?_
        go_simp
        refine hK2 _ _ ?_
        refine anyS_done (by kernel_rfl) S2.out ?_
        exact ⟨_, _, rfl, S2.out, ((KeepsOthers.drew W).trans (KeepsOthers.setCell _ _ _)).trans (KeepsOthers.setCell _ _ _),
          (HB.out.drew.setCell (p := ⟨w.heap.size + 2, 0, none⟩) (by show w.heap.size ≤ w.heap.size + 2; omega) _).setCell (p := ⟨w.heap.size + 3, 0, none⟩) (by show w.heap.size ≤ w.heap.size + 3; omega) _⟩
      case rest =>
        intro e a' w' hp
        cases e <;> try exact hp.elim
        obtain ⟨v30, v31, rfl, hL', hko, hbb⟩ := hp
        have hK' := hko.same D _ hK rfl
        have r1 := cell_kept hL'.2.1.1.cell (grownBy_putObj' _ D (.deferred none)) (fun r e => by cases e; exact ⟨_, hK', rfl⟩)
        have r2 := cell_kept hL'.2.1.2.cell (grownBy_putObj' _ D (.deferred none)) (fun r e => by cases e; exact ⟨_, hK', rfl⟩)
        have R1 := Lib.hid r1; have R2 := Lib.hid r2
        clear r1 r2 hL' c2 c3
        gi_wp2
        refine ⟨by simp, .inl ⟨_, _, rfl, run_takeDeferred hK', ?_⟩⟩
        have r1 := R1.out; have r2 := R2.out
        refine ⟨.tuple #[.int .i64 fv, .int .i64 lv], ?_, by rw [HFv.out, HLv.out], ?_⟩
        · simp [results, Try.f68, go_sem, r1, r2]
        · exact hbb.trans (belowK_b (w := w) (Nat.le_refl _) _ D _ _ (by omega) hK' rfl rfl)
    case hstop =>
      rintro D cd pre W _ _ h _
      exact h.elim

set_option maxHeartbeats 1000000 in
theorem implLineMeets_any (A : Option Addr) (c : Nat) (zs : List Int) (s : Int) (w : World) (h : IR w 0 w.heap.size A zs) :
    Calls Try.prog 30 #[.slice A zs.length c, .int .i64 s] w fun e w' => e = .returned (tellII (lineMeetsM zs s)) ∧ Below w.heap.size w w' := by
  have H := Lib.hid h; clear h
  cases hr : rowB zs with
  | false =>
    have HM : Hid (lineMeetsM zs s = none) := by show _ = _; simp [lineMeetsM, hr]
    have HR := Lib.hid hr; clear hr
    go_enter Try.func30, Try.ntmps30
    go_wp2_with fail
    refine (isRow_false _ _ _ _ zs _ H.out HR.out).mono ?_; rintro e w1 ⟨rfl, bb⟩
    have HB := Lib.hid bb; clear bb
    go_wp2
    go_ret3
    rw [HM.out]; exact ⟨rfl, HB.out⟩
  | true =>
    have HR := Lib.hid hr; clear hr
    cases hs : inB (-3000) 3000 s with
    | false =>
      have HM : Hid (lineMeetsM zs s = none) := by show _ = _; simp [lineMeetsM, hs]
      have HS := Lib.hid hs; clear hs
      go_enter Try.func30, Try.ntmps30
      go_wp2_with fail
      refine (isRow_true _ _ _ _ zs _ H.out HR.out).mono ?_; rintro e w1 ⟨rfl, bb⟩
      have HB := Lib.hid bb; clear bb
      go_wp2_with fail
      refine (within_of _ 3000 (by omega) (by omega) _ HS.out).mono ?_; rintro e w' ⟨rfl, rfl⟩
      go_wp2
      go_ret3
      rw [HM.out]; exact ⟨rfl, HB.out⟩
    | true =>
      have HM : Hid (lineMeetsM zs s = some (meetsTo zs s zs.length)) := by show _ = _; simp [lineMeetsM, hs, HR.out]
      have HS := Lib.hid hs; clear hs
      go_enter Try.func30, Try.ntmps30
      go_wp2_with fail
      refine (isRow_true _ _ _ _ zs _ H.out HR.out).mono ?_; rintro e w1 ⟨rfl, bb⟩
      have HB := Lib.hid bb; have H1 := Lib.hid (H.out.grow bb).toAll; clear bb
      go_wp2_with fail
      refine (within_of _ 3000 (by omega) (by omega) _ HS.out).mono ?_; rintro e w' ⟨rfl, rfl⟩
      go_wp2_with fail
      refine (met_any _ _ _ zs s _ H1.out HR.out (inB_true.1 HS.out).1 (inB_true.1 HS.out).2 rfl).mono ?_; rintro e w2 ⟨rfl, bb⟩
      have HB2 := Lib.hid (below_then HB.out (Nat.le_refl _) bb); clear bb
      go_wp2
      go_ret3
      rw [HM.out]; exact ⟨rfl, HB2.out⟩
end Go.Proofs.Ytlgagdplnpeklaa
