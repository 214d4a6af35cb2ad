/-
  HillFold of the program: loops over iterators, one within the other. Conditions: the lists' cells are there.
-/
import Derived.Test.YtnphmapiagiocaaHl5
import Derived.Test.YtnphmapiagiocaaChg
import Derived.Test.YtnphmapiagiocaaHl2
namespace Go.Proofs.Ytnphmapiagiocaa
open Go.RowKit Go.Shelf
attribute [local go_sem] Oper.semAt_some

/-- A box that nobody writes, and the box of a list of n cells with the cells. -/
def Mid (W : World) (F : Nat) (tF : TypeId) (vF : Value) (B : Nat) (t : TypeId) (n : Nat) (xs : List Int) : Prop :=
  Boxed W F tF vF ∧ Boxed W (B + 1) t (.slice (some ⟨B, 0, none⟩) n n) ∧ Cells W B 0 xs ∧ ∃ cs, W.heap[B]? = some (.cells cs 3 (0, 0))
section
variable {W W' : World} {F B n : Nat} {tF t : TypeId} {vF : Value} {xs : List Int}
theorem Mid.block (h : Mid W F tF vF B t n xs) (hF : W'.heap[F]? = W.heap[F]?) (hB : W'.heap[B]? = W.heap[B]?) (hB1 : W'.heap[B + 1]? = W.heap[B + 1]?) : Mid W' F tF vF B t n xs :=
  ⟨hF.trans h.1, hB1.trans h.2.1, fun j hj => ⟨(World.cell?_of_block (w := W) (a := ⟨B, 0 + j, none⟩) hB).trans (h.2.2.1 j hj).1, (World.frozen?_of_block (w := W) (a := ⟨B, 0 + j, none⟩) hB).trans (h.2.2.1 j hj).2⟩, h.2.2.2.imp fun _ hc => hB.trans hc⟩
theorem Mid.below (h : Mid W F tF vF B t n xs) (hb : Below W.heap.size W W') : Mid W' F tF vF B t n xs :=
  h.block (hb.block F h.1.lt) (hb.block B (by have := h.2.1.lt; omega)) (hb.block (B + 1) h.2.1.lt)
theorem Mid.alloc (h : Mid W F tF vF B t n xs) (o : Obj) : Mid (W.alloc o) F tF vF B t n xs := h.below ((Below.refl _ W).alloc (Nat.le_refl _) o)
theorem Mid.set_ (h : Mid W F tF vF B t n xs) (hF : F ≠ B) (k : Nat) (hk : k < xs.length) (v : Int) : Mid (W.setCell ⟨B, k, none⟩ (.int .i64 v)) F tF vF B t n (xs.set k v) := by
  obtain ⟨h1, h2, h3, cs, h4⟩ := h
  refine ⟨(Below.heap_setCell W ⟨B, k, none⟩ _ F hF).trans h1, (Below.heap_setCell W ⟨B, k, none⟩ _ (B + 1) (by simp)).trans h2, cells_fill h3 k hk v, ?_⟩
  simp [World.setCell, Array.getElem?_modify, h4]
end
theorem mid_own {β : Type} (C F : Nat) (tF : TypeId) (vF : Value) (B : Nat) (t : TypeId) (n : Nat) (xs : β → List Int) : OwnFrom C (fun s W => Mid W F tF vF B t n (xs s)) := by
  rintro s X Y row h hg hrow
  have hne : ∀ (g : Nat) (cs : Array Value) (t : TypeId), X.heap[g]? = some (Obj.cells cs t (0, 0)) → Y.heap[g]? = X.heap[g]? := by
    intro g cs t hh
    refine hg.block g (Array.getElem?_eq_some_iff.1 hh).1 fun e => ?_
    obtain ⟨_, o, ho, hc⟩ := hrow g e.symm
    rw [hh] at ho; cases ho; cases hc
  obtain ⟨cs, h4⟩ := h.2.2.2
  exact h.block (hne _ _ _ h.1) (hne _ _ _ h4) (hne _ _ _ h.2.1)

theorem Mid.made {w : World} {F : Nat} {tF : TypeId} {vF : Value} (h : Boxed w F tF vF) (n : Nat) (t : TypeId) :
    Mid ((w.alloc (.cells (madeCells #[.int .i64 0] n) 3)).alloc (.cells #[.slice (some ⟨w.heap.size, 0, none⟩) n n] t)) F tF vF w.heap.size t n (List.replicate n 0) := by
  have c0 := Cells.made w n 3
  have n0 : (w.alloc (.cells (madeCells #[.int .i64 0] n) 3)).heap[w.heap.size]? = some (.cells (madeCells #[.int .i64 0] n) 3 (0, 0)) := World.alloc_heap_new w _
  have n1 := World.alloc_heap_new (w.alloc (.cells (madeCells #[.int .i64 0] n) 3)) (.cells #[.slice (some ⟨w.heap.size, 0, none⟩) n n] t)
  rw [World.size_alloc] at n1
  have kB : ((w.alloc (.cells (madeCells #[.int .i64 0] n) 3)).alloc (.cells #[.slice (some ⟨w.heap.size, 0, none⟩) n n] t)).heap[w.heap.size]? = (w.alloc (.cells (madeCells #[.int .i64 0] n) 3)).heap[w.heap.size]? := Below.heap_alloc _ _ _ (by simp)
  refine ⟨(h.alloc _).alloc _, n1, fun j hj => ?_, _, kB.trans n0⟩
  exact ⟨(World.cell?_of_block (a := ⟨w.heap.size, 0 + j, none⟩) kB).trans (c0 j hj).1, (World.frozen?_of_block (a := ⟨w.heap.size, 0 + j, none⟩) kB).trans (c0 j hj).2⟩

set_option maxRecDepth 100000 in
set_option maxHeartbeats 4000000 in
theorem fold_any (A0 : Option Addr) (c0 : Nat) (zs0 : List Int) (A1 : Option Addr) (c1 : Nat) (zs1 : List Int) (w : World) (h0 : IR w 0 w.heap.size A0 zs0) (h1 : IR w 0 w.heap.size A1 zs1) (hh0 : hillB zs0 = true) (hh1 : hillB zs1 = true) :
    Calls Try.prog 59 #[.agg #[.slice A0 zs0.length c0], .agg #[.slice A1 zs1.length c1]] w (RetSB w (doneM (foldHL zs0 zs1))) := by
  have hl0 := (rowB_true.1 (hill_true hh0).2).2
  have hl1 := (rowB_true.1 (hill_true hh1).2).2
  have HR0 := Lib.hid hh0; have HR1 := Lib.hid hh1; clear hh0 hh1
  have H0 := Lib.hid h0; have H1 := Lib.hid h1; clear h0 h1
  obtain ⟨m, hm⟩ : ∃ m, zs0.length + zs1.length - 1 = m := ⟨_, rfl⟩
  have hmm1 : 1 ≤ m := by omega
  have hmm2 : m ≤ 23 := by omega
  have hmk : ∀ w : World, (Instr.makeSlice 41 (.int .i64 (m : Int)) (.int .i64 (m : Int))).run Try.prog w = .ok (.slice (some ⟨w.heap.size, 0, none⟩) m m) (w.alloc (.cells (madeCells #[.int .i64 0] m) 3)) := by
    intro w
    obtain ⟨i0, hi, hz0, hz1, hz2⟩ := info_parts info_int
    have hr := run_make (P := Try.prog) w 41 3 i0 (.int .i64 0) Try.underlying41 hi hz0 .i64 .i64 m m (by omega) (Int.le_refl _) (by rw [hz2]; omega) (by omega)
    rw [hz1] at hr
    simpa [Value.cells] using hr
  have s1 : IntKind.i64.wrap ((zs0.length : Int) + (zs1.length : Int)) = (zs0.length : Int) + (zs1.length : Int) := IntWalk.i64_in _ (by omega)
  have s2 : IntKind.i64.wrap ((zs0.length : Int) + (zs1.length : Int) - 1) = (m : Int) := by rw [IntWalk.i64_in _ (by omega)]; omega
  have s3 : IntKind.i64.wrap (m : Int) = (m : Int) := IntWalk.i64_in _ (by omega)
  refine (callsIn_wide (n := 6)).1 ?_
  refine callsIn_of_wp_marks Try.func59 rfl trivial ?_ rfl
  simp only [Try.ntmps59, List.size_toArray, List.length_cons, List.length_nil, Nat.reduceAdd, Nat.reduceSub, Array.replicate_succ, Array.replicate_zero, List.push_toArray, List.append_toArray, List.nil_append, List.cons_append]
  gi_wp2_with (refine ⟨trivial, ?_⟩; gi_at_call 67; refine (entries_in _ _ trivial rfl _ _ _ _).mono ?_; rintro e w' ⟨rfl, rfl⟩)
  clear hmk s1 s2 s3
  have b1 := Boxed.new (w.alloc (.cells #[.slice A0 zs0.length c0] 52)) 52 (.slice A1 zs1.length c1)
  have hmid := (Mid.made b1 m 41).alloc (.cells #[.slice A0 zs0.length c0] 41)
  simp only [World.size_alloc] at hmid
  have hB0 : Below w.heap.size w (((((w.alloc (.cells #[.slice A0 zs0.length c0] 52)).alloc (.cells #[.slice A1 zs1.length c1] 52)).alloc (.cells (madeCells #[.int .i64 0] m) 3)).alloc (.cells #[.slice (some ⟨w.heap.size + 1 + 1, 0, none⟩) m m] 41)).alloc (.cells #[.slice A0 zs0.length c0] 41)) :=
    (((((Below.refl _ w).alloc (Nat.le_refl _) _).alloc (by simp) _).alloc (by simp; omega) _).alloc (by simp; omega) _).alloc (by simp; omega) _
  have hbox : (((((w.alloc (.cells #[.slice A0 zs0.length c0] 52)).alloc (.cells #[.slice A1 zs1.length c1] 52)).alloc (.cells (madeCells #[.int .i64 0] m) 3)).alloc (.cells #[.slice (some ⟨w.heap.size + 1 + 1, 0, none⟩) m m] 41)).alloc (.cells #[.slice A0 zs0.length c0] 41)).cell? ⟨w.heap.size + 1 + 1 + 1 + 1, 0, none⟩ = some (.slice A0 zs0.length c0) := by
    rw [World.cell?_alloc_at _ _ _ _ (by simp)]; rfl
  obtain ⟨W0, hW0⟩ : ∃ W0, ((((w.alloc (.cells #[.slice A0 zs0.length c0] 52)).alloc (.cells #[.slice A1 zs1.length c1] 52)).alloc (.cells (madeCells #[.int .i64 0] m) 3)).alloc (.cells #[.slice (some ⟨w.heap.size + 1 + 1, 0, none⟩) m m] 41)).alloc (.cells #[.slice A0 zs0.length c0] 41) = W0 := ⟨_, rfl⟩
  have hsz : W0.heap.size = w.heap.size + 5 := by rw [← hW0]; simp
  rw [hW0] at hmid hB0 hbox
  rw [hW0]
  clear hW0 b1
  rw [show List.replicate m (0 : Int) = foldP zs0 zs1 [] from by rw [← hm]; rfl] at hmid
  have hR0 : IR W0 0 w.heap.size A0 zs0 := H0.out.below hB0 (Nat.le_refl _)
  refine wpIn_rangeFunc_ownH (F := Fence.wide) rfl (by decide) (gf := 87) (lb := #[.pointer (some ⟨w.heap.size + 1 + 1 + 1 + 1, 0, none⟩)]) rfl trivial (enters_of Try.func87 (by kernel_rfl) rfl)
    (entries_stops Fence.wide (6 - 1) trivial rfl (by decide) (w.heap.size + 1 + 1 + 1 + 1) w.heap.size c0 A0 zs0 _ (by omega) (by omega) hbox hR0) belowK_t (belowK_b (by omega)) (Below.refl _ _) (fun _ => rfl)
    (fun pre W => Mid W (w.heap.size + 1) 52 (.slice A1 zs1.length c1) (w.heap.size + 1 + 1) 41 m (foldP zs0 zs1 pre) ∧ (Below w.heap.size w W ∧ W0.heap.size ≤ W.heap.size))
    (fun _ _ _ => False)
    (OwnFrom.and (mid_own _ _ _ _ _ _ _ _) (OwnFrom.and (ownFrom_below (Nat.le_refl _) (by omega)) (fun _ _ _ _ hs hg _ => Nat.le_trans hs hg.size)))
    (fun _ _ _ _ _ hs _ _ => hs)
    ⟨hmid, hB0, Nat.le_refl _⟩
    (fun x a' W => ∃ Bi Bx, (w.heap.size + 5 ≤ Bi ∧ w.heap.size + 5 ≤ Bx) ∧ Boxed W Bi 3 (.int .i64 ((x : Nat) : Int)) ∧ Boxed W Bx 3 (.int .i64 zs0[x]) ∧ a' = { tmps := #[Value.agg #[Value.slice A0 zs0.length c0], Value.agg #[Value.slice A1 zs1.length c1], Value.pointer (some ⟨w.heap.size, 0, none⟩), Value.pointer (some ⟨w.heap.size + 1, 0, none⟩), Value.slice none 0 0, Value.bool false, Value.pointer (some ⟨w.heap.size + 1 + 1 + 1, 0, none⟩), Value.pointer (some ⟨Bi, 0, none⟩), Value.pointer (some ⟨Bx, 0, none⟩), undef, undef, Value.pointer (some ⟨w.heap.size, 0, none⟩), Value.slice A0 zs0.length c0, Value.int .i64 (zs0.length : Int), Value.pointer (some ⟨w.heap.size + 1, 0, none⟩), Value.slice A1 zs1.length c1, Value.int .i64 (zs1.length : Int), Value.int .i64 ((zs0.length : Int) + (zs1.length : Int)), Value.int .i64 (m : Int), Value.slice (some ⟨w.heap.size + 1 + 1, 0, none⟩) m m, Value.pointer (some ⟨w.heap.size, 0, none⟩), Value.slice A0 zs0.length c0, Value.func (.func 87) #[] #[Value.pointer (some ⟨w.heap.size + 1 + 1 + 1 + 1, 0, none⟩)], Value.int .i64 ((x : Nat) : Int), Value.int .i64 zs0[x], undef, undef, undef, undef, undef, undef, undef, undef, undef, undef, undef, undef, undef, undef, undef, undef, undef, undef, undef, undef], defers := [] })
    (fun x a' _ X Y row hs hg hr => by
      obtain ⟨Bi, Bx, e1, e2, e3, e4⟩ := hs
      exact ⟨Bi, Bx, e1, boxed_own Bi _ (fun (_ : Unit) => Value.int .i64 ((x : Nat) : Int)) () X Y row e2 hg (fun r e => (hr r e).2), boxed_own Bx _ (fun (_ : Unit) => Value.int .i64 zs0[x]) () X Y row e3 hg (fun r e => (hr r e).2), e4⟩)
    ?assign ?body ?done ?stop
  case assign =>
    rintro l pre x W K ⟨hM, hB, hle⟩ hK
    gi_wp2
    refine hK _ _ (((KeepsOthers.alloc _ _).trans (KeepsOthers.alloc _ _)).from _) (((Below.refl _ W).alloc hB.size _).alloc (by have := hB.size; simp; omega) _) ⟨(hM.alloc _).alloc _, (hB.alloc hB.size _).alloc (by have := hB.size; simp; omega) _, by simp; omega⟩ ⟨W.heap.size, W.heap.size + 1, ⟨by omega, by omega⟩, (Boxed.new W _ _).alloc _, ?_, rfl⟩
    have := Boxed.new (W.alloc (.cells #[.int .i64 ((x : Nat) : Int)] 3)) 3 (.int .i64 zs0[x])
    rwa [World.size_alloc] at this
  case body =>
    rintro l pre x a' W hl ⟨r, hr⟩ ⟨hM, hB, hle⟩ ⟨Bi, Bx, ⟨hBi, hBx⟩, bI, bX, rfl⟩ hlt
    have c1 := hM.1.cell
    have HM := Lib.hid hM; have HB := Lib.hid hB; have HI := Lib.hid bI; have HX := Lib.hid bX
    clear hM hB bI bX
    gi_wp2_with (refine ⟨trivial, ?_⟩; gi_at_call 67; refine (CallsIn.inRound l (entries_in _ _ trivial rfl _ _ _ _)).mono ?_; rintro e w' ⟨rfl, rfl⟩)
    clear c1
    have hr' : (W.alloc (.cells #[.slice A1 zs1.length c1] 41)).heap[l]? = some (.loop r) := (Below.heap_alloc W _ l (Array.getElem?_eq_some_iff.1 hr).1).trans hr
    have bN := Boxed.new W 41 (.slice A1 zs1.length c1)
    have hsW := HB.out.size
    refine (wpIn_rangeFunc_ownN (F := Fence.wide.inRound l) (l₀ := l) (r₀ := r) rfl hr' (by decide) (gf := 87) (lb := #[.pointer (some ⟨W.heap.size, 0, none⟩)]) rfl trivial (enters_of Try.func87 (by kernel_rfl) rfl)
      ((entries_stops Fence.wide (6 - 1 - 1 - 1) trivial rfl (by decide) W.heap.size w.heap.size c1 A1 zs1 _ (by simp) (by simp; omega) bN.cell (H1.out.below (HB.out.alloc hsW _) (Nat.le_refl _))).inRound l) belowK_t (belowK_b (by simp; omega)) (Below.refl _ _) (fun _ => rfl)
      (fun pre' W' => (Mid W' (w.heap.size + 1) 52 (.slice A1 zs1.length c1) (w.heap.size + 1 + 1) 41 m (rowP zs0 zs1 x.1 pre' (foldP zs0 zs1 pre)) ∧ Boxed W' Bi 3 (.int .i64 ((x : Nat) : Int)) ∧ Boxed W' Bx 3 (.int .i64 zs0[x])) ∧ (Below w.heap.size W W' ∧ KeepsFrom W0.heap.size W W'))
      (fun _ _ _ => False)
      (OwnFrom.and (OwnFrom.and (mid_own _ _ _ _ _ _ _ _) (OwnFrom.and (Own.from (boxed_own _ _ _) _) (Own.from (boxed_own _ _ _) _))) (OwnFrom.and (ownFrom_below hsW (by simp; omega)) (ownFrom_keepsFrom (by simp))))
      (fun _ _ _ _ _ hs _ _ => hs)
      ⟨⟨HM.out.alloc _, HI.out.alloc _, HX.out.alloc _⟩, (Below.refl _ W).alloc hsW _, (KeepsOthers.alloc _ _).from _⟩
      (fun y a'' _ => a'' = { tmps := #[Value.agg #[Value.slice A0 zs0.length c0], Value.agg #[Value.slice A1 zs1.length c1], Value.pointer (some ⟨w.heap.size, 0, none⟩), Value.pointer (some ⟨w.heap.size + 1, 0, none⟩), Value.slice none 0 0, Value.bool false, Value.pointer (some ⟨w.heap.size + 1 + 1 + 1, 0, none⟩), Value.pointer (some ⟨Bi, 0, none⟩), Value.pointer (some ⟨Bx, 0, none⟩), Value.int .i64 ((y : Nat) : Int), Value.int .i64 zs1[y.1], Value.pointer (some ⟨w.heap.size, 0, none⟩), Value.slice A0 zs0.length c0, Value.int .i64 (zs0.length : Int), Value.pointer (some ⟨w.heap.size + 1, 0, none⟩), Value.slice A1 zs1.length c1, Value.int .i64 (zs1.length : Int), Value.int .i64 ((zs0.length : Int) + (zs1.length : Int)), Value.int .i64 (m : Int), Value.slice (some ⟨w.heap.size + 1 + 1, 0, none⟩) m m, Value.pointer (some ⟨w.heap.size, 0, none⟩), Value.slice A0 zs0.length c0, Value.func (.func 87) #[] #[Value.pointer (some ⟨w.heap.size + 1 + 1 + 1 + 1, 0, none⟩)], Value.int .i64 ((x : Nat) : Int), Value.int .i64 zs0[x.1], Value.pointer (some ⟨w.heap.size + 1, 0, none⟩), Value.slice A1 zs1.length c1, Value.func (.func 87) #[] #[Value.pointer (some ⟨W.heap.size, 0, none⟩)], Value.int .i64 ((y : Nat) : Int), Value.int .i64 zs1[y.1], undef, undef, undef, undef, undef, undef, undef, undef, undef, undef, undef, undef, undef, undef, undef], defers := [] })
      (fun _ _ _ _ _ _ hs _ _ => hs)
      ?assign2 ?body2 ?done2 ?stop2)
    case assign2 =>
      rintro l2 pre' y W' K hi hK
      gi_wp2
      exact hK _ _ (KeepsFrom.refl _ _) (Below.refl _ _) hi rfl
    case body2 =>
      rintro l2 pre' y a'' W' _ _ ⟨⟨hM, bI, bX⟩, hBW, hKF⟩ rfl hlt2
      have hlm : (rowP zs0 zs1 x.1 pre' (foldP zs0 zs1 pre)).length = m := by rw [rowP_len, foldP_len]; exact hm
      have hxl := x.2; have hyl := y.2
      have hj : x.1 + y.1 < (rowP zs0 zs1 x.1 pre' (foldP zs0 zs1 pre)).length := by rw [hlm]; omega
      have hbd := rowP_bd HR0.out HR1.out x.1 pre' (foldP_bd HR0.out HR1.out pre) (Int.mul_nonneg (by decide) (Int.mul_nonneg (by omega) (by omega)))
      have hbv := hbd.get (by have := Int.mul_nonneg (show (0 : Int) ≤ (zs1.length : Int) by omega) (show (0 : Int) ≤ (pre.length : Int) by omega); omega) (x.1 + y.1)
      have hpp : (zs1.length : Int) * (pre.length : Int) ≤ 12 * 12 := Int.mul_le_mul (by omega) (by omega) (by omega) (by omega)
      obtain ⟨hcv, hfv⟩ := hM.2.2.1 (x.1 + y.1) hj
      rw [Nat.zero_add] at hcv hfv
      have HMN := Lib.hid (hM.set_ (by omega) (x.1 + y.1) hj ((rowP zs0 zs1 x.1 pre' (foldP zs0 zs1 pre))[x.1 + y.1] + zs0[x.1] * zs1[y.1]))
      have hadd : (rowP zs0 zs1 x.1 pre' (foldP zs0 zs1 pre)).set (x.1 + y.1) ((rowP zs0 zs1 x.1 pre' (foldP zs0 zs1 pre))[x.1 + y.1] + zs0[x.1] * zs1[y.1]) = rowP zs0 zs1 x.1 (pre' ++ [y]) (foldP zs0 zs1 pre) := by
        rw [rowP_snoc]; unfold addAt; rw [getD_in hj, getD_in hxl, getD_in hyl]
      rw [hadd] at HMN
      rw [getD_in hj] at hbv
      have g1 := hill_bd HR0.out x.1
      have g2 := hill_bd HR1.out y.1
      rw [getD_in hxl] at g1
      rw [getD_in hyl] at g2
      have d1 := hM.2.1.cell; have d2 := bI.cell; have d3 := bX.cell
      have HKF := Lib.hid hKF; have HBW := Lib.hid hBW; have HI2 := Lib.hid bI; have HX2 := Lib.hid bX
      clear hM hKF hBW bI bX hadd hbd hlm
      simp only [Fin.getElem_fin] at d3
      obtain ⟨v, hv⟩ : ∃ v, (rowP zs0 zs1 x.1 pre' (foldP zs0 zs1 pre))[x.1 + y.1] = v := ⟨_, rfl⟩
      obtain ⟨xx, hx⟩ : ∃ v, zs0[x.1] = v := ⟨_, rfl⟩
      obtain ⟨yy, hy⟩ : ∃ v, zs1[y.1] = v := ⟨_, rfl⟩
      rw [hv] at hcv hbv HMN
      rw [hx] at d3 g1 HMN
      rw [hy] at g2 HMN
      have gm := fold_mul g1 g2
      obtain ⟨gm1, gm2⟩ := gm
      obtain ⟨gv1, gv2⟩ := hbv
      have hv2 : v ≤ 200000000 := by omega
      have HX3 := Lib.hid hx; have HY3 := Lib.hid hy
      have HIN := Lib.hid (show Boxed (W'.drew.setCell ⟨w.heap.size + 1 + 1, x.1 + y.1, none⟩ (.int .i64 (v + xx * yy))) Bi 3 (.int .i64 ((x : Nat) : Int)) from (Below.heap_setCell W'.drew ⟨w.heap.size + 1 + 1, x.1 + y.1, none⟩ _ Bi (by show Bi ≠ w.heap.size + 1 + 1; omega)).trans HI2.out)
      have HXN := Lib.hid (show Boxed (W'.drew.setCell ⟨w.heap.size + 1 + 1, x.1 + y.1, none⟩ (.int .i64 (v + xx * yy))) Bx 3 (.int .i64 xx) from (Below.heap_setCell W'.drew ⟨w.heap.size + 1 + 1, x.1 + y.1, none⟩ _ Bx (by show Bx ≠ w.heap.size + 1 + 1; omega)).trans (by have h := HX2.out; simp only [Fin.getElem_fin] at h; rw [hx] at h; exact h))
      clear hx hy
      have sa : IntKind.i64.wrap (v + xx * yy) = v + xx * yy := IntWalk.i64_in _ (by omega)
      have sm : IntKind.i64.wrap (xx * yy) = xx * yy := IntWalk.i64_in _ (by omega)
      have si : IntKind.i64.wrap (((x.1 : Nat) : Int) + ((y.1 : Nat) : Int)) = ((x.1 : Nat) : Int) + ((y.1 : Nat) : Int) := IntWalk.i64_in _ (by omega)
      have i0 : (0 : Int) ≤ ((x.1 : Nat) : Int) + ((y.1 : Nat) : Int) := by omega
      have i1 : ((x.1 : Nat) : Int) + ((y.1 : Nat) : Int) < (m : Int) := by omega
      have it : (((x.1 : Nat) : Int) + ((y.1 : Nat) : Int)).toNat = x.1 + y.1 := by omega
      clear hpp gv2 hv hj g1 g2 gm1 gm2 gv1 hv2
      gi_wp2
      rw [HY3.out]
      refine region_anyS (fun W3 => W3.cell? ⟨w.heap.size + 1 + 1 + 1, 0, none⟩ = some (.slice (some ⟨w.heap.size + 1 + 1, 0, none⟩) m m) ∧ W3.cell? ⟨Bi, 0, none⟩ = some (.int .i64 ((x : Nat) : Int)) ∧ W3.cell? ⟨Bx, 0, none⟩ = some (.int .i64 xx)) (by kernel_rfl) ?_
      have hS0 : W'.drew.cell? ⟨w.heap.size + 1 + 1 + 1, 0, none⟩ = some (.slice (some ⟨w.heap.size + 1 + 1, 0, none⟩) m m) ∧ W'.drew.cell? ⟨Bi, 0, none⟩ = some (.int .i64 ((x : Nat) : Int)) ∧ W'.drew.cell? ⟨Bx, 0, none⟩ = some (.int .i64 xx) := ⟨d1, d2, d3⟩
      refine anyS_first 0 (v := .slice (some ⟨w.heap.size + 1 + 1, 0, none⟩) m m) rfl (by kernel_rfl) (by kernel_rfl) (by kernel_rfl) (fun _ _ _ h => h) hS0 ⟨fun _ => rfl, .inl ⟨by rfl, fun W' hW' => (by obtain ⟨e1, e2, e3⟩ := hW'; go_simp)⟩⟩ ?_
      refine anyS_first 1 (v := .int .i64 ((x.1 : Nat) : Int)) rfl (by kernel_rfl) (by kernel_rfl) (by kernel_rfl) (fun _ _ _ h => h) hS0 ⟨fun _ => rfl, .inl ⟨by rfl, fun W' hW' => (by obtain ⟨e1, e2, e3⟩ := hW'; go_simp)⟩⟩ ?_
      refine anyS_first 2 (v := .int .i64 ((y.1 : Nat) : Int)) rfl (by kernel_rfl) (by kernel_rfl) (by kernel_rfl) (fun _ _ _ h => h) hS0 ⟨fun _ => rfl, .inl ⟨by rfl, fun W' hW' => (by obtain ⟨e1, e2, e3⟩ := hW'; go_simp)⟩⟩ ?_
      refine anyS_first 3 (v := .int .i64 (((x.1 : Nat) : Int) + ((y.1 : Nat) : Int))) rfl (by kernel_rfl) (by kernel_rfl) (by kernel_rfl) (fun _ _ _ h => h) hS0 ⟨fun _ => rfl, .inl ⟨by rfl, fun W' hW' => (by go_simp)⟩⟩ ?_
      refine anyS_first 4 (v := .pointer (some ⟨w.heap.size + 1 + 1, x.1 + y.1, none⟩)) rfl (by kernel_rfl) (by kernel_rfl) (by kernel_rfl) (fun _ _ _ h => h) hS0 ⟨fun _ => rfl, .inl ⟨by rfl, fun W' hW' => (by go_simp)⟩⟩ ?_
      refine anyS_first 6 (v := .int .i64 xx) rfl (by kernel_rfl) (by kernel_rfl) (by kernel_rfl) (fun _ _ _ h => h) hS0 ⟨fun _ => rfl, .inl ⟨by rfl, fun W' hW' => (by obtain ⟨e1, e2, e3⟩ := hW'; go_simp)⟩⟩ ?_
      refine anyS_first 7 (v := .int .i64 yy) rfl (by kernel_rfl) (by kernel_rfl) (by kernel_rfl) (fun _ _ _ h => h) hS0 ⟨fun _ => rfl, .inl ⟨by rfl, fun W' hW' => (by go_simp)⟩⟩ ?_
      refine anyS_first 8 (v := .int .i64 (xx * yy)) rfl (by kernel_rfl) (by kernel_rfl) (by kernel_rfl) (fun _ _ _ h => h) hS0 ⟨fun _ => rfl, .inl ⟨by rfl, fun W' hW' => (by go_simp)⟩⟩ ?_
      refine anyS_one 5 rfl (by kernel_rfl) hS0 ?_
      refine wpOpIn_step rfl fun K5 hK5 => ?_
      go_simp
      refine hK5 _ _ ?_
      clear hK5
      refine anyS_one 9 rfl (by kernel_rfl) hS0 ?_
      refine wpOpIn_step rfl fun K9 hK9 => ?_
      go_simp
      refine hK9 _ _ ?_
      clear hK9
      refine anyS_one 10 rfl (by kernel_rfl) hS0 ?_
      refine wpOpIn_step rfl fun K10 hK10 => ?_
      go_simp
      refine hK10 _ _ ?_
      clear hK10
      refine anyS_one 11 rfl (by kernel_rfl) hS0 ?_
      refine wpOpIn_step rfl fun K11 hK11 => ?_
      go_simp
      refine hK11 _ _ ?_
      clear hK11
      refine anyS_done (by kernel_rfl) ⟨HMN.out.2.1.cell, ?_, ?_⟩ ?_
      · exact HIN.out.cell
      · exact HXN.out.cell
      exact ⟨((KeepsOthers.drew W').trans (KeepsOthers.setCell _ _ _)).from _, (Below.refl _ _).drew.setCell (p := ⟨w.heap.size + 1 + 1, x.1 + y.1, none⟩) (by show w.heap.size ≤ w.heap.size + 1 + 1; omega) _, ⟨HMN.out, HIN.out, by have h := HXN.out; show Boxed _ Bx _ (.int .i64 zs0[x.1]); rw [HX3.out]; exact h⟩, HBW.out.drew.setCell (p := ⟨w.heap.size + 1 + 1, x.1 + y.1, none⟩) (by show w.heap.size ≤ w.heap.size + 1 + 1; omega) _, HKF.out.trans (((KeepsOthers.drew W').trans (KeepsOthers.setCell _ _ _)).from _)⟩
    case done2 =>
      rintro ys' W' rfl ⟨⟨hM, bI, bX⟩, hBW, hKF⟩
      rw [← foldP_snoc] at hM
      gi_wp2
      exact ⟨hKF, hBW, hM, HB.out.trans hBW, Nat.le_trans hle hBW.size⟩
    case stop2 =>
      rintro cd pre W _ h
      exact h.elim
  case done =>
    rintro D ys W hD rfl ⟨hM, hB, hle⟩ hK
    rw [foldP_all] at hM
    have hln : (foldHL zs0 zs1).length = m := by rw [fold_len]; exact hm
    have c1 := hM.2.1.cell
    have hz : ∀ z, z ∈ foldHL zs0 zs1 → I64 z := by
      intro z hz
      have h := foldP_bd HR0.out HR1.out (List.finRange zs0.length)
      rw [foldP_all, List.length_finRange] at h
      have hp : (zs1.length : Int) * (zs0.length : Int) ≤ 12 * 12 := Int.mul_le_mul (by omega) (by omega) (by omega) (by omega)
      have := h z hz
      exact ⟨by omega, by omega⟩
    have hiw : IW W w.heap.size W.heap.size (some ⟨w.heap.size + 1 + 1, 0, none⟩) (foldHL zs0 zs1) := hM.2.2.1.iw rfl (by omega) (by omega) (Nat.le_refl _) (by rw [hln]; omega) hz
    have HI := Lib.hid hiw; have HLn := Lib.hid hln; have HB := Lib.hid hB; have HK := Lib.hid hK
    clear hM hB hK hz hiw hln
    have hout : Hid (∀ W' : World, Below W.heap.size W W' → Below w.heap.size w (W'.putObj D (.deferred none))) := by
      intro W' hb
      have hD' : w.heap.size ≤ D := by omega
      have h1 := HB.out.trans (hb.mono HB.out.size)
      exact h1.trans (belowK_b (w := w) (Nat.le_refl _) W' D _ _ hD' ((hb.block D (Array.getElem?_eq_some_iff.1 HK.out).1).trans HK.out) rfl rfl)
    cases hr2 : rowB (foldHL zs0 zs1) with
    | false =>
      have HMM : Hid (doneM (foldHL zs0 zs1) = none) := by show _ = _; simp [doneM, hr2]
      have hc := checked_false (some ⟨w.heap.size + 1 + 1, 0, none⟩) m _ _ (foldHL zs0 zs1) W HI.out.toIR hr2
      rw [HLn.out] at hc
      have HC := Lib.hid hc; clear hc hr2
      gi_wp2_with fail
      refine ⟨trivial, (callsIn_wide.2 HC.out).mono ?_⟩
      rintro e W5 ⟨rfl, hb5⟩
      have B5 := Lib.hid hb5; clear hb5
      gi_wp2
      refine ⟨by simp, .inl ⟨_, _, rfl, run_takeDeferred ((B5.out.block D (Array.getElem?_eq_some_iff.1 HK.out).1).trans HK.out), ?_⟩⟩
      refine ⟨.tuple #[.slice none 0 0, .bool false], ?_, by rw [HMM.out]; exact retSB_none (hout.out _ B5.out)⟩
      simp [results, Try.f59, go_sem]
    | true =>
      have HMM : Hid (doneM (foldHL zs0 zs1) = some (foldHL zs0 zs1)) := doneM_row hr2
      have hc := checked_true (some ⟨w.heap.size + 1 + 1, 0, none⟩) m _ _ (foldHL zs0 zs1) W HI.out.toIR hr2
      rw [HLn.out] at hc
      have HC := Lib.hid hc; clear hc hr2
      gi_wp2_with fail
      refine ⟨trivial, (callsIn_wide.2 HC.out).mono ?_⟩
      rintro e W5 ⟨rfl, hb5⟩
      have B5 := Lib.hid hb5; clear hb5
      gi_wp2
      have hK5 := (B5.out.block D (Array.getElem?_eq_some_iff.1 HK.out).1).trans HK.out
      refine ⟨by simp, .inl ⟨_, _, rfl, run_takeDeferred hK5, ?_⟩⟩
      have hi5 := HI.out.grow B5.out
      have hi6 : IW (W5.putObj D (.deferred none)) w.heap.size W.heap.size (some ⟨w.heap.size + 1 + 1, 0, none⟩) (foldHL zs0 zs1) := by
        refine ⟨hi5.1, hi5.2.1, Nat.le_trans hi5.2.2.1 (grownBy_putObj' W5 D (.deferred none)).size, fun h0 => ?_⟩
        obtain ⟨b, off, e, g1, g2, g3⟩ := hi5.2.2.2 h0
        refine ⟨b, off, e, g1, g2, fun j hj => ?_⟩
        have hbD : b ≠ D := by
          intro e; subst e
          have := (g3 j hj).1
          simp [World.cell?, hK5] at this
        exact ⟨(World.cell?_of_block (a := ⟨b, off + j, none⟩) (World.putObj_heap_other hbD)).trans (g3 j hj).1, (World.frozen?_of_block (a := ⟨b, off + j, none⟩) (World.putObj_heap_other hbD)).trans (g3 j hj).2⟩
      refine ⟨.tuple #[.slice (some ⟨w.heap.size + 1 + 1, 0, none⟩) m m, .bool true], ?_, by rw [HMM.out]; exact retSB_some HLn.out.symm (hi6.wide (Nat.le_refl _) hi6.2.2.1 (Nat.le_refl _)) (hout.out _ B5.out)⟩
      simp [results, Try.f59, go_sem]
  case stop =>
    rintro D cd pre W _ _ h _
    exact h.elim

set_option maxHeartbeats 2000000 in
theorem implHillFold_any (A0 : Option Addr) (c0 : Nat) (zs0 : List Int) (A1 : Option Addr) (c1 : Nat) (zs1 : List Int) (w : World) (h0 : IR w 0 w.heap.size A0 zs0) (h1 : IR w 0 w.heap.size A1 zs1) :
    Calls Try.prog 28 #[.slice A0 zs0.length c0, .slice A1 zs1.length c1] w (RetSB w (foldM zs0 zs1)) := by
  have hb0 : Below w.heap.size w (w.alloc (.cells #[.slice A0 zs0.length c0] 52)) := (Below.refl _ w).alloc (Nat.le_refl _) _
  have hb1 : Below w.heap.size w ((w.alloc (.cells #[.slice A0 zs0.length c0] 52)).alloc (.cells #[.slice A1 zs1.length c1] 52)) := hb0.alloc (by rw [World.size_alloc]; omega) _
  have H0 := Lib.hid (h0.grow hb1).toAll; have H1 := Lib.hid (h1.grow hb1).toAll; have B1 := Lib.hid hb1; clear h0 h1 hb1 hb0
  cases hh0 : hillB zs0 with
  | false =>
    have HM := Lib.hid (foldM_no (zs := zs0) (ys := zs1) (by rw [hh0]; rfl))
    have HR := Lib.hid hh0; clear hh0
    go_enter Try.func28, Try.ntmps28
    go_wp2_with fail
    refine (isHill_of _ _ _ _ zs0 _ H0.out HR.out).mono ?_; rintro e w1 ⟨rfl, b1⟩
    have B2 := Lib.hid b1; clear b1
    go_wp2
    go_ret2
    rw [HM.out]
    exact retSB_none (below_then B1.out (Nat.le_refl _) B2.out)
  | true =>
  cases hh1 : hillB zs1 with
  | false =>
    have HM := Lib.hid (foldM_no (zs := zs0) (ys := zs1) (by rw [hh0, hh1]; rfl))
    have HR0 := Lib.hid hh0; have HR := Lib.hid hh1; clear hh0 hh1
    go_enter Try.func28, Try.ntmps28
    go_wp2_with fail
    refine (isHill_of _ _ _ _ zs0 _ H0.out HR0.out).mono ?_; rintro e w1 ⟨rfl, b1⟩
    have hcy : w1.cell? ⟨w.heap.size + 1, 0, none⟩ = some (.slice A1 zs1.length c1) := (b1.cell (p := ⟨w.heap.size + 1, 0, none⟩) (by show w.heap.size + 1 < _; rw [World.size_alloc, World.size_alloc]; omega)).trans (by rw [World.cell?_alloc_at _ _ _ _ (by rw [World.size_alloc])]; rfl)
    have B2 := Lib.hid (below_then B1.out (Nat.le_refl _) b1); have H3 := Lib.hid (H1.out.grow b1).toAll; clear b1
    go_wp2_with fail
    refine (isHill_of _ _ _ _ zs1 _ H3.out HR.out).mono ?_; rintro e w2 ⟨rfl, b2⟩
    have B3 := Lib.hid (below_then B2.out (Nat.le_refl _) b2); clear b2
    go_wp2
    go_ret2
    rw [HM.out]
    exact retSB_none B3.out
  | true =>
    have HM := Lib.hid (foldM_yes (zs := zs0) (ys := zs1) (by rw [hh0, hh1]; rfl))
    have HR0 := Lib.hid hh0; have HR := Lib.hid hh1; clear hh0 hh1
    go_enter Try.func28, Try.ntmps28
    go_wp2_with fail
    refine (isHill_of _ _ _ _ zs0 _ H0.out HR0.out).mono ?_; rintro e w1 ⟨rfl, b1⟩
    have hcy : w1.cell? ⟨w.heap.size + 1, 0, none⟩ = some (.slice A1 zs1.length c1) := (b1.cell (p := ⟨w.heap.size + 1, 0, none⟩) (by show w.heap.size + 1 < _; rw [World.size_alloc, World.size_alloc]; omega)).trans (by rw [World.cell?_alloc_at _ _ _ _ (by rw [World.size_alloc])]; rfl)
    have hcx : w1.cell? ⟨w.heap.size, 0, none⟩ = some (.slice A0 zs0.length c0) := (b1.cell (p := ⟨w.heap.size, 0, none⟩) (by show w.heap.size < _; rw [World.size_alloc, World.size_alloc]; omega)).trans (by
      rw [World.cell?_alloc_past _ _ _ (by rw [World.size_alloc]; omega), World.cell?_alloc_at _ _ _ _ rfl]; rfl)
    have B2 := Lib.hid (below_then B1.out (Nat.le_refl _) b1); have H2 := Lib.hid (H0.out.grow b1).toAll; have H3 := Lib.hid (H1.out.grow b1).toAll
    have HS1 : Hid (w.heap.size + 2 ≤ w1.heap.size) := by have := b1.size; rw [World.size_alloc, World.size_alloc] at this; show _ ≤ _; omega
    clear b1
    go_wp2_with fail
    refine (isHill_of _ _ _ _ zs1 _ H3.out HR.out).mono ?_; rintro e w2 ⟨rfl, b2⟩
    replace hcx := (b2.cell (p := ⟨w.heap.size, 0, none⟩) (show w.heap.size < w1.heap.size by have := HS1.out; omega)).trans hcx
    replace hcy := (b2.cell (p := ⟨w.heap.size + 1, 0, none⟩) (show w.heap.size + 1 < w1.heap.size by have := HS1.out; omega)).trans hcy
    have B3 := Lib.hid (below_then B2.out (Nat.le_refl _) b2); replace H2 := Lib.hid (H2.out.grow b2).toAll; replace H3 := Lib.hid (H3.out.grow b2).toAll; clear b2
    go_wp2_with fail
    refine (fold_any _ _ zs0 _ _ zs1 _ H2.out H3.out HR0.out HR.out).mono ?_
    rw [← HM.out]
    rintro e w4 ⟨A', c', rfl, hi, hb⟩
    have HI := Lib.hid hi; have B4 := Lib.hid hb; clear hi hb
    go_wp2
    go_ret2
    exact ⟨A', c', rfl, HI.out.wide B3.out.size (Nat.le_refl _) (Nat.le_refl _), below_then B3.out (Nat.le_refl _) B4.out⟩
end Go.Proofs.Ytnphmapiagiocaa
