/-
  row.changed: the row of what a function makes of each place and entry. Conditions: the row's cells are there; the function answers g and leaves what lay as it lay.
-/
import Derived.Test.YtfkmnlhmldjieaaColl
import Derived.Test.YtfkmnlhmldjieaaHeld
namespace Go.Proofs.Ytfkmnlhmldjieaa
open Go.RowKit Go.Shelf
attribute [local go_sem] Oper.semAt_some

/-- The list that changed makes. -/
def chgL (zs : List Int) (g : Fin zs.length → Int) : List Int := (List.finRange zs.length).map g
def chgM (zs : List Int) (g : Fin zs.length → Int) : Option (List Int) := if rowB zs then (if rowB (chgL zs g) then some (chgL zs g) else none) else none
/-- The cells behind the places of pre have been set. -/
def chgTo (zs : List Int) (g : Fin zs.length → Int) (pre : List (Fin zs.length)) : List Int := pre.foldl (fun xs x => xs.set x.1 (g x)) (List.replicate zs.length 0)
theorem chgTo_len (zs : List Int) (g : Fin zs.length → Int) (pre : List (Fin zs.length)) : (chgTo zs g pre).length = zs.length := by
  unfold chgTo
  generalize hx : List.replicate zs.length (0 : Int) = xs
  have hl : xs.length = zs.length := by rw [← hx]; simp
  clear hx
  induction pre generalizing xs with
  | nil => exact hl
  | cons x pre ih => exact ih (xs.set x.1 (g x)) (by simpa using hl)
theorem chgTo_snoc (zs : List Int) (g : Fin zs.length → Int) (pre : List (Fin zs.length)) (x : Fin zs.length) : chgTo zs g (pre ++ [x]) = (chgTo zs g pre).set x.1 (g x) := by
  simp [chgTo]
theorem chgTo_all (zs : List Int) (g : Fin zs.length → Int) : chgTo zs g (List.finRange zs.length) = chgL zs g := by
  have key : ∀ k, k ≤ zs.length → ∀ j (hj : j < zs.length), (chgTo zs g ((List.finRange zs.length).take k))[j]'(by rw [chgTo_len]; exact hj) = if j < k then g ⟨j, hj⟩ else 0 := by
    intro k
    induction k with
    | zero => intro _ j hj; simp [chgTo]
    | succ k ih =>
      intro hk j hj
      have e := finRange_succ (n := zs.length) (k := k) (by omega)
      have e2 := chgTo_snoc zs g ((List.finRange zs.length).take k) ⟨k, by omega⟩
      rw [e] at e2
      have := ih (by omega) j hj
      simp only [e2, List.getElem_set]
      by_cases hkj : k = j
      · subst hkj; simp
      · rw [if_neg hkj, this]
        by_cases h : j < k
        · rw [if_pos h, if_pos (by omega)]
        · rw [if_neg h, if_neg (by omega)]
  apply List.ext_getElem
  · rw [chgTo_len]; simp [chgL]
  · intro j h1 h2
    have hj : j < zs.length := by rwa [chgTo_len] at h1
    have := key zs.length (Nat.le_refl _) j hj
    rw [List.take_of_length_le (by simp)] at this
    rw [this, if_pos hj]; simp [chgL]

theorem checked_true (A : Option Addr) (c lo hi : Nat) (xs : List Int) (w : World) (h : IR w lo hi A xs) (hr : rowB xs = true) :
    Calls Try.prog 72 #[.slice A xs.length c] w fun e w' => e = .returned (.tuple #[.slice A xs.length c, .bool true]) ∧ Below w.heap.size w w' := by
  have H := Lib.hid h; have HR := Lib.hid hr
  clear h hr
  go_enter Try.func72, Try.ntmps72
  go_wp2_with (go_at_call 59; refine (isRow_any _ _ xs _ H.out.toAll).mono ?_; rintro e w' ⟨rfl, hb'⟩; rw [HR.out])
  go_ret2
  exact ⟨rfl, hb'⟩
theorem checked_false (A : Option Addr) (c lo hi : Nat) (xs : List Int) (w : World) (h : IR w lo hi A xs) (hr : rowB xs = false) :
    Calls Try.prog 72 #[.slice A xs.length c] w fun e w' => e = .returned (.tuple #[.slice none 0 0, .bool false]) ∧ Below w.heap.size w w' := by
  have H := Lib.hid h; have HR := Lib.hid hr
  clear h hr
  go_enter Try.func72, Try.ntmps72
  go_wp2_with (go_at_call 59; refine (isRow_any _ _ xs _ H.out.toAll).mono ?_; rintro e w' ⟨rfl, hb'⟩; rw [HR.out])
  go_ret2
  exact ⟨rfl, hb'⟩

/-- What a function handed to changed does at a place: it answers g, and what lay before lies as it lay. -/
def ChgFn (w : World) (f : FuncId) (cap : Array Value) (zs : List Int) (g : Fin zs.length → Int) : Prop :=
  ∀ (x : Fin zs.length) (W : World), Below w.heap.size w W → Calls Try.prog f (#[.int .i64 ((x : Nat) : Int), .int .i64 zs[x]] ++ cap) W fun e W' => e = .returned (.int .i64 (g x)) ∧ Below W.heap.size W W'

theorem cells_fill {w : World} {b : Nat} {xs : List Int} (h : Cells w b 0 xs) (k : Nat) (hk : k < xs.length) (v : Int) : Cells (w.setCell ⟨b, k, none⟩ (.int .i64 v)) b 0 (xs.set k v) := by
  have := h.set_ k hk v
  rwa [Nat.zero_add] at this

/-- What changed holds between two rounds: the function's box, the box of the row that is made, the row's own cells. -/
def ChgMid (W : World) (F B : Nat) (f : FuncId) (cap : Array Value) (n : Nat) (xs : List Int) : Prop :=
  Boxed W F 68 (.func (.func f) #[] cap) ∧ Boxed W (B + 1) 51 (.slice (some ⟨B, 0, none⟩) n n) ∧ Cells W B 0 xs ∧ ∃ cs, W.heap[B]? = some (.cells cs 3 (0, 0))
theorem ChgMid.block {W W' : World} {F B n : Nat} {f : FuncId} {cap : Array Value} {xs : List Int} (h : ChgMid W F B f cap n xs) (hF : W'.heap[F]? = W.heap[F]?) (hB : W'.heap[B]? = W.heap[B]?) (hB1 : W'.heap[B + 1]? = W.heap[B + 1]?) : ChgMid W' F B f cap n xs :=
  ⟨hF.trans h.1, hB1.trans h.2.1, fun j hj => ⟨(World.cell?_of_block (w := W) (a := ⟨B, 0 + j, none⟩) hB).trans (h.2.2.1 j hj).1, (World.frozen?_of_block (w := W) (a := ⟨B, 0 + j, none⟩) hB).trans (h.2.2.1 j hj).2⟩, h.2.2.2.imp fun _ hc => hB.trans hc⟩
theorem ChgMid.below {W W' : World} {F B n : Nat} {f : FuncId} {cap : Array Value} {xs : List Int} (h : ChgMid W F B f cap n xs) (hb : Below W.heap.size W W') : ChgMid W' F B f cap n xs :=
  h.block (hb.block F h.1.lt) (hb.block B (by have := h.2.1.lt; omega)) (hb.block (B + 1) h.2.1.lt)
theorem ChgMid.set_ {W : World} {F B n : Nat} {f : FuncId} {cap : Array Value} {xs : List Int} (h : ChgMid W F B f cap n xs) (hF : F ≠ B) (k : Nat) (hk : k < xs.length) (v : Int) : ChgMid (W.setCell ⟨B, k, none⟩ (.int .i64 v)) F B f cap n (xs.set k v) := by
  obtain ⟨h1, h2, h3, cs, h4⟩ := h
  refine ⟨(Below.heap_setCell W ⟨B, k, none⟩ _ F hF).trans h1, (Below.heap_setCell W ⟨B, k, none⟩ _ (B + 1) (by simp)).trans h2, cells_fill h3 k hk v, ?_⟩
  simp [World.setCell, Array.getElem?_modify, h4]
theorem chgMid_own {β : Type} (C F B n : Nat) (f : FuncId) (cap : Array Value) (xs : β → List Int) : OwnFrom C (fun s W => ChgMid W F B f cap n (xs s)) := by
  rintro s X Y row h hg hrow
  have hne : ∀ (g : Nat) (cs : Array Value) (t : TypeId), X.heap[g]? = some (Obj.cells cs t (0, 0)) → Y.heap[g]? = X.heap[g]? := by
    intro g cs t hh
    refine hg.block g (Array.getElem?_eq_some_iff.1 hh).1 fun e => ?_
    obtain ⟨_, o, ho, hc⟩ := hrow g e.symm
    rw [hh] at ho; cases ho; cases hc
  obtain ⟨cs, h4⟩ := h.2.2.2
  exact h.block (hne _ _ _ h.1) (hne _ _ _ h4) (hne _ _ _ h.2.1)

set_option maxRecDepth 100000 in
set_option maxHeartbeats 4000000 in
theorem changed_any (A : Option Addr) (c : Nat) (zs : List Int) (f : FuncId) (cap : Array Value) (g : Fin zs.length → Int) (hg : ∀ x, I64 (g x)) (w : World) (h : IR w 0 w.heap.size A zs) (hen : ∀ args w, (callFunc f args).run Try.prog w = .ok (.enter f args) w) (hf : rowB zs = true → ChgFn w f cap zs g) :
    Calls Try.prog 47 #[.slice A zs.length c, .func (.func f) #[] cap] w (RetSB w (chgM zs g)) := by
  have H := Lib.hid h
  have hl := h.1
  have hmk : ∀ w : World, (Instr.makeSlice 51 (.int .i64 (zs.length : Int)) (.int .i64 (zs.length : Int))).run Try.prog w = .ok (.slice (some ⟨w.heap.size, 0, none⟩) zs.length zs.length) (w.alloc (.cells (madeCells #[.int .i64 0] zs.length) 3)) := by
    intro w
    obtain ⟨i0, hi, hz0, hz1, hz2⟩ := info_parts info_int
    have hr := run_make (P := Try.prog) w 51 3 i0 (.int .i64 0) Try.underlying51 hi hz0 .i64 .i64 zs.length zs.length (by omega) (Int.le_refl _) (by rw [hz2]; omega) (by omega)
    rw [hz1] at hr
    simpa [Value.cells] using hr
  have HF := Lib.hid hf; have HG := Lib.hid hg; have HE := Lib.hid hen
  clear h hf hg hen
  refine (callsIn_wide (n := 6)).1 ?_
  refine callsIn_of_wp_marks Try.func47 rfl trivial ?_ rfl
  simp only [Try.ntmps47, List.size_toArray, List.length_cons, List.length_nil, Nat.reduceAdd, Nat.reduceSub, Array.replicate_succ, Array.replicate_zero, List.push_toArray, List.append_toArray, List.nil_append, List.cons_append]
  cases hr : rowB zs with
  | false =>
    have hm : chgM zs g = none := by simp [chgM, hr]
    have HR := Lib.hid hr
    rw [hm]; clear hr hm
    have hb0 : Below w.heap.size w (w.alloc (.cells #[.func (.func f) #[] cap] 68)) := (Below.refl _ w).alloc (Nat.le_refl _) _
    have HB0 := Lib.hid hb0; clear hb0
    gi_wp2_with (refine ⟨trivial, ?_⟩; gi_at_call 59; refine (callsIn_wide.2 (isRow_any _ _ zs _ (H.out.grow HB0.out).toAll)).mono ?_; rintro e w' ⟨rfl, hb'⟩; rw [HR.out])
    refine ⟨.tuple #[.slice none 0 0, .bool false], ?_, retSB_none (below_then HB0.out (Nat.le_refl _) hb')⟩
    simp [results, Try.f47, go_sem]
  | true =>
    have HR := Lib.hid hr
    have hrl := (rowB_true.1 hr).2
    clear hr
    have hb0 : Below w.heap.size w (w.alloc (.cells #[.func (.func f) #[] cap] 68)) := (Below.refl _ w).alloc (Nat.le_refl _) _
    have HB0 := Lib.hid hb0; clear hb0
    gi_wp2_with fail
    refine ⟨trivial, ?_⟩
    gi_at_call 59
    refine (callsIn_wide.2 (isRow_any _ _ zs _ (H.out.grow HB0.out).toAll)).mono ?_
    rintro e w1 ⟨rfl, hb1⟩
    rw [HR.out]
    have hbf : Boxed w1 w.heap.size 68 (.func (.func f) #[] cap) := (hb1.block _ (by simp)).trans (Boxed.new w _ _)
    have HBF := Lib.hid hbf; have HB1 := Lib.hid hb1
    have H1 := Lib.hid ((H.out.grow HB0.out).grow hb1)
    clear hbf hb1
    gi_wp2_with (refine ⟨trivial, ?_⟩; gi_at_call 71; refine (entries_in _ _ trivial rfl _ _ _ _).mono ?_; rintro e w' ⟨rfl, rfl⟩)
    obtain ⟨W3, hW3⟩ : ∃ W3, ((w1.alloc (.cells (madeCells #[.int .i64 0] zs.length) 3)).alloc (.cells #[.slice (some ⟨w1.heap.size, 0, none⟩) zs.length zs.length] 51)).alloc (.cells #[.slice A zs.length c] 51) = W3 := ⟨_, rfl⟩
    have hsz : W3.heap.size = w1.heap.size + 3 := by rw [← hW3]; simp
    have hb13 : Below w1.heap.size w1 W3 := by rw [← hW3]; exact (((Below.refl _ w1).alloc (Nat.le_refl _) _).alloc (by simp) _).alloc (by simp; omega) _
    have hbox : W3.cell? ⟨w1.heap.size + 2, 0, none⟩ = some (.slice A zs.length c) := by
      rw [← hW3, World.cell?_alloc_at _ _ _ _ (by simp)]; rfl
    have hmid : ChgMid W3 w.heap.size w1.heap.size f cap zs.length (List.replicate zs.length 0) := by
      have c0 := Cells.made w1 zs.length 3
      have n0 : (w1.alloc (.cells (madeCells #[.int .i64 0] zs.length) 3)).heap[w1.heap.size]? = some (.cells (madeCells #[.int .i64 0] zs.length) 3 (0, 0)) := World.alloc_heap_new w1 _
      have n1 := World.alloc_heap_new (w1.alloc (.cells (madeCells #[.int .i64 0] zs.length) 3)) (.cells #[.slice (some ⟨w1.heap.size, 0, none⟩) zs.length zs.length] 51)
      rw [World.size_alloc] at n1
      have k3 : ∀ i, i < w1.heap.size + 2 → W3.heap[i]? = ((w1.alloc (.cells (madeCells #[.int .i64 0] zs.length) 3)).alloc (.cells #[.slice (some ⟨w1.heap.size, 0, none⟩) zs.length zs.length] 51)).heap[i]? := fun i hi => by
        rw [← hW3]; exact Below.heap_alloc _ _ i (by simp; omega)
      have kB : W3.heap[w1.heap.size]? = (w1.alloc (.cells (madeCells #[.int .i64 0] zs.length) 3)).heap[w1.heap.size]? := (k3 _ (by omega)).trans (Below.heap_alloc _ _ _ (by simp))
      refine ⟨(hb13.block _ (HBF.out.lt)).trans HBF.out, (k3 _ (by omega)).trans n1, fun j hj => ?_, _, kB.trans n0⟩
      exact ⟨(World.cell?_of_block (a := ⟨w1.heap.size, 0 + j, none⟩) kB).trans (c0 j hj).1, (World.frozen?_of_block (a := ⟨w1.heap.size, 0 + j, none⟩) kB).trans (c0 j hj).2⟩
    have hB03 : Below w.heap.size w W3 := below_then (below_then HB0.out (Nat.le_refl _) HB1.out) (Nat.le_refl _) hb13
    have hR3 : IR W3 0 w.heap.size A zs := H.out.below hB03 (Nat.le_refl _)
    have hle : w.heap.size < w1.heap.size := HBF.out.lt
    rw [hW3]
    clear hW3 hb13
    apply (fun a₁ => wpIn_rangeFunc_ownF (F := Fence.wide) rfl (by decide) (gf := 80) (lb := #[.pointer (some ⟨w1.heap.size + 2, 0, none⟩)]) rfl trivial (enters_of Try.func80 (by kernel_rfl) rfl)
      (entries_stops Fence.wide (6 - 1) trivial rfl (by decide) (w1.heap.size + 2) w.heap.size c A zs _ (by omega) (by omega) hbox hR3) belowK_t (belowK_b (by omega)) (Below.refl _ _) (fun _ => rfl)
      (fun pre W => ChgMid W w.heap.size w1.heap.size f cap zs.length (chgTo zs g pre) ∧ Below w.heap.size w W)
      (fun _ _ _ => False)
      (OwnFrom.and (chgMid_own _ _ _ _ _ _ _) (ownFrom_below (Nat.le_refl _) (by omega)))
      (fun _ _ _ _ _ hs _ _ => hs)
      ⟨hmid, hB03⟩ a₁)
    case hassign =>
      intro l x W K hK
      gi_wp2
      exact hK
    case hbody =>
      rintro l pre x W ⟨hM, hB⟩ hlt
      have hc1 := hM.1.cell
      have hc2 := hM.2.1.cell
      have HM := Lib.hid hM; have HB := Lib.hid hB
      clear hM hB
      have hS0 : W.drew.cell? ⟨w.heap.size, 0, none⟩ = some (.func (.func f) #[] cap) ∧ W.drew.cell? ⟨w1.heap.size + 1, 0, none⟩ = some (.slice (some ⟨w1.heap.size, 0, none⟩) zs.length zs.length) := ⟨hc1, hc2⟩
      gi_wp2
      refine region_anyS (fun W' => W'.cell? ⟨w.heap.size, 0, none⟩ = some (.func (.func f) #[] cap) ∧ W'.cell? ⟨w1.heap.size + 1, 0, none⟩ = some (.slice (some ⟨w1.heap.size, 0, none⟩) zs.length zs.length)) (by kernel_rfl) ?_
      refine anyS_first 0 (v := .slice (some ⟨w1.heap.size, 0, none⟩) zs.length zs.length) rfl (by kernel_rfl) (by kernel_rfl) (by kernel_rfl) (fun _ _ _ h => h) hS0 ⟨fun _ => rfl, .inl ⟨by rfl, fun W' hW' => (by obtain ⟨e1, e2⟩ := hW'; go_simp)⟩⟩ ?_
      refine anyS_first 1 (v := .int .i64 ((x.1 : Nat) : Int)) rfl (by kernel_rfl) (by kernel_rfl) (by kernel_rfl) (fun _ _ _ h => h) hS0 ⟨fun _ => rfl, .inl ⟨by rfl, fun W' hW' => (by obtain ⟨e1, e2⟩ := hW'; go_simp)⟩⟩ ?_
      refine anyS_first 2 (v := .func (.func f) #[] cap) rfl (by kernel_rfl) (by kernel_rfl) (by kernel_rfl) (fun _ _ _ h => h) hS0 ⟨fun _ => rfl, .inl ⟨by rfl, fun W' hW' => (by obtain ⟨e1, e2⟩ := hW'; go_simp)⟩⟩ ?_
      refine anyS_first 3 (v := .int .i64 ((x.1 : Nat) : Int)) rfl (by kernel_rfl) (by kernel_rfl) (by kernel_rfl) (fun _ _ _ h => h) hS0 ⟨fun _ => rfl, .inl ⟨by rfl, fun W' hW' => (by obtain ⟨e1, e2⟩ := hW'; go_simp)⟩⟩ ?_
      refine anyS_first 4 (v := .int .i64 zs[x.1]) rfl (by kernel_rfl) (by kernel_rfl) (by kernel_rfl) (fun _ _ _ h => h) hS0 ⟨fun _ => rfl, .inl ⟨by rfl, fun W' hW' => (by obtain ⟨e1, e2⟩ := hW'; go_simp)⟩⟩ ?_
      have hx0 : (0 : Int) ≤ ((x.1 : Nat) : Int) := Int.natCast_nonneg _
      have hx1 : ((x.1 : Nat) : Int) < (zs.length : Int) := by have := x.2; omega
      refine anyS_one 5 rfl (by kernel_rfl) hS0 ?_
      refine wpOpIn_step rfl fun K' hK' => ?_
      have he := HE.out
      go_simp
      clear he
      refine ⟨trivial, (CallsIn.inRound l (callsIn_wide.2 (HF.out HR.out x W.drew HB.out.drew))).mono ?_⟩
      rintro e W5 ⟨rfl, hb5⟩
      have M5 := Lib.hid (HM.out.below (W' := W5) ⟨hb5.os, hb5.tape, hb5.output, hb5.size, hb5.block⟩)
      have B5 := Lib.hid (show Below w.heap.size W W5 from ⟨hb5.os, hb5.tape, hb5.output, hb5.size, fun k hk => hb5.block k (Nat.lt_of_lt_of_le hk HB.out.size)⟩)
      have hS5 : W5.cell? ⟨w.heap.size, 0, none⟩ = some (.func (.func f) #[] cap) ∧ W5.cell? ⟨w1.heap.size + 1, 0, none⟩ = some (.slice (some ⟨w1.heap.size, 0, none⟩) zs.length zs.length) := ⟨M5.out.1.cell, M5.out.2.1.cell⟩
      have hxl : x.1 < (chgTo zs g pre).length := by rw [chgTo_len]; exact x.2
      have hcc := M5.out.2.2.1 x.1 hxl
      rw [Nat.zero_add] at hcc
      obtain ⟨hcx, hfx⟩ := hcc
      refine hK' _ _ ?_
      refine anyS_one 6 rfl (by kernel_rfl) hS5 ?_
      refine wpOpIn_step rfl fun K2 hK2 => ?_
      go_simp
      refine hK2 _ _ ?_
      have M7 := Lib.hid (M5.out.set_ (Nat.ne_of_lt hle) x.1 hxl (g x))
      rw [← chgTo_snoc] at M7
      refine anyS_one 7 rfl (by kernel_rfl) hS5 ?_
      refine wpOpIn_step rfl fun K3 hK3 => ?_
      go_simp
      refine hK3 _ _ ?_
      refine anyS_done (by kernel_rfl) ⟨M7.out.1.cell, M7.out.2.1.cell⟩ ?_
      have hko : KeepsOthers W W5 := KeepsOthers.of_grownBy (row := none) ⟨hb5.os, hb5.tape, hb5.output, hb5.size, fun k hk _ => hb5.block k hk⟩ (fun j o e _ => by cases e)
      have hbs : Below w.heap.size W (W5.setCell ⟨w1.heap.size, x.1, none⟩ (.int .i64 (g x))) := B5.out.setCell (p := ⟨w1.heap.size, x.1, none⟩) (Nat.le_of_lt hle) _
      exact ⟨hko.trans (KeepsOthers.setCell _ _ _), hbs, M7.out, HB.out.trans hbs⟩
    case hdone =>
      rintro D ys W hD rfl ⟨hM, hB⟩ hK
      rw [chgTo_all] at hM
      have hlen : (chgL zs g).length = zs.length := by simp [chgL]
      have hc2 := hM.2.1.cell
      have HM := Lib.hid hM; have HB := Lib.hid hB; have HK := Lib.hid hK
      have hz : ∀ z, z ∈ chgL zs g → I64 z := by
        intro z hz
        obtain ⟨x, _, rfl⟩ := List.mem_map.1 hz
        exact HG.out x
      have hltB : w1.heap.size < W.heap.size := by have := hM.2.1.lt; omega
      have hiw : IW W w.heap.size W.heap.size (some ⟨w1.heap.size, 0, none⟩) (chgL zs g) := hM.2.2.1.iw rfl (Nat.le_of_lt hle) hltB (Nat.le_refl _) (by rw [hlen]; exact hl) hz
      have HI := Lib.hid hiw
      have HLn := Lib.hid hlen
      clear hM hB hK hz hiw hlen
      have hout : Hid (∀ W' : World, Below W.heap.size W W' → Below w.heap.size w (W'.putObj D (.deferred none))) := by
        intro W' hb
        have hD' : w.heap.size ≤ D := by omega
        have h1 := HB.out.trans (hb.mono HB.out.size)
        exact h1.trans (belowK_b (w := w) (Nat.le_refl _) W' D _ _ hD' ((hb.block D (Array.getElem?_eq_some_iff.1 HK.out).1).trans HK.out) rfl rfl)
      cases hr2 : rowB (chgL zs g) with
      | false =>
        have hm : chgM zs g = none := by simp [chgM, HR.out, hr2]
        have HR2 := Lib.hid hr2
        have HMM := Lib.hid hm; clear hr2 hm
        have hc := checked_false (some ⟨w1.heap.size, 0, none⟩) zs.length _ _ (chgL zs g) W HI.out.toIR HR2.out
        rw [HLn.out] at hc
        have HC := Lib.hid hc; clear hc
        gi_wp2_with fail
        refine ⟨trivial, (callsIn_wide.2 HC.out).mono ?_⟩
        rintro e W5 ⟨rfl, hb5⟩
        have B5 := Lib.hid hb5; clear hb5
        gi_wp2
        refine ⟨by simp, .inl ⟨_, _, rfl, run_takeDeferred ((B5.out.block D (Array.getElem?_eq_some_iff.1 HK.out).1).trans HK.out), ?_⟩⟩
        refine ⟨.tuple #[.slice none 0 0, .bool false], ?_, by rw [HMM.out]; exact retSB_none (hout.out _ B5.out)⟩
        simp [results, Try.f47, go_sem]
      | true =>
        have hm : chgM zs g = some (chgL zs g) := by simp [chgM, HR.out, hr2]
        have HR2 := Lib.hid hr2
        have HMM := Lib.hid hm; clear hr2 hm
        have hc := checked_true (some ⟨w1.heap.size, 0, none⟩) zs.length _ _ (chgL zs g) W HI.out.toIR HR2.out
        rw [HLn.out] at hc
        have HC := Lib.hid hc; clear hc
        gi_wp2_with fail
        refine ⟨trivial, (callsIn_wide.2 HC.out).mono ?_⟩
        rintro e W5 ⟨rfl, hb5⟩
        have B5 := Lib.hid hb5; clear hb5
        gi_wp2
        have hK5 := (B5.out.block D (Array.getElem?_eq_some_iff.1 HK.out).1).trans HK.out
        refine ⟨by simp, .inl ⟨_, _, rfl, run_takeDeferred hK5, ?_⟩⟩
        have hi5 := HI.out.grow B5.out
        have hi6 : IW (W5.putObj D (.deferred none)) w.heap.size W.heap.size (some ⟨w1.heap.size, 0, none⟩) (chgL zs g) := by
          refine ⟨hi5.1, hi5.2.1, Nat.le_trans hi5.2.2.1 (grownBy_putObj' W5 D (.deferred none)).size, fun h0 => ?_⟩
          obtain ⟨b, off, e, g1, g2, g3⟩ := hi5.2.2.2 h0
          refine ⟨b, off, e, g1, g2, fun j hj => ?_⟩
          have hbD : b ≠ D := by
            intro e; subst e
            have := (g3 j hj).1
            simp [World.cell?, hK5] at this
          exact ⟨(World.cell?_of_block (a := ⟨b, off + j, none⟩) (World.putObj_heap_other hbD)).trans (g3 j hj).1, (World.frozen?_of_block (a := ⟨b, off + j, none⟩) (World.putObj_heap_other hbD)).trans (g3 j hj).2⟩
        refine ⟨.tuple #[.slice (some ⟨w1.heap.size, 0, none⟩) zs.length zs.length, .bool true], ?_, by rw [HMM.out]; exact retSB_some HLn.out.symm (hi6.wide (Nat.le_refl _) hi6.2.2.1 (Nat.le_refl _)) (hout.out _ B5.out)⟩
        simp [results, Try.f47, go_sem]
    case hstop =>
      rintro D cd pre W _ _ h _
      exact h.elim
end Go.Proofs.Ytfkmnlhmldjieaa
