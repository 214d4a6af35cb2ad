/-
  Slopes appended to a list that the call has built, by the program. Conditions: the row's cells are there.
-/
import Derived.Test.YtanoojpmokbiaabColl
namespace Go.Proofs.Ytanoojpmokbiaab
open Go.RowKit Go.Shelf
attribute [local go_sem] Oper.semAt_some

theorem OwnI.shape' {w : World} {base : Nat} {v : Value} {zs : List Int} (h : OwnI w base v zs) : ∃ A c, v = .slice A zs.length c ∧ zs.length ≤ c := by
  rcases h.1.2 with ⟨rfl, h0⟩ | ⟨g, cap, cur, rfl, hg, hh, hn, r⟩
  · have : zs = [] := by simpa using h0
    subst this
    exact ⟨none, 0, rfl, Nat.le_refl _⟩
  · exact ⟨_, cap, rfl, hn⟩
/-- What lay below n₀, and block B, lie as they lay. -/
structure KeepAt (n₀ B : Nat) (w w' : World) : Prop where
  size : w.heap.size ≤ w'.heap.size
  block : ∀ k, k < n₀ ∨ k = B → w'.heap[k]? = w.heap[k]?
theorem KeepAt.trans {n₀ B : Nat} {a b c : World} (h : KeepAt n₀ B a b) (k : KeepAt n₀ B b c) : KeepAt n₀ B a c := ⟨Nat.le_trans h.1 k.1, fun i hi => (k.2 i hi).trans (h.2 i hi)⟩
theorem KeepAt.cell {n₀ B : Nat} {w w' : World} (h : KeepAt n₀ B w w') {p : Addr} (hp : p.block < n₀ ∨ p.block = B) : w'.cell? p = w.cell? p := World.cell?_of_block (h.2 _ hp)
theorem keepAt_b {n₀ B : Nat} {w : World} (hn : n₀ ≤ w.heap.size) (hB : B < w.heap.size) (W : World) (l : Nat) (o o' : Obj) (hl : w.heap.size ≤ l) (h : W.heap[l]? = some o) (h1 : o.isCells = false) (h2 : o.isWalk = false) : KeepAt n₀ B W (W.putObj l o') := by
  have b := belowK_b (n₀ := w.heap.size) (w := w) (Nat.le_refl _) W l o o' hl h h1 h2
  exact ⟨b.size, fun k hk => b.block k (by omega)⟩
def YWayAt {α : Type} (n₀ B : Nat) (J Jx : List α → World → Prop) (pre : List α) (W : World) (b : Bool) (W' : World) : Prop := (b = true ∧ J pre W' ∧ KeepAt n₀ B W W') ∨ (b = false ∧ Jx pre W')
theorem YWayAt.of {α : Type} {n₀ B : Nat} {J Jx : List α → World → Prop} {pre : List α} {W W' : World} {e : Ending}
    (h : (e = .returned (.bool true) ∧ J pre W' ∧ KeepAt n₀ B W W') ∨ (e = .returned (.bool false) ∧ Jx pre W')) : ∃ b, e = .returned (.bool b) ∧ YWayAt n₀ B J Jx pre W b W' := by
  rcases h with ⟨rfl, h⟩ | ⟨rfl, h⟩
  · exact ⟨true, rfl, .inl ⟨rfl, h⟩⟩
  · exact ⟨false, rfl, .inr ⟨rfl, h⟩⟩
/-- Behind an append to the list in the box B, and its store, another box lies as it lay. -/
theorem box_at {W w1 : World} {B g base : Nat} {v u : Value} {zs : List Int} (hg : W.grownBy w1 v.ownBlock) (ho : OwnI W base v zs) (hb : Boxed W g 56 u) (hne : B ≠ g) (v' : Value) : Boxed (w1.setCell ⟨B, 0, none⟩ v') g 56 u :=
  (hb.kept hg (hb.not_row (by decide) ho.1)).kept (grownBy_setCell' w1 B v') (by simp; omega)

set_option maxRecDepth 100000 in
set_option maxHeartbeats 1000000 in
theorem slopes1_at (n : Nat) (l Bn n₀ c : Nat) (A : Option Addr) (zs : List Int) (hr : rowB zs = true) (J Jx : List (Fin (slopesL zs).length) → World → Prop) (W : World) (hAb : AbidesFrom W.heap.size J)
    (hY : ∀ pre x W, J pre W → pre.length < (slopesL zs).length → YieldAt Fence.wide (n - 1) Try.prog l #[.int .i64 (slopesL zs)[x]] W fun e W' =>
      (e = .returned (.bool true) ∧ J (pre ++ [x]) W' ∧ KeepAt n₀ Bn W W') ∨ (e = .returned (.bool false) ∧ Jx (pre ++ [x]) W'))
    (hBn : W.cell? ⟨Bn, 0, none⟩ = some (.slice A zs.length c)) (hL : IR W 0 n₀ A zs) (h0 : J [] W) :
    CallsIn Fence.wide n Try.prog 62 #[.func (.yield l) #[] #[], .pointer (some ⟨Bn, 0, none⟩)] W fun e W' => (∃ v, e = .returned v) ∧
      ((∃ ys, ys = List.finRange (slopesL zs).length ∧ J ys W') ∨ (∃ pre, True ∧ Jx pre W')) := by
  have hl := (rowB_true.1 hr).2
  have HB := Lib.hid (rowB_true.1 hr).1
  have HSL := Lib.hid (slopesL_len zs)
  clear hr
  refine callsIn_of_wp Try.func62 rfl trivial ?_ rfl
  simp only [Try.ntmps62, List.size_toArray, List.length_cons, List.length_nil, Nat.reduceAdd, Nat.reduceSub, Array.replicate_succ, Array.replicate_zero, List.push_toArray, List.append_toArray, List.nil_append, List.cons_append]
  gi_wp2
  gi_loopw [3] (fun i wr => ∃ k : Nat, k + 1 ≤ zs.length ∧ i = .int .i64 ((k : Int) + 1) ∧ wr.cell? ⟨Bn, 0, none⟩ = some (.slice A zs.length c) ∧ IR wr 0 n₀ A zs ∧ J ((List.finRange (slopesL zs).length).take k) wr)
    (fun i _ => zs.length - (intOf i).toNat)
  case atStart => exact ⟨0, hl.1, rfl, hBn, hL, by simpa using h0⟩
  case round =>
    obtain ⟨k, hk, rfl, hbox, hR, hJ⟩ := hrel
    by_cases hlt : k + 1 < zs.length
    · have HR := Lib.hid hR
      obtain ⟨b, off, rfl, hbh, hbs, hc1⟩ := hR.at_ hlt
      obtain ⟨b', off', e, _, _, hc0⟩ := hR.at_ (k := k) (by omega)
      injection e with e; injection e with e1 e2 _; subst e1; subst e2
      clear hR
      have hlt' : (k : Int) + 1 < (zs.length : Int) := by omega
      have hlt0 : (k : Int) < (zs.length : Int) := by omega
      have h00 : (0 : Int) ≤ (k : Int) := by omega
      have h01 : (0 : Int) ≤ (k : Int) + 1 := by omega
      have b1 := HB.out _ (List.getElem_mem hlt)
      have b0 := HB.out _ (List.getElem_mem (show k < zs.length by omega))
      obtain ⟨b11, b12⟩ := b1
      obtain ⟨b01, b02⟩ := b0
      have hks : k < (slopesL zs).length := by rw [HSL.out]; omega
      have hyy := hY ((List.finRange (slopesL zs).length).take k) ⟨k, hks⟩ wr.drew (hAb _ _ _ none hJ ⟨rfl, rfl, rfl, Nat.le_refl _, fun _ _ _ => rfl⟩ (by intro r e; cases e)) (by simp; omega)
      rw [show (slopesL zs)[(⟨k, hks⟩ : Fin (slopesL zs).length)] = zs[k + 1] - zs[k] from slopesL_get zs k hlt] at hyy
      obtain ⟨fn, tmps, assign, body, hy, hYR⟩ := hyy
      have t1 : ((k : Int) + 1).toNat = k + 1 := by omega
      have s1 : IntKind.i64.wrap (k : Int) = (k : Int) := IntWalk.i64_in _ (by omega)
      have t0 : (k : Int).toNat = k := by omega
      have s2 : IntKind.i64.wrap (zs[k + 1] - zs[k]) = zs[k + 1] - zs[k] := IntWalk.i64_in _ (by omega)
      gi_wp2
      have hmx : Try.prog.follows .mixedOrders = true := by kernel_rfl
      refine wpIn_mono (Q := Exit.then (fun a' w' => ∃ v10 v11 v12 v13 v14 v15 v16 v17 v18 v19 v20 v21 bb, a' = { tmps := #[.func (.yield l) #[] #[], .pointer (some ⟨Bn, 0, none⟩), undef, .int .i64 ((k : Int) + 1), .int .i64 ((k : Int) + 1), .slice (some ⟨b, off, none⟩) zs.length c, .int .i64 (zs.length : Int), .bool true, u8, u9, v10, v11, v12, v13, v14, v15, v16, v17, v18, v19, v20, v21, .bool (!bb)], defers := [] } ∧ YWayAt n₀ Bn J Jx ((List.finRange (slopesL zs).length).take k ++ [⟨k, hks⟩]) wr.drew bb w') (fun _ _ _ => False)) ?reg ?rest
      case reg =>
        clear hY h0 hL hBn hJ hAb HR HB HSL hl
        go_light
        gi_region_with_o (refine ⟨fun h => (by cases h), ?_⟩; refine hYR.mono ?_; intro e W3 he; obtain ⟨bb, rfl, hw⟩ := YWayAt.of he)
        all_goals exact ⟨_, _, _, _, _, _, _, _, _, _, _, _, _, rfl, hw⟩
      case rest =>
        intro e a' w' hp
        cases e <;> try exact hp.elim
        obtain ⟨v10, v11, v12, v13, v14, v15, v16, v17, v18, v19, v20, v21, bb, rfl, hw⟩ := hp
        have hbox' := Lib.hid hbox
        clear t1 t0 s1 s2 hy hYR hc1 hc0 hbox hJ
        rcases hw with ⟨rfl, hJ3, hk3⟩ | ⟨rfl, hJx3⟩
        · have HJ := Lib.hid hJ3; have HK := Lib.hid hk3
          clear hJ3 hk3
          gi_wp2
          go_roundw
          case rel => exact ⟨k + 1, by omega, by go_num, (HK.out.cell (p := ⟨Bn, 0, none⟩) (.inr rfl)).trans hbox'.out, HR.out.keep HK.out.1 (fun p _ h2 => HK.out.cell (.inl h2)), by rw [← finRange_succ hks]; exact HJ.out⟩
          case measure => simp [intOf]; omega
        · have HJ := Lib.hid hJx3
          clear hJx3
          gi_wp2
          refine bodyPost_ret (results_none rfl _ _ _) rfl ?_
          first | exact ⟨⟨_, rfl⟩, .inr ⟨_, trivial, HJ.out⟩⟩ | exact ⟨⟨_, rfl⟩, .inr ⟨_, HJ.out⟩⟩
    · have HJ := Lib.hid hJ
      have hlt' : ¬ (k : Int) + 1 < (zs.length : Int) := by omega
      clear hJ hR
      gi_wp2
      go_end0
      have hJ' : J (List.finRange (slopesL zs).length) wr := by
        have := HJ.out; rwa [List.take_of_length_le (by simp [HSL.out]; omega)] at this
      first | exact ⟨⟨_, rfl⟩, .inl ⟨_, rfl, hJ'⟩⟩ | exact ⟨⟨_, rfl⟩, .inl hJ'⟩

/-- The value that slopes hands back: a loop over it, beside which other blocks turn. -/
theorem slopes_at (n : Nat) (Bn n₀ c : Nat) (A : Option Addr) (zs : List Int) (hr : rowB zs = true) (w : World) (hBn : Bn < w.heap.size) (hn₀ : n₀ ≤ w.heap.size)
    (hc : w.cell? ⟨Bn, 0, none⟩ = some (.slice A zs.length c)) (hL : IR w 0 n₀ A zs) :
    SeqStopsK Fence.wide n Try.prog 62 #[.pointer (some ⟨Bn, 0, none⟩)] (fun x : Fin (slopesL zs).length => #[.int .i64 (slopesL zs)[x]]) (KeepAt n₀ Bn) (fun ys => ys = List.finRange (slopesL zs).length) (fun _ => True) (slopesL zs).length w := fun l J Jx W hW hA _ hY h0 =>
  slopes1_at n l Bn n₀ c A zs hr J Jx W hA hY ((hW.cell (p := ⟨Bn, 0, none⟩) hBn).trans hc) (hL.below hW hn₀) h0

set_option maxRecDepth 100000 in
set_option maxHeartbeats 1000000 in
theorem appendSlopes_own (v0 : Value) (xs : List Int) (n₀ : Nat) (A : Option Addr) (c Bn : Nat) (zs : List Int) (hr : rowB zs = true) (w : World) (hx : OwnI w n₀ v0 xs) (hxl : xs.length ≤ 1000) (hn₀ : n₀ ≤ w.heap.size) (hc : Boxed w Bn 56 (.slice A zs.length c)) (h : IR w 0 n₀ A zs) :
    Calls Try.prog 61 #[v0, .func (.func 62) #[] #[.pointer (some ⟨Bn, 0, none⟩)]] w fun e w' => ∃ v, e = .returned v ∧ OwnI w' n₀ v (xs ++ slopesL zs) ∧ Below n₀ w w' := by
  obtain ⟨Av, cv, rfl, -⟩ := hx.shape'
  have hl := (rowB_true.1 hr).2
  have HB := Lib.hid (rowB_true.1 hr).1
  have hsl := slopesL_len zs
  have HI := Lib.hid (slopes_i64 hr)
  refine (callsIn_wide (n := 6)).1 ?_
  refine callsIn_of_wp_marks Try.func61 rfl trivial ?_ rfl
  simp only [Try.ntmps61, List.size_toArray, List.length_cons, List.length_nil, Nat.reduceAdd, Nat.reduceSub, Array.replicate_succ, Array.replicate_zero, List.push_toArray, List.append_toArray, List.nil_append, List.cons_append]
  have HSL := Lib.hid hsl
  clear hsl
  gi_wp2
  have bO := Boxed.new w 24 (.slice Av xs.length cv)
  have hB0 : Below w.heap.size w (w.alloc (.cells #[.slice Av xs.length cv] 24)) := (Below.refl _ w).alloc (Nat.le_refl _) _
  have hR0 := h.below hB0 hn₀
  have hBn : Bn < w.heap.size := hc.lt
  have hc0 : Boxed (w.alloc (.cells #[.slice Av xs.length cv] 24)) Bn 56 (.slice A zs.length c) := hc.alloc _
  have HX := Lib.hid (hx.alloc (o := .cells #[.slice Av xs.length cv] 24))
  apply (fun a₁ => wpIn_rangeFunc_ownF (F := Fence.wide) rfl (by decide) (gf := 62) (lb := #[.pointer (some ⟨Bn, 0, none⟩)]) rfl trivial (enters_of Try.func62 (by kernel_rfl) rfl)
    (slopes_at (6 - 1) Bn n₀ c A zs hr _ (by simp; omega) (by simp; omega) hc0.cell hR0) (fun h1 h2 => KeepAt.trans h1 h2) (keepAt_b (by simp; omega) (by simp; omega)) (Below.refl _ _) (fun _ => rfl)
    (fun pre W => ((BoxOwn W w.heap.size n₀ (xs ++ pre.map fun x => (slopesL zs)[x]) ∧ n₀ ≤ W.heap.size) ∧ Below n₀ w W) ∧ Boxed W Bn 56 (.slice A zs.length c))
    (fun _ _ _ => False)
    (OwnFrom.and (OwnFrom.and (boxOwn_own _ _ _ _) (ownFrom_below hn₀ (by simp; omega))) (Own.from (boxed_own _ _ _) _))
    (fun _ _ _ _ _ hs _ _ => hs)
    ⟨⟨⟨⟨_, bO, by simpa using HX.out⟩, by simp; omega⟩, hB0.mono hn₀⟩, hc0⟩ a₁)
  case hassign =>
    intro l x W K hK
    gi_wp2
    exact hK
  case hbody =>
    rintro l pre x W ⟨⟨⟨⟨v, hv, ho⟩, hs⟩, hB⟩, hbx⟩ hlt
    have hcx := hv.cell
    have hy := HI.out x
    have HV := Lib.hid hv; have HO := Lib.hid ho; have HBB := Lib.hid hB; have HY := Lib.hid hy
    have hll : (xs ++ pre.map fun x => (slopesL zs)[x]).length < 17592186044416 := by have := HSL.out; simp; omega
    have HBX := Lib.hid hbx
    have HLL := Lib.hid hll
    clear hv ho hB hy hll hbx
    gi_wp2_with (gi_at_builtin; refine wpListIn_push rfl _ _ rfl n₀ _ _ rfl rfl HO.out HLL.out HY.out ?_; intro v' w1 ho1 hg1; obtain ⟨g', cap', rfl⟩ := ownI_some ho1; obtain ⟨hv1, hv2, hk2, hb2⟩ := box_push HV.out HO.out hn₀ ho1 hg1; have hx2 := box_at hg1 HO.out HBX.out (show w.heap.size ≠ Bn by omega) (.slice (some ⟨g', 0, none⟩) ((xs ++ pre.map fun x => (slopesL zs)[x]).length + 1) cap'); have hc1 := hv1.cell; have hf1 := hv1.frozen)
    simp only [List.length_map, List.length_append] at hv2 hk2 hb2 hx2
    exact ⟨hk2, ⟨hb2.size, fun k hk => hk.elim (fun h1 => hb2.block k h1) (fun h1 => by rw [h1]; exact hx2.trans HBX.out.symm)⟩, ⟨⟨⟨by rw [List.map_append, ← List.append_assoc]; exact hv2, by have := hb2.size; omega⟩, HBB.out.trans hb2⟩, hx2⟩⟩
  case hdone =>
    rintro D ys W hD rfl ⟨⟨⟨⟨v, hv, ho⟩, hs⟩, hB⟩, -⟩ hK
    have hcx := hv.cell
    have e : (List.finRange (slopesL zs).length).map (fun x => (slopesL zs)[x]) = slopesL zs := by
      apply List.ext_getElem <;> simp
    rw [e] at ho
    have HO := Lib.hid ho; have HBB := Lib.hid hB; have HV := Lib.hid hv
    clear ho hB e hv
    gi_wp2
    refine ⟨by simp, .inl ⟨_, _, rfl, run_takeDeferred hK, ?_⟩⟩
    exact ⟨_, results_tmp rfl _ _ _, v, rfl, ownI_putObj HO.out (.deferred none) hK rfl, HBB.out.trans (belowK_b (w := w) hn₀ W D _ _ (by simp at hD; omega) hK rfl rfl)⟩
  case hstop =>
    rintro D cd pre W _ _ h _
    exact h.elim

set_option maxHeartbeats 400000 in
theorem collectSlopes_own (A : Option Addr) (c Bn : Nat) (zs : List Int) (hr : rowB zs = true) (w : World) (hc : Boxed w Bn 56 (.slice A zs.length c)) (h : IR w 0 w.heap.size A zs) :
    Calls Try.prog 49 #[.func (.func 62) #[] #[.pointer (some ⟨Bn, 0, none⟩)]] w fun e w' => ∃ v, e = .returned v ∧ OwnI w' w.heap.size v (slopesL zs) ∧ Below w.heap.size w w' := by
  have HC := Lib.hid hc
  clear hc
  go_enter Try.func49, Try.ntmps49
  go_wp2_with (go_at_call 61; refine (appendSlopes_own _ [] w.heap.size _ _ _ zs hr _ (OwnI.nil _ _ (Nat.le_refl _)) (by simp) (Nat.le_refl _) HC.out h).mono ?_; rintro e w' ⟨v, rfl, hi', hb'⟩)
  go_ret
  exact ⟨_, rfl, by simpa using hi', hb'⟩

end Go.Proofs.Ytanoojpmokbiaab
