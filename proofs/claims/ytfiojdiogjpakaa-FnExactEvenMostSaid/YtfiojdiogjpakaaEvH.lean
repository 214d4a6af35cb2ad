/-
  tops of the program: the sums of the greatest entries of a row. Conditions: the row's cells are there.
-/
import Derived.Test.YtfiojdiogjpakaaEvG
namespace Go.Proofs.Ytfiojdiogjpakaa
open Go.RowKit Go.Shelf Go.ChangeShapes Go.WideShapes
attribute [local go_sem] Oper.semAt_some

/-- Behind an append to the list in the box B, which lies below the list's own blocks. -/
theorem box_push_lo {W w1 : World} {B base : Nat} {v v' : Value} {zs zs' : List Int} (hv : Boxed W B 24 v) (ho : OwnI W base v zs) (hB : B < base) (ho1 : OwnI w1 base v' zs') (hg : W.grownBy w1 v.ownBlock) :
    Boxed w1 B 24 v ∧ BoxOwn (w1.setCell ⟨B, 0, none⟩ v') B base zs' ∧ KeepsOthers W (w1.setCell ⟨B, 0, none⟩ v') ∧ (∀ k, k < base → k ≠ B → (w1.setCell ⟨B, 0, none⟩ v').heap[k]? = W.heap[k]?) ∧ Below B W (w1.setCell ⟨B, 0, none⟩ v') := by
  have hne : ∀ k, k < base → some k ≠ v.ownBlock := fun k hk e => by have := (ho.1.lt k e.symm).1; omega
  have hv1 : Boxed w1 B 24 v := hv.kept hg (hne B hB)
  have hs := ho.2.2
  refine ⟨hv1, ⟨v', hv1.set v', ho1.setOut hB v'⟩, ?_, fun k hk hkB => ?_, ?_⟩
  · refine (KeepsOthers.of_grownBy hg fun j o ej hj => ?_).trans (KeepsOthers.setCell _ _ _)
    rcases ho.1.2 with ⟨rfl, _⟩ | ⟨g, cap, cur, rfl, _, hgb, _⟩
    · simp [Value.ownBlock] at ej
    · obtain rfl : g = j := by simpa [Value.ownBlock] using ej
      rw [hgb] at hj; cases hj; rfl
  · exact (Below.heap_setCell w1 ⟨B, 0, none⟩ v' k hkB).trans (hg.block k (by omega) (hne k hk))
  · exact ((Below.refl B W).grown hg (by omega) fun k hk => by have := (ho.1.lt k hk).1; omega).setCell (p := ⟨B, 0, none⟩) (Nat.le_refl _) v'

theorem wpListIn_pushG {F : Fence} {n : Nat} {ops : Array Oper} {rest : List Oper} {o : Oper} {a : Act} {W : World} {y : Int} {Q : Exit → Act → World → Prop} {G : Nat} (hG : G = W.heap.size) (hgd : o.guard = none) (s x : Operand)
    (ho : o.op = .call { callee := .builtin .append, args := #[s, x], argTypes := #[24, 24] })
    (base : Nat) (v : Value) (zs : List Int) (hs : a.eval s = v) (hx : a.eval x = .slice (some ⟨G, 0, none⟩) 1 1) (hown : OwnI W base v zs)
    (hl : zs.length < 17592186044416) (hy : I64 y)
    (h : ∀ v' w', OwnI w' base v' (zs ++ [y]) → W.grownBy w' v.ownBlock → wpListIn F n Try.prog ops Q rest (a.put o.dst v') w') : wpListIn F n Try.prog ops Q (o :: rest) a (W.alloc (.cells #[.int .i64 y] 3)) := by
  subst hG
  exact wpListIn_push hgd s x ho base v zs hs hx hown hl hy h

/-- Sums of beginnings. -/
def prefS : Int → List Int → List Int
  | _, [] => []
  | s, x :: l => (s + x) :: prefS (s + x) l
theorem prefS_len : ∀ (l : List Int) (s : Int), (prefS s l).length = l.length
  | [], _ => rfl
  | x :: l, s => by simp only [prefS, List.length_cons]; rw [prefS_len l]
theorem prefS_snoc (x : Int) : ∀ (l : List Int) (s : Int), prefS s (l ++ [x]) = prefS s l ++ [s + sumL l + x]
  | [], s => by simp [prefS, sumL]
  | y :: l, s => by
    simp only [List.cons_append, prefS, sumL]
    rw [prefS_snoc x l (s + y), show s + y + sumL l + x = s + (y + sumL l) + x by omega]
theorem prefS_getD : ∀ (l : List Int) (s : Int) (k : Nat), k < l.length → (prefS s l).getD k 0 = s + sumL (l.take (k + 1))
  | x :: l, s, 0, _ => by simp [prefS, sumL]
  | x :: l, s, k + 1, h => by
    have := prefS_getD l (s + x) k (by simpa using h)
    simp only [prefS, List.take_succ_cons, sumL, List.getD_cons_succ]
    rw [this]; omega
  | [], _, _, h => by simp at h
theorem sum_bd : ∀ l : List Int, (∀ z, z ∈ l → -1000 ≤ z ∧ z ≤ 1000) → -1000 * (l.length : Int) ≤ sumL l ∧ sumL l ≤ 1000 * (l.length : Int)
  | [], _ => by simp [sumL]
  | x :: l, h => by
    have ih := sum_bd l fun z hz => h z (by simp [hz])
    have := h x (by simp)
    simp only [sumL, List.length_cons]
    omega
def topsL (zs : List Int) : List Int := prefS 0 (downL zs)
theorem topsL_len (zs : List Int) : (topsL zs).length = zs.length := by unfold topsL; rw [prefS_len, down_len]
theorem topsL_getD (zs : List Int) {k : Nat} (hk : k < zs.length) : (topsL zs).getD k 0 = topS zs (k + 1) := by
  unfold topsL topS
  rw [prefS_getD _ _ _ (by rw [down_len]; exact hk)]; omega
theorem sumL_snoc (l : List Int) (x : Int) : sumL (l ++ [x]) = sumL l + x := by rw [sumL_append]; simp [sumL]

set_option maxRecDepth 100000 in
set_option maxHeartbeats 2000000 in
theorem tops_any (A : Option Addr) (c : Nat) (zs : List Int) (w : World) (h : IR w 0 w.heap.size A zs) (hr : rowB zs = true) :
    Calls Try.prog 92 #[.slice A zs.length c] w (RetS w (topsL zs)) := by
  have HX : Hid ((downL zs).length = zs.length) := down_len zs
  have hl := (rowB_true.1 hr).2
  have HB := Lib.hid (rowB_true.1 (down_row hr)).1
  have HT : Hid (topsL zs = prefS 0 (downL zs)) := rfl
  have H := Lib.hid h; have HR := Lib.hid hr
  clear h hr
  refine (callsIn_wide (n := 6)).1 ?_
  refine callsIn_of_wp_marks Try.func92 rfl trivial ?_ rfl
  simp only [Try.ntmps92, List.size_toArray, List.length_cons, List.length_nil, Nat.reduceAdd, Nat.reduceSub, Array.replicate_succ, Array.replicate_zero, List.push_toArray, List.append_toArray, List.nil_append, List.cons_append]
  gi_wp2_with fail
  have b1 := (Boxed.new w 3 (.int .i64 0)).alloc (.cells #[.slice none 0 0] 24)
  have b2 := Boxed.new (w.alloc (.cells #[.int .i64 0] 3)) 24 (.slice none 0 0)
  rw [World.size_alloc] at b2
  have hb1 : Below w.heap.size w ((w.alloc (.cells #[.int .i64 0] 3)).alloc (.cells #[.slice none 0 0] 24)) := ((Below.refl _ w).alloc (Nat.le_refl _) _).alloc (by simp) _
  obtain ⟨W1, hW1⟩ : ∃ W1, (w.alloc (.cells #[.int .i64 0] 3)).alloc (.cells #[.slice none 0 0] 24) = W1 := ⟨_, rfl⟩
  have hs1 : W1.heap.size = w.heap.size + 2 := by rw [← hW1]; simp
  rw [hW1] at b1 b2 hb1
  rw [hW1]
  clear hW1
  refine ⟨trivial, ?_⟩
  gi_at_call 68
  refine (callsIn_wide.2 (falling_any A c zs W1 (H.out.grow hb1).toAll HR.out)).mono ?_
  rintro e W2 ⟨A2, c2, rfl, i2, bb2⟩
  replace b1 := boxed_below b1 bb2
  replace b2 := boxed_below b2 bb2
  have hs2 := bb2.size
  have B2 := below_then hb1 (Nat.le_refl _) bb2
  obtain ⟨X, hX⟩ : ∃ X, downL zs = X := ⟨_, rfl⟩
  rw [hX] at HX HB HT i2
  rw [hX]
  clear hX hb1 bb2
  gi_wp2_with (refine ⟨trivial, ?_⟩; gi_at_call 73; refine (entries_in _ _ trivial rfl _ _ _ _).mono ?_; rintro e w' ⟨rfl, rfl⟩)
  have hb3 : Below W2.heap.size W2 (W2.alloc (.cells #[.slice A2 X.length c2] 77)) := (Below.refl _ W2).alloc (Nat.le_refl _) _
  have hbox : (W2.alloc (.cells #[.slice A2 X.length c2] 77)).cell? ⟨W2.heap.size, 0, none⟩ = some (.slice A2 X.length c2) := by
    rw [World.cell?_alloc_at _ _ _ _ rfl]; rfl
  obtain ⟨W3, hW3⟩ : ∃ W3, W2.alloc (.cells #[.slice A2 X.length c2] 77) = W3 := ⟨_, rfl⟩
  have hs3 : W3.heap.size = W2.heap.size + 1 := by rw [← hW3]; simp
  rw [hW3] at hb3 hbox
  rw [hW3]
  clear hW3
  have hR3 : IR W3 W1.heap.size W3.heap.size A2 X := (i2.toIR.below hb3 (Nat.le_refl _)).wide (Nat.le_refl _) (by omega) (Nat.le_refl _)
  replace b1 := boxed_below b1 hb3
  replace b2 := boxed_below b2 hb3
  have B3 := Lib.hid (B2.trans (hb3.mono (by omega)))
  clear i2 hb3 B2
  apply (fun a₁ => wpIn_rangeFunc_ownF (F := Fence.wide) rfl (by decide) (gf := 104) (lb := #[.pointer (some ⟨W2.heap.size, 0, none⟩)]) rfl trivial (enters_of Try.func104 (by kernel_rfl) rfl)
    (entries_mid Fence.wide (6 - 1) trivial rfl (by decide) W2.heap.size W1.heap.size W3.heap.size c2 A2 X W3 (by omega) (Nat.le_refl _) hbox hR3) (fun h k => h.trans k) (keepM_b (Nat.le_refl _)) (Below.refl _ _) (fun _ => rfl)
    (fun pre W => Boxed W w.heap.size 3 (.int .i64 (sumL (valsP X pre))) ∧ ((BoxOwn W (w.heap.size + 1) W3.heap.size (prefS 0 (valsP X pre)) ∧ W3.heap.size ≤ W.heap.size) ∧ Below w.heap.size W3 W))
    (fun _ _ _ => False)
    (OwnFrom.and (Own.from (boxed_own _ _ _) _) (OwnFrom.and (boxOwn_own _ _ _ _) (ownFrom_below (by omega) (by omega))))
    (fun _ _ _ _ _ hs _ _ => hs)
    ⟨b1, ⟨⟨_, b2, OwnI.nil _ _ (Nat.le_refl _)⟩, Nat.le_refl _⟩, Below.refl _ _⟩ a₁)
  case hassign =>
    intro l x W K hK
    gi_wp2
    exact hK
  case hbody =>
    rintro l pre x W ⟨hM, ⟨⟨v, hv, ho⟩, hWs⟩, hBW⟩ hlt
    have g1 := sum_bd (valsP X pre) fun z hz => HB.out z (valsP_mem hz)
    have g2 := HB.out _ (List.getElem_mem x.2)
    rw [valsP_len] at g1
    have hlen : pre.length < 12 := by have := HX.out; omega
    have HS1 : Hid (sumL (valsP X (pre ++ [x])) = sumL (valsP X pre) + X[x.1]) := by show _ = _; rw [valsP_snoc, sumL_snoc]
    have HS2 : Hid (prefS 0 (valsP X (pre ++ [x])) = prefS 0 (valsP X pre) ++ [sumL (valsP X pre) + X[x.1]]) := by show _ = _; rw [valsP_snoc, prefS_snoc, Int.zero_add]
    have HLP : Hid ((prefS 0 (valsP X pre)).length < 17592186044416) := by show _ < _; rw [prefS_len, valsP_len]; omega
    obtain ⟨T, hT⟩ : ∃ T, sumL (valsP X pre) = T := ⟨_, rfl⟩
    obtain ⟨y, hy⟩ : ∃ y, X[x.1] = y := ⟨_, rfl⟩
    rw [hT] at g1 hM HS1 HS2
    rw [hy] at g2 HS1 HS2
    have HY : Hid (X[x.1] = y) := hy
    clear hT hy
    have s1 : IntKind.i64.wrap (T + y) = T + y := IntWalk.i64_in _ (by omega)
    have HYI : Hid (I64 (T + y)) := ⟨by omega, by omega⟩
    have cM := hM.cell; have fM := hM.frozen
    have hM2 := hM.set (.int .i64 (T + y))
    have cM2 := hM2.cell
    have hvS : Boxed (W.setCell ⟨w.heap.size, 0, none⟩ (.int .i64 (T + y))) (w.heap.size + 1) 24 v := (Below.heap_setCell W ⟨w.heap.size, 0, none⟩ _ (w.heap.size + 1) (by show w.heap.size + 1 ≠ w.heap.size; omega)).trans hv
    have hoS : OwnI (W.setCell ⟨w.heap.size, 0, none⟩ (.int .i64 (T + y))) W3.heap.size v (prefS 0 (valsP X pre)) := ho.setOut (by omega) _
    have cV := hvS.cell
    have hB1 : Below w.heap.size W (W.setCell ⟨w.heap.size, 0, none⟩ (.int .i64 (T + y))) := (Below.refl _ W).setCell (p := ⟨w.heap.size, 0, none⟩) (Nat.le_refl _) _
    have hK1 : KeepsOthers W (W.setCell ⟨w.heap.size, 0, none⟩ (.int .i64 (T + y))) := KeepsOthers.setCell _ _ _
    have hk1 : ∀ k, k ≠ w.heap.size → (W.setCell ⟨w.heap.size, 0, none⟩ (.int .i64 (T + y))).heap[k]? = W.heap[k]? := fun k hk => Below.heap_setCell W ⟨w.heap.size, 0, none⟩ _ k hk
    have HM2 := Lib.hid hM2; have HVS := Lib.hid hvS; have HOS := Lib.hid hoS; have HB1 := Lib.hid hB1; have HK1 := Lib.hid hK1; have Hk1 := Lib.hid hk1; have HBW := Lib.hid hBW; have HWs := Lib.hid hWs
    clear hM2 hvS hoS hB1 hK1 hk1 hBW hM hv ho hWs
    simp only [HY.out]
    gi_wp2_with (gi_at_builtin; refine wpListIn_pushG (by simp [World.setCell]) rfl _ _ rfl W3.heap.size _ _ rfl rfl HOS.out HLP.out HYI.out ?_; intro v' w1 ho1 hg1; obtain ⟨g', cap', rfl⟩ := ownI_some ho1; obtain ⟨hv1, hv2, hk2, hkk, hb2⟩ := box_push_lo HVS.out HOS.out (by omega) ho1 hg1; have hc1 := hv1.cell; have hf1 := hv1.frozen)
    have hsz := (HB1.out.trans (hb2.mono (by omega))).size
    refine ⟨HK1.out.trans hk2, ⟨hsz, fun k h1 h2 => (hkk k h2 (by omega)).trans (Hk1.out k (by omega))⟩, ?_, ⟨?_, by have := HWs.out; omega⟩, HBW.out.trans (HB1.out.trans (hb2.mono (by omega)))⟩
    · rw [HS1.out]
      exact (hkk w.heap.size (by omega) (by omega)).trans HM2.out
    · rw [HS2.out]
      exact hv2
  case hdone =>
    rintro D ys W hD rfl ⟨-, ⟨⟨v, hv, ho⟩, hWs⟩, hBW⟩ hK
    rw [valsP_all, ← HT.out] at ho
    have cV := hv.cell
    have HO := Lib.hid ho; have HBW := Lib.hid (B3.out.trans (hBW.mono (Nat.le_refl _))); have HV := Lib.hid hv
    clear ho hv hBW
    gi_wp2
    refine ⟨by simp, .inl ⟨_, _, rfl, run_takeDeferred hK, ?_⟩⟩
    obtain ⟨A', c', rfl, hi⟩ := (ownI_putObj HO.out (.deferred none) hK rfl).iw (by rw [topsL_len]; omega)
    have bb := HBW.out.trans (belowK_b (w := w) (Nat.le_refl _) W D _ (.deferred none) (by omega) hK rfl rfl)
    exact ⟨_, results_tmp rfl _ _ _, A', c', rfl, hi.wide (by omega) (Nat.le_refl _) (Nat.le_refl _), bb⟩
  case hstop =>
    rintro D cd pre W _ _ h _
    exact h.elim
end Go.Proofs.Ytfiojdiogjpakaa
