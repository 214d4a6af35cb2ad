/-
  ValleyCost of the model and of the program. Conditions: the lists' cells are there.
-/
import Derived.Test.YtkghpmjbclnojaaVl1
import Derived.Test.YtkghpmjbclnojaaHvMath
import Derived.Test.YtkghpmjbclnojaaFrom
import Derived.Test.YtkghpmjbclnojaaMgS
import Derived.Test.YtkghpmjbclnojaaHeld
import Derived.Test.YtkghpmjbclnojaaImp4
import Derived.Test.YtkghpmjbclnojaaHl6
import Derived.Test.YtkghpmjbclnojaaPart
import Derived.Test.YtkghpmjbclnojaaDraw2
/-
  The least sums for beginnings, in the model: l4Fall, and ValleyCost. Conditions: the list's cells are there, and it is a row.
-/
namespace Go.Proofs.Ytkghpmjbclnojaa
open Go.RowKit Go.Shelf
attribute [local go_sem] Oper.semAt_some

theorem OwnI.setOut {w : World} {base : Nat} {v : Value} {zs : List Int} (h : OwnI w base v zs) {g o : Nat} (hg : g < base) (u : Value) : OwnI (w.setCell ⟨g, o, none⟩ u) base v zs := by
  obtain ⟨ho, hz, hs⟩ := h
  refine ⟨⟨ho.1, ?_⟩, hz, by simpa [World.setCell] using hs⟩
  rcases ho.2 with h0 | ⟨b, cap, cur, e, hb, hh, r⟩
  · exact .inl h0
  · exact .inr ⟨b, cap, cur, e, hb, (Below.heap_setCell w ⟨g, o, none⟩ u b (by show b ≠ g; omega)).trans hh, r⟩
/-- The costs when kk of them are still those ahead of the entry at t. -/
def mixL (zs vs : List Int) (t kk : Nat) : List Int := (List.range vs.length).map fun j => if j < kk then cF zs vs t j else cF zs vs (t + 1) j
theorem mixL_len (zs vs : List Int) (t kk : Nat) : (mixL zs vs t kk).length = vs.length := by simp [mixL]
theorem mixL_get (zs vs : List Int) (t kk j : Nat) (h : j < (mixL zs vs t kk).length) : (mixL zs vs t kk)[j] = if j < kk then cF zs vs t j else cF zs vs (t + 1) j := by simp [mixL]
theorem mixL_all (zs vs : List Int) (t : Nat) : mixL zs vs t 0 = mixL zs vs (t + 1) vs.length := by
  apply List.ext_getElem
  · rw [mixL_len, mixL_len]
  · intro j h1 h2
    rw [mixL_get, mixL_get, if_neg (by omega), if_pos (by rw [mixL_len] at h1; exact h1)]
theorem mixL_set (zs vs : List Int) (t kk : Nat) : (mixL zs vs t (kk + 1)).set kk (cF zs vs (t + 1) kk) = mixL zs vs t kk := by
  apply List.ext_getElem
  · rw [List.length_set, mixL_len, mixL_len]
  · intro j h1 h2
    rw [List.getElem_set, mixL_get zs vs t kk j h2]
    by_cases e : kk = j
    · subst e; rw [if_pos rfl, if_neg (by omega)]
    · rw [if_neg e, mixL_get]
      by_cases c : j < kk
      · rw [if_pos (by omega), if_pos c]
      · rw [if_neg (by omega), if_neg c]
theorem mixL_zero (zs vs : List Int) : mixL zs vs 0 vs.length = List.replicate vs.length 0 := by
  apply List.ext_getElem
  · rw [mixL_len, List.length_replicate]
  · intro j h1 h2
    rw [mixL_get, if_pos (by rw [mixL_len] at h1; exact h1), List.getElem_replicate]; rfl
/-- The best cost when kk costs are still to come. -/
def bestK (zs vs : List Int) (t kk : Nat) : Int := if kk = vs.length then -1 else gF zs t (vs.getD kk 0)
theorem bestK_step {zs vs : List Int} {t : Nat} (h : ∀ j, j < t → zs.getD j 0 ∈ vs) (hs : ∀ j j', j ≤ j' → j' < vs.length → vs.getD j 0 ≤ vs.getD j' 0) {k : Nat} (hk : k < vs.length) :
    (bestK zs vs t (k + 1) < 0 → bestK zs vs t k = cF zs vs t k) ∧ (0 ≤ bestK zs vs t (k + 1) → cF zs vs t k < bestK zs vs t (k + 1) → bestK zs vs t k = cF zs vs t k) ∧ (0 ≤ bestK zs vs t (k + 1) → ¬ cF zs vs t k < bestK zs vs t (k + 1) → bestK zs vs t k = bestK zs vs t (k + 1)) := by
  have e1 : bestK zs vs t k = gF zs t (vs.getD k 0) := by unfold bestK; rw [if_neg (by omega)]
  by_cases c : k + 1 = vs.length
  · have e2 : bestK zs vs t (k + 1) = -1 := by unfold bestK; rw [if_pos c]
    refine ⟨fun _ => ?_, fun h => by rw [e2] at h; omega, fun h => by rw [e2] at h; omega⟩
    rw [e1, fallC_last h hs c]
  · have e2 : bestK zs vs t (k + 1) = gF zs t (vs.getD (k + 1) 0) := by unfold bestK; rw [if_neg c]
    have nn := gF_nonneg zs t (vs.getD (k + 1) 0)
    have st := fallC_step h hs (show k + 1 < vs.length by omega)
    refine ⟨fun h => by rw [e2] at h; omega, fun _ h2 => ?_, fun _ h2 => ?_⟩
    · rw [e1, st, if_pos (by rwa [e2] at h2)]
    · rw [e1, e2, st, if_neg (by rwa [e2] at h2)]
theorem bestK_f {zs vs : List Int} {t k : Nat} (hk : k < vs.length) : bestK zs vs t k + max (zs.getD t 0 - vs.getD k 0) (vs.getD k 0 - zs.getD t 0) = cF zs vs (t + 1) k := by
  show _ = fF zs t _
  unfold bestK fF absd
  rw [if_neg (by omega)]
  omega
theorem sorted_le {vs : List Int} (h : Sorted vs) : ∀ j j', j ≤ j' → j' < vs.length → vs.getD j 0 ≤ vs.getD j' 0 := by
  intro j j' h1 h2
  obtain ⟨d, rfl⟩ : ∃ d, j' = j + d := ⟨j' - j, by omega⟩
  clear h1
  induction d with
  | zero => exact Int.le_refl _
  | succ d ih =>
    have := ih (by omega)
    have := h (j + d) h2
    rw [show j + (d + 1) = j + d + 1 by omega]
    omega
theorem downs_i64 {zs : List Int} (hr : rowB zs = true) {t : Nat} (ht : t ≤ zs.length) : ∀ z, z ∈ downs zs t → I64 z := by
  have hl := (rowB_true.1 hr).2
  intro z hz
  obtain ⟨j, hj, rfl⟩ := List.mem_map.1 hz
  have hj' : j < t + 1 := List.mem_range.1 hj
  have h1 := downF_nonneg zs j
  have h2 := downF_cap (zs := zs) (i := j) fun k hk => row_getD hr k (by omega)
  exact ⟨by omega, by omega⟩

end Go.Proofs.Ytkghpmjbclnojaa

/-
  ValleyCost of the model. Conditions: the list's cells are there.
-/
namespace Go.Proofs.Ytkghpmjbclnojaa
open Go.RowKit Go.Shelf
attribute [local go_sem] Oper.semAt_some

def costI (zs : List Int) : Int := if rowB zs then costL zs else 0
theorem bestC_bd {zs : List Int} (hr : rowB zs = true) : ∀ k, k ≤ zs.length + 1 → 0 ≤ bestC zs k ∧ bestC zs k ≤ 12000 := by
  have hl := (rowB_true.1 hr).2
  intro k
  induction k with
  | zero =>
    intro _
    have h1 := downF_nonneg zs zs.length
    have h2 := downF_cap (zs := zs) (i := zs.length) fun k hk => row_getD hr k hk
    show 0 ≤ downF zs zs.length ∧ downF zs zs.length ≤ 12000
    omega
  | succ k ih =>
    intro hk
    have h1 := ih (by omega)
    have h2 := costAt_nn zs k
    have h3 := costAt_cap (zs := zs) (row_lo hr) (i := k) (by omega)
    unfold bestC
    omega

end Go.Proofs.Ytkghpmjbclnojaa

/-
  The least cost to rows that never fall: riseCost of the program. Conditions: the lists' cells are there; the levels are sorted, and all entries are among them.
-/
namespace Go.Proofs.Ytkghpmjbclnojaa
open Go.RowKit Go.Shelf
attribute [local go_sem] Oper.semAt_some

/-- The entries at the places that came. -/
def valsP (zs : List Int) (pre : List (Fin zs.length)) : List Int := pre.map fun x => zs[x.1]
theorem valsP_len (zs : List Int) (pre : List (Fin zs.length)) : (valsP zs pre).length = pre.length := by simp [valsP]
theorem valsP_snoc (zs : List Int) (pre : List (Fin zs.length)) (x : Fin zs.length) : valsP zs (pre ++ [x]) = valsP zs pre ++ [zs[x.1]] := by simp [valsP]
theorem valsP_all (zs : List Int) : valsP zs (List.finRange zs.length) = zs := by
  unfold valsP
  apply List.ext_getElem (by simp)
  intro j h1 h2
  simp
theorem valsP_mem {zs : List Int} {pre : List (Fin zs.length)} {z : Int} (h : z ∈ valsP zs pre) : z ∈ zs := by
  obtain ⟨x, -, rfl⟩ := List.mem_map.1 h
  exact List.getElem_mem _
/-- The costs when those of the first k levels have been brought up to date. -/
def mixR (zs vs : List Int) (i k : Nat) : List Int := (List.range vs.length).map fun j => if j < k then rC zs vs (i + 1) j else rC zs vs i j
theorem mixR_len (zs vs : List Int) (i k : Nat) : (mixR zs vs i k).length = vs.length := by simp [mixR]
theorem mixR_get (zs vs : List Int) (i k j : Nat) (h : j < (mixR zs vs i k).length) : (mixR zs vs i k)[j] = if j < k then rC zs vs (i + 1) j else rC zs vs i j := by simp [mixR]
theorem mixR_set (zs vs : List Int) (i k : Nat) : (mixR zs vs i k).set k (rC zs vs (i + 1) k) = mixR zs vs i (k + 1) := by
  apply List.ext_getElem
  · rw [List.length_set, mixR_len, mixR_len]
  · intro j h1 h2
    rw [List.getElem_set, mixR_get zs vs i (k + 1) j h2]
    by_cases e : k = j
    · subst e; rw [if_pos rfl, if_pos (by omega)]
    · rw [if_neg e, mixR_get]
      by_cases c : j < k
      · rw [if_pos c, if_pos (by omega)]
      · rw [if_neg c, if_neg (by omega)]
/-- The costs behind the places that came. -/
def costsP (zs vs : List Int) (pre : List (Fin zs.length)) : List Int := (List.range vs.length).map fun k => rC (valsP zs pre) vs pre.length k
theorem costsP_len (zs vs : List Int) (pre : List (Fin zs.length)) : (costsP zs vs pre).length = vs.length := by simp [costsP]
theorem costsP_nil (zs vs : List Int) : costsP zs vs [] = List.replicate vs.length 0 := by
  apply List.ext_getElem
  · rw [costsP_len, List.length_replicate]
  · intro j h1 h2
    rw [List.getElem_replicate]
    simp [costsP, rC, gF]
theorem costsP_begin (zs vs : List Int) (pre : List (Fin zs.length)) (x : Fin zs.length) : costsP zs vs pre = mixR (valsP zs (pre ++ [x])) vs pre.length 0 := by
  apply List.ext_getElem
  · rw [costsP_len, mixR_len]
  · intro j h1 h2
    rw [mixR_get, if_neg (by omega)]
    simp only [costsP, List.getElem_map, List.getElem_range]
    unfold rC
    refine gF_congr _ (fun m hm => ?_) _
    rw [neg_getD, neg_getD, valsP_snoc, List.getD_eq_getElem?_getD, List.getD_eq_getElem?_getD, List.getElem?_append_left (by rw [valsP_len]; exact hm)]
theorem costsP_end (zs vs : List Int) (pre : List (Fin zs.length)) (x : Fin zs.length) : mixR (valsP zs (pre ++ [x])) vs pre.length vs.length = costsP zs vs (pre ++ [x]) := by
  apply List.ext_getElem
  · rw [costsP_len, mixR_len]
  · intro j h1 h2
    rw [mixR_get, if_pos (by rw [mixR_len] at h1; exact h1)]
    simp [costsP]
theorem valsP_at (zs : List Int) (pre : List (Fin zs.length)) (x : Fin zs.length) : (valsP zs (pre ++ [x])).getD pre.length 0 = zs[x.1] := by
  rw [valsP_snoc, getD_in (by simp [valsP])]
  simp [valsP]

end Go.Proofs.Ytkghpmjbclnojaa

/-
  Values of a row sorted, a row cloned, a row turned round: slices.Values, Sorted, Clone, Reverse. Conditions: the row's cells are there.
-/
namespace Go.Proofs.Ytkghpmjbclnojaa
open Go.RowKit Go.Shelf Go.ChangeShapes Go.WideShapes
attribute [local go_sem] Oper.semAt_some

set_option maxRecDepth 100000 in
set_option maxHeartbeats 1000000 in
theorem values1_in (F : Fence) (n : Nat) (hF : F.fn 136) (hro : F.round = none) (hn : 1 ≤ n) (l Bn n₀ c : Nat) (A : Option Addr) (zs : List Int) (J Jx : List (Fin zs.length) → World → Prop)
    (hY : ∀ pre x W, J pre W → pre.length < zs.length → YieldAt F (n - 1) Try.prog l #[.int .i64 (zs[(x : Fin zs.length)])] W fun e W' =>
      (e = .returned (.bool true) ∧ J (pre ++ [x]) W' ∧ Below n₀ W W') ∨ (e = .returned (.bool false) ∧ Jx (pre ++ [x]) W'))
    (W : World) (hBn : W.cell? ⟨Bn, 0, none⟩ = some (.slice A zs.length c)) (hL : IR W 0 n₀ A zs) (h0 : J [] W) :
    CallsIn F n Try.prog 136 #[.func (.yield l) #[] #[], .pointer (some ⟨Bn, 0, none⟩)] W fun e W' => (∃ v, e = .returned v) ∧
      ((∃ ys, ys = List.finRange zs.length ∧ J ys W') ∨ (∃ pre, True ∧ Jx pre W')) := by
  have hl := hL.1
  refine callsIn_of_wp Try.func136 rfl hF ?_ hro
  simp only [Try.ntmps136, List.size_toArray, List.length_cons, List.length_nil, Nat.reduceAdd, Nat.reduceSub, Array.replicate_succ, Array.replicate_zero, List.push_toArray, List.append_toArray, List.nil_append, List.cons_append]
  gi_wp2
  gi_loopw [7] (fun i wr => ∃ k : Nat, k ≤ zs.length ∧ i = .int .i64 k ∧ IR wr 0 n₀ A zs ∧ J ((List.finRange zs.length).take k) wr)
    (fun i _ => zs.length - (intOf i).toNat)
  case atStart => exact ⟨0, Nat.zero_le _, rfl, hL, by simpa using h0⟩
  case round =>
    obtain ⟨k, hk, rfl, hR, hJ⟩ := hrel
    by_cases hlt : k < zs.length
    · have HR := Lib.hid hR
      obtain ⟨b, off, rfl, _, _, hc⟩ := hR.at_ hlt
      clear hR
      have hlt' : (k : Int) < (zs.length : Int) := by omega
      obtain ⟨fn, tmps, assign, body, hy, hYR⟩ := hY ((List.finRange zs.length).take k) ⟨k, hlt⟩ wr hJ (by simp; omega)
      simp only [Fin.getElem_fin] at hy
      gi_wp2
      refine hYR.mono ?_
      rintro e W3 (⟨rfl, hJ3, hk3⟩ | ⟨rfl, hJx3⟩)
      · have HJ := Lib.hid hJ3; have HK := Lib.hid hk3
        clear hJ3 hk3 hYR hJ
        gi_wp2
        go_roundw
        case rel => exact ⟨k + 1, by omega, by go_num, HR.out.below HK.out (Nat.le_refl _), by rw [← finRange_succ hlt]; exact HJ.out⟩
        case measure => simp [intOf]; omega
      · have HJ := Lib.hid hJx3
        clear hJx3 hYR hJ
        gi_wp2
        refine bodyPost_ret (results_none rfl _ _ _) rfl ?_
        exact ⟨⟨_, rfl⟩, .inr ⟨_, trivial, HJ.out⟩⟩
    · obtain rfl : k = zs.length := by omega
      have HJ := Lib.hid hJ
      clear hJ
      gi_wp2
      go_end0
      exact ⟨⟨_, rfl⟩, .inl ⟨_, rfl, by have := HJ.out; rwa [List.take_of_length_le (by simp)] at this⟩⟩

theorem values_any (A : Option Addr) (m c : Nat) (w : World) :
    Calls Try.prog 123 #[.slice A m c] w fun e w' => e = .returned (.func (.func 136) #[] #[.pointer (some ⟨w.heap.size, 0, none⟩)]) ∧ w' = w.alloc (.cells #[.slice A m c] 97) := by
  have hmf : ∀ (fn : Fn) (first cap : Array Value) (w : World), (Instr.makeFunc fn first cap).run Try.prog w = .ok (.func fn first cap) w := fun _ _ _ _ => rfl
  go_enter Try.func123, Try.ntmps123
  go_wp2
  go_ret
  exact ⟨rfl, rfl⟩

theorem values_stops (F : Fence) (n : Nat) (hF : F.fn 136) (hro : F.round = none) (hn : 1 ≤ n) (Bn n₀ c : Nat) (A : Option Addr) (zs : List Int) (w : World) (hBn : Bn < w.heap.size) (hn₀ : n₀ ≤ w.heap.size)
    (hc : w.cell? ⟨Bn, 0, none⟩ = some (.slice A zs.length c)) (hL : IR w 0 n₀ A zs) :
    SeqStopsK F n Try.prog 136 #[.pointer (some ⟨Bn, 0, none⟩)] (fun x : Fin zs.length => #[.int .i64 zs[x]]) (Below n₀) (fun ys => ys = List.finRange zs.length) (fun _ => True) zs.length w := fun l J Jx W hW _ _ hY h0 =>
  values1_in F n hF hro hn l Bn n₀ c A zs J Jx hY W ((hW.cell (p := ⟨Bn, 0, none⟩) hBn).trans hc) (hL.below hW hn₀) h0

set_option maxRecDepth 100000 in
set_option maxHeartbeats 1000000 in
theorem appendValues_own (A : Option Addr) (c Bn : Nat) (zs : List Int) (hzl : zs.length ≤ 1000) (w : World) (hBn : Bn < w.heap.size) (hc : w.cell? ⟨Bn, 0, none⟩ = some (.slice A zs.length c)) (h : IR w 0 w.heap.size A zs) :
    Calls Try.prog 117 #[.slice none 0 0, .func (.func 136) #[] #[.pointer (some ⟨Bn, 0, none⟩)]] w fun e w' => ∃ v, e = .returned v ∧ OwnI w' w.heap.size v zs ∧ Below w.heap.size w w' := by
  have HI := Lib.hid (fun (x : Fin zs.length) => h.2.1 _ (List.getElem_mem x.2))
  refine (callsIn_wide (n := 6)).1 ?_
  refine callsIn_of_wp_marks Try.func117 rfl trivial ?_ rfl
  simp only [Try.ntmps117, List.size_toArray, List.length_cons, List.length_nil, Nat.reduceAdd, Nat.reduceSub, Array.replicate_succ, Array.replicate_zero, List.push_toArray, List.append_toArray, List.nil_append, List.cons_append]
  gi_wp2
  have bO := Boxed.new w 26 (.slice none 0 0)
  have hB0 : Below w.heap.size w (w.alloc (.cells #[.slice none 0 0] 26)) := (Below.refl _ w).alloc (Nat.le_refl _) _
  have hR0 := h.grow hB0
  apply (fun a₁ => wpIn_rangeFunc_ownF (F := Fence.wide) rfl (by decide) (gf := 136) (lb := #[.pointer (some ⟨Bn, 0, none⟩)]) rfl trivial (enters_of Try.func136 (by kernel_rfl) rfl)
    (values_stops Fence.wide (6 - 1) trivial rfl (by decide) Bn w.heap.size c A zs _ (by simp; omega) (by simp) ((hB0.cell (p := ⟨Bn, 0, none⟩) hBn).trans hc) hR0) belowK_t (belowK_b (by simp)) (Below.refl _ _) (fun _ => rfl)
    (fun pre W => (BoxOwn W w.heap.size w.heap.size (pre.map fun x => zs[x]) ∧ w.heap.size ≤ W.heap.size) ∧ Below w.heap.size w W)
    (fun _ _ _ => False)
    (OwnFrom.and (boxOwn_own _ _ _ _) (ownFrom_below (Nat.le_refl _) (by simp)))
    (fun _ _ _ _ _ hs _ _ => hs)
    ⟨⟨⟨_, bO, OwnI.nil _ _ (by simp)⟩, by simp⟩, hB0⟩ a₁)
  case hassign =>
    intro l x W K hK
    gi_wp2
    exact hK
  case hbody =>
    rintro l pre x W ⟨⟨⟨v, hv, ho⟩, hs⟩, hB⟩ hlt
    have hcx := hv.cell
    have hy := HI.out x
    have HV := Lib.hid hv; have HO := Lib.hid ho; have HBB := Lib.hid hB; have HY := Lib.hid hy
    have hll : (pre.map fun x => zs[x]).length < 17592186044416 := by simp; omega
    have HLL := Lib.hid hll
    clear hv ho hB hy hll
    gi_wp2_with (gi_at_builtin; refine wpListIn_push rfl _ _ rfl w.heap.size _ _ rfl rfl HO.out HLL.out HY.out ?_; intro v' w1 ho1 hg1; obtain ⟨g', cap', rfl⟩ := ownI_some ho1; obtain ⟨hv1, hv2, hk2, hb2⟩ := box_push HV.out HO.out (Nat.le_refl _) ho1 hg1; have hc1 := hv1.cell; have hf1 := hv1.frozen)
    simp only [List.length_map] at hv2 hk2 hb2
    exact ⟨hk2, hb2, ⟨by rw [List.map_append]; exact hv2, by have := hb2.size; omega⟩, HBB.out.trans hb2⟩
  case hdone =>
    rintro D ys W hD rfl ⟨⟨⟨v, hv, ho⟩, hs⟩, hB⟩ hK
    have hcx := hv.cell
    have e : (List.finRange zs.length).map (fun x => zs[x]) = zs := by
      apply List.ext_getElem <;> simp
    rw [e] at ho
    have HO := Lib.hid ho; have HBB := Lib.hid hB; have HV := Lib.hid hv
    clear ho hB e hv
    gi_wp2
    refine ⟨by simp, .inl ⟨_, _, rfl, run_takeDeferred hK, ?_⟩⟩
    exact ⟨_, results_tmp rfl _ _ _, v, rfl, ownI_putObj HO.out (.deferred none) hK rfl, HBB.out.trans (belowK_b (w := w) (Nat.le_refl _) W D _ _ (by simp at hD; omega) hK rfl rfl)⟩
  case hstop =>
    rintro D cd pre W _ _ h _
    exact h.elim

set_option maxHeartbeats 400000 in
theorem collectValues_own (A : Option Addr) (c Bn : Nat) (zs : List Int) (hzl : zs.length ≤ 1000) (w : World) (hBn : Bn < w.heap.size) (hc : w.cell? ⟨Bn, 0, none⟩ = some (.slice A zs.length c)) (h : IR w 0 w.heap.size A zs) :
    Calls Try.prog 101 #[.func (.func 136) #[] #[.pointer (some ⟨Bn, 0, none⟩)]] w fun e w' => ∃ v, e = .returned v ∧ OwnI w' w.heap.size v zs ∧ Below w.heap.size w w' := by
  have HC := Lib.hid hc
  clear hc
  go_enter Try.func101, Try.ntmps101
  go_wp2_with (go_at_call 117; refine (appendValues_own _ _ _ zs hzl _ hBn HC.out h).mono ?_; rintro e w' ⟨v, rfl, hi', hb'⟩)
  go_ret
  exact ⟨_, rfl, hi', hb'⟩

set_option maxHeartbeats 400000 in
theorem sortedValues_any (A : Option Addr) (c Bn : Nat) (zs : List Int) (hzl : zs.length ≤ 1000) (w : World) (hBn : Bn < w.heap.size) (hc : w.cell? ⟨Bn, 0, none⟩ = some (.slice A zs.length c)) (h : IR w 0 w.heap.size A zs) :
    Calls Try.prog 122 #[.func (.func 136) #[] #[.pointer (some ⟨Bn, 0, none⟩)]] w (RetS w (zs.mergeSort fun x y => decide (x ≤ y))) := by
  have HC := Lib.hid hc; have H := Lib.hid h
  clear hc h
  go_enter Try.func122, Try.ntmps122
  go_wp2_with (go_at_call 101; refine (collectValues_own _ _ _ zs hzl _ hBn HC.out H.out).mono ?_; rintro e w1 ⟨v, rfl, ho, hb⟩; have HO := Lib.hid ho; have HB := Lib.hid hb; clear ho hb)
  go_wp2_with (go_at_call 135; refine (sortOwn_any w.heap.size v _ w1 HO.out hzl).mono ?_; rintro e w2 ⟨rfl, ho, hb⟩; have HO2 := Lib.hid ho; have HB2 := Lib.hid hb; clear ho hb)
  go_wp2
  go_ret
  obtain ⟨A', c', rfl, hi⟩ := HO2.out.iw (by rw [List.length_mergeSort]; omega)
  exact ⟨A', c', rfl, hi, HB.out.trans HB2.out⟩

/-! ### Clone -/
theorem wpList_appendsRow {ops : Array Oper} {rest : List Oper} {o : Oper} {a : Act} {w : World} {Q : Exit → Act → World → Prop} (hgd : o.guard = none) (s x : Operand)
    (ho : o.op = .call { callee := .builtin .append, args := #[s, x], argTypes := #[97, 97] })
    (base : Nat) (v : Value) (zs ys : List Int) (b off n c : Nat) (hn : n = ys.length) (hs : a.eval s = v) (hx : a.eval x = .slice (some ⟨b, off, none⟩) n c) (hown : OwnI w base v zs)
    (hc : ∀ (j : Nat) (h : j < ys.length), w.cell? ⟨b, off + j, none⟩ = some (.int .i64 ys[j])) (hl : zs.length + ys.length ≤ 17592186044416) (hy : ∀ y, y ∈ ys → I64 y)
    (h : ∀ v' w', OwnI w' base v' (zs ++ ys) → Below base w w' → wpList Try.prog ops Q rest (a.put o.dst v') w') : wpList Try.prog ops Q (o :: rest) a w := by
  subst hn
  refine wpList_plain hgd fun K hK => ?_
  obtain ⟨i0, hi, hz0, hz1, hz2⟩ := info_parts info_int
  obtain ⟨v', w', hrun, h2, h3, _⟩ := run_append_own (P := Try.prog) w base 97 o.type 3 i0 (.int .i64 0) 1 8 Try.underlying97 hi hz0 hz1 hz2 rfl (by decide) v zs.length (zs.map (Value.int .i64)) hown.1 ⟨b, off, none⟩ ys.length c (ys.map (Value.int .i64)) (by simp)
    (fun j u hj => by
      rw [List.getElem?_map] at hj
      by_cases hjl : j < ys.length
      · rw [List.getElem?_eq_getElem hjl] at hj
        simp at hj
        subst hj
        rw [add_plain]
        exact hc j hjl
      · rw [List.getElem?_eq_none (by omega)] at hj; cases hj) (by intro u hu; obtain ⟨y, _, rfl⟩ := List.mem_map.1 hu; rfl) (by unfold maxLen; omega) (by omega) hown.2.2
  unfold Oper.wp execOp
  simp only [ho, resolve, invoke, builtin, Sem.run_bind, Sem.run_pure, Result.andThen_ok, List.map_toArray, List.map_cons, List.map_nil, hs, hx, hrun]
  refine hK _ _ (h v' w' ⟨by simpa using h2, ?_, Nat.le_trans hown.2.2 h3.size⟩ ((Below.refl base w).grown h3 hown.2.2 fun k hk => (hown.1.lt k hk).1))
  intro z hz
  rcases List.mem_append.1 hz with hz | hz
  · exact hown.2.1 z hz
  · exact hy z hz

/-! ### Reverse -/
/-- The first k entries and the last k have changed their places. -/
def revTo (ys : List Int) (k : Nat) : List Int := (List.range ys.length).map fun j => if j < k ∨ ys.length - k ≤ j then ys.getD (ys.length - 1 - j) 0 else ys.getD j 0
theorem revTo_len (ys : List Int) (k : Nat) : (revTo ys k).length = ys.length := by simp [revTo]
theorem revTo_get (ys : List Int) (k j : Nat) (h : j < (revTo ys k).length) : (revTo ys k)[j] = if j < k ∨ ys.length - k ≤ j then ys.getD (ys.length - 1 - j) 0 else ys.getD j 0 := by simp [revTo]
theorem revTo_zero (ys : List Int) : revTo ys 0 = ys := by
  apply List.ext_getElem (revTo_len _ _)
  intro j h1 h2
  rw [revTo_get, if_neg (by omega), getD_in h2]
theorem revTo_step (ys : List Int) {k : Nat} (h : k < ys.length - 1 - k) : ((revTo ys k).set k (ys.getD (ys.length - 1 - k) 0)).set (ys.length - 1 - k) (ys.getD k 0) = revTo ys (k + 1) := by
  apply List.ext_getElem
  · rw [List.length_set, List.length_set, revTo_len, revTo_len]
  · intro j h1 h2
    rw [List.getElem_set, List.getElem_set, revTo_get ys (k + 1) j h2]
    by_cases e1 : ys.length - 1 - k = j
    · rw [if_pos e1, if_pos (by omega), show ys.length - 1 - j = k by omega]
    · rw [if_neg e1]
      by_cases e2 : k = j
      · rw [if_pos e2, if_pos (by omega), e2]
      · rw [if_neg e2, revTo_get]
        by_cases c : j < k ∨ ys.length - k ≤ j
        · rw [if_pos c, if_pos (by omega)]
        · rw [if_neg c, if_neg (by omega)]
theorem revTo_all (ys : List Int) {k : Nat} (h : ¬ k < ys.length - 1 - k) (hk : 2 * k ≤ ys.length) : revTo ys k = ys.reverse := by
  apply List.ext_getElem
  · rw [revTo_len, List.length_reverse]
  · intro j h1 h2
    rw [revTo_get, ← getD_in h2, reverse_getD ys j (by rw [revTo_len] at h1; exact h1)]
    rw [revTo_len] at h1
    by_cases c : j < k ∨ ys.length - k ≤ j
    · rw [if_pos c]
    · rw [if_neg c, show ys.length - 1 - j = j by omega]

end Go.Proofs.Ytkghpmjbclnojaa

/-
  ValleyCost of the program: a row parted at each place. Conditions: the list's cells are there.
-/
namespace Go.Proofs.Ytkghpmjbclnojaa
open Go.RowKit Go.Shelf
attribute [local go_sem] Oper.semAt_some

theorem IR.drop {w : World} {lo hi b off k : Nat} {zs : List Int} (h : IR w lo hi (some ⟨b, off, none⟩) zs) : IR w lo hi (some ⟨b, off + k, none⟩) (zs.drop k) :=
  ⟨by have := h.1; rw [List.length_drop]; omega, fun z hz => h.2.1 z (List.mem_of_mem_drop hz), h.2.2.1, fun hp => by
    rw [List.length_drop] at hp
    obtain ⟨b', o', e, h1, h2, h3⟩ := h.2.2.2 (by omega)
    injection e with e; injection e with e1 e2 _; subst e1; subst e2
    refine ⟨b, off + k, rfl, h1, h2, fun j hj => ?_⟩
    rw [List.length_drop] at hj
    have := h3 (k + j) (by omega)
    rw [Nat.add_assoc, List.getElem_drop]
    exact this⟩
def minP (zs : List Int) (pre : List (Fin zs.length)) : Int := pre.foldl (fun (m : Int) (x : Fin zs.length) => min m (costAt zs (x.1 + 1))) 9223372036854775807
theorem minP_snoc (zs : List Int) (pre : List (Fin zs.length)) (x : Fin zs.length) : minP zs (pre ++ [x]) = min (minP zs pre) (costAt zs (x.1 + 1)) := by simp [minP]
theorem minP_take (zs : List Int) : ∀ k, k ≤ zs.length → minP zs ((List.finRange zs.length).take k) = minI zs k := by
  intro k
  induction k with
  | zero => intro _; rfl
  | succ k ih =>
    intro hk
    rw [← finRange_succ (show k < zs.length by omega), minP_snoc, ih (by omega), minI]
theorem minP_all (zs : List Int) : minP zs (List.finRange zs.length) = minI zs zs.length := by
  have := minP_take zs zs.length (Nat.le_refl _)
  rwa [List.take_of_length_le (by simp)] at this
theorem minP_bd (zs : List Int) (pre : List (Fin zs.length)) : 0 ≤ minP zs pre ∧ minP zs pre ≤ 9223372036854775807 := by
  unfold minP
  suffices h : ∀ m : Int, 0 ≤ m ∧ m ≤ 9223372036854775807 → 0 ≤ pre.foldl (fun (m : Int) (x : Fin zs.length) => min m (costAt zs (x.1 + 1))) m ∧ pre.foldl (fun (m : Int) (x : Fin zs.length) => min m (costAt zs (x.1 + 1))) m ≤ 9223372036854775807 from h _ (by omega)
  induction pre with
  | nil => intro m h; exact h
  | cons x pre ih =>
    intro m h
    refine ih _ ?_
    have := costAt_nn zs (x.1 + 1)
    show 0 ≤ min m (costAt zs (x.1 + 1)) ∧ min m (costAt zs (x.1 + 1)) ≤ 9223372036854775807
    omega

end Go.Proofs.Ytkghpmjbclnojaa
