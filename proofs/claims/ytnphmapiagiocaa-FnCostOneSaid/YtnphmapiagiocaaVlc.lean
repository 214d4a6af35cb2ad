/-
  ValleyCost of the model and of the program. Conditions: the lists' cells are there.
-/
import Derived.Test.YtnphmapiagiocaaVl1
import Derived.Test.YtnphmapiagiocaaHvMath
import Derived.Test.YtnphmapiagiocaaFrom
import Derived.Test.YtnphmapiagiocaaMgS
import Derived.Test.YtnphmapiagiocaaHeld
import Derived.Test.YtnphmapiagiocaaImp4
import Derived.Test.YtnphmapiagiocaaHl6
import Derived.Test.YtnphmapiagiocaaPart
import Derived.Test.YtnphmapiagiocaaDraw2
/-
  The least sums for beginnings, in the model: l4Fall, and ValleyCost. Conditions: the list's cells are there, and it is a row.
-/
namespace Go.Proofs.Ytnphmapiagiocaa
open Go.RowKit Go.Shelf
attribute [local go_sem] Oper.semAt_some

theorem OwnI.setOut {w : World} {base : Nat} {v : Value} {zs : List Int} (h : OwnI w base v zs) {g o : Nat} (hg : g < base) (u : Value) : OwnI (w.setCell ⟨g, o, none⟩ u) base v zs := by
  obtain ⟨ho, hz, hs⟩ := h
  refine ⟨⟨ho.1, ?_⟩, hz, by simpa [World.setCell] using hs⟩
  rcases ho.2 with h0 | ⟨b, cap, cur, e, hb, hh, r⟩
  · exact .inl h0
  · exact .inr ⟨b, cap, cur, e, hb, (Below.heap_setCell w ⟨g, o, none⟩ u b (by show b ≠ g; omega)).trans hh, r⟩
/-- The costs when kk of them are still those ahead of the entry at t. -/
def mixL (zs vs : List Int) (t kk : Nat) : List Int := (List.range vs.length).map fun j => if j < kk then cF zs vs t j else cF zs vs (t + 1) j
theorem mixL_len (zs vs : List Int) (t kk : Nat) : (mixL zs vs t kk).length = vs.length := by simp [mixL]
theorem mixL_get (zs vs : List Int) (t kk j : Nat) (h : j < (mixL zs vs t kk).length) : (mixL zs vs t kk)[j] = if j < kk then cF zs vs t j else cF zs vs (t + 1) j := by simp [mixL]
theorem mixL_all (zs vs : List Int) (t : Nat) : mixL zs vs t 0 = mixL zs vs (t + 1) vs.length := by
  apply List.ext_getElem
  · rw [mixL_len, mixL_len]
  · intro j h1 h2
    rw [mixL_get, mixL_get, if_neg (by omega), if_pos (by rw [mixL_len] at h1; exact h1)]
theorem mixL_set (zs vs : List Int) (t kk : Nat) : (mixL zs vs t (kk + 1)).set kk (cF zs vs (t + 1) kk) = mixL zs vs t kk := by
  apply List.ext_getElem
  · rw [List.length_set, mixL_len, mixL_len]
  · intro j h1 h2
    rw [List.getElem_set, mixL_get zs vs t kk j h2]
    by_cases e : kk = j
    · subst e; rw [if_pos rfl, if_neg (by omega)]
    · rw [if_neg e, mixL_get]
      by_cases c : j < kk
      · rw [if_pos (by omega), if_pos c]
      · rw [if_neg (by omega), if_neg c]
theorem mixL_zero (zs vs : List Int) : mixL zs vs 0 vs.length = List.replicate vs.length 0 := by
  apply List.ext_getElem
  · rw [mixL_len, List.length_replicate]
  · intro j h1 h2
    rw [mixL_get, if_pos (by rw [mixL_len] at h1; exact h1), List.getElem_replicate]; rfl
/-- The best cost when kk costs are still to come. -/
def bestK (zs vs : List Int) (t kk : Nat) : Int := if kk = vs.length then -1 else gF zs t (vs.getD kk 0)
theorem bestK_step {zs vs : List Int} {t : Nat} (h : ∀ j, j < t → zs.getD j 0 ∈ vs) (hs : ∀ j j', j ≤ j' → j' < vs.length → vs.getD j 0 ≤ vs.getD j' 0) {k : Nat} (hk : k < vs.length) :
    (bestK zs vs t (k + 1) < 0 → bestK zs vs t k = cF zs vs t k) ∧ (0 ≤ bestK zs vs t (k + 1) → cF zs vs t k < bestK zs vs t (k + 1) → bestK zs vs t k = cF zs vs t k) ∧ (0 ≤ bestK zs vs t (k + 1) → ¬ cF zs vs t k < bestK zs vs t (k + 1) → bestK zs vs t k = bestK zs vs t (k + 1)) := by
  have e1 : bestK zs vs t k = gF zs t (vs.getD k 0) := by unfold bestK; rw [if_neg (by omega)]
  by_cases c : k + 1 = vs.length
  · have e2 : bestK zs vs t (k + 1) = -1 := by unfold bestK; rw [if_pos c]
    refine ⟨fun _ => ?_, fun h => by rw [e2] at h; omega, fun h => by rw [e2] at h; omega⟩
    rw [e1, fallC_last h hs c]
  · have e2 : bestK zs vs t (k + 1) = gF zs t (vs.getD (k + 1) 0) := by unfold bestK; rw [if_neg c]
    have nn := gF_nonneg zs t (vs.getD (k + 1) 0)
    have st := fallC_step h hs (show k + 1 < vs.length by omega)
    refine ⟨fun h => by rw [e2] at h; omega, fun _ h2 => ?_, fun _ h2 => ?_⟩
    · rw [e1, st, if_pos (by rwa [e2] at h2)]
    · rw [e1, e2, st, if_neg (by rwa [e2] at h2)]
theorem bestK_f {zs vs : List Int} {t k : Nat} (hk : k < vs.length) : bestK zs vs t k + max (zs.getD t 0 - vs.getD k 0) (vs.getD k 0 - zs.getD t 0) = cF zs vs (t + 1) k := by
  show _ = fF zs t _
  unfold bestK fF absd
  rw [if_neg (by omega)]
  omega
theorem sorted_le {vs : List Int} (h : Sorted vs) : ∀ j j', j ≤ j' → j' < vs.length → vs.getD j 0 ≤ vs.getD j' 0 := by
  intro j j' h1 h2
  obtain ⟨d, rfl⟩ : ∃ d, j' = j + d := ⟨j' - j, by omega⟩
  clear h1
  induction d with
  | zero => exact Int.le_refl _
  | succ d ih =>
    have := ih (by omega)
    have := h (j + d) h2
    rw [show j + (d + 1) = j + d + 1 by omega]
    omega
theorem downs_i64 {zs : List Int} (hr : rowB zs = true) {t : Nat} (ht : t ≤ zs.length) : ∀ z, z ∈ downs zs t → I64 z := by
  have hl := (rowB_true.1 hr).2
  intro z hz
  obtain ⟨j, hj, rfl⟩ := List.mem_map.1 hz
  have hj' : j < t + 1 := List.mem_range.1 hj
  have h1 := downF_nonneg zs j
  have h2 := downF_cap (zs := zs) (i := j) fun k hk => row_getD hr k (by omega)
  exact ⟨by omega, by omega⟩

set_option maxRecDepth 100000 in
set_option maxHeartbeats 1000000 in
theorem l4Fall_any (A : Option Addr) (c : Nat) (zs : List Int) (w : World) (h : IR w 0 w.heap.size A zs) (hr : rowB zs = true) :
    Calls Try.prog 51 #[.slice A zs.length c] w (RetS w (downs zs zs.length)) := by
  have hl := (rowB_true.1 hr).2
  have HR := Lib.hid hr; clear hr
  have H := Lib.hid h; clear h
  refine (callsIn_wide (n := 6)).1 ?_
  refine callsIn_of_wp Try.func51 rfl trivial ?_
  simp only [Try.ntmps51, List.size_toArray, List.length_cons, List.length_nil, Nat.reduceAdd, Nat.reduceSub, Array.replicate_succ, Array.replicate_zero, List.push_toArray, List.append_toArray, List.nil_append, List.cons_append]
  gi_wp2_with fail
  refine ⟨trivial, ?_⟩
  gi_at_call 81
  refine (callsIn_wide.2 (l3Sorted_is A zs.length c zs w H.out (by omega) rfl)).mono ?_
  rintro e w3 ⟨vs, hp, hs, A3, c3, rfl, hi3, hb3⟩
  have hvl : vs.length = zs.length := hp.length_eq
  have HV := Lib.hid hi3; have HB3 := Lib.hid hb3; have HVS := Lib.hid (sorted_le hs)
  have HMEM := Lib.hid (fun (t : Nat) (j : Nat) (hj : j < t) (ht : t ≤ zs.length) => (show zs.getD j 0 ∈ vs by rw [getD_in (show j < zs.length by omega)]; exact hp.symm.subset (List.getElem_mem _)))
  have HVB := Lib.hid (fun (j : Nat) (hj : j < vs.length) => (show -1000 ≤ vs.getD j 0 ∧ vs.getD j 0 ≤ 1000 by
    rw [getD_in hj]; exact (rowB_true.1 HR.out).1 _ (hp.subset (List.getElem_mem hj))))
  replace H := Lib.hid (H.out.below hb3 (Nat.le_refl _))
  clear hi3 hb3 hs hp
  obtain ⟨n, hn⟩ : ∃ n, vs.length = n := ⟨_, rfl⟩
  have hn0 : zs.length = n := by omega
  have hn1 : 1 ≤ n := by omega
  have hn2 : n ≤ 12 := by omega
  obtain ⟨bv, ov, rfl, hv1, hv2, -⟩ := HV.out.toIR.at_ (k := 0) (by omega)
  obtain ⟨ba, oa, rfl, ha1, ha2, -⟩ := H.out.at_ (k := 0) (by omega)
  have hmk : (Instr.makeSlice 23 (.int .i64 (n : Int)) (.int .i64 (n : Int))).run Try.prog w3 = .ok (.slice (some ⟨w3.heap.size, 0, none⟩) n n) (w3.alloc (.cells (madeCells #[.int .i64 0] n) 3)) := by
    obtain ⟨i0, hi, hz0, hz1, hz2⟩ := info_parts info_int
    have hr := run_make (P := Try.prog) w3 23 3 i0 (.int .i64 0) Try.underlying23 hi hz0 .i64 .i64 n n (by omega) (Int.le_refl _) (by rw [hz2]; omega) (by omega)
    rw [hz1] at hr
    simpa [Value.cells] using hr
  have hc0 : Cells (w3.alloc (.cells (madeCells #[.int .i64 0] n) 3)) w3.heap.size 0 (mixL zs vs 0 vs.length) := by rw [mixL_zero, hn]; exact Cells.made w3 n 3
  have hc0' : Cells ((w3.alloc (.cells (madeCells #[.int .i64 0] n) 3)).alloc (.cells #[.int .i64 0] 3)) w3.heap.size 0 (mixL zs vs 0 vs.length) := fun j hj => by
    have hk := Below.heap_alloc (w3.alloc (.cells (madeCells #[.int .i64 0] n) 3)) (.cells #[.int .i64 0] 3) w3.heap.size (by simp)
    exact ⟨(World.cell?_of_block (a := ⟨w3.heap.size, 0 + j, none⟩) hk).trans (hc0 j hj).1, (World.frozen?_of_block (a := ⟨w3.heap.size, 0 + j, none⟩) hk).trans (hc0 j hj).2⟩
  have HC0 := Lib.hid hc0'; clear hc0 hc0'
  have ho1 := OwnI.one (w3.alloc (.cells (madeCells #[.int .i64 0] n) 3)) 0 (by unfold I64; omega)
  rw [World.size_alloc] at ho1
  have HO1 : Hid (OwnI ((w3.alloc (.cells (madeCells #[.int .i64 0] n) 3)).alloc (.cells #[.int .i64 0] 3)) (w3.heap.size + 1) (.slice (some ⟨w3.heap.size + 1, 0, none⟩) 1 1) (downs zs 0)) := by
    have e : downs zs 0 = [0] := by simp [downs, downF, gF]
    rw [e]; exact ho1
  clear ho1
  rw [hvl, hn0]
  gi_wp2
  clear hmk
  gi_loopw [5, 6, 7, 8, 9, 10] (fun out i _ _ _ _ wr => ∃ t : Nat, t ≤ n ∧ i = .int .i64 (t : Int) ∧ OwnI wr (w3.heap.size + 1) out (downs zs t) ∧ Cells wr w3.heap.size 0 (mixL zs vs t vs.length) ∧ Below w3.heap.size w3 wr) (fun _ i _ _ _ _ _ => n - (intOf i).toNat)
  case atStart => exact ⟨0, Nat.zero_le _, rfl, HO1.out, HC0.out, ((Below.refl _ _).alloc (Nat.le_refl _) _).alloc (by simp) _⟩
  case round =>
    obtain ⟨t, ht, rfl, ho, hc, hb⟩ := hrel
    have HO := Lib.hid ho; have HC := Lib.hid hc; have HB := Lib.hid hb
    clear ho hc hb HC0 HO1
    by_cases hlt : t < n
    · have hlt' : (t : Int) < (n : Int) := by omega
      have htz : t < zs.length := by omega
      have HBK := Lib.hid (fun k hk => bestK_step (zs := zs) (vs := vs) (t := t) (fun j hj => HMEM.out t j hj (by omega)) HVS.out (k := k) hk)
      have HBF := Lib.hid (fun k hk => bestK_f (zs := zs) (vs := vs) (t := t) (k := k) hk)
      obtain ⟨b', o', e, _, _, hcx⟩ := H.out.at_ htz
      injection e with e; injection e with e1 e2 _; subst e1; subst e2
      rw [← getD_in htz] at hcx
      obtain ⟨x1, x2⟩ := row_getD HR.out t htz
      obtain ⟨x, hx⟩ : ∃ x, zs.getD t 0 = x := ⟨_, rfl⟩
      rw [hx] at hcx x1 x2 HBF
      have HX3 := Lib.hid hcx
      clear hx hcx
      have s1 : IntKind.i64.wrap ((n : Int) - 1) = (n : Int) - 1 := IntWalk.i64_in _ (by omega)
      gi_wp2
      gi_loopw [7, 8] (fun best k' wr => ∃ kk : Nat, kk ≤ n ∧ k' = .int .i64 ((kk : Int) - 1) ∧ best = .int .i64 (bestK zs vs t kk) ∧ Cells wr w3.heap.size 0 (mixL zs vs t kk) ∧ OwnI wr (w3.heap.size + 1) u5 (downs zs t) ∧ Below w3.heap.size w3 wr) (fun _ k _ => (intOf k + 1).toNat)
      case atStart => exact ⟨n, Nat.le_refl _, rfl, by unfold bestK; rw [if_pos hn.symm], by rw [← hn]; exact HC.out, HO.out, HB.out⟩
      case round =>
        clear HC HO HB s1
        obtain ⟨kk, hkk, rfl, rfl, hc, ho, hb⟩ := hrel
        have HO := Lib.hid ho; have HC := Lib.hid hc; have HB := Lib.hid hb
        clear ho hc hb
        rcases Nat.eq_zero_or_pos kk with hk0 | hk0
        · subst hk0
          have HCB := Lib.hid (fun k (hk : k < n) => (show 0 ≤ cF zs vs (t + 1) k ∧ cF zs vs (t + 1) k ≤ 24000 from by
            have h1 := cF_nn zs vs (t + 1) k
            have h2 := cF_cap (zs := zs) (vs := vs) (t + 1) k (fun j hj => row_getD HR.out j (by omega)) (HVB.out k (by omega))
            omega))
          have hcc : ∀ k, k < n → wr.cell? ⟨w3.heap.size, k, none⟩ = some (.int .i64 (cF zs vs (t + 1) k)) := fun k hk => by
            have h := (HC.out k (by rw [mixL_len]; omega)).1
            rw [Nat.zero_add, mixL_get, if_neg (by omega)] at h
            exact h
          have hc0 := hcc 0 (by omega)
          have HCC := Lib.hid hcc; clear hcc
          have HLE : Hid (minN (fun k => cF zs vs (t + 1) k) (n - 1) = downF zs (t + 1)) := by
            have h := fallC_least (zs := zs) (vs := vs) (i := t) (fun j hj => HMEM.out (t + 1) j hj (by omega)) HVS.out (fun j hj => (HVB.out j hj).1) (by omega)
            rwa [hn] at h
          have hn1' : (0 : Int) < (n : Int) := by omega
          have q0 : ¬ ((0 : Nat) : Int) - 1 ≥ 0 := by omega
          gi_wp2
          gi_loopw [9, 10] (fun least k' wr' => ∃ k : Nat, k + 1 ≤ n ∧ k' = .int .i64 ((k : Int) + 1) ∧ least = .int .i64 (minN (fun k => cF zs vs (t + 1) k) k) ∧ wr' = wr) (fun _ k _ => (n : Nat) - (intOf k).toNat)
          case atStart => exact ⟨0, hn1, rfl, rfl, rfl⟩
          case round =>
            obtain ⟨k, hk, rfl, rfl, rfl⟩ := hrel
            by_cases hlt2 : k + 1 < n
            · have hc1 := HCC.out (k + 1) hlt2
              have hb1 := HCB.out (k + 1) hlt2
              have hb2 := minN_bd (f := fun k => cF zs vs (t + 1) k) (n := k) (M := 24000) fun j hj => HCB.out j (by omega)
              have HMN : Hid (minN (fun k => cF zs vs (t + 1) k) (k + 1) = min (minN (fun k => cF zs vs (t + 1) k) k) (cF zs vs (t + 1) (k + 1))) := rfl
              obtain ⟨v, hv⟩ : ∃ v, cF zs vs (t + 1) (k + 1) = v := ⟨_, rfl⟩
              obtain ⟨u, hu⟩ : ∃ v, minN (fun k => cF zs vs (t + 1) k) k = v := ⟨_, rfl⟩
              rw [hv] at hc1 hb1 HMN
              rw [hu] at hb2 HMN
              rw [hu]
              clear hu hv hc0
              have q1 : (k : Int) + 1 < (n : Int) := by omega
              have q2 : (0 : Int) ≤ (k : Int) + 1 := by omega
              have q3 : ((k : Int) + 1).toNat = k + 1 := by omega
              gi_wp2
              go_roundw
              case rel => exact ⟨k + 1, by omega, by go_num, by rw [HMN.out], by first | rfl | trivial⟩
              case measure => simp [intOf] <;> omega
            · have q1 : ¬ (k : Int) + 1 < (n : Int) := by omega
              obtain rfl : k = n - 1 := by omega
              rw [HLE.out]
              have HY : Hid (I64 (downF zs (t + 1))) := downs_i64 HR.out (t := t + 1) (by omega) _ (List.mem_map.2 ⟨t + 1, List.mem_range.2 (by omega), rfl⟩)
              have HLn : Hid ((downs zs t).length < 17592186044416) := by show _ < _; rw [downs_len]; omega
              obtain ⟨y, hy⟩ : ∃ y, downF zs (t + 1) = y := ⟨_, rfl⟩
              have HSN := Lib.hid (downs_snoc zs t)
              rw [hy] at HY HSN
              rw [hy]
              clear hy hc0
              have s2 : IntKind.i64.wrap ((t : Int) + 1) = (t : Int) + 1 := IntWalk.i64_in _ (by omega)
              gi_wp2_with (gi_at_builtin; refine wpListIn_push rfl _ _ rfl (w3.heap.size + 1) _ _ rfl rfl HO.out HLn.out HY.out ?_; intro v1 w1 ho1 hg1)
              have hb1 : Below (w3.heap.size + 1) wr w1 := (Below.refl _ wr).grown hg1 HO.out.2.2 fun k hk => (HO.out.1.lt k hk).1
              rw [HSN.out] at ho1
              have HO1 := Lib.hid ho1; have HB1 := Lib.hid hb1
              have HC1 : Hid (Cells w1 w3.heap.size 0 (mixL zs vs (t + 1) vs.length)) := by
                rw [← mixL_all]
                intro j hj
                have hk := HB1.out.block w3.heap.size (by omega)
                exact ⟨(World.cell?_of_block (a := ⟨w3.heap.size, 0 + j, none⟩) hk).trans (HC.out j hj).1, (World.frozen?_of_block (a := ⟨w3.heap.size, 0 + j, none⟩) hk).trans (HC.out j hj).2⟩
              clear ho1 hg1 hb1
              go_roundw
              case rel => exact ⟨t + 1, by omega, by go_num, HO1.out, HC1.out, HB.out.trans (HB1.out.mono (by omega))⟩
              case measure => simp [intOf] <;> omega
        · obtain ⟨k, rfl⟩ : ∃ k, kk = k + 1 := ⟨kk - 1, by omega⟩
          have hkv : k < vs.length := by omega
          have hkl : k < (mixL zs vs t (k + 1)).length := by rw [mixL_len]; exact hkv
          obtain ⟨b', o', e, _, _, hcy⟩ := HV.out.toIR.at_ hkv
          injection e with e; injection e with e1 e2 _; subst e1; subst e2
          rw [← getD_in hkv] at hcy
          obtain ⟨y1, y2⟩ := HVB.out k hkv
          have HBF2 := Lib.hid (HBF.out k hkv)
          have HBK2 := Lib.hid (HBK.out k hkv)
          obtain ⟨y, hy⟩ : ∃ x, vs.getD k 0 = x := ⟨_, rfl⟩
          rw [hy] at hcy y1 y2 HBF2
          clear hy
          obtain ⟨hcv, hfv⟩ := HC.out k hkl
          rw [Nat.zero_add, mixL_get, if_pos (Nat.lt_succ_self k)] at hcv
          rw [Nat.zero_add] at hfv
          have hcb := cF_cap (zs := zs) (vs := vs) t k (fun j hj => row_getD HR.out j (by omega)) (HVB.out k hkv)
          have hcn := cF_nn zs vs t k
          have HMN := Lib.hid (by have h := HC.out.set_ k hkl (cF zs vs (t + 1) k); rw [mixL_set, Nat.zero_add] at h; exact h)
          have hmn := HMN.out
          rw [← HBF2.out] at hmn
          replace HMN := Lib.hid hmn
          clear hmn HBF2
          have bd : -1 ≤ bestK zs vs t (k + 1) ∧ bestK zs vs t (k + 1) ≤ 24000 := by
            unfold bestK
            split
            · omega
            · have g1 := gF_nonneg zs t (vs.getD (k + 1) 0)
              have g2 := gF_cap (zs := zs) t (fun j hj => row_getD HR.out j (by omega)) (HVB.out (k + 1) (by omega))
              omega
          obtain ⟨cv, hcv'⟩ : ∃ v, cF zs vs t k = v := ⟨_, rfl⟩
          rw [hcv'] at hcv hcb hcn HBK2
          obtain ⟨bb, hbb⟩ : ∃ v, bestK zs vs t (k + 1) = v := ⟨_, rfl⟩
          rw [hbb] at bd HBK2
          rw [hbb]
          obtain ⟨nb, hnb⟩ : ∃ v, bestK zs vs t k = v := ⟨_, rfl⟩
          rw [hnb] at HBK2 HMN
          have HBN := Lib.hid hnb
          clear hcv' hbb hnb
          have HX := Lib.hid ((HB.out.cell (p := ⟨ba, oa + t, none⟩) ha2).trans HX3.out)
          have HY := Lib.hid ((HB.out.cell (p := ⟨bv, ov + k, none⟩) hv2).trans hcy)
          have HN1 : Hid (ba ≠ w3.heap.size) := Nat.ne_of_lt ha2
          have HN2 : Hid (bv ≠ w3.heap.size) := Nat.ne_of_lt hv2
          obtain ⟨bd1, bd2⟩ := bd
          have q1 : (k : Int) + 1 - 1 = (k : Int) := by omega
          have q2 : ((k + 1 : Nat) : Int) - 1 = (k : Int) := by omega
          have kn : (k : Int) < (n : Int) := by omega
          have k0 : (0 : Int) ≤ (k : Int) := by omega
          have kt : (k : Int).toNat = k := by omega
          have t0 : (0 : Int) ≤ (t : Int) := by omega
          have tt : (t : Int).toNat = t := by omega
          have sxy : IntKind.i64.wrap (x - y) = x - y := IntWalk.i64_in _ (by omega)
          have syx : IntKind.i64.wrap (y - x) = y - x := IntWalk.i64_in _ (by omega)
          have sk : IntKind.i64.wrap ((k : Int) - 1) = (k : Int) - 1 := IntWalk.i64_in _ (by omega)
          clear hcy hkl hkv
          rw [q2]
          by_cases hneg : bb < 0
          · obtain rfl : nb = cv := HBK2.out.1 hneg
            clear HBK2
            gi_wp2
            refine region_anyS (fun W' => W'.cell? ⟨ba, oa + t, none⟩ = some (.int .i64 x) ∧ W'.cell? ⟨bv, ov + k, none⟩ = some (.int .i64 y)) (by kernel_rfl) ?_
            have hS0 : wr.drew.cell? ⟨ba, oa + t, none⟩ = some (.int .i64 x) ∧ wr.drew.cell? ⟨bv, ov + k, none⟩ = some (.int .i64 y) := ⟨HX.out, HY.out⟩
            refine anyS_first 0 (v := .slice (some ⟨w3.heap.size, 0, none⟩) n n) rfl (by kernel_rfl) (by kernel_rfl) (by kernel_rfl) (fun _ _ _ h => h) hS0 ⟨fun _ => rfl, .inl ⟨by rfl, fun W' hW' => (by go_simp)⟩⟩ ?_
            refine anyS_first 1 (v := .int .i64 (k : Int)) rfl (by kernel_rfl) (by kernel_rfl) (by kernel_rfl) (fun _ _ _ h => h) hS0 ⟨fun _ => rfl, .inl ⟨by rfl, fun W' hW' => (by go_simp)⟩⟩ ?_
            refine anyS_first 2 (v := .int .i64 nb) rfl (by kernel_rfl) (by kernel_rfl) (by kernel_rfl) (fun _ _ _ h => h) hS0 ⟨fun _ => rfl, .inl ⟨by rfl, fun W' hW' => (by go_simp)⟩⟩ ?_
            refine anyS_first 3 (v := .slice (some ⟨ba, oa, none⟩) n c) rfl (by kernel_rfl) (by kernel_rfl) (by kernel_rfl) (fun _ _ _ h => h) hS0 ⟨fun _ => rfl, .inl ⟨by rfl, fun W' hW' => (by go_simp)⟩⟩ ?_
            refine anyS_first 4 (v := .int .i64 (t : Int)) rfl (by kernel_rfl) (by kernel_rfl) (by kernel_rfl) (fun _ _ _ h => h) hS0 ⟨fun _ => rfl, .inl ⟨by rfl, fun W' hW' => (by go_simp)⟩⟩ ?_
            refine anyS_first 5 (v := .pointer (some ⟨ba, oa + t, none⟩)) rfl (by kernel_rfl) (by kernel_rfl) (by kernel_rfl) (fun _ _ _ h => h) hS0 ⟨fun _ => rfl, .inl ⟨by rfl, fun W' hW' => (by go_simp)⟩⟩ ?_
            refine anyS_first 6 (v := .int .i64 x) rfl (by kernel_rfl) (by kernel_rfl) (by kernel_rfl) (fun _ _ _ h => h) hS0 ⟨fun _ => rfl, .inl ⟨by rfl, fun W' hW' => (by obtain ⟨e1, e2⟩ := hW'; go_simp)⟩⟩ ?_
            refine anyS_first 7 (v := .slice (some ⟨bv, ov, none⟩) n c3) rfl (by kernel_rfl) (by kernel_rfl) (by kernel_rfl) (fun _ _ _ h => h) hS0 ⟨fun _ => rfl, .inl ⟨by rfl, fun W' hW' => (by go_simp)⟩⟩ ?_
            refine anyS_first 8 (v := .int .i64 (k : Int)) rfl (by kernel_rfl) (by kernel_rfl) (by kernel_rfl) (fun _ _ _ h => h) hS0 ⟨fun _ => rfl, .inl ⟨by rfl, fun W' hW' => (by go_simp)⟩⟩ ?_
            refine anyS_first 9 (v := .pointer (some ⟨bv, ov + k, none⟩)) rfl (by kernel_rfl) (by kernel_rfl) (by kernel_rfl) (fun _ _ _ h => h) hS0 ⟨fun _ => rfl, .inl ⟨by rfl, fun W' hW' => (by go_simp)⟩⟩ ?_
            refine anyS_first 10 (v := .int .i64 y) rfl (by kernel_rfl) (by kernel_rfl) (by kernel_rfl) (fun _ _ _ h => h) hS0 ⟨fun _ => rfl, .inl ⟨by rfl, fun W' hW' => (by obtain ⟨e1, e2⟩ := hW'; go_simp)⟩⟩ ?_
            refine anyS_first 11 (v := .int .i64 (x - y)) rfl (by kernel_rfl) (by kernel_rfl) (by kernel_rfl) (fun _ _ _ h => h) hS0 ⟨fun _ => rfl, .inl ⟨by rfl, fun W' hW' => (by go_simp)⟩⟩ ?_
            refine anyS_first 12 (v := .slice (some ⟨bv, ov, none⟩) n c3) rfl (by kernel_rfl) (by kernel_rfl) (by kernel_rfl) (fun _ _ _ h => h) hS0 ⟨fun _ => rfl, .inl ⟨by rfl, fun W' hW' => (by go_simp)⟩⟩ ?_
            refine anyS_first 13 (v := .int .i64 (k : Int)) rfl (by kernel_rfl) (by kernel_rfl) (by kernel_rfl) (fun _ _ _ h => h) hS0 ⟨fun _ => rfl, .inl ⟨by rfl, fun W' hW' => (by go_simp)⟩⟩ ?_
            refine anyS_first 14 (v := .pointer (some ⟨bv, ov + k, none⟩)) rfl (by kernel_rfl) (by kernel_rfl) (by kernel_rfl) (fun _ _ _ h => h) hS0 ⟨fun _ => rfl, .inl ⟨by rfl, fun W' hW' => (by go_simp)⟩⟩ ?_
            refine anyS_first 15 (v := .int .i64 y) rfl (by kernel_rfl) (by kernel_rfl) (by kernel_rfl) (fun _ _ _ h => h) hS0 ⟨fun _ => rfl, .inl ⟨by rfl, fun W' hW' => (by obtain ⟨e1, e2⟩ := hW'; go_simp)⟩⟩ ?_
            refine anyS_first 16 (v := .slice (some ⟨ba, oa, none⟩) n c) rfl (by kernel_rfl) (by kernel_rfl) (by kernel_rfl) (fun _ _ _ h => h) hS0 ⟨fun _ => rfl, .inl ⟨by rfl, fun W' hW' => (by go_simp)⟩⟩ ?_
            refine anyS_first 17 (v := .int .i64 (t : Int)) rfl (by kernel_rfl) (by kernel_rfl) (by kernel_rfl) (fun _ _ _ h => h) hS0 ⟨fun _ => rfl, .inl ⟨by rfl, fun W' hW' => (by go_simp)⟩⟩ ?_
            refine anyS_first 18 (v := .pointer (some ⟨ba, oa + t, none⟩)) rfl (by kernel_rfl) (by kernel_rfl) (by kernel_rfl) (fun _ _ _ h => h) hS0 ⟨fun _ => rfl, .inl ⟨by rfl, fun W' hW' => (by go_simp)⟩⟩ ?_
            refine anyS_first 19 (v := .int .i64 x) rfl (by kernel_rfl) (by kernel_rfl) (by kernel_rfl) (fun _ _ _ h => h) hS0 ⟨fun _ => rfl, .inl ⟨by rfl, fun W' hW' => (by obtain ⟨e1, e2⟩ := hW'; go_simp)⟩⟩ ?_
            refine anyS_first 20 (v := .int .i64 (y - x)) rfl (by kernel_rfl) (by kernel_rfl) (by kernel_rfl) (fun _ _ _ h => h) hS0 ⟨fun _ => rfl, .inl ⟨by rfl, fun W' hW' => (by go_simp)⟩⟩ ?_
            refine anyS_one 21 rfl (by kernel_rfl) hS0 ?_
            refine wpOpIn_step rfl fun K21 hK21 => ?_
            go_simp
            refine hK21 _ _ ?_
            clear hK21
            refine anyS_one 22 rfl (by kernel_rfl) hS0 ?_
            refine wpOpIn_step rfl fun K22 hK22 => ?_
            go_simp
            refine hK22 _ _ ?_
            clear hK22
            refine anyS_one 23 rfl (by kernel_rfl) hS0 ?_
            refine wpOpIn_step rfl fun K23 hK23 => ?_
            go_simp
            refine hK23 _ _ ?_
            clear hK23
            refine anyS_one 24 rfl (by kernel_rfl) hS0 ?_
            refine wpOpIn_step rfl fun K24 hK24 => ?_
            go_simp
            refine hK24 _ _ ?_
            clear hK24
            refine anyS_done (by kernel_rfl) ⟨?_, ?_⟩ ?_
            · show (wr.setCell _ _).cell? _ = _; rw [World.cell?_setCell_other]
              · exact HX.out
              · intro e; injection e with e; exact HN1.out e.symm
            · show (wr.setCell _ _).cell? _ = _; rw [World.cell?_setCell_other]
              · exact HY.out
              · intro e; injection e with e; exact HN2.out e.symm
            clear hcv hfv
            gi_wp2
            go_roundw
            case rel => exact ⟨k, by omega, by go_num, by rw [HBN.out], HMN.out, HO.out.drew.setOut (by omega) _, HB.out.drew.setCell (p := ⟨w3.heap.size, k, none⟩) (Nat.le_refl _) _⟩
            case measure => simp [intOf] <;> omega
          · by_cases hless : cv < bb
            · obtain rfl : nb = cv := HBK2.out.2.1 (by omega) hless
              clear HBK2
              gi_wp2
              refine region_anyS (fun W' => W'.cell? ⟨ba, oa + t, none⟩ = some (.int .i64 x) ∧ W'.cell? ⟨bv, ov + k, none⟩ = some (.int .i64 y)) (by kernel_rfl) ?_
              have hS0 : wr.drew.cell? ⟨ba, oa + t, none⟩ = some (.int .i64 x) ∧ wr.drew.cell? ⟨bv, ov + k, none⟩ = some (.int .i64 y) := ⟨HX.out, HY.out⟩
              refine anyS_first 0 (v := .slice (some ⟨w3.heap.size, 0, none⟩) n n) rfl (by kernel_rfl) (by kernel_rfl) (by kernel_rfl) (fun _ _ _ h => h) hS0 ⟨fun _ => rfl, .inl ⟨by rfl, fun W' hW' => (by go_simp)⟩⟩ ?_
              refine anyS_first 1 (v := .int .i64 (k : Int)) rfl (by kernel_rfl) (by kernel_rfl) (by kernel_rfl) (fun _ _ _ h => h) hS0 ⟨fun _ => rfl, .inl ⟨by rfl, fun W' hW' => (by go_simp)⟩⟩ ?_
              refine anyS_first 2 (v := .int .i64 nb) rfl (by kernel_rfl) (by kernel_rfl) (by kernel_rfl) (fun _ _ _ h => h) hS0 ⟨fun _ => rfl, .inl ⟨by rfl, fun W' hW' => (by go_simp)⟩⟩ ?_
              refine anyS_first 3 (v := .slice (some ⟨ba, oa, none⟩) n c) rfl (by kernel_rfl) (by kernel_rfl) (by kernel_rfl) (fun _ _ _ h => h) hS0 ⟨fun _ => rfl, .inl ⟨by rfl, fun W' hW' => (by go_simp)⟩⟩ ?_
              refine anyS_first 4 (v := .int .i64 (t : Int)) rfl (by kernel_rfl) (by kernel_rfl) (by kernel_rfl) (fun _ _ _ h => h) hS0 ⟨fun _ => rfl, .inl ⟨by rfl, fun W' hW' => (by go_simp)⟩⟩ ?_
              refine anyS_first 5 (v := .pointer (some ⟨ba, oa + t, none⟩)) rfl (by kernel_rfl) (by kernel_rfl) (by kernel_rfl) (fun _ _ _ h => h) hS0 ⟨fun _ => rfl, .inl ⟨by rfl, fun W' hW' => (by go_simp)⟩⟩ ?_
              refine anyS_first 6 (v := .int .i64 x) rfl (by kernel_rfl) (by kernel_rfl) (by kernel_rfl) (fun _ _ _ h => h) hS0 ⟨fun _ => rfl, .inl ⟨by rfl, fun W' hW' => (by obtain ⟨e1, e2⟩ := hW'; go_simp)⟩⟩ ?_
              refine anyS_first 7 (v := .slice (some ⟨bv, ov, none⟩) n c3) rfl (by kernel_rfl) (by kernel_rfl) (by kernel_rfl) (fun _ _ _ h => h) hS0 ⟨fun _ => rfl, .inl ⟨by rfl, fun W' hW' => (by go_simp)⟩⟩ ?_
              refine anyS_first 8 (v := .int .i64 (k : Int)) rfl (by kernel_rfl) (by kernel_rfl) (by kernel_rfl) (fun _ _ _ h => h) hS0 ⟨fun _ => rfl, .inl ⟨by rfl, fun W' hW' => (by go_simp)⟩⟩ ?_
              refine anyS_first 9 (v := .pointer (some ⟨bv, ov + k, none⟩)) rfl (by kernel_rfl) (by kernel_rfl) (by kernel_rfl) (fun _ _ _ h => h) hS0 ⟨fun _ => rfl, .inl ⟨by rfl, fun W' hW' => (by go_simp)⟩⟩ ?_
              refine anyS_first 10 (v := .int .i64 y) rfl (by kernel_rfl) (by kernel_rfl) (by kernel_rfl) (fun _ _ _ h => h) hS0 ⟨fun _ => rfl, .inl ⟨by rfl, fun W' hW' => (by obtain ⟨e1, e2⟩ := hW'; go_simp)⟩⟩ ?_
              refine anyS_first 11 (v := .int .i64 (x - y)) rfl (by kernel_rfl) (by kernel_rfl) (by kernel_rfl) (fun _ _ _ h => h) hS0 ⟨fun _ => rfl, .inl ⟨by rfl, fun W' hW' => (by go_simp)⟩⟩ ?_
              refine anyS_first 12 (v := .slice (some ⟨bv, ov, none⟩) n c3) rfl (by kernel_rfl) (by kernel_rfl) (by kernel_rfl) (fun _ _ _ h => h) hS0 ⟨fun _ => rfl, .inl ⟨by rfl, fun W' hW' => (by go_simp)⟩⟩ ?_
              refine anyS_first 13 (v := .int .i64 (k : Int)) rfl (by kernel_rfl) (by kernel_rfl) (by kernel_rfl) (fun _ _ _ h => h) hS0 ⟨fun _ => rfl, .inl ⟨by rfl, fun W' hW' => (by go_simp)⟩⟩ ?_
              refine anyS_first 14 (v := .pointer (some ⟨bv, ov + k, none⟩)) rfl (by kernel_rfl) (by kernel_rfl) (by kernel_rfl) (fun _ _ _ h => h) hS0 ⟨fun _ => rfl, .inl ⟨by rfl, fun W' hW' => (by go_simp)⟩⟩ ?_
              refine anyS_first 15 (v := .int .i64 y) rfl (by kernel_rfl) (by kernel_rfl) (by kernel_rfl) (fun _ _ _ h => h) hS0 ⟨fun _ => rfl, .inl ⟨by rfl, fun W' hW' => (by obtain ⟨e1, e2⟩ := hW'; go_simp)⟩⟩ ?_
              refine anyS_first 16 (v := .slice (some ⟨ba, oa, none⟩) n c) rfl (by kernel_rfl) (by kernel_rfl) (by kernel_rfl) (fun _ _ _ h => h) hS0 ⟨fun _ => rfl, .inl ⟨by rfl, fun W' hW' => (by go_simp)⟩⟩ ?_
              refine anyS_first 17 (v := .int .i64 (t : Int)) rfl (by kernel_rfl) (by kernel_rfl) (by kernel_rfl) (fun _ _ _ h => h) hS0 ⟨fun _ => rfl, .inl ⟨by rfl, fun W' hW' => (by go_simp)⟩⟩ ?_
              refine anyS_first 18 (v := .pointer (some ⟨ba, oa + t, none⟩)) rfl (by kernel_rfl) (by kernel_rfl) (by kernel_rfl) (fun _ _ _ h => h) hS0 ⟨fun _ => rfl, .inl ⟨by rfl, fun W' hW' => (by go_simp)⟩⟩ ?_
              refine anyS_first 19 (v := .int .i64 x) rfl (by kernel_rfl) (by kernel_rfl) (by kernel_rfl) (fun _ _ _ h => h) hS0 ⟨fun _ => rfl, .inl ⟨by rfl, fun W' hW' => (by obtain ⟨e1, e2⟩ := hW'; go_simp)⟩⟩ ?_
              refine anyS_first 20 (v := .int .i64 (y - x)) rfl (by kernel_rfl) (by kernel_rfl) (by kernel_rfl) (fun _ _ _ h => h) hS0 ⟨fun _ => rfl, .inl ⟨by rfl, fun W' hW' => (by go_simp)⟩⟩ ?_
              refine anyS_one 21 rfl (by kernel_rfl) hS0 ?_
              refine wpOpIn_step rfl fun K21 hK21 => ?_
              go_simp
              refine hK21 _ _ ?_
              clear hK21
              refine anyS_one 22 rfl (by kernel_rfl) hS0 ?_
              refine wpOpIn_step rfl fun K22 hK22 => ?_
              go_simp
              refine hK22 _ _ ?_
              clear hK22
              refine anyS_one 23 rfl (by kernel_rfl) hS0 ?_
              refine wpOpIn_step rfl fun K23 hK23 => ?_
              go_simp
              refine hK23 _ _ ?_
              clear hK23
              refine anyS_one 24 rfl (by kernel_rfl) hS0 ?_
              refine wpOpIn_step rfl fun K24 hK24 => ?_
              go_simp
              refine hK24 _ _ ?_
              clear hK24
              refine anyS_done (by kernel_rfl) ⟨?_, ?_⟩ ?_
              · show (wr.setCell _ _).cell? _ = _; rw [World.cell?_setCell_other]
                · exact HX.out
                · intro e; injection e with e; exact HN1.out e.symm
              · show (wr.setCell _ _).cell? _ = _; rw [World.cell?_setCell_other]
                · exact HY.out
                · intro e; injection e with e; exact HN2.out e.symm
              clear hcv hfv
              gi_wp2
              go_roundw
              case rel => exact ⟨k, by omega, by go_num, by rw [HBN.out], HMN.out, HO.out.drew.setOut (by omega) _, HB.out.drew.setCell (p := ⟨w3.heap.size, k, none⟩) (Nat.le_refl _) _⟩
              case measure => simp [intOf] <;> omega
            · obtain rfl : nb = bb := HBK2.out.2.2 (by omega) (by omega)
              clear HBK2
              gi_wp2
              refine region_anyS (fun W' => W'.cell? ⟨ba, oa + t, none⟩ = some (.int .i64 x) ∧ W'.cell? ⟨bv, ov + k, none⟩ = some (.int .i64 y)) (by kernel_rfl) ?_
              have hS0 : wr.drew.cell? ⟨ba, oa + t, none⟩ = some (.int .i64 x) ∧ wr.drew.cell? ⟨bv, ov + k, none⟩ = some (.int .i64 y) := ⟨HX.out, HY.out⟩
              refine anyS_first 0 (v := .slice (some ⟨w3.heap.size, 0, none⟩) n n) rfl (by kernel_rfl) (by kernel_rfl) (by kernel_rfl) (fun _ _ _ h => h) hS0 ⟨fun _ => rfl, .inl ⟨by rfl, fun W' hW' => (by go_simp)⟩⟩ ?_
              refine anyS_first 1 (v := .int .i64 (k : Int)) rfl (by kernel_rfl) (by kernel_rfl) (by kernel_rfl) (fun _ _ _ h => h) hS0 ⟨fun _ => rfl, .inl ⟨by rfl, fun W' hW' => (by go_simp)⟩⟩ ?_
              refine anyS_first 2 (v := .int .i64 nb) rfl (by kernel_rfl) (by kernel_rfl) (by kernel_rfl) (fun _ _ _ h => h) hS0 ⟨fun _ => rfl, .inl ⟨by rfl, fun W' hW' => (by go_simp)⟩⟩ ?_
              refine anyS_first 3 (v := .slice (some ⟨ba, oa, none⟩) n c) rfl (by kernel_rfl) (by kernel_rfl) (by kernel_rfl) (fun _ _ _ h => h) hS0 ⟨fun _ => rfl, .inl ⟨by rfl, fun W' hW' => (by go_simp)⟩⟩ ?_
              refine anyS_first 4 (v := .int .i64 (t : Int)) rfl (by kernel_rfl) (by kernel_rfl) (by kernel_rfl) (fun _ _ _ h => h) hS0 ⟨fun _ => rfl, .inl ⟨by rfl, fun W' hW' => (by go_simp)⟩⟩ ?_
              refine anyS_first 5 (v := .pointer (some ⟨ba, oa + t, none⟩)) rfl (by kernel_rfl) (by kernel_rfl) (by kernel_rfl) (fun _ _ _ h => h) hS0 ⟨fun _ => rfl, .inl ⟨by rfl, fun W' hW' => (by go_simp)⟩⟩ ?_
              refine anyS_first 6 (v := .int .i64 x) rfl (by kernel_rfl) (by kernel_rfl) (by kernel_rfl) (fun _ _ _ h => h) hS0 ⟨fun _ => rfl, .inl ⟨by rfl, fun W' hW' => (by obtain ⟨e1, e2⟩ := hW'; go_simp)⟩⟩ ?_
              refine anyS_first 7 (v := .slice (some ⟨bv, ov, none⟩) n c3) rfl (by kernel_rfl) (by kernel_rfl) (by kernel_rfl) (fun _ _ _ h => h) hS0 ⟨fun _ => rfl, .inl ⟨by rfl, fun W' hW' => (by go_simp)⟩⟩ ?_
              refine anyS_first 8 (v := .int .i64 (k : Int)) rfl (by kernel_rfl) (by kernel_rfl) (by kernel_rfl) (fun _ _ _ h => h) hS0 ⟨fun _ => rfl, .inl ⟨by rfl, fun W' hW' => (by go_simp)⟩⟩ ?_
              refine anyS_first 9 (v := .pointer (some ⟨bv, ov + k, none⟩)) rfl (by kernel_rfl) (by kernel_rfl) (by kernel_rfl) (fun _ _ _ h => h) hS0 ⟨fun _ => rfl, .inl ⟨by rfl, fun W' hW' => (by go_simp)⟩⟩ ?_
              refine anyS_first 10 (v := .int .i64 y) rfl (by kernel_rfl) (by kernel_rfl) (by kernel_rfl) (fun _ _ _ h => h) hS0 ⟨fun _ => rfl, .inl ⟨by rfl, fun W' hW' => (by obtain ⟨e1, e2⟩ := hW'; go_simp)⟩⟩ ?_
              refine anyS_first 11 (v := .int .i64 (x - y)) rfl (by kernel_rfl) (by kernel_rfl) (by kernel_rfl) (fun _ _ _ h => h) hS0 ⟨fun _ => rfl, .inl ⟨by rfl, fun W' hW' => (by go_simp)⟩⟩ ?_
              refine anyS_first 12 (v := .slice (some ⟨bv, ov, none⟩) n c3) rfl (by kernel_rfl) (by kernel_rfl) (by kernel_rfl) (fun _ _ _ h => h) hS0 ⟨fun _ => rfl, .inl ⟨by rfl, fun W' hW' => (by go_simp)⟩⟩ ?_
              refine anyS_first 13 (v := .int .i64 (k : Int)) rfl (by kernel_rfl) (by kernel_rfl) (by kernel_rfl) (fun _ _ _ h => h) hS0 ⟨fun _ => rfl, .inl ⟨by rfl, fun W' hW' => (by go_simp)⟩⟩ ?_
              refine anyS_first 14 (v := .pointer (some ⟨bv, ov + k, none⟩)) rfl (by kernel_rfl) (by kernel_rfl) (by kernel_rfl) (fun _ _ _ h => h) hS0 ⟨fun _ => rfl, .inl ⟨by rfl, fun W' hW' => (by go_simp)⟩⟩ ?_
              refine anyS_first 15 (v := .int .i64 y) rfl (by kernel_rfl) (by kernel_rfl) (by kernel_rfl) (fun _ _ _ h => h) hS0 ⟨fun _ => rfl, .inl ⟨by rfl, fun W' hW' => (by obtain ⟨e1, e2⟩ := hW'; go_simp)⟩⟩ ?_
              refine anyS_first 16 (v := .slice (some ⟨ba, oa, none⟩) n c) rfl (by kernel_rfl) (by kernel_rfl) (by kernel_rfl) (fun _ _ _ h => h) hS0 ⟨fun _ => rfl, .inl ⟨by rfl, fun W' hW' => (by go_simp)⟩⟩ ?_
              refine anyS_first 17 (v := .int .i64 (t : Int)) rfl (by kernel_rfl) (by kernel_rfl) (by kernel_rfl) (fun _ _ _ h => h) hS0 ⟨fun _ => rfl, .inl ⟨by rfl, fun W' hW' => (by go_simp)⟩⟩ ?_
              refine anyS_first 18 (v := .pointer (some ⟨ba, oa + t, none⟩)) rfl (by kernel_rfl) (by kernel_rfl) (by kernel_rfl) (fun _ _ _ h => h) hS0 ⟨fun _ => rfl, .inl ⟨by rfl, fun W' hW' => (by go_simp)⟩⟩ ?_
              refine anyS_first 19 (v := .int .i64 x) rfl (by kernel_rfl) (by kernel_rfl) (by kernel_rfl) (fun _ _ _ h => h) hS0 ⟨fun _ => rfl, .inl ⟨by rfl, fun W' hW' => (by obtain ⟨e1, e2⟩ := hW'; go_simp)⟩⟩ ?_
              refine anyS_first 20 (v := .int .i64 (y - x)) rfl (by kernel_rfl) (by kernel_rfl) (by kernel_rfl) (fun _ _ _ h => h) hS0 ⟨fun _ => rfl, .inl ⟨by rfl, fun W' hW' => (by go_simp)⟩⟩ ?_
              refine anyS_one 21 rfl (by kernel_rfl) hS0 ?_
              refine wpOpIn_step rfl fun K21 hK21 => ?_
              go_simp
              refine hK21 _ _ ?_
              clear hK21
              refine anyS_one 22 rfl (by kernel_rfl) hS0 ?_
              refine wpOpIn_step rfl fun K22 hK22 => ?_
              go_simp
              refine hK22 _ _ ?_
              clear hK22
              refine anyS_one 23 rfl (by kernel_rfl) hS0 ?_
              refine wpOpIn_step rfl fun K23 hK23 => ?_
              go_simp
              refine hK23 _ _ ?_
              clear hK23
              refine anyS_one 24 rfl (by kernel_rfl) hS0 ?_
              refine wpOpIn_step rfl fun K24 hK24 => ?_
              go_simp
              refine hK24 _ _ ?_
              clear hK24
              refine anyS_done (by kernel_rfl) ⟨?_, ?_⟩ ?_
              · show (wr.setCell _ _).cell? _ = _; rw [World.cell?_setCell_other]
                · exact HX.out
                · intro e; injection e with e; exact HN1.out e.symm
              · show (wr.setCell _ _).cell? _ = _; rw [World.cell?_setCell_other]
                · exact HY.out
                · intro e; injection e with e; exact HN2.out e.symm
              clear hcv hfv
              gi_wp2
              go_roundw
              case rel => exact ⟨k, by omega, by go_num, by rw [HBN.out], HMN.out, HO.out.drew.setOut (by omega) _, HB.out.drew.setCell (p := ⟨w3.heap.size, k, none⟩) (Nat.le_refl _) _⟩
              case measure => simp [intOf] <;> omega
    · obtain rfl : t = n := by omega
      have HLD : Hid ((downs zs t).length = t + 1) := downs_len zs t
      obtain ⟨A', c', rfl, hiw⟩ := HO.out.iwn HLD.out (by omega)
      have HIW := Lib.hid hiw
      clear hiw
      have hlt' : ¬ (t : Int) < (t : Int) := by omega
      gi_wp2
      go_ret
      exact retS_of HLD.out.symm (HIW.out.wide (by have := HB3.out.size; omega) (Nat.le_refl _) (Nat.le_refl _)) (below_then HB3.out (Nat.le_refl _) HB.out)
end Go.Proofs.Ytnphmapiagiocaa

/-
  ValleyCost of the model. Conditions: the list's cells are there.
-/
namespace Go.Proofs.Ytnphmapiagiocaa
open Go.RowKit Go.Shelf
attribute [local go_sem] Oper.semAt_some

theorem l4Fall_n {n : Nat} (A : Option Addr) (c : Nat) (zs : List Int) (w : World) (h : IR w 0 w.heap.size A zs) (hr : rowB zs = true) (hn : zs.length = n) :
    Calls Try.prog 51 #[.slice A n c] w (RetS w (downs zs n)) := by
  subst hn; exact l4Fall_any A c zs w h hr

def costI (zs : List Int) : Int := if rowB zs then costL zs else 0
theorem bestC_bd {zs : List Int} (hr : rowB zs = true) : ∀ k, k ≤ zs.length + 1 → 0 ≤ bestC zs k ∧ bestC zs k ≤ 12000 := by
  have hl := (rowB_true.1 hr).2
  intro k
  induction k with
  | zero =>
    intro _
    have h1 := downF_nonneg zs zs.length
    have h2 := downF_cap (zs := zs) (i := zs.length) fun k hk => row_getD hr k hk
    show 0 ≤ downF zs zs.length ∧ downF zs zs.length ≤ 12000
    omega
  | succ k ih =>
    intro hk
    have h1 := ih (by omega)
    have h2 := costAt_nn zs k
    have h3 := costAt_cap (zs := zs) (row_lo hr) (i := k) (by omega)
    unfold bestC
    omega

set_option maxRecDepth 100000 in
set_option maxHeartbeats 2000000 in
theorem specValleyCost_any (A : Option Addr) (c : Nat) (zs : List Int) (w : World) (h : IR w 0 w.heap.size A zs) :
    Calls Try.prog 22 #[.slice A zs.length c] w fun e w' => e = .returned (.tuple #[.int .i64 (costI zs), .bool (rowB zs)]) ∧ Below w.heap.size w w' := by
  have H := Lib.hid h; clear h
  cases hr : rowB zs with
  | false =>
    have HM : Hid (costI zs = 0) := by show _ = _; unfold costI; rw [hr]; rfl
    have HR := Lib.hid hr; clear hr
    go_enter Try.func22, Try.ntmps22
    go_wp2_with fail
    refine (specRowIn_n A c _ _ zs w H.out HR.out rfl).mono ?_; rintro e w' ⟨rfl, rfl⟩
    go_wp2
    go_ret2
    rw [HM.out]
    exact ⟨rfl, Below.refl _ _⟩
  | true =>
    have HM : Hid (costI zs = bestC zs (zs.length + 1)) := by show _ = _; rw [bestC_all]; unfold costI; rw [hr]; rfl
    have hl := (rowB_true.1 hr).2
    have HRV : Hid (rowB zs.reverse = true) := rowB_reverse hr
    have HLR : Hid (zs.reverse.length = zs.length) := List.length_reverse ..
    have HR := Lib.hid hr; clear hr
    refine (callsIn_wide (n := 6)).1 ?_
    refine callsIn_of_wp Try.func22 rfl trivial ?_
    simp only [Try.ntmps22, List.size_toArray, List.length_cons, List.length_nil, Nat.reduceAdd, Nat.reduceSub, Array.replicate_succ, Array.replicate_zero, List.push_toArray, List.append_toArray, List.nil_append, List.cons_append]
    gi_wp2_with fail
    refine ⟨trivial, ?_⟩
    gi_at_call 41
    refine (callsIn_wide.2 (specRowIn_n A c _ _ zs w H.out HR.out rfl)).mono ?_; rintro e w' ⟨rfl, rfl⟩
    gi_wp2_with fail
    refine ⟨trivial, ?_⟩
    gi_at_call 51
    refine (callsIn_wide.2 (l4Fall_any A c zs w H.out HR.out)).mono ?_
    rintro e w1 ⟨Ad, cd, rfl, hid, hb1⟩
    have HD := Lib.hid hid; have B1 := Lib.hid hb1; replace H := Lib.hid (H.out.grow hb1).toAll
    clear hid hb1
    gi_wp2_with fail
    refine ⟨trivial, ?_⟩
    gi_at_call 52
    refine (callsIn_wide.2 (l1Back_any A c _ _ zs w1 H.out)).mono ?_
    rintro e w2 ⟨Ar, cr, rfl, hir, hb2⟩
    have HIR := Lib.hid hir; have B2 := Lib.hid (below_then B1.out (Nat.le_refl _) hb2); replace HD := Lib.hid (HD.out.toIR.grow hb2)
    clear hir hb2
    gi_wp2_with fail
    refine ⟨trivial, ?_⟩
    gi_at_call 51
    refine (callsIn_wide.2 (l4Fall_n Ar cr zs.reverse w2 HIR.out.toIR.toAll HRV.out HLR.out)).mono ?_
    rintro e w3 ⟨Au, cu, rfl, hiu, hb3⟩
    have HU := Lib.hid hiu; have B3 := Lib.hid (below_then B2.out (Nat.le_refl _) hb3); replace HD := Lib.hid (HD.out.grow hb3)
    clear hiu hb3
    rw [downs_len, downs_len]
    obtain ⟨bd, od, rfl, hd1, hd2, hdn⟩ := HD.out.at_ (k := zs.length) (by rw [downs_len]; omega)
    obtain ⟨bu, ou, rfl, hu1, hu2, -⟩ := HU.out.toIR.at_ (k := 0) (by rw [downs_len]; omega)
    rw [← getD_in (by rw [downs_len]; omega), downs_getD _ _ _ (Nat.le_refl _)] at hdn
    have qn : (zs.length : Int) < (zs.length : Int) + 1 := by omega
    have q0 : (0 : Int) ≤ (zs.length : Int) := by omega
    have qt : (zs.length : Int).toNat = zs.length := by omega
    gi_wp2
    clear hdn
    gi_loopw [6, 7] (fun b i wr => ∃ k : Nat, k ≤ zs.length + 1 ∧ i = .int .i64 (k : Int) ∧ b = .int .i64 (bestC zs k) ∧ Below w3.heap.size w3 wr) (fun _ i _ => zs.length + 1 - (intOf i).toNat)
    case atStart => exact ⟨0, Nat.zero_le _, rfl, rfl, Below.refl _ _⟩
    case round =>
      obtain ⟨k, hk, rfl, rfl, hb⟩ := hrel
      have HB := Lib.hid hb; clear hb
      by_cases hlt : k ≤ zs.length
      · obtain ⟨b', o', e, _, _, hcx⟩ := HD.out.at_ (k := k) (by rw [downs_len]; omega)
        injection e with e; injection e with e1 e2 _; subst e1; subst e2
        obtain ⟨b', o', e, _, _, hcy⟩ := HU.out.toIR.at_ (k := zs.length - k) (by rw [downs_len]; omega)
        injection e with e; injection e with e1 e2 _; subst e1; subst e2
        rw [← getD_in (by rw [downs_len]; omega), downs_getD _ _ _ hlt] at hcx
        rw [← getD_in (by rw [downs_len]; omega), downs_getD _ _ _ (by omega)] at hcy
        have HC : Hid (bestC zs (k + 1) = min (bestC zs k) (downF zs k + downF zs.reverse (zs.length - k))) := rfl
        have hb1 := bestC_bd HR.out k hk
        have hx1 := downF_nonneg zs k
        have hy1 := downF_nonneg zs.reverse (zs.length - k)
        have hxy := costAt_cap (zs := zs) (row_lo HR.out) (i := k) hlt
        unfold costAt at hxy
        obtain ⟨x, hx⟩ : ∃ x, downF zs k = x := ⟨_, rfl⟩
        obtain ⟨y, hy⟩ : ∃ x, downF zs.reverse (zs.length - k) = x := ⟨_, rfl⟩
        obtain ⟨b, hb⟩ : ∃ x, bestC zs k = x := ⟨_, rfl⟩
        rw [hx] at hcx HC hx1 hxy
        rw [hy] at hcy HC hy1 hxy
        rw [hb] at HC hb1
        rw [hb]
        clear hx hy hb
        obtain ⟨hb11, hb12⟩ := hb1
        have HX := Lib.hid ((HB.out.cell (p := ⟨bd, od + k, none⟩) hd2).trans hcx)
        have HY := Lib.hid ((HB.out.cell (p := ⟨bu, ou + (zs.length - k), none⟩) hu2).trans hcy)
        have kl : (k : Int) ≤ (zs.length : Int) := by omega
        have k0 : (0 : Int) ≤ (k : Int) := by omega
        have kt : (k : Int).toNat = k := by omega
        have kn : (k : Int) < (zs.length : Int) + 1 := by omega
        have d0 : (0 : Int) ≤ (zs.length : Int) - (k : Int) := by omega
        have dt : ((zs.length : Int) - (k : Int)).toNat = zs.length - k := by omega
        have dn : (zs.length : Int) - (k : Int) < (zs.length : Int) + 1 := by omega
        have sd : IntKind.i64.wrap ((zs.length : Int) - (k : Int)) = (zs.length : Int) - (k : Int) := IntWalk.i64_in _ (by omega)
        have sa : IntKind.i64.wrap (x + y) = x + y := IntWalk.i64_in _ (by omega)
        clear hcx hcy hxy
        gi_wp2
        refine region_anyS (fun W' => W'.cell? ⟨bd, od + k, none⟩ = some (.int .i64 x) ∧ W'.cell? ⟨bu, ou + (zs.length - k), none⟩ = some (.int .i64 y)) (by kernel_rfl) ?_
        have hS0 : wr.drew.cell? ⟨bd, od + k, none⟩ = some (.int .i64 x) ∧ wr.drew.cell? ⟨bu, ou + (zs.length - k), none⟩ = some (.int .i64 y) := ⟨HX.out, HY.out⟩
        refine anyS_first 0 (v := .int .i64 b) rfl (by kernel_rfl) (by kernel_rfl) (by kernel_rfl) (fun _ _ _ h => h) hS0 ⟨fun _ => rfl, .inl ⟨by rfl, fun W' hW' => (by go_simp)⟩⟩ ?_
        refine anyS_first 1 (v := .slice (some ⟨bd, od, none⟩) (zs.length + 1) cd) rfl (by kernel_rfl) (by kernel_rfl) (by kernel_rfl) (fun _ _ _ h => h) hS0 ⟨fun _ => rfl, .inl ⟨by rfl, fun W' hW' => (by go_simp)⟩⟩ ?_
        refine anyS_first 2 (v := .int .i64 (k : Int)) rfl (by kernel_rfl) (by kernel_rfl) (by kernel_rfl) (fun _ _ _ h => h) hS0 ⟨fun _ => rfl, .inl ⟨by rfl, fun W' hW' => (by go_simp)⟩⟩ ?_
        refine anyS_first 3 (v := .pointer (some ⟨bd, od + k, none⟩)) rfl (by kernel_rfl) (by kernel_rfl) (by kernel_rfl) (fun _ _ _ h => h) hS0 ⟨fun _ => rfl, .inl ⟨by rfl, fun W' hW' => (by go_simp)⟩⟩ ?_
        refine anyS_first 4 (v := .int .i64 x) rfl (by kernel_rfl) (by kernel_rfl) (by kernel_rfl) (fun _ _ _ h => h) hS0 ⟨fun _ => rfl, .inl ⟨by rfl, fun W' hW' => (by obtain ⟨e1, e2⟩ := hW'; go_simp)⟩⟩ ?_
        refine anyS_first 5 (v := .slice (some ⟨bu, ou, none⟩) (zs.length + 1) cu) rfl (by kernel_rfl) (by kernel_rfl) (by kernel_rfl) (fun _ _ _ h => h) hS0 ⟨fun _ => rfl, .inl ⟨by rfl, fun W' hW' => (by go_simp)⟩⟩ ?_
        refine anyS_first 6 (v := .slice A zs.length c) rfl (by kernel_rfl) (by kernel_rfl) (by kernel_rfl) (fun _ _ _ h => h) hS0 ⟨fun _ => rfl, .inl ⟨by rfl, fun W' hW' => (by go_simp)⟩⟩ ?_
        refine anyS_first 7 (v := .int .i64 (zs.length : Int)) rfl (by kernel_rfl) (by kernel_rfl) (by kernel_rfl) (fun _ _ _ h => h) hS0 ⟨fun _ => rfl, .inl ⟨by rfl, fun W' hW' => (by go_simp)⟩⟩ ?_
        refine anyS_first 8 (v := .int .i64 (k : Int)) rfl (by kernel_rfl) (by kernel_rfl) (by kernel_rfl) (fun _ _ _ h => h) hS0 ⟨fun _ => rfl, .inl ⟨by rfl, fun W' hW' => (by go_simp)⟩⟩ ?_
        refine anyS_first 9 (v := .int .i64 ((zs.length : Int) - (k : Int))) rfl (by kernel_rfl) (by kernel_rfl) (by kernel_rfl) (fun _ _ _ h => h) hS0 ⟨fun _ => rfl, .inl ⟨by rfl, fun W' hW' => (by go_simp)⟩⟩ ?_
        refine anyS_first 10 (v := .pointer (some ⟨bu, ou + (zs.length - k), none⟩)) rfl (by kernel_rfl) (by kernel_rfl) (by kernel_rfl) (fun _ _ _ h => h) hS0 ⟨fun _ => rfl, .inl ⟨by rfl, fun W' hW' => (by go_simp)⟩⟩ ?_
        refine anyS_first 11 (v := .int .i64 y) rfl (by kernel_rfl) (by kernel_rfl) (by kernel_rfl) (fun _ _ _ h => h) hS0 ⟨fun _ => rfl, .inl ⟨by rfl, fun W' hW' => (by obtain ⟨e1, e2⟩ := hW'; go_simp)⟩⟩ ?_
        refine anyS_first 12 (v := .int .i64 (x + y)) rfl (by kernel_rfl) (by kernel_rfl) (by kernel_rfl) (fun _ _ _ h => h) hS0 ⟨fun _ => rfl, .inl ⟨by rfl, fun W' hW' => (by go_simp)⟩⟩ ?_
        refine anyS_one 13 rfl (by kernel_rfl) hS0 ?_
        refine wpOpIn_step rfl fun K13 hK13 => ?_
        go_simp
        refine hK13 _ _ ?_
        clear hK13
        refine anyS_one 14 rfl (by kernel_rfl) hS0 ?_
        refine wpOpIn_step rfl fun K14 hK14 => ?_
        go_simp
        refine hK14 _ _ ?_
        clear hK14
        refine anyS_done (by kernel_rfl) hS0 ?_
        gi_wp2
        go_roundw
        case rel => exact ⟨k + 1, by omega, by go_num, by rw [HC.out], HB.out.drew⟩
        case measure => simp [intOf] <;> omega
      · obtain rfl : k = zs.length + 1 := by omega
        have kl : ¬ ((zs.length + 1 : Nat) : Int) ≤ (zs.length : Int) := by omega
        gi_wp2
        go_ret2
        rw [HM.out]
        exact ⟨rfl, below_then B3.out (Nat.le_refl _) HB.out⟩
end Go.Proofs.Ytnphmapiagiocaa

/-
  The least cost to rows that never fall: riseCost of the program. Conditions: the lists' cells are there; the levels are sorted, and all entries are among them.
-/
namespace Go.Proofs.Ytnphmapiagiocaa
open Go.RowKit Go.Shelf
attribute [local go_sem] Oper.semAt_some

/-- The entries at the places that came. -/
def valsP (zs : List Int) (pre : List (Fin zs.length)) : List Int := pre.map fun x => zs[x.1]
theorem valsP_len (zs : List Int) (pre : List (Fin zs.length)) : (valsP zs pre).length = pre.length := by simp [valsP]
theorem valsP_snoc (zs : List Int) (pre : List (Fin zs.length)) (x : Fin zs.length) : valsP zs (pre ++ [x]) = valsP zs pre ++ [zs[x.1]] := by simp [valsP]
theorem valsP_all (zs : List Int) : valsP zs (List.finRange zs.length) = zs := by
  unfold valsP
  apply List.ext_getElem (by simp)
  intro j h1 h2
  simp
theorem valsP_mem {zs : List Int} {pre : List (Fin zs.length)} {z : Int} (h : z ∈ valsP zs pre) : z ∈ zs := by
  obtain ⟨x, -, rfl⟩ := List.mem_map.1 h
  exact List.getElem_mem _
/-- The costs when those of the first k levels have been brought up to date. -/
def mixR (zs vs : List Int) (i k : Nat) : List Int := (List.range vs.length).map fun j => if j < k then rC zs vs (i + 1) j else rC zs vs i j
theorem mixR_len (zs vs : List Int) (i k : Nat) : (mixR zs vs i k).length = vs.length := by simp [mixR]
theorem mixR_get (zs vs : List Int) (i k j : Nat) (h : j < (mixR zs vs i k).length) : (mixR zs vs i k)[j] = if j < k then rC zs vs (i + 1) j else rC zs vs i j := by simp [mixR]
theorem mixR_set (zs vs : List Int) (i k : Nat) : (mixR zs vs i k).set k (rC zs vs (i + 1) k) = mixR zs vs i (k + 1) := by
  apply List.ext_getElem
  · rw [List.length_set, mixR_len, mixR_len]
  · intro j h1 h2
    rw [List.getElem_set, mixR_get zs vs i (k + 1) j h2]
    by_cases e : k = j
    · subst e; rw [if_pos rfl, if_pos (by omega)]
    · rw [if_neg e, mixR_get]
      by_cases c : j < k
      · rw [if_pos c, if_pos (by omega)]
      · rw [if_neg c, if_neg (by omega)]
/-- The costs behind the places that came. -/
def costsP (zs vs : List Int) (pre : List (Fin zs.length)) : List Int := (List.range vs.length).map fun k => rC (valsP zs pre) vs pre.length k
theorem costsP_len (zs vs : List Int) (pre : List (Fin zs.length)) : (costsP zs vs pre).length = vs.length := by simp [costsP]
theorem costsP_nil (zs vs : List Int) : costsP zs vs [] = List.replicate vs.length 0 := by
  apply List.ext_getElem
  · rw [costsP_len, List.length_replicate]
  · intro j h1 h2
    rw [List.getElem_replicate]
    simp [costsP, rC, gF]
theorem costsP_begin (zs vs : List Int) (pre : List (Fin zs.length)) (x : Fin zs.length) : costsP zs vs pre = mixR (valsP zs (pre ++ [x])) vs pre.length 0 := by
  apply List.ext_getElem
  · rw [costsP_len, mixR_len]
  · intro j h1 h2
    rw [mixR_get, if_neg (by omega)]
    simp only [costsP, List.getElem_map, List.getElem_range]
    unfold rC
    refine gF_congr _ (fun m hm => ?_) _
    rw [neg_getD, neg_getD, valsP_snoc, List.getD_eq_getElem?_getD, List.getD_eq_getElem?_getD, List.getElem?_append_left (by rw [valsP_len]; exact hm)]
theorem costsP_end (zs vs : List Int) (pre : List (Fin zs.length)) (x : Fin zs.length) : mixR (valsP zs (pre ++ [x])) vs pre.length vs.length = costsP zs vs (pre ++ [x]) := by
  apply List.ext_getElem
  · rw [costsP_len, mixR_len]
  · intro j h1 h2
    rw [mixR_get, if_pos (by rw [mixR_len] at h1; exact h1)]
    simp [costsP]
theorem valsP_at (zs : List Int) (pre : List (Fin zs.length)) (x : Fin zs.length) : (valsP zs (pre ++ [x])).getD pre.length 0 = zs[x.1] := by
  rw [valsP_snoc, getD_in (by simp [valsP])]
  simp [valsP]

set_option maxRecDepth 100000 in
set_option maxHeartbeats 4000000 in
theorem riseCost_any (A : Option Addr) (c : Nat) (zs : List Int) (Al : Option Addr) (cl : Nat) (vs : List Int) (w : World) (h : IR w 0 w.heap.size A zs) (hv : IR w 0 w.heap.size Al vs) (hzl : zs.length ≤ 12) (h0 : 0 < vs.length) (hvl : vs.length ≤ 12)
    (hm : ∀ z, z ∈ zs → z ∈ vs) (hs : ∀ j j', j ≤ j' → j' < vs.length → vs.getD j 0 ≤ vs.getD j' 0) (hb : ∀ j, j < vs.length → -1000 ≤ vs.getD j 0 ∧ vs.getD j 0 ≤ 1000) :
    Calls Try.prog 78 #[.slice A zs.length c, .slice Al vs.length cl] w fun e w' => e = .returned (.int .i64 (downF (negL zs) zs.length)) ∧ Below w.heap.size w w' := by
  obtain ⟨n, hn⟩ : ∃ n, vs.length = n := ⟨_, rfl⟩
  have hmk : ∀ w : World, (Instr.makeSlice 23 (.int .i64 (n : Int)) (.int .i64 (n : Int))).run Try.prog w = .ok (.slice (some ⟨w.heap.size, 0, none⟩) n n) (w.alloc (.cells (madeCells #[.int .i64 0] n) 3)) := by
    intro w
    obtain ⟨i0, hi, hz0, hz1, hz2⟩ := info_parts info_int
    have hr := run_make (P := Try.prog) w 23 3 i0 (.int .i64 0) Try.underlying23 hi hz0 .i64 .i64 n n (by omega) (Int.le_refl _) (by rw [hz2]; omega) (by omega)
    rw [hz1] at hr
    simpa [Value.cells] using hr
  have HZ := Lib.hid h; have HV := Lib.hid hv; have HVS := Lib.hid hs; have HVB := Lib.hid hb; have HMM := Lib.hid hm
  clear h hv hs hb hm
  rw [hn]
  refine (callsIn_wide (n := 6)).1 ?_
  refine callsIn_of_wp_marks Try.func78 rfl trivial ?_ rfl
  simp only [Try.ntmps78, List.size_toArray, List.length_cons, List.length_nil, Nat.reduceAdd, Nat.reduceSub, Array.replicate_succ, Array.replicate_zero, List.push_toArray, List.append_toArray, List.nil_append, List.cons_append]
  gi_wp2_with (refine ⟨trivial, ?_⟩; gi_at_call 67; refine (entries_in _ _ trivial rfl _ _ _ _).mono ?_; rintro e w' ⟨rfl, rfl⟩)
  clear hmk
  have b1 := Boxed.new w 23 (.slice Al n cl)
  have hmid := (Mid.made b1 n 23).alloc (.cells #[.slice A zs.length c] 41)
  simp only [World.size_alloc] at hmid
  have hB0 : Below w.heap.size w ((((w.alloc (.cells #[.slice Al n cl] 23)).alloc (.cells (madeCells #[.int .i64 0] n) 3)).alloc (.cells #[.slice (some ⟨w.heap.size + 1, 0, none⟩) n n] 23)).alloc (.cells #[.slice A zs.length c] 41)) :=
    ((((Below.refl _ w).alloc (Nat.le_refl _) _).alloc (by simp) _).alloc (by simp; omega) _).alloc (by simp; omega) _
  have hbox : ((((w.alloc (.cells #[.slice Al n cl] 23)).alloc (.cells (madeCells #[.int .i64 0] n) 3)).alloc (.cells #[.slice (some ⟨w.heap.size + 1, 0, none⟩) n n] 23)).alloc (.cells #[.slice A zs.length c] 41)).cell? ⟨w.heap.size + 1 + 1 + 1, 0, none⟩ = some (.slice A zs.length c) := by
    rw [World.cell?_alloc_at _ _ _ _ (by simp)]; rfl
  obtain ⟨W0, hW0⟩ : ∃ W0, (((w.alloc (.cells #[.slice Al n cl] 23)).alloc (.cells (madeCells #[.int .i64 0] n) 3)).alloc (.cells #[.slice (some ⟨w.heap.size + 1, 0, none⟩) n n] 23)).alloc (.cells #[.slice A zs.length c] 41) = W0 := ⟨_, rfl⟩
  have hsz : W0.heap.size = w.heap.size + 4 := by rw [← hW0]; simp
  rw [hW0] at hmid hB0 hbox
  rw [hW0]
  clear hW0 b1
  rw [show List.replicate n (0 : Int) = costsP zs vs [] from by rw [costsP_nil, hn]] at hmid
  have hR0 : IR W0 0 w.heap.size A zs := HZ.out.below hB0 (Nat.le_refl _)
  apply (fun a₁ => wpIn_rangeFunc_ownF (F := Fence.wide) rfl (by decide) (gf := 87) (lb := #[.pointer (some ⟨w.heap.size + 1 + 1 + 1, 0, none⟩)]) rfl trivial (enters_of Try.func87 (by kernel_rfl) rfl)
    (entries_stops Fence.wide (6 - 1) trivial rfl (by decide) (w.heap.size + 1 + 1 + 1) w.heap.size c A zs _ (by omega) (by omega) hbox hR0) belowK_t (belowK_b (by omega)) (Below.refl _ _) (fun _ => rfl)
    (fun pre W => Mid W w.heap.size 23 (.slice Al n cl) (w.heap.size + 1) 23 n (costsP zs vs pre) ∧ Below w.heap.size w W)
    (fun _ _ _ => False)
    (OwnFrom.and (mid_own _ _ _ _ _ _ _ _) (ownFrom_below (Nat.le_refl _) (by omega)))
    (fun _ _ _ _ _ hs _ _ => hs)
    ⟨hmid, hB0⟩ a₁)
  case hassign =>
    intro l x W K hK
    gi_wp2
    exact hK
  case hbody =>
    rintro l pre x W ⟨hM, hB⟩ hlt
    rw [costsP_begin zs vs pre x] at hM
    obtain ⟨zz, hzz⟩ : ∃ zz, valsP zs (pre ++ [x]) = zz := ⟨_, rfl⟩
    have hmem : ∀ j, j < pre.length + 1 → zz.getD j 0 ∈ vs := fun j hj => by
      have hl : j < (valsP zs (pre ++ [x])).length := by rw [valsP_len]; simpa using hj
      rw [← hzz, getD_in hl]
      exact HMM.out _ (valsP_mem (List.getElem_mem hl))
    have hat : zz.getD pre.length 0 = zs[x.1] := by rw [← hzz]; exact valsP_at zs pre x
    have HEND := Lib.hid (costsP_end zs vs pre x)
    rw [hzz] at hM HEND
    obtain ⟨i, hi⟩ : ∃ i, pre.length = i := ⟨_, rfl⟩
    rw [hi] at hM HEND hmem hat hlt
    have hbz : ∀ j, j < i + 1 → -1000 ≤ zz.getD j 0 ∧ zz.getD j 0 ≤ 1000 := fun j hj => by
      obtain ⟨m, hm, e⟩ := List.getElem_of_mem (hmem j hj)
      rw [← e, ← getD_in hm]
      exact HVB.out m hm
    obtain ⟨z1, z2⟩ := hbz i (by omega)
    have HRC := Lib.hid (fun k (hk : k < vs.length) => (show 0 ≤ rC zz vs i k ∧ rC zz vs i k ≤ 24000 from ⟨rC_nn _ _ _ _, by
      have := rC_cap (zs := zz) (vs := vs) i k (fun j hj => hbz j (by omega)) (HVB.out k hk); omega⟩))
    have HRD := Lib.hid (fun k (hk : k < vs.length) => (show 0 ≤ rC zz vs (i + 1) k ∧ rC zz vs (i + 1) k ≤ 26000 from ⟨rC_nn _ _ _ _, by
      have := rC_cap (zs := zz) (vs := vs) (i + 1) k hbz (HVB.out k hk); omega⟩))
    have HF := Lib.hid (riseC_first (zs := zz) (vs := vs) (i := i) hmem HVS.out h0)
    have HST := Lib.hid (fun k (hk : k + 1 < vs.length) => riseC_step (zs := zz) (vs := vs) (i := i) hmem HVS.out hk)
    have HRN : Hid (∀ k, rN zz vs i k = rC zz vs i k + max (zs[x.1] - vs.getD k 0) (vs.getD k 0 - zs[x.1])) := by
      intro k
      unfold rN
      rw [hat]
    rw [hat] at z1 z2
    have c1 := hM.1.cell
    have HM := Lib.hid hM; have HB := Lib.hid hB
    clear hM hB hmem hbz hzz
    obtain ⟨z, hz⟩ : ∃ z, zs[x.1] = z := ⟨_, rfl⟩
    rw [hz] at z1 z2 HRN
    have HZ3 := Lib.hid hz
    clear hat
    have HIV := Lib.hid (HV.out.below HB.out (Nat.le_refl _))
    gi_wp2
    rw [HZ3.out]
    clear hz c1
    gi_loopw [8, 9, 19] (fun _ _ ct wr => ∃ k : Nat, k ≤ n ∧ ct = .int .i64 (k : Int) ∧ Mid wr w.heap.size 23 (.slice Al n cl) (w.heap.size + 1) 23 n (mixR zz vs i k) ∧ Below w.heap.size W wr ∧ KeepsOthers W wr) (fun _ _ ct _ => n - (intOf ct).toNat)
    case atStart => exact ⟨0, Nat.zero_le _, rfl, HM.out, Below.refl _ _, KeepsOthers.refl _⟩
    case round =>
      obtain ⟨k, hk, rfl, hM, hbw, hkw⟩ := hrel
      clear HM
      have HM := Lib.hid hM; have HBW := Lib.hid hbw; have HKW := Lib.hid hkw
      clear hM hbw hkw
      by_cases hlt2 : k < n
      · have hkv : k < vs.length := by omega
        obtain ⟨b, off, rfl, hb1, hb2, hcl⟩ := (HIV.out.below HBW.out (Nat.le_refl _)).at_ hkv
        rw [← getD_in hkv] at hcl
        obtain ⟨l1, l2⟩ := HVB.out k hkv
        obtain ⟨r1, r2⟩ := HRC.out k hkv
        have HRN2 := Lib.hid (HRN.out k)
        obtain ⟨lv, hlv⟩ : ∃ v, vs.getD k 0 = v := ⟨_, rfl⟩
        rw [hlv] at hcl l1 l2 HRN2
        clear hlv
        have hkm : k < (mixR zz vs i k).length := by rw [mixR_len]; exact hkv
        obtain ⟨hcv, hfv⟩ := HM.out.2.2.1 k hkm
        rw [Nat.zero_add, mixR_get, if_neg (Nat.lt_irrefl k)] at hcv
        rw [Nat.zero_add] at hfv
        have d1 := HM.out.1.cell; have d2 := HM.out.2.1.cell
        have kn : (k : Int) < (n : Int) := by omega
        have k0 : (0 : Int) ≤ (k : Int) := by omega
        have kt : (k : Int).toNat = k := by omega
        obtain ⟨rc, hrc⟩ : ∃ v, rC zz vs i k = v := ⟨_, rfl⟩
        rw [hrc] at hcv r1 r2 HRN2
        clear hrc
        have szl : IntKind.i64.wrap (z - lv) = z - lv := IntWalk.i64_in _ (by omega)
        have slz : IntKind.i64.wrap (lv - z) = lv - z := IntWalk.i64_in _ (by omega)
        have ssum : IntKind.i64.wrap (rc + max (z - lv) (lv - z)) = rc + max (z - lv) (lv - z) := IntWalk.i64_in _ (by omega)
        have ks : IntKind.i64.wrap ((k : Int) + 1) = (k : Int) + 1 := IntWalk.i64_in _ (by omega)
        rcases k with _ | k
        · have HM1 : Hid (Mid (wr.setCell ⟨w.heap.size + 1, 0, none⟩ (.int .i64 (rc + max (z - lv) (lv - z)))) w.heap.size 23 (.slice (some ⟨b, off, none⟩) n cl) (w.heap.size + 1) 23 n (mixR zz vs i 1)) := by
            have h := HM.out.set_ (by omega) 0 hkm (rC zz vs (i + 1) 0)
            rw [mixR_set] at h
            rw [← HF.out, HRN2.out] at h
            exact h
          have g0 : ((0 : Nat) : Int) = 0 := rfl
          rw [g0] at kn k0 kt ks ⊢
          rw [Nat.add_zero] at hcl
          clear g0
          gi_wp2
          go_roundw
          case rel => exact ⟨1, by omega, rfl, HM1.out, HBW.out.setCell (p := ⟨w.heap.size + 1, 0, none⟩) (by show w.heap.size ≤ w.heap.size + 1; omega) _, HKW.out.trans (KeepsOthers.setCell _ _ _)⟩
          case measure => simp [intOf] <;> omega
        · obtain ⟨q1, q2⟩ := HRD.out k (by omega)
          have hm1 := HM.out.set_ (by omega) (k + 1) hkm (rN zz vs i (k + 1))
          have hk1 : k < ((mixR zz vs i (k + 1)).set (k + 1) (rN zz vs i (k + 1))).length := by rw [List.length_set, mixR_len]; omega
          have hkk : k + 1 < ((mixR zz vs i (k + 1)).set (k + 1) (rN zz vs i (k + 1))).length := by rw [List.length_set, mixR_len]; omega
          have hp := (hm1.2.2.1 k hk1).1
          rw [Nat.zero_add, List.getElem_set_ne (by omega), mixR_get, if_pos (Nat.lt_succ_self k)] at hp
          obtain ⟨hc2, hf2⟩ := hm1.2.2.1 (k + 1) hkk
          rw [Nat.zero_add, List.getElem_set_self] at hc2
          rw [Nat.zero_add] at hf2
          have HM2 : Hid (Mid ((wr.setCell ⟨w.heap.size + 1, k + 1, none⟩ (.int .i64 (rN zz vs i (k + 1)))).setCell ⟨w.heap.size + 1, k + 1, none⟩ (.int .i64 (min (rN zz vs i (k + 1)) (rC zz vs (i + 1) k)))) w.heap.size 23 (.slice (some ⟨b, off, none⟩) n cl) (w.heap.size + 1) 23 n (mixR zz vs i (k + 1 + 1))) := by
            have h := hm1.set_ (by omega) (k + 1) hkk (rC zz vs (i + 1) (k + 1))
            rw [List.set_set, mixR_set] at h
            rw [HST.out k (by omega)]
            exact h
          have hb3 := hm1.2.1.cell
          rw [HRN2.out] at HM2 hc2 hp hf2 hb3
          clear hm1 hk1 hkk
          obtain ⟨pv, hpv⟩ : ∃ v, rC zz vs (i + 1) k = v := ⟨_, rfl⟩
          rw [hpv] at HM2 hp q1 q2
          clear hpv
          have g1 : ((k + 1 : Nat) : Int) = (k : Int) + 1 := by omega
          rw [g1] at kn k0 kt ks ⊢
          clear g1
          have p0 : (0 : Int) ≤ (k : Int) := by omega
          have pt : (k : Int).toNat = k := by omega
          have pn : (k : Int) < (n : Int) := by omega
          have sp : IntKind.i64.wrap ((k : Int) + 1 - 1) = (k : Int) := by rw [IntWalk.i64_in _ (by omega)]; omega
          have sp2 : IntKind.i64.wrap (k : Int) = (k : Int) := IntWalk.i64_in _ (by omega)
          gi_wp2
          obtain ⟨W1, hW1⟩ : ∃ W1, wr.setCell ⟨w.heap.size + 1, k + 1, none⟩ (.int .i64 (rc + max (z - lv) (lv - z))) = W1 := ⟨_, rfl⟩
          have HBW1 : Hid (Below w.heap.size W W1) := by rw [← hW1]; exact HBW.out.setCell (p := ⟨w.heap.size + 1, k + 1, none⟩) (by show w.heap.size ≤ w.heap.size + 1; omega) _
          have HKW1 : Hid (KeepsOthers W W1) := by rw [← hW1]; exact HKW.out.trans (KeepsOthers.setCell _ _ _)
          rw [hW1] at hc2 hp hf2 hb3 HM2
          rw [hW1]
          obtain ⟨nv, hnv⟩ : ∃ v, rc + max (z - lv) (lv - z) = v := ⟨_, rfl⟩
          rw [hnv] at hc2 HM2
          clear hW1 hcv hfv d1 d2 hcl
          refine region_anyS (fun W' => W'.cell? ⟨w.heap.size + 1 + 1, 0, none⟩ = some (.slice (some ⟨w.heap.size + 1, 0, none⟩) n n) ∧ W'.cell? ⟨w.heap.size + 1, k, none⟩ = some (.int .i64 pv)) (by kernel_rfl) ?_
          have hS0 : W1.drew.cell? ⟨w.heap.size + 1 + 1, 0, none⟩ = some (.slice (some ⟨w.heap.size + 1, 0, none⟩) n n) ∧ W1.drew.cell? ⟨w.heap.size + 1, k, none⟩ = some (.int .i64 pv) := ⟨hb3, hp⟩
          refine anyS_first 0 (v := .slice (some ⟨w.heap.size + 1, 0, none⟩) n n) rfl (by kernel_rfl) (by kernel_rfl) (by kernel_rfl) (fun _ _ _ h => h) hS0 ⟨fun _ => rfl, .inl ⟨by rfl, fun W' hW' => (by obtain ⟨e1, e2⟩ := hW'; go_simp)⟩⟩ ?_
          refine anyS_first 1 (v := .int .i64 ((k : Int) + 1)) rfl (by kernel_rfl) (by kernel_rfl) (by kernel_rfl) (fun _ _ _ h => h) hS0 ⟨fun _ => rfl, .inl ⟨by rfl, fun W' hW' => (by go_simp)⟩⟩ ?_
          refine anyS_first 2 (v := .slice (some ⟨w.heap.size + 1, 0, none⟩) n n) rfl (by kernel_rfl) (by kernel_rfl) (by kernel_rfl) (fun _ _ _ h => h) hS0 ⟨fun _ => rfl, .inl ⟨by rfl, fun W' hW' => (by obtain ⟨e1, e2⟩ := hW'; go_simp)⟩⟩ ?_
          refine anyS_first 3 (v := .int .i64 ((k : Int) + 1)) rfl (by kernel_rfl) (by kernel_rfl) (by kernel_rfl) (fun _ _ _ h => h) hS0 ⟨fun _ => rfl, .inl ⟨by rfl, fun W' hW' => (by go_simp)⟩⟩ ?_
          refine anyS_first 4 (v := .pointer (some ⟨w.heap.size + 1, k + 1, none⟩)) rfl (by kernel_rfl) (by kernel_rfl) (by kernel_rfl) (fun _ _ _ h => h) hS0 ⟨fun _ => rfl, .inl ⟨by rfl, fun W' hW' => (by go_simp)⟩⟩ ?_
          refine anyS_first 6 (v := .slice (some ⟨w.heap.size + 1, 0, none⟩) n n) rfl (by kernel_rfl) (by kernel_rfl) (by kernel_rfl) (fun _ _ _ h => h) hS0 ⟨fun _ => rfl, .inl ⟨by rfl, fun W' hW' => (by obtain ⟨e1, e2⟩ := hW'; go_simp)⟩⟩ ?_
          refine anyS_first 7 (v := .int .i64 ((k : Int) + 1)) rfl (by kernel_rfl) (by kernel_rfl) (by kernel_rfl) (fun _ _ _ h => h) hS0 ⟨fun _ => rfl, .inl ⟨by rfl, fun W' hW' => (by go_simp)⟩⟩ ?_
          refine anyS_first 8 (v := .int .i64 (k : Int)) rfl (by kernel_rfl) (by kernel_rfl) (by kernel_rfl) (fun _ _ _ h => h) hS0 ⟨fun _ => rfl, .inl ⟨by rfl, fun W' hW' => (by go_simp)⟩⟩ ?_
          refine anyS_first 9 (v := .pointer (some ⟨w.heap.size + 1, k, none⟩)) rfl (by kernel_rfl) (by kernel_rfl) (by kernel_rfl) (fun _ _ _ h => h) hS0 ⟨fun _ => rfl, .inl ⟨by rfl, fun W' hW' => (by go_simp)⟩⟩ ?_
          refine anyS_first 10 (v := .int .i64 pv) rfl (by kernel_rfl) (by kernel_rfl) (by kernel_rfl) (fun _ _ _ h => h) hS0 ⟨fun _ => rfl, .inl ⟨by rfl, fun W' hW' => (by obtain ⟨e1, e2⟩ := hW'; go_simp)⟩⟩ ?_
          refine anyS_one 5 rfl (by kernel_rfl) hS0 ?_
          refine wpOpIn_step rfl fun K5 hK5 => ?_
          go_simp
          refine hK5 _ _ ?_
          clear hK5
          refine anyS_one 11 rfl (by kernel_rfl) hS0 ?_
          refine wpOpIn_step rfl fun K11 hK11 => ?_
          go_simp
          refine hK11 _ _ ?_
          clear hK11
          refine anyS_one 12 rfl (by kernel_rfl) hS0 ?_
          refine wpOpIn_step rfl fun K12 hK12 => ?_
          go_simp
          refine hK12 _ _ ?_
          clear hK12
          refine anyS_one 13 rfl (by kernel_rfl) hS0 ?_
          refine wpOpIn_step rfl fun K13 hK13 => ?_
          go_simp
          refine hK13 _ _ ?_
          clear hK13
          refine anyS_done (by kernel_rfl) ⟨?_, ?_⟩ ?_
          · exact HM2.out.2.1.cell
          · show (W1.setCell _ _).cell? _ = _
            rw [World.cell?_setCell_other]
            · exact hp
            · intro e; injection e with _ e; omega
          clear hc2 hp hf2 hb3 hS0
          gi_wp2
          go_roundw
          case rel => exact ⟨k + 1 + 1, by omega, by go_num, HM2.out, HBW1.out.drew.setCell (p := ⟨w.heap.size + 1, k + 1, none⟩) (by show w.heap.size ≤ w.heap.size + 1; omega) _, (HKW1.out.trans (KeepsOthers.drew _)).trans (KeepsOthers.setCell _ _ _)⟩
          case measure => simp [intOf] <;> omega
      · obtain rfl : k = n := by omega
        have kn : ¬ (k : Int) < (k : Int) := by omega
        have HM1 : Hid (Mid wr w.heap.size 23 (.slice Al k cl) (w.heap.size + 1) 23 k (costsP zs vs (pre ++ [x]))) := by
          rw [← HEND.out, hn]; exact HM.out
        gi_wp2
        exact ⟨HKW.out, HBW.out, HM1.out, HB.out.trans HBW.out⟩
  case hdone =>
    rintro D ys W hD rfl ⟨hM, hB⟩ hK
    have hall := riseC_all (zs := zs) (vs := vs) (fun j hj => by rw [getD_in hj]; exact HMM.out _ (List.getElem_mem hj)) HVS.out (fun j hj => (HVB.out j hj).2) h0
    have hkl : n - 1 < (costsP zs vs (List.finRange zs.length)).length := by rw [costsP_len]; omega
    have hcv := (hM.2.2.1 (n - 1) hkl).1
    rw [Nat.zero_add] at hcv
    have hce : (costsP zs vs (List.finRange zs.length))[n - 1]'hkl = downF (negL zs) zs.length := by
      rw [← hall, hn]
      simp only [costsP, List.getElem_map, List.getElem_range, valsP_all, List.length_finRange]
    rw [hce] at hcv
    have c2 := hM.2.1.cell
    have HB := Lib.hid hB; have HK := Lib.hid hK
    obtain ⟨y, hy⟩ : ∃ y, downF (negL zs) zs.length = y := ⟨_, rfl⟩
    rw [hy] at hcv
    have HY := Lib.hid hy
    have n0 : (0 : Int) ≤ (n : Int) - 1 := by omega
    have n1 : (n : Int) - 1 < (n : Int) := by omega
    have nt : ((n : Int) - 1).toNat = n - 1 := by omega
    have sn : IntKind.i64.wrap ((n : Int) - 1) = (n : Int) - 1 := IntWalk.i64_in _ (by omega)
    clear hM hB hK hall hkl hce hy
    gi_wp2
    refine ⟨by simp, .inl ⟨_, _, rfl, run_takeDeferred HK.out, ?_⟩⟩
    refine ⟨.int .i64 y, ?_, by rw [HY.out], HB.out.trans (belowK_b (w := w) (Nat.le_refl _) W D _ _ (by omega) HK.out rfl rfl)⟩
    simp [results, Try.f78, go_sem]
  case hstop =>
    rintro D cd pre W _ _ h _
    exact h.elim
end Go.Proofs.Ytnphmapiagiocaa

/-
  Values of a row sorted, a row cloned, a row turned round: slices.Values, Sorted, Clone, Reverse. Conditions: the row's cells are there.
-/
namespace Go.Proofs.Ytnphmapiagiocaa
open Go.RowKit Go.Shelf Go.ChangeShapes Go.WideShapes
attribute [local go_sem] Oper.semAt_some

set_option maxRecDepth 100000 in
set_option maxHeartbeats 1000000 in
theorem values1_in (F : Fence) (n : Nat) (hF : F.fn 92) (hro : F.round = none) (hn : 1 ≤ n) (l Bn n₀ c : Nat) (A : Option Addr) (zs : List Int) (J Jx : List (Fin zs.length) → World → Prop)
    (hY : ∀ pre x W, J pre W → pre.length < zs.length → YieldAt F (n - 1) Try.prog l #[.int .i64 (zs[(x : Fin zs.length)])] W fun e W' =>
      (e = .returned (.bool true) ∧ J (pre ++ [x]) W' ∧ Below n₀ W W') ∨ (e = .returned (.bool false) ∧ Jx (pre ++ [x]) W'))
    (W : World) (hBn : W.cell? ⟨Bn, 0, none⟩ = some (.slice A zs.length c)) (hL : IR W 0 n₀ A zs) (h0 : J [] W) :
    CallsIn F n Try.prog 92 #[.func (.yield l) #[] #[], .pointer (some ⟨Bn, 0, none⟩)] W fun e W' => (∃ v, e = .returned v) ∧
      ((∃ ys, ys = List.finRange zs.length ∧ J ys W') ∨ (∃ pre, True ∧ Jx pre W')) := by
  have hl := hL.1
  refine callsIn_of_wp Try.func92 rfl hF ?_ hro
  simp only [Try.ntmps92, List.size_toArray, List.length_cons, List.length_nil, Nat.reduceAdd, Nat.reduceSub, Array.replicate_succ, Array.replicate_zero, List.push_toArray, List.append_toArray, List.nil_append, List.cons_append]
  gi_wp2
  gi_loopw [7] (fun i wr => ∃ k : Nat, k ≤ zs.length ∧ i = .int .i64 k ∧ IR wr 0 n₀ A zs ∧ J ((List.finRange zs.length).take k) wr)
    (fun i _ => zs.length - (intOf i).toNat)
  case atStart => exact ⟨0, Nat.zero_le _, rfl, hL, by simpa using h0⟩
  case round =>
    obtain ⟨k, hk, rfl, hR, hJ⟩ := hrel
    by_cases hlt : k < zs.length
    · have HR := Lib.hid hR
      obtain ⟨b, off, rfl, _, _, hc⟩ := hR.at_ hlt
      clear hR
      have hlt' : (k : Int) < (zs.length : Int) := by omega
      obtain ⟨fn, tmps, assign, body, hy, hYR⟩ := hY ((List.finRange zs.length).take k) ⟨k, hlt⟩ wr hJ (by simp; omega)
      simp only [Fin.getElem_fin] at hy
      gi_wp2
      refine hYR.mono ?_
      rintro e W3 (⟨rfl, hJ3, hk3⟩ | ⟨rfl, hJx3⟩)
      · have HJ := Lib.hid hJ3; have HK := Lib.hid hk3
        clear hJ3 hk3 hYR hJ
        gi_wp2
        go_roundw
        case rel => exact ⟨k + 1, by omega, by go_num, HR.out.below HK.out (Nat.le_refl _), by rw [← finRange_succ hlt]; exact HJ.out⟩
        case measure => simp [intOf]; omega
      · have HJ := Lib.hid hJx3
        clear hJx3 hYR hJ
        gi_wp2
        refine bodyPost_ret (results_none rfl _ _ _) rfl ?_
        exact ⟨⟨_, rfl⟩, .inr ⟨_, trivial, HJ.out⟩⟩
    · obtain rfl : k = zs.length := by omega
      have HJ := Lib.hid hJ
      clear hJ
      gi_wp2
      go_end0
      exact ⟨⟨_, rfl⟩, .inl ⟨_, rfl, by have := HJ.out; rwa [List.take_of_length_le (by simp)] at this⟩⟩

theorem values_any (A : Option Addr) (m c : Nat) (w : World) :
    Calls Try.prog 75 #[.slice A m c] w fun e w' => e = .returned (.func (.func 92) #[] #[.pointer (some ⟨w.heap.size, 0, none⟩)]) ∧ w' = w.alloc (.cells #[.slice A m c] 41) := by
  have hmf : ∀ (fn : Fn) (first cap : Array Value) (w : World), (Instr.makeFunc fn first cap).run Try.prog w = .ok (.func fn first cap) w := fun _ _ _ _ => rfl
  go_enter Try.func75, Try.ntmps75
  go_wp2
  go_ret
  exact ⟨rfl, rfl⟩

theorem values_stops (F : Fence) (n : Nat) (hF : F.fn 92) (hro : F.round = none) (hn : 1 ≤ n) (Bn n₀ c : Nat) (A : Option Addr) (zs : List Int) (w : World) (hBn : Bn < w.heap.size) (hn₀ : n₀ ≤ w.heap.size)
    (hc : w.cell? ⟨Bn, 0, none⟩ = some (.slice A zs.length c)) (hL : IR w 0 n₀ A zs) :
    SeqStopsK F n Try.prog 92 #[.pointer (some ⟨Bn, 0, none⟩)] (fun x : Fin zs.length => #[.int .i64 zs[x]]) (Below n₀) (fun ys => ys = List.finRange zs.length) (fun _ => True) zs.length w := fun l J Jx W hW _ _ hY h0 =>
  values1_in F n hF hro hn l Bn n₀ c A zs J Jx hY W ((hW.cell (p := ⟨Bn, 0, none⟩) hBn).trans hc) (hL.below hW hn₀) h0

set_option maxRecDepth 100000 in
set_option maxHeartbeats 1000000 in
theorem appendValues_own (A : Option Addr) (c Bn : Nat) (zs : List Int) (hzl : zs.length ≤ 1000) (w : World) (hBn : Bn < w.heap.size) (hc : w.cell? ⟨Bn, 0, none⟩ = some (.slice A zs.length c)) (h : IR w 0 w.heap.size A zs) :
    Calls Try.prog 89 #[.slice none 0 0, .func (.func 92) #[] #[.pointer (some ⟨Bn, 0, none⟩)]] w fun e w' => ∃ v, e = .returned v ∧ OwnI w' w.heap.size v zs ∧ Below w.heap.size w w' := by
  have HI := Lib.hid (fun (x : Fin zs.length) => h.2.1 _ (List.getElem_mem x.2))
  refine (callsIn_wide (n := 6)).1 ?_
  refine callsIn_of_wp_marks Try.func89 rfl trivial ?_ rfl
  simp only [Try.ntmps89, List.size_toArray, List.length_cons, List.length_nil, Nat.reduceAdd, Nat.reduceSub, Array.replicate_succ, Array.replicate_zero, List.push_toArray, List.append_toArray, List.nil_append, List.cons_append]
  gi_wp2
  have bO := Boxed.new w 23 (.slice none 0 0)
  have hB0 : Below w.heap.size w (w.alloc (.cells #[.slice none 0 0] 23)) := (Below.refl _ w).alloc (Nat.le_refl _) _
  have hR0 := h.grow hB0
  apply (fun a₁ => wpIn_rangeFunc_ownF (F := Fence.wide) rfl (by decide) (gf := 92) (lb := #[.pointer (some ⟨Bn, 0, none⟩)]) rfl trivial (enters_of Try.func92 (by kernel_rfl) rfl)
    (values_stops Fence.wide (6 - 1) trivial rfl (by decide) Bn w.heap.size c A zs _ (by simp; omega) (by simp) ((hB0.cell (p := ⟨Bn, 0, none⟩) hBn).trans hc) hR0) belowK_t (belowK_b (by simp)) (Below.refl _ _) (fun _ => rfl)
    (fun pre W => (BoxOwn W w.heap.size w.heap.size (pre.map fun x => zs[x]) ∧ w.heap.size ≤ W.heap.size) ∧ Below w.heap.size w W)
    (fun _ _ _ => False)
    (OwnFrom.and (boxOwn_own _ _ _ _) (ownFrom_below (Nat.le_refl _) (by simp)))
    (fun _ _ _ _ _ hs _ _ => hs)
    ⟨⟨⟨_, bO, OwnI.nil _ _ (by simp)⟩, by simp⟩, hB0⟩ a₁)
  case hassign =>
    intro l x W K hK
    gi_wp2
    exact hK
  case hbody =>
    rintro l pre x W ⟨⟨⟨v, hv, ho⟩, hs⟩, hB⟩ hlt
    have hcx := hv.cell
    have hy := HI.out x
    have HV := Lib.hid hv; have HO := Lib.hid ho; have HBB := Lib.hid hB; have HY := Lib.hid hy
    have hll : (pre.map fun x => zs[x]).length < 17592186044416 := by simp; omega
    have HLL := Lib.hid hll
    clear hv ho hB hy hll
    gi_wp2_with (gi_at_builtin; refine wpListIn_push rfl _ _ rfl w.heap.size _ _ rfl rfl HO.out HLL.out HY.out ?_; intro v' w1 ho1 hg1; obtain ⟨g', cap', rfl⟩ := ownI_some ho1; obtain ⟨hv1, hv2, hk2, hb2⟩ := box_push HV.out HO.out (Nat.le_refl _) ho1 hg1; have hc1 := hv1.cell; have hf1 := hv1.frozen)
    simp only [List.length_map] at hv2 hk2 hb2
    exact ⟨hk2, hb2, ⟨by rw [List.map_append]; exact hv2, by have := hb2.size; omega⟩, HBB.out.trans hb2⟩
  case hdone =>
    rintro D ys W hD rfl ⟨⟨⟨v, hv, ho⟩, hs⟩, hB⟩ hK
    have hcx := hv.cell
    have e : (List.finRange zs.length).map (fun x => zs[x]) = zs := by
      apply List.ext_getElem <;> simp
    rw [e] at ho
    have HO := Lib.hid ho; have HBB := Lib.hid hB; have HV := Lib.hid hv
    clear ho hB e hv
    gi_wp2
    refine ⟨by simp, .inl ⟨_, _, rfl, run_takeDeferred hK, ?_⟩⟩
    exact ⟨_, results_tmp rfl _ _ _, v, rfl, ownI_putObj HO.out (.deferred none) hK rfl, HBB.out.trans (belowK_b (w := w) (Nat.le_refl _) W D _ _ (by simp at hD; omega) hK rfl rfl)⟩
  case hstop =>
    rintro D cd pre W _ _ h _
    exact h.elim

set_option maxHeartbeats 400000 in
theorem collectValues_own (A : Option Addr) (c Bn : Nat) (zs : List Int) (hzl : zs.length ≤ 1000) (w : World) (hBn : Bn < w.heap.size) (hc : w.cell? ⟨Bn, 0, none⟩ = some (.slice A zs.length c)) (h : IR w 0 w.heap.size A zs) :
    Calls Try.prog 70 #[.func (.func 92) #[] #[.pointer (some ⟨Bn, 0, none⟩)]] w fun e w' => ∃ v, e = .returned v ∧ OwnI w' w.heap.size v zs ∧ Below w.heap.size w w' := by
  have HC := Lib.hid hc
  clear hc
  go_enter Try.func70, Try.ntmps70
  go_wp2_with (go_at_call 89; refine (appendValues_own _ _ _ zs hzl _ hBn HC.out h).mono ?_; rintro e w' ⟨v, rfl, hi', hb'⟩)
  go_ret
  exact ⟨_, rfl, hi', hb'⟩

set_option maxHeartbeats 400000 in
theorem sortedValues_any (A : Option Addr) (c Bn : Nat) (zs : List Int) (hzl : zs.length ≤ 1000) (w : World) (hBn : Bn < w.heap.size) (hc : w.cell? ⟨Bn, 0, none⟩ = some (.slice A zs.length c)) (h : IR w 0 w.heap.size A zs) :
    Calls Try.prog 74 #[.func (.func 92) #[] #[.pointer (some ⟨Bn, 0, none⟩)]] w (RetS w (zs.mergeSort fun x y => decide (x ≤ y))) := by
  have HC := Lib.hid hc; have H := Lib.hid h
  clear hc h
  go_enter Try.func74, Try.ntmps74
  go_wp2_with (go_at_call 70; refine (collectValues_own _ _ _ zs hzl _ hBn HC.out H.out).mono ?_; rintro e w1 ⟨v, rfl, ho, hb⟩; have HO := Lib.hid ho; have HB := Lib.hid hb; clear ho hb)
  go_wp2_with (go_at_call 91; refine (sortOwn_any w.heap.size v _ w1 HO.out hzl).mono ?_; rintro e w2 ⟨rfl, ho, hb⟩; have HO2 := Lib.hid ho; have HB2 := Lib.hid hb; clear ho hb)
  go_wp2
  go_ret
  obtain ⟨A', c', rfl, hi⟩ := HO2.out.iw (by rw [List.length_mergeSort]; omega)
  exact ⟨A', c', rfl, hi, HB.out.trans HB2.out⟩

/-! ### Clone -/
theorem wpList_appendsRow {ops : Array Oper} {rest : List Oper} {o : Oper} {a : Act} {w : World} {Q : Exit → Act → World → Prop} (hgd : o.guard = none) (s x : Operand)
    (ho : o.op = .call { callee := .builtin .append, args := #[s, x], argTypes := #[41, 41] })
    (base : Nat) (v : Value) (zs ys : List Int) (b off n c : Nat) (hn : n = ys.length) (hs : a.eval s = v) (hx : a.eval x = .slice (some ⟨b, off, none⟩) n c) (hown : OwnI w base v zs)
    (hc : ∀ (j : Nat) (h : j < ys.length), w.cell? ⟨b, off + j, none⟩ = some (.int .i64 ys[j])) (hl : zs.length + ys.length ≤ 17592186044416) (hy : ∀ y, y ∈ ys → I64 y)
    (h : ∀ v' w', OwnI w' base v' (zs ++ ys) → Below base w w' → wpList Try.prog ops Q rest (a.put o.dst v') w') : wpList Try.prog ops Q (o :: rest) a w := by
  subst hn
  refine wpList_plain hgd fun K hK => ?_
  obtain ⟨i0, hi, hz0, hz1, hz2⟩ := info_parts info_int
  obtain ⟨v', w', hrun, h2, h3, _⟩ := run_append_own (P := Try.prog) w base 41 o.type 3 i0 (.int .i64 0) 1 8 Try.underlying41 hi hz0 hz1 hz2 rfl (by decide) v zs.length (zs.map (Value.int .i64)) hown.1 ⟨b, off, none⟩ ys.length c (ys.map (Value.int .i64)) (by simp)
    (fun j u hj => by
      rw [List.getElem?_map] at hj
      by_cases hjl : j < ys.length
      · rw [List.getElem?_eq_getElem hjl] at hj
        simp at hj
        subst hj
        rw [add_plain]
        exact hc j hjl
      · rw [List.getElem?_eq_none (by omega)] at hj; cases hj) (by intro u hu; obtain ⟨y, _, rfl⟩ := List.mem_map.1 hu; rfl) (by unfold maxLen; omega) (by omega) hown.2.2
  unfold Oper.wp execOp
  simp only [ho, resolve, invoke, builtin, Sem.run_bind, Sem.run_pure, Result.andThen_ok, List.map_toArray, List.map_cons, List.map_nil, hs, hx, hrun]
  refine hK _ _ (h v' w' ⟨by simpa using h2, ?_, Nat.le_trans hown.2.2 h3.size⟩ ((Below.refl base w).grown h3 hown.2.2 fun k hk => (hown.1.lt k hk).1))
  intro z hz
  rcases List.mem_append.1 hz with hz | hz
  · exact hown.2.1 z hz
  · exact hy z hz

set_option maxHeartbeats 1000000 in
theorem cloneRow_any (A : Option Addr) (c lo hi : Nat) (ys : List Int) (w : World) (hp : 0 < ys.length) (h : IR w lo hi A ys) :
    Calls Try.prog 76 #[.slice A ys.length c] w (RetSC w ys) := by
  obtain ⟨b, off, rfl, _, _, _⟩ := h.at_ hp
  have HC : Hid (∀ (j : Nat) (h : j < ys.length), (w.alloc (.cells #[] 3)).cell? ⟨b, off + j, none⟩ = some (.int .i64 ys[j])) := by
    intro j hj
    obtain ⟨b', off', e, _, hbs, hcc⟩ := h.at_ hj
    injection e with e; injection e with e1 e2 _; subst e1; subst e2
    rw [World.cell?_alloc_past _ _ _ hbs]; exact hcc
  have HLe : Hid (([] : List Int).length + ys.length ≤ 17592186044416) := by have := h.1; show _ ≤ _; simp; omega
  have HYs := Lib.hid h.2.1
  have hnil := fun (w : World) => Lib.run_eql_slice_nil (P := Try.prog) w _ _ (some ⟨b, off, none⟩) ys.length c 0 0 Try.underlying41
  clear h
  go_enter Try.func76, Try.ntmps76
  go_wp2_with (at_builtin; refine wpList_appendsRow rfl _ _ rfl w.heap.size _ [] ys b off ys.length c rfl rfl rfl (OwnI.made w) HC.out HLe.out HYs.out ?_; intro v1 w1 ho1 hb1; have HO1 := Lib.hid ho1; have HB1 := Lib.hid hb1; clear ho1 hb1; obtain ⟨A1, c1, rfl, hi1, hcap⟩ := HO1.out.iwc (n := ys.length) (by simp) (by simpa using HLe.out); have HI1 := Lib.hid hi1; have HCP := Lib.hid hcap; clear hi1 hcap HO1)
  go_ret
  exact ⟨A1, c1, rfl, HCP.out, HI1.out, ((Below.refl _ _).alloc (Nat.le_refl _) _).trans HB1.out⟩

/-! ### Reverse -/
/-- The first k entries and the last k have changed their places. -/
def revTo (ys : List Int) (k : Nat) : List Int := (List.range ys.length).map fun j => if j < k ∨ ys.length - k ≤ j then ys.getD (ys.length - 1 - j) 0 else ys.getD j 0
theorem revTo_len (ys : List Int) (k : Nat) : (revTo ys k).length = ys.length := by simp [revTo]
theorem revTo_get (ys : List Int) (k j : Nat) (h : j < (revTo ys k).length) : (revTo ys k)[j] = if j < k ∨ ys.length - k ≤ j then ys.getD (ys.length - 1 - j) 0 else ys.getD j 0 := by simp [revTo]
theorem revTo_zero (ys : List Int) : revTo ys 0 = ys := by
  apply List.ext_getElem (revTo_len _ _)
  intro j h1 h2
  rw [revTo_get, if_neg (by omega), getD_in h2]
theorem revTo_step (ys : List Int) {k : Nat} (h : k < ys.length - 1 - k) : ((revTo ys k).set k (ys.getD (ys.length - 1 - k) 0)).set (ys.length - 1 - k) (ys.getD k 0) = revTo ys (k + 1) := by
  apply List.ext_getElem
  · rw [List.length_set, List.length_set, revTo_len, revTo_len]
  · intro j h1 h2
    rw [List.getElem_set, List.getElem_set, revTo_get ys (k + 1) j h2]
    by_cases e1 : ys.length - 1 - k = j
    · rw [if_pos e1, if_pos (by omega), show ys.length - 1 - j = k by omega]
    · rw [if_neg e1]
      by_cases e2 : k = j
      · rw [if_pos e2, if_pos (by omega), e2]
      · rw [if_neg e2, revTo_get]
        by_cases c : j < k ∨ ys.length - k ≤ j
        · rw [if_pos c, if_pos (by omega)]
        · rw [if_neg c, if_neg (by omega)]
theorem revTo_all (ys : List Int) {k : Nat} (h : ¬ k < ys.length - 1 - k) (hk : 2 * k ≤ ys.length) : revTo ys k = ys.reverse := by
  apply List.ext_getElem
  · rw [revTo_len, List.length_reverse]
  · intro j h1 h2
    rw [revTo_get, ← getD_in h2, reverse_getD ys j (by rw [revTo_len] at h1; exact h1)]
    rw [revTo_len] at h1
    by_cases c : j < k ∨ ys.length - k ≤ j
    · rw [if_pos c]
    · rw [if_neg c, show ys.length - 1 - j = j by omega]

set_option maxRecDepth 100000 in
set_option maxHeartbeats 2000000 in
theorem reverseRow_any (A : Option Addr) (c lo hi : Nat) (ys : List Int) (w : World) (hp : 0 < ys.length) (h : IW w lo hi A ys) :
    Calls Try.prog 77 #[.slice A ys.length c] w fun e w' => e = .returned (.tuple #[]) ∧ IW w' lo hi A ys.reverse ∧ Only lo hi w w' := by
  obtain ⟨hl, hz, hs, hcells⟩ := h
  obtain ⟨b, off, rfl, hb1, hb2, hc0⟩ := hcells hp
  have HC0 : Hid (Cells w b off (revTo ys 0)) := by rw [revTo_zero]; exact hc0
  have HZ := Lib.hid hz
  clear hcells hc0 hz
  refine (callsIn_wide (n := 6)).1 ?_
  refine callsIn_of_wp Try.func77 rfl trivial ?_
  simp only [Try.ntmps77, List.size_toArray, List.length_cons, List.length_nil, Nat.reduceAdd, Nat.reduceSub, Array.replicate_succ, Array.replicate_zero, List.push_toArray, List.append_toArray, List.nil_append, List.cons_append]
  have s0 : IntKind.i64.wrap ((ys.length : Int) - 1) = (ys.length : Int) - 1 := IntWalk.i64_in _ (by omega)
  gi_wp2
  clear s0
  gi_loopw [2, 3] (fun i j wr => ∃ k : Nat, 2 * k ≤ ys.length ∧ i = .int .i64 (k : Int) ∧ j = .int .i64 ((ys.length : Int) - 1 - (k : Int)) ∧ Cells wr b off (revTo ys k) ∧ Only lo hi w wr) (fun i _ _ => ys.length - (intOf i).toNat)
  case atStart => exact ⟨0, by omega, rfl, by go_num, HC0.out, Only.refl _ _ _⟩
  case round =>
    obtain ⟨k, hk, rfl, rfl, hc, ho⟩ := hrel
    have HC := Lib.hid hc; have HO := Lib.hid ho
    clear hc ho HC0
    by_cases hlt : k < ys.length - 1 - k
    · have hlt' : (k : Int) < (ys.length : Int) - 1 - (k : Int) := by omega
      have hx := HC.out k (by rw [revTo_len]; omega)
      have hy := HC.out (ys.length - 1 - k) (by rw [revTo_len]; omega)
      rw [revTo_get, if_neg (by omega)] at hx hy
      obtain ⟨hcx, hfx⟩ := hx
      obtain ⟨hcy, hfy⟩ := hy
      have h1 := HC.out.set_ k (by rw [revTo_len]; omega) (ys.getD (ys.length - 1 - k) 0)
      have h2 := h1.set_ (ys.length - 1 - k) (by rw [List.length_set, revTo_len]; omega) (ys.getD k 0)
      rw [revTo_step ys hlt] at h2
      have hq := h1 (ys.length - 1 - k) (by rw [List.length_set, revTo_len]; omega)
      obtain ⟨hcq, hfq⟩ := hq
      have HO2 : Hid (Only lo hi w ((wr.setCell ⟨b, off + k, none⟩ (.int .i64 (ys.getD (ys.length - 1 - k) 0))).setCell ⟨b, off + (ys.length - 1 - k), none⟩ (.int .i64 (ys.getD k 0)))) := (HO.out.set_ hb1 hb2 _).set_ hb1 hb2 _
      have HC2 := Lib.hid h2
      clear h1 h2
      rw [List.getElem_set_ne (by omega), revTo_get, if_neg (by omega)] at hcq
      obtain ⟨x, hx⟩ : ∃ x, ys.getD k 0 = x := ⟨_, rfl⟩
      obtain ⟨y, hy⟩ : ∃ x, ys.getD (ys.length - 1 - k) 0 = x := ⟨_, rfl⟩
      rw [hx] at hcx HC2 HO2
      rw [hy] at hcy hcq HC2 HO2 hfq
      clear hx hy
      obtain ⟨W1, hW1⟩ : ∃ W1, wr.setCell ⟨b, off + k, none⟩ (.int .i64 y) = W1 := ⟨_, rfl⟩
      have hcq' : W1.cell? ⟨b, off + (ys.length - 1 - k), none⟩ = some (.int .i64 y) := by rw [← hW1]; exact hcq
      have hfq' : W1.frozen? ⟨b, off + (ys.length - 1 - k), none⟩ = false := by rw [← hW1]; exact hfq
      rw [hW1] at HC2 HO2
      have j0 : (0 : Int) ≤ (ys.length : Int) - 1 - (k : Int) := by omega
      have jn : (ys.length : Int) - 1 - (k : Int) < (ys.length : Int) := by omega
      have jt : ((ys.length : Int) - 1 - (k : Int)).toNat = ys.length - 1 - k := by omega
      have i0 : (0 : Int) ≤ (k : Int) := by omega
      have j1 : (k : Int) ≤ (ys.length : Int) - 1 := by omega
      have kn : (k : Int) < (ys.length : Int) := by omega
      have kt : (k : Int).toNat = k := by omega
      have sj : IntKind.i64.wrap ((ys.length : Int) - 1 - (k : Int) - 1) = (ys.length : Int) - 1 - (k : Int) - 1 := IntWalk.i64_in _ (by omega)
      clear hcq hfq
      gi_wp2
      refine region_anyS (fun _ => True) (by kernel_rfl) ?_
      refine anyS_first 0 (v := .slice (some ⟨b, off, none⟩) ys.length c) rfl (by kernel_rfl) (by kernel_rfl) (by kernel_rfl) (fun _ _ _ h => h) trivial ⟨fun _ => rfl, .inl ⟨by rfl, fun W' hW' => (by go_simp)⟩⟩ ?_
      refine anyS_first 1 (v := .int .i64 (k : Int)) rfl (by kernel_rfl) (by kernel_rfl) (by kernel_rfl) (fun _ _ _ h => h) trivial ⟨fun _ => rfl, .inl ⟨by rfl, fun W' hW' => (by go_simp)⟩⟩ ?_
      refine anyS_first 2 (v := .slice (some ⟨b, off, none⟩) ys.length c) rfl (by kernel_rfl) (by kernel_rfl) (by kernel_rfl) (fun _ _ _ h => h) trivial ⟨fun _ => rfl, .inl ⟨by rfl, fun W' hW' => (by go_simp)⟩⟩ ?_
      refine anyS_first 3 (v := .int .i64 ((ys.length : Int) - 1 - (k : Int))) rfl (by kernel_rfl) (by kernel_rfl) (by kernel_rfl) (fun _ _ _ h => h) trivial ⟨fun _ => rfl, .inl ⟨by rfl, fun W' hW' => (by go_simp)⟩⟩ ?_
      refine anyS_first 4 (v := .slice (some ⟨b, off, none⟩) ys.length c) rfl (by kernel_rfl) (by kernel_rfl) (by kernel_rfl) (fun _ _ _ h => h) trivial ⟨fun _ => rfl, .inl ⟨by rfl, fun W' hW' => (by go_simp)⟩⟩ ?_
      refine anyS_first 5 (v := .int .i64 ((ys.length : Int) - 1 - (k : Int))) rfl (by kernel_rfl) (by kernel_rfl) (by kernel_rfl) (fun _ _ _ h => h) trivial ⟨fun _ => rfl, .inl ⟨by rfl, fun W' hW' => (by go_simp)⟩⟩ ?_
      refine anyS_first 6 (v := .pointer (some ⟨b, off + (ys.length - 1 - k), none⟩)) rfl (by kernel_rfl) (by kernel_rfl) (by kernel_rfl) (fun _ _ _ h => h) trivial ⟨fun _ => rfl, .inl ⟨by rfl, fun W' hW' => (by go_simp)⟩⟩ ?_
      refine anyS_first 8 (v := .slice (some ⟨b, off, none⟩) ys.length c) rfl (by kernel_rfl) (by kernel_rfl) (by kernel_rfl) (fun _ _ _ h => h) trivial ⟨fun _ => rfl, .inl ⟨by rfl, fun W' hW' => (by go_simp)⟩⟩ ?_
      refine anyS_first 9 (v := .int .i64 (k : Int)) rfl (by kernel_rfl) (by kernel_rfl) (by kernel_rfl) (fun _ _ _ h => h) trivial ⟨fun _ => rfl, .inl ⟨by rfl, fun W' hW' => (by go_simp)⟩⟩ ?_
      refine anyS_first 10 (v := .pointer (some ⟨b, off + k, none⟩)) rfl (by kernel_rfl) (by kernel_rfl) (by kernel_rfl) (fun _ _ _ h => h) trivial ⟨fun _ => rfl, .inl ⟨by rfl, fun W' hW' => (by go_simp)⟩⟩ ?_
      refine anyS_pair 7 11 (by kernel_rfl) trivial ?p7 ?p11
      case p7 =>
        refine wpOpIn_step rfl fun K7 hK7 => ?_
        go_simp
        refine hK7 _ _ ?_
        clear hK7
        refine anyS_one 11 rfl (by kernel_rfl) trivial ?_
        refine wpOpIn_step rfl fun K11 hK11 => ?_
        go_simp
        refine hK11 _ _ ?_
        clear hK11
        refine anyS_one 12 rfl (by kernel_rfl) trivial ?_
        refine wpOpIn_step rfl fun K12 hK12 => ?_
        go_simp
        refine hK12 _ _ ?_
        clear hK12
        refine anyS_one 13 rfl (by kernel_rfl) trivial ?_
        refine wpOpIn_step rfl fun K13 hK13 => ?_
        go_simp
        refine hK13 _ _ ?_
        clear hK13
        clear hcx hcy hfx hfy
        refine anyS_one 14 rfl (by kernel_rfl) trivial ?_
        refine wpOpIn_step rfl fun K14 hK14 => ?_
        go_simp
        refine hK14 _ _ ?_
        clear hK14
        refine anyS_one 15 rfl (by kernel_rfl) trivial ?_
        refine wpOpIn_step rfl fun K15 hK15 => ?_
        go_simp
        refine hK15 _ _ ?_
        clear hK15
        refine anyS_done (by kernel_rfl) trivial ?_
        gi_wp2
        go_roundw
        case rel => exact ⟨k + 1, by omega, by go_num, by go_num, HC2.out, ⟨HO2.out.os, HO2.out.tape, HO2.out.output, HO2.out.size, HO2.out.block⟩⟩
        case measure => simp [intOf] <;> omega
      case p11 =>
        refine wpOpIn_step rfl fun K11 hK11 => ?_
        go_simp
        refine hK11 _ _ ?_
        clear hK11
        refine anyS_one 7 rfl (by kernel_rfl) trivial ?_
        refine wpOpIn_step rfl fun K7 hK7 => ?_
        go_simp
        refine hK7 _ _ ?_
        clear hK7
        refine anyS_one 12 rfl (by kernel_rfl) trivial ?_
        refine wpOpIn_step rfl fun K12 hK12 => ?_
        go_simp
        refine hK12 _ _ ?_
        clear hK12
        refine anyS_one 13 rfl (by kernel_rfl) trivial ?_
        refine wpOpIn_step rfl fun K13 hK13 => ?_
        go_simp
        refine hK13 _ _ ?_
        clear hK13
        clear hcx hcy hfx hfy
        refine anyS_one 14 rfl (by kernel_rfl) trivial ?_
        refine wpOpIn_step rfl fun K14 hK14 => ?_
        go_simp
        refine hK14 _ _ ?_
        clear hK14
        refine anyS_one 15 rfl (by kernel_rfl) trivial ?_
        refine wpOpIn_step rfl fun K15 hK15 => ?_
        go_simp
        refine hK15 _ _ ?_
        clear hK15
        refine anyS_done (by kernel_rfl) trivial ?_
        gi_wp2
        go_roundw
        case rel => exact ⟨k + 1, by omega, by go_num, by go_num, HC2.out, ⟨HO2.out.os, HO2.out.tape, HO2.out.output, HO2.out.size, HO2.out.block⟩⟩
        case measure => simp [intOf] <;> omega
    · have hlt' : ¬ (k : Int) < (ys.length : Int) - 1 - (k : Int) := by omega
      have HR : Hid (revTo ys k = ys.reverse) := revTo_all ys hlt hk
      gi_wp2
      go_end0
      refine ⟨rfl, Cells.iw (by rw [← HR.out]; exact HC.out) (by rw [List.length_reverse]) hb1 hb2 (by rw [HO.out.size]; exact hs) hl (fun z hz => HZ.out z (List.mem_reverse.1 hz)), HO.out⟩
end Go.Proofs.Ytnphmapiagiocaa

/-
  ValleyCost of the program: a row parted at each place. Conditions: the list's cells are there.
-/
namespace Go.Proofs.Ytnphmapiagiocaa
open Go.RowKit Go.Shelf
attribute [local go_sem] Oper.semAt_some

theorem IR.drop {w : World} {lo hi b off k : Nat} {zs : List Int} (h : IR w lo hi (some ⟨b, off, none⟩) zs) : IR w lo hi (some ⟨b, off + k, none⟩) (zs.drop k) :=
  ⟨by have := h.1; rw [List.length_drop]; omega, fun z hz => h.2.1 z (List.mem_of_mem_drop hz), h.2.2.1, fun hp => by
    rw [List.length_drop] at hp
    obtain ⟨b', o', e, h1, h2, h3⟩ := h.2.2.2 (by omega)
    injection e with e; injection e with e1 e2 _; subst e1; subst e2
    refine ⟨b, off + k, rfl, h1, h2, fun j hj => ?_⟩
    rw [List.length_drop] at hj
    have := h3 (k + j) (by omega)
    rw [Nat.add_assoc, List.getElem_drop]
    exact this⟩
theorem riseCost_n {n m : Nat} (A : Option Addr) (c : Nat) (zs : List Int) (Al : Option Addr) (cl : Nat) (vs : List Int) (w : World) (hn : zs.length = n) (hmm : vs.length = m) (h : IR w 0 w.heap.size A zs) (hv : IR w 0 w.heap.size Al vs) (hzl : zs.length ≤ 12) (h0 : 0 < vs.length) (hvl : vs.length ≤ 12)
    (hm : ∀ z, z ∈ zs → z ∈ vs) (hs : ∀ j j', j ≤ j' → j' < vs.length → vs.getD j 0 ≤ vs.getD j' 0) (hb : ∀ j, j < vs.length → -1000 ≤ vs.getD j 0 ∧ vs.getD j 0 ≤ 1000) :
    Calls Try.prog 78 #[.slice A n c, .slice Al m cl] w fun e w' => e = .returned (.int .i64 (downF (negL zs) n)) ∧ Below w.heap.size w w' := by
  subst hn; subst hmm; exact riseCost_any A c zs Al cl vs w h hv hzl h0 hvl hm hs hb
def minP (zs : List Int) (pre : List (Fin zs.length)) : Int := pre.foldl (fun (m : Int) (x : Fin zs.length) => min m (costAt zs (x.1 + 1))) 9223372036854775807
theorem minP_snoc (zs : List Int) (pre : List (Fin zs.length)) (x : Fin zs.length) : minP zs (pre ++ [x]) = min (minP zs pre) (costAt zs (x.1 + 1)) := by simp [minP]
theorem minP_take (zs : List Int) : ∀ k, k ≤ zs.length → minP zs ((List.finRange zs.length).take k) = minI zs k := by
  intro k
  induction k with
  | zero => intro _; rfl
  | succ k ih =>
    intro hk
    rw [← finRange_succ (show k < zs.length by omega), minP_snoc, ih (by omega), minI]
theorem minP_all (zs : List Int) : minP zs (List.finRange zs.length) = minI zs zs.length := by
  have := minP_take zs zs.length (Nat.le_refl _)
  rwa [List.take_of_length_le (by simp)] at this
theorem minP_bd (zs : List Int) (pre : List (Fin zs.length)) : 0 ≤ minP zs pre ∧ minP zs pre ≤ 9223372036854775807 := by
  unfold minP
  suffices h : ∀ m : Int, 0 ≤ m ∧ m ≤ 9223372036854775807 → 0 ≤ pre.foldl (fun (m : Int) (x : Fin zs.length) => min m (costAt zs (x.1 + 1))) m ∧ pre.foldl (fun (m : Int) (x : Fin zs.length) => min m (costAt zs (x.1 + 1))) m ≤ 9223372036854775807 from h _ (by omega)
  induction pre with
  | nil => intro m h; exact h
  | cons x pre ih =>
    intro m h
    refine ih _ ?_
    have := costAt_nn zs (x.1 + 1)
    show 0 ≤ min m (costAt zs (x.1 + 1)) ∧ min m (costAt zs (x.1 + 1)) ≤ 9223372036854775807
    omega

set_option maxRecDepth 100000 in
set_option maxHeartbeats 4000000 in
theorem valleyCost_any (A : Option Addr) (c : Nat) (zs : List Int) (w : World) (h : IR w 0 w.heap.size A zs) (hr : rowB zs = true) (hcl : zs.length ≤ c) :
    Calls Try.prog 45 #[.slice A zs.length c] w fun e w' => e = .returned (.int .i64 (costL zs)) ∧ Below w.heap.size w w' := by
  have hl := (rowB_true.1 hr).2
  have p0 : 0 < zs.length := by omega
  obtain ⟨ba, oa, rfl, _, _, _⟩ := h.at_ p0
  have HR := Lib.hid hr; clear hr
  have H := Lib.hid h; clear h
  obtain ⟨vs, hvs⟩ : ∃ vs, (zs.mergeSort fun x y => decide (x ≤ y)) = vs := ⟨_, rfl⟩
  have hp : vs.Perm zs := by rw [← hvs]; exact List.mergeSort_perm _ _
  have hvl : vs.length = zs.length := hp.length_eq
  have HVS := Lib.hid (sorted_le (show Sorted vs by rw [← hvs]; exact sorted_merge _))
  have HVB := Lib.hid (fun (j : Nat) (hj : j < vs.length) => (show -1000 ≤ vs.getD j 0 ∧ vs.getD j 0 ≤ 1000 by
    rw [getD_in hj]; exact (rowB_true.1 HR.out).1 _ (hp.subset (List.getElem_mem hj))))
  have HMM := Lib.hid (fun z (hz : z ∈ zs) => hp.symm.subset hz)
  have HVL := Lib.hid hvl; have HSV := Lib.hid hvs
  have HRL : Hid (zs.reverse.length = zs.length) := List.length_reverse ..
  clear hp hvl hvs
  refine (callsIn_wide (n := 6)).1 ?_
  refine callsIn_of_wp_marks Try.func45 rfl trivial ?_ rfl
  simp only [Try.ntmps45, List.size_toArray, List.length_cons, List.length_nil, Nat.reduceAdd, Nat.reduceSub, Array.replicate_succ, Array.replicate_zero, List.push_toArray, List.append_toArray, List.nil_append, List.cons_append]
  gi_wp2_with fail
  refine ⟨trivial, ?_⟩
  gi_at_call 75
  refine (callsIn_wide.2 (values_any _ _ _ _)).mono ?_; rintro e w' ⟨rfl, rfl⟩
  have bR := (Boxed.new w 41 (.slice (some ⟨ba, oa, none⟩) zs.length c)).alloc (.cells #[.slice (some ⟨ba, oa, none⟩) zs.length c] 41)
  have hB1 : Below w.heap.size w ((w.alloc (.cells #[.slice (some ⟨ba, oa, none⟩) zs.length c] 41)).alloc (.cells #[.slice (some ⟨ba, oa, none⟩) zs.length c] 41)) := ((Below.refl _ w).alloc (Nat.le_refl _) _).alloc (by simp) _
  have hcV : ((w.alloc (.cells #[.slice (some ⟨ba, oa, none⟩) zs.length c] 41)).alloc (.cells #[.slice (some ⟨ba, oa, none⟩) zs.length c] 41)).cell? ⟨w.heap.size + 1, 0, none⟩ = some (.slice (some ⟨ba, oa, none⟩) zs.length c) := by
    rw [World.cell?_alloc_at _ _ _ _ (by simp)]; rfl
  obtain ⟨W1, hW1⟩ : ∃ W1, (w.alloc (.cells #[.slice (some ⟨ba, oa, none⟩) zs.length c] 41)).alloc (.cells #[.slice (some ⟨ba, oa, none⟩) zs.length c] 41) = W1 := ⟨_, rfl⟩
  have hsz : W1.heap.size = w.heap.size + 2 := by rw [← hW1]; simp
  rw [hW1] at bR hB1 hcV
  rw [hW1]
  clear hW1
  have B1 := Lib.hid hB1; have BR := Lib.hid bR; replace H := Lib.hid (H.out.below hB1 (Nat.le_refl _))
  clear hB1 bR
  gi_wp2_with fail
  refine ⟨trivial, ?_⟩
  gi_at_call 74
  refine (callsIn_wide.2 (sortedValues_any _ c (w.heap.size + 1) zs (by omega) W1 (by omega) hcV H.out.toAll)).mono ?_
  rw [HSV.out]
  rintro e W2 ⟨Al, cl, rfl, hiL, hbL⟩
  rw [HVL.out]
  have HL := Lib.hid hiL; have B2 := Lib.hid (below_then B1.out (Nat.le_refl _) hbL); replace BR := Lib.hid (boxed_below BR.out hbL); replace H := Lib.hid (H.out.below hbL (by omega))
  have S2 := Lib.hid hbL.size
  clear hiL hbL hcV
  have hcR := (BR.out.alloc (.cells #[.slice Al zs.length cl] 23)).cell
  gi_wp2_with fail
  refine ⟨trivial, ?_⟩
  gi_at_call 76
  have hb3 : Below W2.heap.size W2 (W2.alloc (.cells #[.slice Al zs.length cl] 23)) := (Below.refl _ W2).alloc (Nat.le_refl _) _
  have bL := Boxed.new W2 23 (.slice Al zs.length cl)
  obtain ⟨W3, hW3⟩ : ∃ W3, W2.alloc (.cells #[.slice Al zs.length cl] 23) = W3 := ⟨_, rfl⟩
  have hsz3 : W3.heap.size = W2.heap.size + 1 := by rw [← hW3]; simp
  rw [hW3] at hb3 bL hcR
  rw [hW3]
  clear hW3
  have B3 := Lib.hid (below_then B2.out (Nat.le_refl _) hb3); replace BR := Lib.hid (boxed_below BR.out hb3); replace H := Lib.hid (H.out.below hb3 (by have := S2.out; omega))
  replace HL := Lib.hid (HL.out.toIR.grow hb3); have BL := Lib.hid bL
  clear hb3 bL
  refine (callsIn_wide.2 (cloneRow_any _ c _ _ zs W3 p0 H.out)).mono ?_
  rintro e W4 ⟨Ab, cb, rfl, ⟨hcb, -⟩, hib, hb4⟩
  have B4 := Lib.hid (below_then B3.out (Nat.le_refl _) hb4); replace BR := Lib.hid (boxed_below BR.out hb4); replace BL := Lib.hid (boxed_below BL.out hb4); replace H := Lib.hid (H.out.below hb4 (by have := S2.out; omega)); replace HL := Lib.hid (HL.out.below hb4 (by omega))
  have S4 := Lib.hid hb4.size
  clear hb4 hcR
  obtain ⟨bb, ob, rfl, hbb1, hbb2, -⟩ := hib.toIR.at_ p0
  have hb5 : Below W4.heap.size W4 (W4.alloc (.cells #[.slice (some ⟨bb, ob, none⟩) zs.length cb] 41)) := (Below.refl _ W4).alloc (Nat.le_refl _) _
  have bB := Boxed.new W4 41 (.slice (some ⟨bb, ob, none⟩) zs.length cb)
  have hsz5 : (W4.alloc (.cells #[.slice (some ⟨bb, ob, none⟩) zs.length cb] 41)).heap.size = W4.heap.size + 1 := by simp
  have HIB := Lib.hid (hib.grow hb5)
  gi_wp2_with fail
  refine ⟨trivial, ?_⟩
  gi_at_call 77
  obtain ⟨W5, hW5⟩ : ∃ W5, W4.alloc (.cells #[.slice (some ⟨bb, ob, none⟩) zs.length cb] 41) = W5 := ⟨_, rfl⟩
  rw [hW5] at hb5 bB hsz5 HIB
  rw [hW5]
  clear hW5 hib
  have B5 := Lib.hid (below_then B4.out (Nat.le_refl _) hb5); replace BR := Lib.hid (boxed_below BR.out hb5); replace BL := Lib.hid (boxed_below BL.out hb5); replace H := Lib.hid (H.out.below hb5 (by have := S2.out; have := S4.out; omega)); replace HL := Lib.hid (HL.out.below hb5 (by have := S4.out; omega))
  have BB := Lib.hid bB
  clear hb5 bB
  refine (callsIn_wide.2 (reverseRow_any _ cb _ _ zs W5 p0 HIB.out)).mono ?_
  rintro e W6 ⟨rfl, hib, ho⟩
  have hs6 := ho.size
  have s2 := S2.out; have s4 := S4.out
  have bR6 : Boxed W6 w.heap.size 41 (.slice (some ⟨ba, oa, none⟩) zs.length c) := (ho.block _ (by omega)).trans BR.out
  have bL6 : Boxed W6 W2.heap.size 23 (.slice Al zs.length cl) := (ho.block _ (by omega)).trans BL.out
  have bB6 : Boxed W6 W4.heap.size 41 (.slice (some ⟨bb, ob, none⟩) zs.length cb) := (ho.block _ (by omega)).trans BB.out
  have hR6 := H.out.only ho (.inl (by omega))
  have hL6 := HL.out.only ho (.inl (by omega))
  have B6 := Lib.hid (below_only B5.out ho (by omega))
  have HIB6 := Lib.hid hib.toIR
  have HCB := Lib.hid hcb; have HCL := Lib.hid hcl; clear hcb hcl
  have q1 : w.heap.size < W6.heap.size := by omega
  have q2 : W2.heap.size < W6.heap.size := by omega
  have q3 : W4.heap.size < W6.heap.size := by omega
  clear ho hib BR BL BB H HL HIB B5 hs6 hsz5 hsz3 hsz s2 s4 S2 S4
  have HRR := Lib.hid hR6; have HL6 := Lib.hid hL6
  have hcR := (bR6.alloc (.cells #[.int .i64 9223372036854775807] 3)).cell
  clear hR6 hL6
  gi_wp2_with (refine ⟨trivial, ?_⟩; gi_at_call 67; refine (entries_in _ _ trivial rfl _ _ _ _).mono ?_; rintro e w' ⟨rfl, rfl⟩)
  clear hcR
  have bM := (Boxed.new W6 3 (.int .i64 9223372036854775807)).alloc (.cells #[.slice (some ⟨ba, oa, none⟩) zs.length c] 41)
  have hB0 : Below W6.heap.size W6 ((W6.alloc (.cells #[.int .i64 9223372036854775807] 3)).alloc (.cells #[.slice (some ⟨ba, oa, none⟩) zs.length c] 41)) := ((Below.refl _ W6).alloc (Nat.le_refl _) _).alloc (by simp) _
  have hbox : ((W6.alloc (.cells #[.int .i64 9223372036854775807] 3)).alloc (.cells #[.slice (some ⟨ba, oa, none⟩) zs.length c] 41)).cell? ⟨W6.heap.size + 1, 0, none⟩ = some (.slice (some ⟨ba, oa, none⟩) zs.length c) := by
    rw [World.cell?_alloc_at _ _ _ _ (by simp)]; rfl
  obtain ⟨W0, hW0⟩ : ∃ W0, (W6.alloc (.cells #[.int .i64 9223372036854775807] 3)).alloc (.cells #[.slice (some ⟨ba, oa, none⟩) zs.length c] 41) = W0 := ⟨_, rfl⟩
  have hsz0 : W0.heap.size = W6.heap.size + 2 := by rw [← hW0]; simp
  rw [hW0] at bM hB0 hbox
  rw [hW0]
  clear hW0
  have hR0 : IR W0 0 w.heap.size (some ⟨ba, oa, none⟩) zs := HRR.out.below hB0 (by omega)
  apply (fun a₁ => wpIn_rangeFunc_ownF (F := Fence.wide) rfl (by decide) (gf := 87) (lb := #[.pointer (some ⟨W6.heap.size + 1, 0, none⟩)]) rfl trivial (enters_of Try.func87 (by kernel_rfl) rfl)
    (entries_stops Fence.wide (6 - 1) trivial rfl (by decide) (W6.heap.size + 1) w.heap.size c (some ⟨ba, oa, none⟩) zs _ (by omega) (by omega) hbox hR0) belowK_t (belowK_b (by omega)) (Below.refl _ _) (fun _ => rfl)
    (fun pre W => Boxed W W6.heap.size 3 (.int .i64 (minP zs pre)) ∧ (Below W6.heap.size W6 W ∧ W6.heap.size + 2 ≤ W.heap.size))
    (fun _ _ _ => False)
    (OwnFrom.and (Own.from (boxed_own _ _ _) _) (OwnFrom.and (ownFrom_below (Nat.le_refl _) (by omega)) (fun _ _ _ _ hs hg _ => Nat.le_trans hs hg.size)))
    (fun _ _ _ _ _ hs _ _ => hs)
    ⟨bM, hB0, by omega⟩ a₁)
  case hassign =>
    intro l x W K hK
    gi_wp2
    exact hK
  case hbody =>
    rintro l pre x W ⟨hM, hB, hWs⟩ hlt
    have hxl := x.2
    have HB := Lib.hid hB
    have HRW := Lib.hid (HRR.out.below hB (by omega)).toAll
    have HLW := Lib.hid (HL6.out.below hB (by omega)).toAll
    have HBW := Lib.hid (HIB6.out.below hB (by omega)).toAll
    have kR : ∀ {W' : World}, Below W.heap.size W W' → W'.cell? ⟨w.heap.size, 0, none⟩ = some (.slice (some ⟨ba, oa, none⟩) zs.length c) := fun hb => (show Boxed _ w.heap.size 41 (.slice (some ⟨ba, oa, none⟩) zs.length c) from ((hb.block _ (by omega)).trans (hB.block _ (by omega))).trans bR6).cell
    have kL : ∀ {W' : World}, Below W.heap.size W W' → W'.cell? ⟨W2.heap.size, 0, none⟩ = some (.slice Al zs.length cl) := fun hb => (show Boxed _ W2.heap.size 23 (.slice Al zs.length cl) from ((hb.block _ (by omega)).trans (hB.block _ (by omega))).trans bL6).cell
    have kB : ∀ {W' : World}, Below W.heap.size W W' → W'.cell? ⟨W4.heap.size, 0, none⟩ = some (.slice (some ⟨bb, ob, none⟩) zs.length cb) := fun hb => (show Boxed _ W4.heap.size 41 (.slice (some ⟨bb, ob, none⟩) zs.length cb) from ((hb.block _ (by omega)).trans (hB.block _ (by omega))).trans bB6).cell
    have HM := Lib.hid hM
    clear hM hB
    have HC : Hid (costAt zs (x.1 + 1) = downF zs (x.1 + 1) + downF zs.reverse (zs.length - (x.1 + 1))) := rfl
    have HD1 := Lib.hid (rise_beg (zs := zs) (row_lo HR.out) hxl)
    have HD2 := Lib.hid (rise_end (zs := zs) (row_lo HR.out) (i := x.1 + 1) (by omega))
    have n0 : (0 : Int) ≤ (zs.length : Int) - 1 - ((x.1 : Nat) : Int) := by omega
    have n1 : (zs.length : Int) - 1 - ((x.1 : Nat) : Int) ≤ (zs.length : Int) := by omega
    have nt : ((zs.length : Int) - 1 - ((x.1 : Nat) : Int)).toNat = zs.length - 1 - x.1 := by omega
    have nd : zs.length - (zs.length - 1 - x.1) = x.1 + 1 := by omega
    have nx : ((x.1 : Nat) : Int) ≤ (zs.length : Int) - 1 := by omega
    have nc : ¬ cb = zs.length - 1 - x.1 := by have := HCB.out; omega
    have m0 : (0 : Int) ≤ ((x.1 : Nat) : Int) + 1 := by omega
    have m1 : ((x.1 : Nat) : Int) + 1 ≤ (zs.length : Int) := by omega
    have mt : (((x.1 : Nat) : Int) + 1).toNat = x.1 + 1 := by omega
    have sn : IntKind.i64.wrap ((zs.length : Int) - 1) = (zs.length : Int) - 1 := IntWalk.i64_in _ (by omega)
    have sx : IntKind.i64.wrap ((zs.length : Int) - 1 - ((x.1 : Nat) : Int)) = (zs.length : Int) - 1 - ((x.1 : Nat) : Int) := IntWalk.i64_in _ (by omega)
    have sy : IntKind.i64.wrap (((x.1 : Nat) : Int) + 1) = ((x.1 : Nat) : Int) + 1 := IntWalk.i64_in _ (by omega)
    gi_wp2
    refine region_anyS (fun W' => Below W.heap.size W W') (by kernel_rfl) ?_
    have hS0 : Below W.heap.size W W.drew := (Below.refl _ _).drew
    refine anyS_first 0 (v := .slice (some ⟨bb, ob, none⟩) zs.length cb) rfl (by kernel_rfl) (by kernel_rfl) (by kernel_rfl) (fun _ _ _ h => h) hS0 ⟨fun _ => rfl, .inl ⟨by rfl, fun W' hW' => (by have e1 := kB hW'; go_simp)⟩⟩ ?_
    refine anyS_first 1 (v := .slice (some ⟨ba, oa, none⟩) zs.length c) rfl (by kernel_rfl) (by kernel_rfl) (by kernel_rfl) (fun _ _ _ h => h) hS0 ⟨fun _ => rfl, .inl ⟨by rfl, fun W' hW' => (by have e1 := kR hW'; go_simp)⟩⟩ ?_
    refine anyS_first 2 (v := .int .i64 (zs.length : Int)) rfl (by kernel_rfl) (by kernel_rfl) (by kernel_rfl) (fun _ _ _ h => h) hS0 ⟨fun _ => rfl, .inl ⟨by rfl, fun W' hW' => (by go_simp)⟩⟩ ?_
    refine anyS_first 3 (v := .int .i64 ((zs.length : Int) - 1)) rfl (by kernel_rfl) (by kernel_rfl) (by kernel_rfl) (fun _ _ _ h => h) hS0 ⟨fun _ => rfl, .inl ⟨by rfl, fun W' hW' => (by go_simp)⟩⟩ ?_
    refine anyS_first 4 (v := .int .i64 ((x.1 : Nat) : Int)) rfl (by kernel_rfl) (by kernel_rfl) (by kernel_rfl) (fun _ _ _ h => h) hS0 ⟨fun _ => rfl, .inl ⟨by rfl, fun W' hW' => (by go_simp)⟩⟩ ?_
    refine anyS_first 5 (v := .int .i64 ((zs.length : Int) - 1 - ((x.1 : Nat) : Int))) rfl (by kernel_rfl) (by kernel_rfl) (by kernel_rfl) (fun _ _ _ h => h) hS0 ⟨fun _ => rfl, .inl ⟨by rfl, fun W' hW' => (by go_simp)⟩⟩ ?_
    refine anyS_first 6 (v := .slice (some ⟨bb, ob + (zs.length - 1 - x.1), none⟩) (x.1 + 1) (cb - (zs.length - 1 - x.1))) rfl (by kernel_rfl) (by kernel_rfl) (by kernel_rfl) (fun _ _ _ h => h) hS0 ⟨fun _ => rfl, .inl ⟨by rfl, fun W' hW' => (by go_simp)⟩⟩ ?_
    refine anyS_first 7 (v := .slice Al zs.length cl) rfl (by kernel_rfl) (by kernel_rfl) (by kernel_rfl) (fun _ _ _ h => h) hS0 ⟨fun _ => rfl, .inl ⟨by rfl, fun W' hW' => (by have e1 := kL hW'; go_simp)⟩⟩ ?_
    refine anyS_one 8 rfl (by kernel_rfl) hS0 ?_
    refine wpOpIn_step rfl fun K8 hK8 => ?_
    go_simp
    refine ⟨trivial, (CallsIn.inRound l (callsIn_wide.2 (riseCost_n (some ⟨bb, ob + (zs.length - 1 - x.1), none⟩) (cb - (zs.length - 1 - x.1)) (zs.reverse.drop (zs.length - 1 - x.1)) Al cl vs W.drew (by rw [List.length_drop, HRL.out]; omega) HVL.out (HBW.out.grow hS0).drop (HLW.out.grow hS0) (by rw [List.length_drop, HRL.out]; omega) (by rw [HVL.out]; exact p0) (by rw [HVL.out]; omega) (fun z hz => HMM.out z (List.mem_reverse.1 (List.mem_of_mem_drop hz))) HVS.out HVB.out))).mono ?_⟩
    rintro e W7 ⟨rfl, hb7⟩
    rw [HD1.out]
    have hb7' := below_then hS0 (Nat.le_refl _) hb7
    refine hK8 _ _ ?_
    clear hK8
    refine anyS_one 9 rfl (by kernel_rfl) hb7' ?_
    refine wpOpIn_step rfl fun K9 hK9 => ?_
    go_simp
    refine hK9 _ _ ?_
    clear hK9
    refine anyS_done (by kernel_rfl) hb7' ?_
    have B7 := Lib.hid hb7'
    clear hb7 hb7' hS0
    gi_wp2
    refine region_anyS (fun W' => Below W.heap.size W W') (by kernel_rfl) ?_
    have hS8 : Below W.heap.size W W7.drew := B7.out.drew
    refine anyS_first 0 (v := .slice (some ⟨ba, oa, none⟩) zs.length c) rfl (by kernel_rfl) (by kernel_rfl) (by kernel_rfl) (fun _ _ _ h => h) hS8 ⟨fun _ => rfl, .inl ⟨by rfl, fun W' hW' => (by have e1 := kR hW'; go_simp)⟩⟩ ?_
    refine anyS_first 1 (v := .int .i64 ((x.1 : Nat) : Int)) rfl (by kernel_rfl) (by kernel_rfl) (by kernel_rfl) (fun _ _ _ h => h) hS8 ⟨fun _ => rfl, .inl ⟨by rfl, fun W' hW' => (by go_simp)⟩⟩ ?_
    refine anyS_first 2 (v := .int .i64 (((x.1 : Nat) : Int) + 1)) rfl (by kernel_rfl) (by kernel_rfl) (by kernel_rfl) (fun _ _ _ h => h) hS8 ⟨fun _ => rfl, .inl ⟨by rfl, fun W' hW' => (by go_simp)⟩⟩ ?_
    refine anyS_first 3 (v := .slice (if c = x.1 + 1 then some ⟨ba, oa, none⟩ else some ⟨ba, oa + (x.1 + 1), none⟩) (zs.length - (x.1 + 1)) (c - (x.1 + 1))) rfl (by kernel_rfl) (by kernel_rfl) (by kernel_rfl) (fun _ _ _ h => h) hS8 ⟨fun _ => rfl, .inl ⟨by rfl, fun W' hW' => (by go_simp)⟩⟩ ?_
    refine anyS_first 4 (v := .slice Al zs.length cl) rfl (by kernel_rfl) (by kernel_rfl) (by kernel_rfl) (fun _ _ _ h => h) hS8 ⟨fun _ => rfl, .inl ⟨by rfl, fun W' hW' => (by have e1 := kL hW'; go_simp)⟩⟩ ?_
    refine anyS_one 5 rfl (by kernel_rfl) hS8 ?_
    refine wpOpIn_step rfl fun K8 hK8 => ?_
    go_simp
    have hA2 : IR W7.drew 0 W7.drew.heap.size (if c = x.1 + 1 then some ⟨ba, oa, none⟩ else some ⟨ba, oa + (x.1 + 1), none⟩) (zs.drop (x.1 + 1)) := by
      have h := (HRW.out.grow hS8).toAll.drop (k := x.1 + 1)
      by_cases hce : c = x.1 + 1
      · rw [if_pos hce]
        have hlz : (zs.drop (x.1 + 1)).length = 0 := by rw [List.length_drop]; have := HCL.out; omega
        exact ⟨h.1, h.2.1, h.2.2.1, fun hp => by omega⟩
      · rw [if_neg hce]; exact h
    refine ⟨trivial, (CallsIn.inRound l (callsIn_wide.2 (riseCost_n _ (c - (x.1 + 1)) (zs.drop (x.1 + 1)) Al cl vs W7.drew (by rw [List.length_drop]) HVL.out hA2 (HLW.out.grow hS8).toAll (by rw [List.length_drop]; omega) (by rw [HVL.out]; exact p0) (by rw [HVL.out]; omega) (fun z hz => HMM.out z (List.mem_of_mem_drop hz)) HVS.out HVB.out))).mono ?_⟩
    rintro e W8 ⟨rfl, hb8⟩
    rw [HD2.out]
    have hb8' := below_then hS8 (Nat.le_refl _) hb8
    refine hK8 _ _ ?_
    clear hK8
    refine anyS_one 6 rfl (by kernel_rfl) hb8' ?_
    refine wpOpIn_step rfl fun K9 hK9 => ?_
    go_simp
    refine hK9 _ _ ?_
    clear hK9
    refine anyS_done (by kernel_rfl) hb8' ?_
    have B8 := Lib.hid hb8'
    clear hb8 hb8' hS8 hA2
    have g1 := downF_nonneg zs (x.1 + 1)
    have g2 := downF_nonneg zs.reverse (zs.length - (x.1 + 1))
    have g3 := costAt_cap (zs := zs) (row_lo HR.out) (i := x.1 + 1) (by omega)
    rw [HC.out] at g3
    have g4 := minP_bd zs pre
    have HMS := Lib.hid (minP_snoc zs pre x)
    rw [HC.out] at HMS
    obtain ⟨u, hu⟩ : ∃ u, downF zs (x.1 + 1) = u := ⟨_, rfl⟩
    obtain ⟨v, hv⟩ : ∃ u, downF zs.reverse (zs.length - (x.1 + 1)) = u := ⟨_, rfl⟩
    obtain ⟨mm, hmm⟩ : ∃ u, minP zs pre = u := ⟨_, rfl⟩
    have bM8 : Boxed W8 W6.heap.size 3 (.int .i64 mm) := by rw [← hmm]; exact boxed_below HM.out B8.out
    rw [hu] at g1 g3 HMS
    rw [hv] at g2 g3 HMS
    rw [hmm] at g4 HMS
    have HU := Lib.hid hu; have HV := Lib.hid hv
    have cM := bM8.cell; have fM := bM8.frozen
    have sa : IntKind.i64.wrap (u + v) = u + v := IntWalk.i64_in _ (by omega)
    have BM8 := Lib.hid bM8
    clear hu hv hmm bM8
    rw [HU.out, HV.out]
    gi_wp2
    all_goals
      have bw := (B8.out.mono HB.out.size).setCell (p := ⟨W6.heap.size, 0, none⟩) (Nat.le_refl _) (.int .i64 (min mm (u + v)))
      exact ⟨(keeps_below B8.out).trans (KeepsOthers.setCell _ _ _), bw.mono (by omega), by rw [HMS.out]; exact BM8.out.set _, HB.out.trans bw, Nat.le_trans hWs bw.size⟩
  case hdone =>
    rintro D ys W hD rfl ⟨hM, hB, hWs⟩ hK
    rw [minP_all, minI_all HR.out] at hM
    have cM := hM.cell
    have HB := Lib.hid (below_then B6.out (Nat.le_refl _) hB); have HK := Lib.hid hK
    obtain ⟨y, hy⟩ : ∃ y, costL zs = y := ⟨_, rfl⟩
    rw [hy] at cM
    have HY := Lib.hid hy
    clear hM hB hK hy
    gi_wp2
    refine ⟨by simp, .inl ⟨_, _, rfl, run_takeDeferred HK.out, ?_⟩⟩
    refine ⟨.int .i64 y, ?_, by rw [HY.out], HB.out.trans (belowK_b (w := w) (Nat.le_refl _) W D _ _ (by omega) HK.out rfl rfl)⟩
    simp [results, Try.f45, go_sem]
  case hstop =>
    rintro D cd pre W _ _ h _
    exact h.elim

set_option maxHeartbeats 1000000 in
theorem implValleyCost_any (A : Option Addr) (c : Nat) (zs : List Int) (w : World) (h : IR w 0 w.heap.size A zs) (hcl : zs.length ≤ c) :
    Calls Try.prog 15 #[.slice A zs.length c] w fun e w' => e = .returned (.tuple #[.int .i64 (costI zs), .bool (rowB zs)]) ∧ Below w.heap.size w w' := by
  have H := Lib.hid h; have HCL := Lib.hid hcl; clear h hcl
  cases hr : rowB zs with
  | false =>
    have HM : Hid (costI zs = 0) := by show _ = _; unfold costI; rw [hr]; rfl
    have HR := Lib.hid hr; clear hr
    go_enter Try.func15, Try.ntmps15
    go_wp2_with fail
    refine (isRow_false _ _ _ _ zs _ H.out HR.out).mono ?_; rintro e w1 ⟨rfl, b1⟩
    go_wp2
    go_ret2
    rw [HM.out]
    exact ⟨rfl, b1⟩
  | true =>
    have HM : Hid (costI zs = costL zs) := by show _ = _; unfold costI; rw [hr]; rfl
    have HR := Lib.hid hr; clear hr
    go_enter Try.func15, Try.ntmps15
    go_wp2_with fail
    refine (isRow_true _ _ _ _ zs _ H.out HR.out).mono ?_; rintro e w1 ⟨rfl, b1⟩
    have B1 := Lib.hid b1; replace H := Lib.hid (H.out.grow b1).toAll; clear b1
    go_wp2_with fail
    refine (valleyCost_any _ _ zs _ H.out HR.out HCL.out).mono ?_; rintro e w2 ⟨rfl, b2⟩
    go_wp2
    go_ret2
    rw [HM.out]
    exact ⟨rfl, below_then B1.out (Nat.le_refl _) b2⟩
end Go.Proofs.Ytnphmapiagiocaa
