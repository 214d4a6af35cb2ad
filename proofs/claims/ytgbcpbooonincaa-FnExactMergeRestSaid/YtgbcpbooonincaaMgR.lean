/-
  The least row that merged with a row is nowhere less than another one: MergeRest of the model and of the program. Conditions: the rows' cells are there.
-/
import Derived.Test.YtgbcpbooonincaaMergeMath3
import Derived.Test.YtgbcpbooonincaaLeast2
import Derived.Test.YtgbcpbooonincaaSp2
namespace Go.Proofs.Ytgbcpbooonincaa
open Go.RowKit Go.Shelf
attribute [local go_sem] Oper.semAt_some

theorem rest_no1 {c a : List Int} (h : rowB c = false) : restM c a = none := by unfold restM; rw [h]; rfl
theorem rest_no2 {c a : List Int} (h : rowB a = false) : restM c a = none := by unfold restM; rw [h]; simp
theorem rest_no3 {c a : List Int} (h : ¬ a.length ≤ c.length) : restM c a = none := by unfold restM; simp [h]
theorem rest_yes {c a : List Int} (hc : rowB c = true) (ha : rowB a = true) (h : a.length ≤ c.length) : restM c a = doneM (restL c a) := by unfold restM; simp [hc, ha, h]
theorem restTo_bd {c a : List Int} (hc : rowB c = true) (ha : rowB a = true) {k m : Nat} (hk : m + k < c.length) (hm : m < a.length) : -2000 ≤ restTo c a k m ∧ restTo c a k m ≤ 2000 := by
  obtain ⟨i, h1, h2⟩ := restTo_at c a k m
  have b1 := row_getD hc (i + k) (by omega)
  have b2 := row_getD ha i (by omega)
  rw [h2]; omega
theorem restTo_next (c a : List Int) (k m : Nat) (h1 : m + 1 + k < c.length) (h2 : m + 1 < a.length) : (if restTo c a k m < c[m + 1 + k] - a[m + 1] then c[m + 1 + k] - a[m + 1] else restTo c a k m) = restTo c a k (m + 1) := by
  rw [restTo, getD_in h1, getD_in h2]
  split <;> omega
theorem restL_i64 {c a : List Int} (hc : rowB c = true) (ha : rowB a = true) (hl : a.length ≤ c.length) : ∀ z, z ∈ restL c a → I64 z := by
  intro z hz
  obtain ⟨k, hk, rfl⟩ := List.mem_map.1 hz
  have hk' := List.mem_range.1 hk
  have h0 := row_pos ha
  have := restTo_bd hc ha (k := k) (m := a.length - 1) (by omega) (by omega)
  exact ⟨by unfold restAt; omega, by unfold restAt; omega⟩

set_option maxRecDepth 100000 in
set_option maxHeartbeats 4000000 in
theorem specMergeRest_any (A0 : Option Addr) (c0 : Nat) (zs0 : List Int) (A1 : Option Addr) (c1 : Nat) (zs1 : List Int) (w : World) (h0 : IR w 0 w.heap.size A0 zs0) (h1 : IR w 0 w.heap.size A1 zs1) :
    Calls Try.prog 13 #[.slice A0 zs0.length c0, .slice A1 zs1.length c1] w (RetRB w (restM zs0 zs1)) := by
  have hl0 := h0.1; have hl1 := h1.1
  have H0 := Lib.hid h0; have H1 := Lib.hid h1
  clear h0 h1
  cases hr0 : rowB zs0 with
  | false =>
    have HM := Lib.hid (rest_no1 (a := zs1) hr0)
    have HR := Lib.hid hr0; clear hr0
    go_enter Try.func13, Try.ntmps13
    go_wp2_with fail
    refine (specRowIn_false _ _ _ _ zs0 _ H0.out HR.out).mono ?_; rintro e w' ⟨rfl, rfl⟩
    go_wp2
    go_ret2
    rw [HM.out]
    exact (retSB_none ((Below.refl _ _).alloc (Nat.le_refl _) _)).toR
  | true =>
  have HR0 := Lib.hid hr0
  cases hr1 : rowB zs1 with
  | false =>
    have HM := Lib.hid (rest_no2 (c := zs0) hr1)
    have HR := Lib.hid hr1; clear hr0 hr1
    go_enter Try.func13, Try.ntmps13
    go_wp2_with fail
    refine (specRowIn_true _ _ _ _ zs0 _ H0.out HR0.out).mono ?_; rintro e w' ⟨rfl, rfl⟩
    go_wp2_with fail
    refine (specRowIn_false _ _ _ _ zs1 _ H1.out HR.out).mono ?_; rintro e w' ⟨rfl, rfl⟩
    go_wp2
    go_ret2
    rw [HM.out]
    exact (retSB_none ((Below.refl _ _).alloc (Nat.le_refl _) _)).toR
  | true =>
  have HR1 := Lib.hid hr1
  by_cases hle : zs1.length ≤ zs0.length
  · have hb0 := (rowB_true.1 hr0).2; have hb1 := (rowB_true.1 hr1).2
    have HM := Lib.hid (rest_yes hr0 hr1 hle)
    have HLen := Lib.hid (rest_len zs0 zs1)
    have HI := Lib.hid (restL_i64 hr0 hr1 hle)
    have hq : ¬ (zs0.length : Int) < (zs1.length : Int) := by omega
    have hqn : decide (zs0.length < zs1.length) = false := by simp; omega
    clear hr0 hr1
    obtain ⟨n, hn⟩ : ∃ n, n = zs0.length - zs1.length := ⟨_, rfl⟩
    rw [← hn] at HLen
    have hn' : (zs0.length : Int) - (zs1.length : Int) = (n : Int) := by omega
    have hn2 : n + zs1.length = zs0.length := by omega
    have HN2 := Lib.hid hn2
    clear hn hn2
    go_enter Try.func13, Try.ntmps13
    go_wp2_with fail
    refine (specRowIn_true _ _ _ _ zs0 _ H0.out HR0.out).mono ?_; rintro e w' ⟨rfl, rfl⟩
    go_wp2_with fail
    refine (specRowIn_true _ _ _ _ zs1 _ H1.out HR1.out).mono ?_; rintro e w' ⟨rfl, rfl⟩
    go_wp2
    go_loopw [6, 7] (fun v i wr => ∃ k : Nat, k ≤ n + 1 ∧ i = .int .i64 k ∧ OwnI wr w.heap.size v ((restL zs0 zs1).take k) ∧ IR wr 0 w.heap.size A0 zs0 ∧ IR wr 0 w.heap.size A1 zs1 ∧ Below w.heap.size w wr) (fun _ i _ => n + 1 - (intOf i).toNat)
    case atStart => exact ⟨0, Nat.zero_le _, rfl, OwnI.made w, H0.out.grow ((Below.refl _ _).alloc (Nat.le_refl _) _), H1.out.grow ((Below.refl _ _).alloc (Nat.le_refl _) _), (Below.refl _ _).alloc (Nat.le_refl _) _⟩
    case round =>
      clear H0 H1
      obtain ⟨k, hk, rfl, ho, hr0, hr1, hb⟩ := hrel
      have HO := Lib.hid ho; have H0 := Lib.hid hr0; have H1 := Lib.hid hr1; have HB := Lib.hid hb
      clear ho hr0 hr1 hb
      by_cases hlt : k ≤ n
      · have hlt' : (k : Int) ≤ (n : Int) := by omega
        have p0 : k < zs0.length := by have := HN2.out; omega
        have p1 : 0 < zs1.length := by omega
        obtain ⟨b0, o0, rfl, _, _, hc0⟩ := H0.out.at_ p0
        obtain ⟨b1, o1, rfl, _, _, hc1⟩ := H1.out.at_ p1
        rw [← getD_in p0] at hc0
        rw [← getD_in p1, Nat.add_zero] at hc1
        have d0 := row_getD HR0.out k p0
        have d1 := row_getD HR1.out 0 p1
        obtain ⟨x, hx⟩ : ∃ x, zs0.getD k 0 = x := ⟨_, rfl⟩
        obtain ⟨y, hy⟩ : ∃ x, zs1.getD 0 0 = x := ⟨_, rfl⟩
        rw [hx] at hc0 d0
        rw [hy] at hc1 d1
        obtain ⟨d01, d02⟩ := d0
        obtain ⟨d11, d12⟩ := d1
        have hxy : restTo zs0 zs1 k 0 = x - y := by
          rw [restTo, hx, hy]
        have HXY := Lib.hid hxy
        clear hxy
        have q0 : (k : Int) < (zs0.length : Int) := by omega
        have q1 : (0 : Int) < (zs1.length : Int) := by omega
        have q2 : (0 : Int) ≤ (k : Int) := by omega
        clear hx hy
        go_wp2
        go_quiet (fail)
        go_wp2
        go_loopw [8, 9] (fun m i wr' => ∃ j : Nat, j + 1 ≤ zs1.length ∧ i = .int .i64 ((j : Int) + 1) ∧ m = .int .i64 (restTo zs0 zs1 k j) ∧ ∃ d : Nat, wr' = World.drewN wr d) (fun _ i _ => zs1.length - (intOf i).toNat)
        case atStart => exact ⟨0, p1, rfl, by rw [HXY.out], _, rfl⟩
        case round =>
          clear hc0 hc1 HXY d01 d02 d11 d12 q1 p0 q0
          obtain ⟨j, hj, rfl, rfl, d, rfl⟩ := hrel
          by_cases hlt2 : j + 1 < zs1.length
          · have hlt2' : (j : Int) + 1 < (zs1.length : Int) := by omega
            have p0 : j + 1 + k < zs0.length := by have := HN2.out; omega
            obtain ⟨b0', o0', e, _, _, hc0⟩ := H0.out.at_ p0
            injection e with e; injection e with e1 e2 _; subst e1; subst e2
            obtain ⟨b1', o1', e, _, _, hc1⟩ := H1.out.at_ hlt2
            injection e with e; injection e with e1 e2 _; subst e1; subst e2
            have HN := Lib.hid (restTo_next zs0 zs1 k j p0 hlt2)
            obtain ⟨f1, f2⟩ := restTo_bd HR0.out HR1.out (k := k) (m := j) (by omega) (by omega)
            have d0 := (rowB_true.1 HR0.out).1 _ (List.getElem_mem p0)
            have d1 := (rowB_true.1 HR1.out).1 _ (List.getElem_mem hlt2)
            obtain ⟨x, hx⟩ : ∃ x, zs0[j + 1 + k] = x := ⟨_, rfl⟩
            obtain ⟨y, hy⟩ : ∃ x, zs1[j + 1] = x := ⟨_, rfl⟩
            obtain ⟨m, hm⟩ : ∃ x, restTo zs0 zs1 k j = x := ⟨_, rfl⟩
            rw [hx] at hc0 d0 HN
            rw [hy] at hc1 d1 HN
            rw [hm] at f1 f2 HN
            rw [hm]
            obtain ⟨d01, d02⟩ := d0
            obtain ⟨d11, d12⟩ := d1
            have t0 : ((j : Int) + 1 + (k : Int)).toNat = j + 1 + k := by omega
            have t1 : ((j : Int) + 1).toNat = j + 1 := by omega
            have q0 : (j : Int) + 1 + (k : Int) < (zs0.length : Int) := by omega
            have q3 : (0 : Int) ≤ (j : Int) + 1 + (k : Int) := by omega
            have q4 : (0 : Int) ≤ (j : Int) + 1 := by omega
            clear hx hy hm
            by_cases hcmp : m < x - y
            · replace HN := Lib.hid ((if_pos hcmp).symm.trans HN.out)
              go_wp2
              go_quiet (fail)
              go_wp2
              go_roundw
              case rel => exact ⟨j + 1, by omega, by go_num, congrArg (Value.int .i64) HN.out, d + nq, rfl⟩
              case measure => simp [intOf]; omega
            · replace HN := Lib.hid ((if_neg hcmp).symm.trans HN.out)
              go_wp2
              go_quiet (fail)
              go_wp2
              go_roundw
              case rel => exact ⟨j + 1, by omega, by go_num, congrArg (Value.int .i64) HN.out, d + nq, rfl⟩
              case measure => simp [intOf]; omega
          · have hlt2' : ¬ (j : Int) + 1 < (zs1.length : Int) := by omega
            have hkL : k < (restL zs0 zs1).length := by rw [HLen.out]; omega
            have hv : restTo zs0 zs1 k j = (restL zs0 zs1)[k] := by
              rw [← getD_in hkL, rest_getD zs0 zs1 (by have := HN2.out; omega), restAt, show zs1.length - 1 = j by omega]
            have HN := Lib.hid (take_snoc (restL zs0 zs1) k hkL)
            have HY := Lib.hid (HI.out _ (List.getElem_mem hkL))
            have HLL : Hid (((restL zs0 zs1).take k).length < 17592186044416) := by show _ < _; rw [List.length_take]; omega
            obtain ⟨z, hz⟩ : ∃ z, (restL zs0 zs1)[k] = z := ⟨_, rfl⟩
            rw [hz] at HN HY hv
            rw [hv]
            have HO2 := Lib.hid (HO.out.drewN d)
            clear hz hv HO hkL
            go_wp2_with (at_builtin; refine wpList_push rfl _ _ rfl w.heap.size _ _ rfl rfl HO2.out HLL.out HY.out ?_; intro v1 w1 ho1 hb1)
            rw [HN.out] at ho1
            have HO1 := Lib.hid ho1; have HB1 := Lib.hid hb1
            clear ho1 hb1
            go_roundw
            case rel => exact ⟨k + 1, by omega, by go_num, HO1.out, (H0.out.drewN d).below HB1.out (Nat.le_refl _), (H1.out.drewN d).below HB1.out (Nat.le_refl _), (below_drawN HB.out d).trans HB1.out⟩
            case measure => simp [intOf]; omega
      · have hlt' : ¬ (k : Int) ≤ (n : Int) := by omega
        have hall : (restL zs0 zs1).take k = restL zs0 zs1 := List.take_of_length_le (by rw [HLen.out]; omega)
        have ho := HO.out
        rw [hall] at ho
        obtain ⟨A', c', rfl, hiw⟩ := ho.iw (by rw [HLen.out]; omega)
        have HIW := Lib.hid hiw
        clear ho hall hiw HO
        cases hr2 : rowB (restL zs0 zs1) with
        | false =>
          have HD : Hid (doneM (restL zs0 zs1) = none) := by show _ = _; simp [doneM, hr2]
          have HR := Lib.hid hr2
          clear hr2
          go_wp2_with fail
          refine (l1Done_false _ _ _ _ _ _ HIW.out.toIR HR.out).mono ?_
          rintro e w5 ⟨A5, rfl, hb5⟩
          have B5 := Lib.hid hb5; clear hb5
          go_wp2
          go_ret2
          rw [HM.out, HD.out]
          exact (retSB_none (below_then HB.out (Nat.le_refl _) B5.out)).toR
        | true =>
          have HD := Lib.hid (doneM_row hr2)
          have HR := Lib.hid hr2
          clear hr2
          go_wp2_with fail
          refine (l1Done_true _ _ _ _ _ _ HIW.out.toIR HR.out).mono ?_
          rintro e w5 ⟨rfl, rfl⟩
          go_wp2
          go_ret2
          rw [HM.out, HD.out]
          exact (retSB_some rfl (HIW.out.wide (Nat.le_refl _) (Nat.le_refl _) (Nat.le_refl _)) HB.out).toR
  · have HM := Lib.hid (rest_no3 hle)
    have hq : (zs0.length : Int) < (zs1.length : Int) := by omega
    clear hr0 hr1
    go_enter Try.func13, Try.ntmps13
    go_wp2_with fail
    refine (specRowIn_true _ _ _ _ zs0 _ H0.out HR0.out).mono ?_; rintro e w' ⟨rfl, rfl⟩
    go_wp2_with fail
    refine (specRowIn_true _ _ _ _ zs1 _ H1.out HR1.out).mono ?_; rintro e w' ⟨rfl, rfl⟩
    go_wp2
    go_ret2
    rw [HM.out]
    exact (retSB_none ((Below.refl _ _).alloc (Nat.le_refl _) _)).toR

/-- The greatest difference so far. -/
def gapP (c a : List Int) (pre : List (Fin a.length)) : Int := pre.foldl (fun (m : Int) (x : Fin a.length) => if m < c.getD x.1 0 - a[x] then c.getD x.1 0 - a[x] else m) (c.getD 0 0 - a.getD 0 0)
theorem gapP_snoc (c a : List Int) (pre : List (Fin a.length)) (x : Fin a.length) : gapP c a (pre ++ [x]) = if gapP c a pre < c.getD x.1 0 - a[x] then c.getD x.1 0 - a[x] else gapP c a pre := by
  simp [gapP, List.foldl_append]
theorem gapP_take (c a : List Int) : ∀ k : Nat, k + 1 ≤ a.length → gapP c a ((List.finRange a.length).take (k + 1)) = restTo c a 0 k := by
  intro k
  induction k with
  | zero =>
    intro h
    rw [← finRange_succ (show 0 < a.length by omega), gapP_snoc]
    have e : gapP c a ((List.finRange a.length).take 0) = c.getD 0 0 - a.getD 0 0 := by simp [gapP]
    have e2 : a[(⟨0, h⟩ : Fin a.length)] = a.getD 0 0 := (getD_in h).symm
    rw [e, restTo, e2]
    simp
  | succ k ih =>
    intro h
    rw [← finRange_succ (show k + 1 < a.length by omega), gapP_snoc, ih (by omega), restTo]
    have e2 : a[(⟨k + 1, by omega⟩ : Fin a.length)] = a.getD (k + 1) 0 := (getD_in (by omega)).symm
    rw [e2]
    simp only [Nat.add_zero]
    split <;> omega
theorem gapP_all (c a : List Int) (h : 0 < a.length) : gapP c a (List.finRange a.length) = restTo c a 0 (a.length - 1) := by
  rw [← gapP_take c a (a.length - 1) (by omega), show a.length - 1 + 1 = a.length by omega, List.take_of_length_le (by simp)]
theorem restTo_drop (c a : List Int) (k m : Nat) : restTo (c.drop k) a 0 m = restTo c a k m := by
  have e : ∀ i, (c.drop k).getD i 0 = c.getD (i + k) 0 := fun i => by
    simp [List.getD, List.getElem?_drop, Nat.add_comm]
  induction m with
  | zero => simp only [restTo]; rw [e, Nat.zero_add]
  | succ m ih => simp only [restTo]; rw [ih, e, Nat.add_zero]

set_option maxRecDepth 100000 in
set_option maxHeartbeats 2000000 in
theorem greatestGap_any (A0 : Option Addr) (c0 n0 : Nat) (zs0 : List Int) (A1 : Option Addr) (c1 n1 : Nat) (zs1 : List Int) (lo hi : Nat) (w : World) (h0 : IR w lo hi A0 zs0) (h1 : IR w 0 w.heap.size A1 zs1)
    (hb0 : ∀ z, z ∈ zs0 → -1000 ≤ z ∧ z ≤ 1000) (hr1 : rowB zs1 = true) (hle : zs1.length ≤ zs0.length) (hn0 : n0 = zs0.length) (hn1 : n1 = zs1.length) :
    Calls Try.prog 33 #[.slice A0 n0 c0, .slice A1 n1 c1] w fun e w' => e = .returned (.int .i64 (restTo zs0 zs1 0 (zs1.length - 1))) ∧ Below w.heap.size w w' := by
  subst hn0; subst hn1
  have hl1 := (rowB_true.1 hr1).2
  have HR1 := Lib.hid hr1; clear hr1
  have p1 : 0 < zs1.length := by omega
  have p0 : 0 < zs0.length := by omega
  have H0 := Lib.hid h0.toAll; have H1 := Lib.hid h1
  obtain ⟨b0, o0, rfl, _, hs0, hc0⟩ := h0.at_ p0
  obtain ⟨b1, o1, rfl, _, hs1, hc1⟩ := h1.at_ p1
  rw [Nat.add_zero, ← getD_in p0] at hc0
  rw [Nat.add_zero, ← getD_in p1] at hc1
  have d0 := hb0 _ (List.getElem_mem p0)
  rw [← getD_in p0] at d0
  have d1 := row_getD HR1.out 0 p1
  have HG := Lib.hid (gapP_all zs0 zs1 p1)
  have HGN : Hid (gapP zs0 zs1 [] = zs0.getD 0 0 - zs1.getD 0 0) := rfl
  obtain ⟨x, hx⟩ : ∃ x, zs0.getD 0 0 = x := ⟨_, rfl⟩
  obtain ⟨y, hy⟩ : ∃ x, zs1.getD 0 0 = x := ⟨_, rfl⟩
  rw [hx] at hc0 d0 HGN
  rw [hy] at hc1 d1 HGN
  obtain ⟨d01, d02⟩ := d0
  obtain ⟨d11, d12⟩ := d1
  have HB0 := Lib.hid hb0
  have q0 : (0 : Int) < (zs0.length : Int) := by omega
  have q1 : (0 : Int) < (zs1.length : Int) := by omega
  have hb1 : Below w.heap.size w (w.alloc (.cells #[.slice (some ⟨b0, o0, none⟩) zs0.length c0] 22)) := (Below.refl _ w).alloc (Nat.le_refl _) _
  have k0 : (w.alloc (.cells #[.slice (some ⟨b0, o0, none⟩) zs0.length c0] 22)).cell? ⟨b0, o0, none⟩ = some (.int .i64 x) := (hb1.cell (p := ⟨b0, o0, none⟩) hs0).trans hc0
  have k1 : (w.alloc (.cells #[.slice (some ⟨b0, o0, none⟩) zs0.length c0] 22)).cell? ⟨b1, o1, none⟩ = some (.int .i64 y) := (hb1.cell (p := ⟨b1, o1, none⟩) hs1).trans hc1
  clear h0 h1 hb0 hx hy hb1
  refine (callsIn_wide (n := 6)).1 ?_
  refine callsIn_of_wp_marks Try.func33 rfl trivial ?_ rfl
  simp only [Try.ntmps33, List.size_toArray, List.length_cons, List.length_nil, Nat.reduceAdd, Nat.reduceSub, Array.replicate_succ, Array.replicate_zero, List.push_toArray, List.append_toArray, List.nil_append, List.cons_append]
  gi_wp2
  gi_region
  gi_wp2_with (refine ⟨trivial, ?_⟩; gi_at_call 50; refine (entries_in _ _ trivial rfl _ _ _ _).mono ?_; rintro e w' ⟨rfl, rfl⟩)
  obtain ⟨V4, hV4⟩ : ∃ V4, ((w.alloc (.cells #[.slice (some ⟨b0, o0, none⟩) zs0.length c0] 22)).alloc (.cells #[.int .i64 (x - y)] 3)).alloc (.cells #[.slice (some ⟨b1, o1, none⟩) zs1.length c1] 43) = V4 := ⟨_, rfl⟩
  obtain ⟨W4, hW4⟩ : ∃ W4, V4.drew = W4 := ⟨_, rfl⟩
  have hsz : W4.heap.size = w.heap.size + 3 := by rw [← hW4, ← hV4]; simp
  have hb04 : Below w.heap.size w W4 := by rw [← hW4, ← hV4]; exact ((((Below.refl _ w).alloc (Nat.le_refl _) _).alloc (by simp) _).alloc (by simp; omega) _).drew
  have hbox : W4.cell? ⟨w.heap.size + 2, 0, none⟩ = some (.slice (some ⟨b1, o1, none⟩) zs1.length c1) := by
    rw [← hW4, ← hV4]; show World.cell? _ _ = _; rw [World.cell?_drew, World.cell?_alloc_at _ _ _ _ (by simp)]; rfl
  have hS : Boxed W4 w.heap.size 22 (.slice (some ⟨b0, o0, none⟩) zs0.length c0) := by
    have n0 : Boxed V4 w.heap.size 22 (.slice (some ⟨b0, o0, none⟩) zs0.length c0) := by
      rw [← hV4]; exact ((Boxed.new w 22 (.slice (some ⟨b0, o0, none⟩) zs0.length c0)).alloc _).alloc _
    rw [← hW4]; exact n0
  have hGx : Boxed W4 (w.heap.size + 1) 3 (.int .i64 (gapP zs0 zs1 [])) := by
    have n0 : Boxed V4 (w.heap.size + 1) 3 (.int .i64 (gapP zs0 zs1 [])) := by
      have n1 := Boxed.new (w.alloc (.cells #[.slice (some ⟨b0, o0, none⟩) zs0.length c0] 22)) 3 (.int .i64 (x - y))
      rw [World.size_alloc] at n1
      rw [← hV4, HGN.out]; exact n1.alloc _
    rw [← hW4]; exact n0
  have hR4 : IR W4 0 w.heap.size (some ⟨b1, o1, none⟩) zs1 := H1.out.below hb04 (Nat.le_refl _)
  have hZ4 : IR W4 0 w.heap.size (some ⟨b0, o0, none⟩) zs0 := H0.out.below hb04 (Nat.le_refl _)
  rw [hV4, hW4]
  clear hV4 hW4 hc0 hc1 k0 k1
  apply (fun a₁ => wpIn_rangeFunc_ownF (F := Fence.wide) rfl (by decide) (gf := 65) (lb := #[.pointer (some ⟨w.heap.size + 2, 0, none⟩)]) rfl trivial (enters_of Try.func65 (by kernel_rfl) rfl)
    (entries_stops Fence.wide (6 - 1) trivial rfl (by decide) (w.heap.size + 2) w.heap.size c1 (some ⟨b1, o1, none⟩) zs1 _ (by omega) (by omega) hbox hR4) belowK_t (belowK_b (by omega)) (Below.refl _ _) (fun _ => rfl)
    (fun pre W => (Boxed W w.heap.size 22 (.slice (some ⟨b0, o0, none⟩) zs0.length c0) ∧ Boxed W (w.heap.size + 1) 3 (.int .i64 (gapP zs0 zs1 pre))) ∧ Below w.heap.size w W)
    (fun _ _ _ => False)
    (OwnFrom.and (OwnFrom.and (Own.from (boxed_own _ _ _) _) (Own.from (boxed_own _ _ _) _)) (ownFrom_below (Nat.le_refl _) (by omega)))
    (fun _ _ _ _ _ hs _ _ => hs)
    ⟨⟨hS, hGx⟩, hb04⟩ a₁)
  case hassign =>
    intro l x W K hK
    gi_wp2
    exact hK
  case hbody =>
    rintro l pre x' W ⟨⟨hS, hG⟩, hB⟩ hlt
    have px : x'.1 < zs0.length := Nat.lt_of_lt_of_le x'.2 hle
    obtain ⟨b0', o0', e, _, _, hcx⟩ := (H0.out.below hB (Nat.le_refl _)).at_ px
    injection e with e; injection e with e1 e2 _; subst e1; subst e2
    obtain ⟨g1, g2⟩ := row_get HR1.out x'
    obtain ⟨g3, g4⟩ := HB0.out _ (List.getElem_mem px)
    obtain ⟨v, hv⟩ : ∃ v, v = gapP zs0 zs1 pre := ⟨_, rfl⟩
    have hst := gapP_snoc zs0 zs1 pre x'
    rw [getD_in px] at hst
    rw [← hv] at hst hG
    have c1' := hS.cell
    have c2 := hG.cell
    have f2 := hG.frozen
    have HS := Lib.hid hS; have HG' := Lib.hid hG; have HB := Lib.hid hB
    have q2 : ((x'.1 : Nat) : Int) < (zs0.length : Int) := by omega
    have q3 : (0 : Int) ≤ ((x'.1 : Nat) : Int) := by omega
    clear hS hG hB hv hbox hR4 hZ4
    simp only [Fin.getElem_fin] at g1 g2 hst
    have s1 : IntKind.i64.wrap (zs0[x'.1] - (zs1[x'.1]'x'.2)) = zs0[x'.1] - (zs1[x'.1]'x'.2) := IntWalk.i64_in _ (by omega)
    have HST := Lib.hid hst; clear hst
    gi_wp2
    refine region_anyS (fun W' => W'.cell? ⟨w.heap.size, 0, none⟩ = some (.slice (some ⟨b0, o0, none⟩) zs0.length c0) ∧ W'.cell? ⟨b0, o0 + x'.1, none⟩ = some (.int .i64 (zs0[x'.1]'px))) (by kernel_rfl) ?_
    have hS0 : W.drew.cell? ⟨w.heap.size, 0, none⟩ = some (.slice (some ⟨b0, o0, none⟩) zs0.length c0) ∧ W.drew.cell? ⟨b0, o0 + x'.1, none⟩ = some (.int .i64 (zs0[x'.1]'px)) := ⟨c1', hcx⟩
    refine anyS_first 1 (v := .slice (some ⟨b0, o0, none⟩) zs0.length c0) rfl (by kernel_rfl) (by kernel_rfl) (by kernel_rfl) (fun _ _ _ h => h) hS0 ⟨fun _ => rfl, .inl ⟨by rfl, fun W' hW' => (by obtain ⟨e1, e2⟩ := hW'; go_simp)⟩⟩ ?_
    refine anyS_first 2 (v := .int .i64 ((x'.1 : Nat) : Int)) rfl (by kernel_rfl) (by kernel_rfl) (by kernel_rfl) (fun _ _ _ h => h) hS0 ⟨fun _ => rfl, .inl ⟨by rfl, fun W' hW' => (by go_simp)⟩⟩ ?_
    refine anyS_first 3 (v := .pointer (some ⟨b0, o0 + x'.1, none⟩)) rfl (by kernel_rfl) (by kernel_rfl) (by kernel_rfl) (fun _ _ _ h => h) hS0 ⟨fun _ => rfl, .inl ⟨by rfl, fun W' hW' => (by obtain ⟨e1, e2⟩ := hW'; go_simp)⟩⟩ ?_
    refine anyS_first 4 (v := .int .i64 (zs0[x'.1]'px)) rfl (by kernel_rfl) (by kernel_rfl) (by kernel_rfl) (fun _ _ _ h => h) hS0 ⟨fun _ => rfl, .inl ⟨by rfl, fun W' hW' => (by obtain ⟨e1, e2⟩ := hW'; go_simp)⟩⟩ ?_
    refine anyS_first 5 (v := .int .i64 (zs1[x'.1]'x'.2)) rfl (by kernel_rfl) (by kernel_rfl) (by kernel_rfl) (fun _ _ _ h => h) hS0 ⟨fun _ => rfl, .inl ⟨by rfl, fun W' hW' => (by go_simp)⟩⟩ ?_
    refine anyS_first 6 (v := .int .i64 (zs0[x'.1]'px - (zs1[x'.1]'x'.2))) rfl (by kernel_rfl) (by kernel_rfl) (by kernel_rfl) (fun _ _ _ h => h) hS0 ⟨fun _ => rfl, .inl ⟨by rfl, fun W' hW' => (by go_simp)⟩⟩ ?_
    refine anyS_one 0 rfl (by kernel_rfl) hS0 ?_
    refine wpOpIn_step rfl fun K0 hK0 => ?_
    go_simp
    refine hK0 _ _ ?_
    refine anyS_one 7 rfl (by kernel_rfl) hS0 ?_
    refine wpOpIn_step rfl fun K7 hK7 => ?_
    go_simp
    refine hK7 _ _ ?_
    refine anyS_one 8 rfl (by kernel_rfl) hS0 ?_
    refine wpOpIn_step rfl fun K8 hK8 => ?_
    go_simp
    refine hK8 _ _ ?_
    obtain ⟨u, hu⟩ : ∃ u, (if v < zs0[x'.1]'px - (zs1[x'.1]'x'.2) then zs0[x'.1]'px - (zs1[x'.1]'x'.2) else v) = u := ⟨_, rfl⟩
    have hst := HST.out
    rw [hu] at hst
    rw [hu]
    have bs : Below w.heap.size W (W.drew.setCell ⟨w.heap.size + 1, 0, none⟩ (.int .i64 u)) := (Below.refl _ W).drew.setCell (p := ⟨w.heap.size + 1, 0, none⟩) (by show w.heap.size ≤ w.heap.size + 1; omega) _
    refine anyS_done (by kernel_rfl) ⟨(World.cell?_setCell_other _ _ _ _ (by intro e; injection e with e _; omega)).trans c1', (World.cell?_setCell_other _ _ _ _ (by intro e; injection e with e _; omega)).trans hcx⟩ ?_
    have hs2 : Boxed W.drew w.heap.size 22 (.slice (some ⟨b0, o0, none⟩) zs0.length c0) := HS.out
    have hg2 : Boxed W.drew (w.heap.size + 1) 3 (.int .i64 v) := HG'.out
    have ko : KeepsOthers W (W.drew.setCell ⟨w.heap.size + 1, 0, none⟩ (.int .i64 u)) := (KeepsOthers.drew W).trans (KeepsOthers.setCell _ _ _)
    exact ⟨ko, bs, ⟨hs2.other (by omega) _, by rw [hst]; exact hg2.set _⟩, HB.out.trans bs⟩
  case hdone =>
    rintro D ys W hD rfl ⟨⟨hS, hG⟩, hB⟩ hK
    rw [HG.out] at hG
    have c2 := hG.cell
    have HB := Lib.hid hB
    clear hS hG hB
    gi_wp2
    refine ⟨by simp, .inl ⟨_, _, rfl, run_takeDeferred hK, ?_⟩⟩
    exact ⟨_, results_tmp rfl _ _ _, rfl, HB.out.trans (belowK_b (w := w) (Nat.le_refl _) W D _ _ (by omega) hK rfl rfl)⟩
  case hstop =>
    rintro D cd pre W _ _ h _
    exact h.elim
theorem IR.drop_ {w : World} {lo hi b off : Nat} {zs : List Int} (h : IR w lo hi (some ⟨b, off, none⟩) zs) (k : Nat) : IR w lo hi (some ⟨b, off + k, none⟩) (zs.drop k) := by
  refine ⟨by rw [List.length_drop]; have := h.1; omega, fun z hz => h.2.1 z (List.mem_of_mem_drop hz), h.2.2.1, fun hn => ?_⟩
  rw [List.length_drop] at hn
  obtain ⟨b', off', e, h1, h2, h3⟩ := h.2.2.2 (by omega)
  injection e with e; injection e with e1 e2 _; subst e1; subst e2
  refine ⟨b, off + k, rfl, h1, h2, fun j hj => ?_⟩
  rw [List.length_drop] at hj
  have := h3 (k + j) (by omega)
  rw [List.getElem_drop, Nat.add_assoc]
  exact this
theorem implRowIn_of {b : Bool} (A : Option Addr) (c lo hi : Nat) (zs : List Int) (w : World) (h : IR w lo hi A zs) (hb : rowB zs = b) :
    Calls Try.prog 32 #[.slice A zs.length c] w fun e w' => e = .returned (.bool b) ∧ Below w.heap.size w w' := by
  have := implRowIn_any A c zs w h.toAll; rwa [hb] at this

set_option maxRecDepth 100000 in
set_option maxHeartbeats 4000000 in
theorem implMergeRest_any (A0 : Option Addr) (c0 : Nat) (zs0 : List Int) (A1 : Option Addr) (c1 : Nat) (zs1 : List Int) (w : World) (h0 : IR w 0 w.heap.size A0 zs0) (h1 : IR w 0 w.heap.size A1 zs1) (hc : zs0.length ≤ c0) :
    Calls Try.prog 14 #[.slice A0 zs0.length c0, .slice A1 zs1.length c1] w (RetSB w (restM zs0 zs1)) := by
  have hl0 := h0.1; have hl1 := h1.1
  have H0 := Lib.hid h0; have H1 := Lib.hid h1
  clear h0 h1
  cases hr0 : rowB zs0 with
  | false =>
    have HM := Lib.hid (rest_no1 (a := zs1) hr0)
    have HR := Lib.hid hr0; clear hr0
    go_enter Try.func14, Try.ntmps14
    go_wp2_with fail
    refine (implRowIn_of _ _ _ _ zs0 _ H0.out HR.out).mono ?_; rintro e w1 ⟨rfl, hb1⟩
    have B1 := Lib.hid hb1; clear hb1
    go_wp2
    go_ret2
    rw [HM.out]
    exact retSB_none B1.out
  | true =>
  have HR0 := Lib.hid hr0
  cases hr1 : rowB zs1 with
  | false =>
    have HM := Lib.hid (rest_no2 (c := zs0) hr1)
    have HR := Lib.hid hr1; clear hr0 hr1
    go_enter Try.func14, Try.ntmps14
    go_wp2_with fail
    refine (implRowIn_of _ _ _ _ zs0 _ H0.out HR0.out).mono ?_; rintro e w1 ⟨rfl, hb1⟩
    have B1 := Lib.hid hb1; replace H1 := Lib.hid (H1.out.grow hb1); clear hb1
    go_wp2_with fail
    refine (implRowIn_of _ _ _ _ zs1 _ H1.out HR.out).mono ?_; rintro e w2 ⟨rfl, hb2⟩
    have B2 := Lib.hid hb2; clear hb2
    go_wp2
    go_ret2
    rw [HM.out]
    exact retSB_none (below_then B1.out (Nat.le_refl _) B2.out)
  | true =>
  have HR1 := Lib.hid hr1
  by_cases hle : zs1.length ≤ zs0.length
  · have hb0 := (rowB_true.1 hr0).2; have hb1 := (rowB_true.1 hr1).2
    have HM := Lib.hid (rest_yes hr0 hr1 hle)
    have HLen := Lib.hid (rest_len zs0 zs1)
    have HI := Lib.hid (restL_i64 hr0 hr1 hle)
    have hq : ¬ (zs0.length : Int) < (zs1.length : Int) := by omega
    have hqn : decide (zs0.length < zs1.length) = false := by simp; omega
    clear hr0 hr1
    obtain ⟨n, hn⟩ : ∃ n, n = zs0.length - zs1.length + 1 := ⟨_, rfl⟩
    rw [← hn] at HLen
    have hn' : (zs0.length : Int) - (zs1.length : Int) + 1 = (n : Int) := by omega
    have hn2 : n + zs1.length = zs0.length + 1 := by omega
    have hn3 : n ≤ 12 := by omega
    have HN2 := Lib.hid hn2
    clear hn hn2
    have hmk : ∀ w : World, (Instr.makeSlice 43 (.int .i64 (n : Int)) (.int .i64 (n : Int))).run Try.prog w = .ok (.slice (some ⟨w.heap.size, 0, none⟩) n n) (w.alloc (.cells (madeCells #[.int .i64 0] n) 3)) := by
      intro w
      obtain ⟨i0, hi, hz0, hz1, hz2⟩ := info_parts info_int
      have hr := run_make (P := Try.prog) w 43 3 i0 (.int .i64 0) Try.underlying43 hi hz0 .i64 .i64 n n (by omega) (Int.le_refl _) (by rw [hz2]; omega) (by omega)
      rw [hz1] at hr
      simpa [Value.cells] using hr
    go_enter Try.func14, Try.ntmps14
    go_wp2_with fail
    refine (implRowIn_of _ _ _ _ zs0 _ H0.out HR0.out).mono ?_; rintro e w1 ⟨rfl, hb1'⟩
    have B1 := Lib.hid hb1'; replace H1 := Lib.hid (H1.out.grow hb1'); replace H0 := Lib.hid (H0.out.grow hb1'); clear hb1'
    go_wp2_with fail
    refine (implRowIn_of _ _ _ _ zs1 _ H1.out HR1.out).mono ?_; rintro e w2 ⟨rfl, hb2⟩
    have BB := Lib.hid (below_then B1.out (Nat.le_refl _) hb2); replace H1 := Lib.hid (H1.out.grow hb2); replace H0 := Lib.hid (H0.out.grow hb2); clear hb2 B1
    go_wp2
    have hG : w.heap.size ≤ w2.heap.size := BB.out.size
    go_loopw [32] (fun i wr => ∃ k : Nat, k ≤ n ∧ i = .int .i64 k ∧ Cells wr w2.heap.size 0 (fillTo (restL zs0 zs1) k) ∧ IR wr 0 w.heap.size A0 zs0 ∧ IR wr 0 w.heap.size A1 zs1 ∧ Below w.heap.size w wr ∧ w2.heap.size < wr.heap.size) (fun i _ => n - (intOf i).toNat)
    case atStart =>
      have bb : Below w2.heap.size w2 (w2.alloc (.cells (madeCells #[.int .i64 0] n) 3)) := (Below.refl _ _).alloc (Nat.le_refl _) _
      refine ⟨0, Nat.zero_le _, rfl, ?_, H0.out.grow bb, H1.out.grow bb, below_then BB.out (Nat.le_refl _) bb, by simp⟩
      rw [fillTo_zero, HLen.out]; exact Cells.made w2 n _
    case round =>
      clear H0 H1 BB hmk
      obtain ⟨k, hk, rfl, hcs, hr0, hr1, hb, hsz⟩ := hrel
      have HC := Lib.hid hcs; have H0 := Lib.hid hr0; have H1 := Lib.hid hr1; have HB := Lib.hid hb; have HZ := Lib.hid hsz
      clear hcs hr0 hr1 hb hsz
      by_cases hlt : k < n
      · have hlt' : (k : Int) < (n : Int) := by omega
        have p0 : k < zs0.length := by have := HN2.out; omega
        obtain ⟨b0, o0, rfl, _, hbs, hc0⟩ := H0.out.at_ p0
        have HD := Lib.hid (H0.out.drop_ k)
        have q0 : (k : Int) ≤ (zs0.length : Int) := by omega
        have q1 : (zs0.length : Int) ≤ (c0 : Int) := by omega
        have q2 : (0 : Int) ≤ (k : Int) := by omega
        have hkL : k < (restL zs0 zs1).length := by rw [HLen.out]; exact hlt
        have hv : restTo (zs0.drop k) zs1 0 (zs1.length - 1) = (restL zs0 zs1)[k] := by
          rw [restTo_drop, ← getD_in hkL, rest_getD zs0 zs1 (by have := HN2.out; omega), restAt]
        have HV := Lib.hid hv
        clear hc0 hv
        go_wp2_with fail
        refine (greatestGap_any (some ⟨b0, o0 + k, none⟩) (c0 - k) (zs0.length - k) (zs0.drop k) A1 c1 zs1.length zs1 _ _ wr HD.out H1.out.toAll (fun z hz => (rowB_true.1 HR0.out).1 z (List.mem_of_mem_drop hz)) HR1.out (by rw [List.length_drop]; have := HN2.out; omega) (by rw [List.length_drop]) rfl).mono ?_
        rintro e w3 ⟨rfl, hb3⟩
        rw [HV.out]
        have hblk : w3.heap[w2.heap.size]? = wr.heap[w2.heap.size]? := hb3.block _ HZ.out
        have hC3 : Cells w3 w2.heap.size 0 (fillTo (restL zs0 zs1) k) := fun j hj => by
          have h1 := HC.out j hj
          exact ⟨(World.cell?_of_block (a := ⟨w2.heap.size, 0 + j, none⟩) hblk).trans h1.1, (World.frozen?_of_block (a := ⟨w2.heap.size, 0 + j, none⟩) hblk).trans h1.2⟩
        obtain ⟨hcc, hff⟩ := hC3.fillAt hkL
        have HN := Lib.hid (hC3.fill hkL)
        rw [Nat.zero_add] at hcc hff
        have HI0 := Lib.hid (H0.out.grow hb3); have HI1 := Lib.hid (H1.out.grow hb3)
        have HB3 := Lib.hid (below_then HB.out (Nat.le_refl _) hb3)
        have HZ3 := Lib.hid (Nat.lt_of_lt_of_le HZ.out hb3.size)
        obtain ⟨u, hu⟩ : ∃ u, (restL zs0 zs1)[k] = u := ⟨_, rfl⟩
        rw [hu] at HN
        rw [hu]
        clear hb3 hblk hC3 hu HV HC HD H0
        go_wp2
        go_roundw
        case rel =>
          have hn := HN.out
          rw [Nat.zero_add] at hn
          exact ⟨k + 1, by omega, by go_num, hn, HI0.out.keep (by simp [World.setCell]) (fun p _ hp => World.cell?_setCell_other _ _ _ _ (by intro e; subst e; exact absurd hp (by show ¬ w2.heap.size < _; omega))), HI1.out.keep (by simp [World.setCell]) (fun p _ hp => World.cell?_setCell_other _ _ _ _ (by intro e; subst e; exact absurd hp (by show ¬ w2.heap.size < _; omega))), HB3.out.setCell (p := ⟨w2.heap.size, k, none⟩) hG _, by simpa [World.setCell] using HZ3.out⟩
        case measure => simp [intOf]; omega
      · obtain rfl : k = n := by omega
        have hC := HC.out
        rw [← HLen.out, fillTo_all] at hC
        have HIW := Lib.hid (hC.iw HLen.out hG HZ.out (Nat.le_refl _) (by omega) HI.out)
        clear hC HC
        cases hr2 : rowB (restL zs0 zs1) with
        | false =>
          have HD : Hid (doneM (restL zs0 zs1) = none) := by show _ = _; simp [doneM, hr2]
          have hc := checked_false (some ⟨w2.heap.size, 0, none⟩) k _ _ (restL zs0 zs1) wr HIW.out.toIR hr2
          rw [HLen.out] at hc
          have HC := Lib.hid hc
          clear hc hr2
          go_wp2_with fail
          refine HC.out.mono ?_
          rintro e w5 ⟨rfl, hb5⟩
          have B5 := Lib.hid hb5; clear hb5
          go_wp2
          go_ret2
          rw [HM.out, HD.out]
          exact retSB_none (below_then HB.out (Nat.le_refl _) B5.out)
        | true =>
          have HD := Lib.hid (doneM_row hr2)
          have hc := checked_true (some ⟨w2.heap.size, 0, none⟩) k _ _ (restL zs0 zs1) wr HIW.out.toIR hr2
          rw [HLen.out] at hc
          have HC := Lib.hid hc
          clear hc hr2
          go_wp2_with fail
          refine HC.out.mono ?_
          rintro e w5 ⟨rfl, hb5⟩
          have B5 := Lib.hid hb5; clear hb5
          go_wp2
          go_ret2
          rw [HM.out, HD.out]
          exact retSB_some HLen.out.symm ((HIW.out.grow B5.out).wide (Nat.le_refl _) (HIW.out.grow B5.out).2.2.1 (Nat.le_refl _)) (below_then HB.out (Nat.le_refl _) B5.out)
  · have HM := Lib.hid (rest_no3 hle)
    have hq : (zs0.length : Int) < (zs1.length : Int) := by omega
    clear hr0 hr1
    go_enter Try.func14, Try.ntmps14
    go_wp2_with fail
    refine (implRowIn_of _ _ _ _ zs0 _ H0.out HR0.out).mono ?_; rintro e w1 ⟨rfl, hb1⟩
    have B1 := Lib.hid hb1; replace H1 := Lib.hid (H1.out.grow hb1); clear hb1
    go_wp2_with fail
    refine (implRowIn_of _ _ _ _ zs1 _ H1.out HR1.out).mono ?_; rintro e w2 ⟨rfl, hb2⟩
    have B2 := Lib.hid hb2; clear hb2
    go_wp2
    go_ret2
    rw [HM.out]
    exact retSB_none (below_then B1.out (Nat.le_refl _) B2.out)
end Go.Proofs.Ytgbcpbooonincaa
