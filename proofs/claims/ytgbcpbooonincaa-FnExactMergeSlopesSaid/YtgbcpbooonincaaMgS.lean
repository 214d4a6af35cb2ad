/-
  Rows merged by slopes: MergeSlopes of the model and of the program. Conditions: the rows' cells are there.
-/
import Derived.Test.YtgbcpbooonincaaMergeMath3
import Derived.Test.YtgbcpbooonincaaDraw2
import Derived.Test.YtgbcpbooonincaaSort
import Derived.Test.YtgbcpbooonincaaFrom2
import Derived.Test.YtgbcpbooonincaaHeld
import Derived.Test.YtgbcpbooonincaaColl2
import Derived.Test.YtgbcpbooonincaaMath
import Derived.Shelf.Slices.In.SortNone
import Derived.Sort.OwnSortedInts
import Derived.StillTailTactics
namespace Go.Proofs.Ytgbcpbooonincaa
open Go.RowKit Go.Shelf
attribute [local go_sem] Oper.semAt_some

/- Sorted lists. -/
theorem sorted_getD {l : List Int} (h : ∀ i j, i < j → j < l.length → l.getD i 0 ≤ l.getD j 0) : Sorted l := fun k hk => h k (k + 1) (by omega) hk
theorem sorted_merge (l : List Int) : Sorted (l.mergeSort fun x y => decide (x ≤ y)) := by
  have p := List.pairwise_mergeSort (le := fun x y : Int => decide (x ≤ y)) (by intro a b c; simp; omega) (by intro a b; simp; omega) l
  rw [List.pairwise_iff_getElem] at p
  refine sorted_getD fun i j hij hj => ?_
  rw [getD_in (show i < _ by omega), getD_in hj]
  have := p i j (by omega) hj hij
  simpa using this
/-- A list with a hole at M that waits for X: with X there it is the old one in another order; without the hole it ascends up to K; what is behind the hole is greater than X. -/
def Hole (zs ys : List Int) (X : Int) (M K : Nat) : Prop :=
  ys.length = zs.length ∧ M ≤ K ∧ K < zs.length ∧ (ys.set M X).Perm zs ∧ (∀ i j, i < j → j ≤ K → i ≠ M → j ≠ M → ys.getD i 0 ≤ ys.getD j 0) ∧ ∀ j, M < j → j ≤ K → X ≤ ys.getD j 0
def UpTo (zs ys : List Int) (k : Nat) : Prop := ys.length = zs.length ∧ ys.Perm zs ∧ ∀ i j, i < j → j ≤ k → ys.getD i 0 ≤ ys.getD j 0
theorem set_getD (ys : List Int) (M : Nat) (X : Int) (j : Nat) (hM : M < ys.length) : (ys.set M X).getD j 0 = if j = M then X else ys.getD j 0 := by
  by_cases e : j = M
  · subst e; simp [List.getD, hM]
  · simp [List.getD, e, Ne.symm e]
theorem Hole.begin {zs ys : List Int} {k : Nat} (h : UpTo zs ys k) (hk : k + 1 < zs.length) : Hole zs ys (ys.getD (k + 1) 0) (k + 1) (k + 1) := by
  obtain ⟨h1, h2, h3⟩ := h
  refine ⟨h1, Nat.le_refl _, hk, ?_, fun i j hij hj _ hjM => h3 i j hij (by omega), fun j h4 h5 => by omega⟩
  have e : ys.set (k + 1) (ys.getD (k + 1) 0) = ys := by
    apply List.ext_getElem (by simp)
    intro i p1 p2
    rw [List.getElem_set]
    split
    · rename_i e; subst e; exact (getD_in (by omega))
    · rfl
  rw [e]; exact h2
theorem Hole.step {zs ys : List Int} {X : Int} {M K : Nat} (h : Hole zs ys X M K) (hM : 0 < M) (hlt : X < ys.getD (M - 1) 0) : Hole zs (ys.set M (ys.getD (M - 1) 0)) X (M - 1) K := by
  obtain ⟨h1, h2, h3, h4, h5, h6⟩ := h
  have hMl : M < ys.length := by omega
  have hNl : M - 1 < ys.length := by omega
  refine ⟨by simpa using h1, by omega, h3, ?_, fun i j hij hj hi hj' => ?_, fun j h7 h8 => ?_⟩
  · have p := @List.set_set_perm _ (ys.set M X) M (M - 1) (by simpa using hMl) (by simpa using hNl)
    have e1 : (ys.set M X)[M - 1]'(by simpa using hNl) = ys.getD (M - 1) 0 := by
      rw [List.getElem_set_ne (by omega)]; exact (getD_in hNl).symm
    have e2 : (ys.set M X)[M]'(by simpa using hMl) = X := by simp
    rw [e1, e2, List.set_set] at p
    exact p.trans h4
  · rw [set_getD ys M _ i hMl, set_getD ys M _ j hMl]
    split
    · rename_i e
      rw [if_neg (by omega)]
      exact h5 (M - 1) j (by omega) hj (by omega) (by omega)
    · rename_i e
      split
      · rename_i e2
        by_cases e3 : i = M - 1
        · omega
        · exact h5 i (M - 1) (by omega) (by omega) e (by omega)
      · rename_i e2
        exact h5 i j hij hj e e2
  · rw [set_getD ys M _ j hMl]
    split
    · exact Int.le_of_lt hlt
    · exact h6 j (by omega) h8
theorem Hole.done {zs ys : List Int} {X : Int} {M K : Nat} (h : Hole zs ys X M K) (hM : M = 0 ∨ ys.getD (M - 1) 0 ≤ X) : UpTo zs (ys.set M X) K := by
  obtain ⟨h1, h2, h3, h4, h5, h6⟩ := h
  have hMl : M < ys.length := by omega
  refine ⟨by simpa using h1, h4, fun i j hij hj => ?_⟩
  rw [set_getD ys M _ i hMl, set_getD ys M _ j hMl]
  split
  · rw [if_neg (by omega)]; exact h6 j (by omega) hj
  · split
    · rename_i e1 e2
      rcases hM with hM | hM
      · omega
      · by_cases e3 : i = M - 1
        · rw [e3]; exact hM
        · exact Int.le_trans (h5 i (M - 1) (by omega) (by omega) e1 (by omega)) hM
    · rename_i e1 e2
      exact h5 i j hij hj e1 e2
theorem UpTo.sorted {zs ys : List Int} {k : Nat} (h : UpTo zs ys k) (hk : k + 1 = zs.length) : Sorted ys := sorted_getD fun i j hij hj => h.2.2 i j hij (by have := h.1; omega)

/- What is made of sorted slopes. -/
theorem fromL_addL : ∀ (l : List Int) (x : Int), (∀ k, k ≤ l.length → -900000 ≤ (addL x l).getD k 0 ∧ (addL x l).getD k 0 ≤ 900000) → fromL x l = addL x l
  | [], x, _ => rfl
  | d :: l, x, h => by
    have h1 := h 1 (by simp)
    rw [addL_succ, addL_zero] at h1
    have e : wrap64 (x + d) = x + d := wrap64_id ⟨by omega, by omega⟩
    show x :: fromL (wrap64 (x + d)) l = x :: addL (x + d) l
    rw [e, fromL_addL l (x + d) fun k hk => by have := h (k + 1) (by simpa using hk); rwa [addL_succ] at this]
theorem merge_ge {a b : List Int} (ha : rowB a = true) (hb : rowB b = true) {k : Nat} (hk : k < a.length + b.length - 1) : -2000 ≤ (mergeL a b).getD k 0 ∧ (mergeL a b).getD k 0 ≤ 2000 := by
  obtain ⟨-, i, j, h1, h2, h3, h4⟩ := row_le ha hb hk
  have b1 := row_getD ha i h1
  have b2 := row_getD hb j h2
  rw [h4]; omega
theorem slopes_merge {a b l : List Int} (ha : rowB a = true) (hb : rowB b = true) (hba : bentB a = true) (hbb : bentB b = true) (hl : l.Perm (slopesL a ++ slopesL b)) (hs : Sorted l) :
    fromL (a.getD 0 0 + b.getD 0 0) l = mergeL a b := by
  have e := merge_slopes (row_bdU ha) (row_bdU hb) (by decide) (row_pos ha) (row_pos hb) hba hbb hl hs
  have p0 := row_pos ha; have p1 := row_pos hb
  rw [fromL_addL, e]
  intro k hk
  rw [e]
  have hl' := hl.length_eq
  rw [List.length_append, slopesL_len, slopesL_len] at hl'
  have := merge_ge ha hb (k := k) (by omega)
  omega
theorem slopes_no1 {a b : List Int} (h : (rowB a && bentB a) = false) : mergeSlopesM a b = none := by unfold mergeSlopesM; rw [h]; rfl
theorem slopes_no2 {a b : List Int} (h : (rowB b && bentB b) = false) : mergeSlopesM a b = none := by unfold mergeSlopesM; rw [h]; simp
theorem slopes_yes {a b : List Int} (h : (rowB a && bentB a) = true) (h' : (rowB b && bentB b) = true) : mergeSlopesM a b = doneM (mergeL a b) := by unfold mergeSlopesM; rw [h, h']; rfl
theorem slopes_bd {a : List Int} (ha : rowB a = true) : ∀ z, z ∈ slopesL a → I64 z := by
  intro z hz
  obtain ⟨k, hk, rfl⟩ := List.getElem_of_mem hz
  rw [slopesL_len] at hk
  have b1 := (rowB_true.1 ha).1 _ (List.getElem_mem (show k + 1 < a.length by omega))
  have b2 := (rowB_true.1 ha).1 _ (List.getElem_mem (show k < a.length by omega))
  rw [slopesL_get a k (by omega)]
  exact ⟨by omega, by omega⟩

set_option maxHeartbeats 1000000 in
theorem l1Slopes_own (A : Option Addr) (c lo hi : Nat) (zs : List Int) (w : World) (h : IR w lo hi A zs) (hr : rowB zs = true) :
    Calls Try.prog 24 #[.slice A zs.length c] w fun e w' => ∃ v, e = .returned v ∧ OwnI w' w.heap.size v (slopesL zs) ∧ Below w.heap.size w w' := by
  have hl := (rowB_true.1 hr).2
  have HB := Lib.hid (rowB_true.1 hr).1
  clear hr
  go_enter Try.func24, Try.ntmps24
  go_wp2
  go_loopw [3, 4] (fun v i wr => ∃ k : Nat, k + 1 ≤ zs.length ∧ i = .int .i64 ((k : Int) + 1) ∧ OwnI wr w.heap.size v ((slopesL zs).take k) ∧ Below w.heap.size w wr) (fun _ i _ => zs.length - (intOf i).toNat)
  case atStart => exact ⟨0, hl.1, rfl, OwnI.made w, (Below.refl _ _).alloc (Nat.le_refl _) _⟩
  case round =>
    obtain ⟨k, hk, rfl, ho, hb⟩ := hrel
    have HO := Lib.hid ho; have HBl := Lib.hid hb
    clear ho hb
    by_cases hlt : k + 1 < zs.length
    · have hR := h.below HBl.out h.2.2.1
      obtain ⟨b, off, rfl, hbh, hbs, hc1⟩ := hR.at_ hlt
      obtain ⟨b', off', e, _, _, hc0⟩ := hR.at_ (k := k) (by omega)
      injection e with e; injection e with e1 e2 _; subst e1; subst e2
      have hbw : b < w.heap.size := Nat.lt_of_lt_of_le hbh h.2.2.1
      clear hR h
      have hlt' : (k : Int) + 1 < (zs.length : Int) := by omega
      have hlt0 : (k : Int) < (zs.length : Int) := by omega
      have h00 : (0 : Int) ≤ (k : Int) := by omega
      have h01 : (0 : Int) ≤ (k : Int) + 1 := by omega
      have b1 := HB.out _ (List.getElem_mem hlt)
      have b0 := HB.out _ (List.getElem_mem (show k < zs.length by omega))
      obtain ⟨b11, b12⟩ := b1
      obtain ⟨b01, b02⟩ := b0
      have hy : I64 (zs[k + 1] - zs[k]) := ⟨by omega, by omega⟩
      have HY := Lib.hid hy; clear hy
      have hlen : ((slopesL zs).take k).length < 17592186044416 := by simp; omega
      have HLn := Lib.hid hlen; clear hlen
      have t1 : ((k : Int) + 1).toNat = k + 1 := by omega
      have s1 : IntKind.i64.wrap (k : Int) = (k : Int) := IntWalk.i64_in _ (by omega)
      have t0 : (k : Int).toNat = k := by omega
      have s2 : IntKind.i64.wrap (zs[k + 1] - zs[k]) = zs[k + 1] - zs[k] := IntWalk.i64_in _ (by omega)
      go_wp2
      go_region_held3 (fun w' => w'.cell? ⟨b, off + (k + 1), none⟩ = some (.int .i64 zs[k + 1]) ∧ w'.cell? ⟨b, off + k, none⟩ = some (.int .i64 zs[k])) (first | exact ⟨q1, q0⟩ | go_keep)
        ((refine step_push (by rfl) (.tmp 12) (.tmp 23) (by rfl) w.heap.size _ _ (by rfl) (by rfl) HO.out HLn.out HY.out ?_; intro v1 w1 ho1 hb1; have q1 := (hb1.cell (p := ⟨b, off + (k + 1), none⟩) hbw).trans hc1; have q0 := (hb1.cell (p := ⟨b, off + k, none⟩) hbw).trans hc0))
      rw [take_slopes zs k hlt] at ho1
      have HO1 := Lib.hid ho1; have HB1 := Lib.hid hb1
      clear ho1 hb1 t1 t0 s1 s2 hc1 hc0
      go_wp2
      go_roundw
      case rel => exact ⟨k + 1, by omega, by go_num, HO1.out, HBl.out.trans HB1.out⟩
      case measure => simp [intOf]; omega
    · have hk' : k = (slopesL zs).length := by rw [slopesL_len]; omega
      have ho := HO.out
      rw [hk', List.take_length] at ho
      have hlt' : ¬ (k : Int) + 1 < (zs.length : Int) := by omega
      have HI := Lib.hid ho
      clear ho hk' HO h
      go_wp2
      go_ret
      exact ⟨_, rfl, HI.out, HBl.out⟩


set_option maxRecDepth 100000 in
set_option maxHeartbeats 4000000 in
theorem l3Sorted_is (A : Option Addr) (n c : Nat) (zs : List Int) (w : World) (h : IR w 0 w.heap.size A zs) (hn : zs.length ≤ 1048576) (hnn : n = zs.length) :
    Calls Try.prog 23 #[.slice A n c] w fun e w' => ∃ zs', zs'.Perm zs ∧ Sorted zs' ∧ RetS w zs' e w' := by
  subst hnn
  have H := Lib.hid h
  clear h
  have HA := Lib.hid (H.out.grow ((Below.refl _ _).alloc (Nat.le_refl _) (.cells #[] 3)))
  go_enter Try.func23, Try.ntmps23
  go_wp2_with (at_builtin; refine wpList_appendsI rfl _ _ rfl w.heap.size _ [] zs A _ _ _ c rfl rfl rfl (OwnI.made w) HA.out (by simp; omega) ?_; intro v1 w1 ho1 hb1; have HO1 := Lib.hid ho1; have HB1 := Lib.hid hb1; clear ho1 hb1)
  have HL1 : Hid (([] ++ zs : List Int).length = zs.length) := by show _ = _; simp
  obtain ⟨A1, c1, rfl, hi1⟩ := HO1.out.iwn HL1.out (by omega)
  have HI1 := Lib.hid hi1
  clear hi1 HO1 HA
  rcases Nat.eq_zero_or_pos zs.length with h0 | h0
  · have h0' : ¬ (1 : Int) < (zs.length : Int) := by omega
    go_wp2
    refine wp_loop_rounds 1 ?_
    rw [rounds_succ]
    go_wp2
    go_ret
    exact ⟨_, by rw [List.nil_append], sorted_getD (fun i j h1 h2 => by rw [HL1.out] at h2; omega), retS_of (by rw [HL1.out]; exact h0.symm) HI1.out (((Below.refl _ _).alloc (Nat.le_refl _) _).trans HB1.out)⟩
  · obtain ⟨b, off, rfl, hlo, hhi, hcs⟩ := HI1.out.2.2.2 (by rw [HL1.out]; exact h0)
    have HC1 : Hid (Cells w1 b off ([] ++ zs)) := hcs
    have HZ1 := Lib.hid HI1.out.2.1
    clear hcs HI1
    have HW1 : Hid (Below w.heap.size w w1) := ((Below.refl _ _).alloc (Nat.le_refl _) _).trans HB1.out
    clear HB1
    go_wp2
    go_loopw [4] (fun i wr => ∃ (k : Nat) (ys : List Int), i = .int .i64 ((k : Int) + 1) ∧ k < zs.length ∧ UpTo zs ys k ∧ (∀ y, y ∈ ys → I64 y) ∧ Cells wr b off ys ∧ Below w.heap.size w wr ∧ wr.heap.size = w1.heap.size) (fun i _ => zs.length - (intOf i).toNat)
    case atStart => exact ⟨0, _, rfl, h0, ⟨HL1.out, by rw [List.nil_append], fun i j h1 h2 => by omega⟩, HZ1.out, HC1.out, HW1.out, rfl⟩
    case round =>
      obtain ⟨k, ys, rfl, hk, hup, hz, hc, hb, hsz⟩ := hrel
      have HU := Lib.hid hup
      have hys : ys.length = zs.length := hup.1
      clear hup
      have HZ := Lib.hid hz; have HC := Lib.hid hc; have HB := Lib.hid hb; have HS := Lib.hid hsz
      clear hz hc hb hsz HC1 HZ1 HW1
      by_cases hlt : k + 1 < zs.length
      · have hlt' : (k : Int) + 1 < (zs.length : Int) := by omega
        have hk1 : k + 1 < ys.length := by omega
        obtain ⟨hc1, -⟩ := HC.out (k + 1) hk1
        obtain ⟨X, hX⟩ : ∃ X, ys[k + 1]'hk1 = X := ⟨_, rfl⟩
        rw [hX] at hc1
        have hXi : I64 X := by rw [← hX]; exact HZ.out _ (List.getElem_mem hk1)
        obtain ⟨hX1, hX2⟩ := hXi
        have q0 : (0 : Int) ≤ (k : Int) + 1 := by omega
        have q1 : ((k : Int) + 1).toNat = k + 1 := by omega
        have HOL : Hid (Hole zs ys X (k + 1) (k + 1)) := by
          have := Hole.begin HU.out hlt
          rw [getD_in hk1, hX] at this; exact this
        clear hX
        go_wp2
        go_loopw [6] (fun i wr => ∃ (M : Int) (ys : List Int), i = .int .i64 M ∧ 0 ≤ M ∧ M < (zs.length : Int) ∧ Hole zs ys X M.toNat (k + 1) ∧ (∀ y, y ∈ ys → I64 y) ∧ Cells wr b off ys ∧ Below w.heap.size w wr ∧ wr.heap.size = w1.heap.size) (fun i _ => (intOf i).toNat)
        case atStart => exact ⟨(k : Int) + 1, _, rfl, q0, hlt', (by rw [q1]; exact HOL.out), HZ.out, HC.out, HB.out, HS.out⟩
        case round =>
          clear hk1 hc1 q1 HZ HC HB HS hys HU HOL
          obtain ⟨M, ys, rfl, p0, p1, hup, hz, hc, hb, hsz⟩ := hrel
          have HU := Lib.hid hup
          have hys : ys.length = zs.length := hup.1
          clear hup
          have HZ := Lib.hid hz; have HC := Lib.hid hc; have HB := Lib.hid hb; have HS := Lib.hid hsz
          clear hz hc hb hsz
          have hmy : M.toNat < ys.length := by omega
          obtain ⟨hcm, hfm⟩ := HC.out M.toNat hmy
          obtain ⟨Z, hZ⟩ : ∃ Z, ys[M.toNat]'hmy = Z := ⟨_, rfl⟩
          rw [hZ] at hcm
          clear hZ
          have HX : Hid (I64 X) := ⟨hX1, hX2⟩
          have HN := Lib.hid (HC.out.set_ M.toNat hmy X)
          by_cases p2 : 0 < M
          · have hj : (M.toNat - 1) < ys.length := by omega
            obtain ⟨hcj, -⟩ := HC.out (M.toNat - 1) hj
            obtain ⟨Y, hY⟩ : ∃ Y, ys[(M.toNat - 1)]'hj = Y := ⟨_, rfl⟩
            rw [hY] at hcj
            have HY : Hid (I64 Y) := by rw [← hY]; exact HZ.out _ (List.getElem_mem hj)
            have p3 : (0 : Int) ≤ M - 1 := by omega
            have p4 : M - 1 < (zs.length : Int) := by omega
            have HN2 := Lib.hid (HC.out.set_ M.toNat hmy Y)
            have HYD : Hid (ys.getD (M.toNat - 1) 0 = Y) := (getD_in hj).trans hY
            clear hY hj hmy
            by_cases hlt2 : X < Y
            · go_wp2
              go_roundw
              case rel => exact ⟨M - 1, _, rfl, p3, p4, (by have h9 := Hole.step HU.out (by omega) (by rw [HYD.out]; exact hlt2); rw [HYD.out] at h9; rw [show (M - 1).toNat = M.toNat - 1 by omega]; exact h9), setI64 HZ.out HY.out, HN2.out, HB.out.setCell hlo _, by simpa [World.setCell] using HS.out⟩
              case measure => simp [intOf]; omega
            · go_wp2
              go_roundw
              case rel => exact ⟨k + 1, _, by go_num, by omega, Hole.done HU.out (.inr (by rw [HYD.out]; omega)), setI64 HZ.out HX.out, HN.out, HB.out.setCell hlo _, by simpa [World.setCell] using HS.out⟩
              case measure => simp [intOf]; omega
          · clear hmy
            go_wp2
            go_roundw
            case rel => exact ⟨k + 1, _, by go_num, by omega, Hole.done HU.out (.inl (by omega)), setI64 HZ.out HX.out, HN.out, HB.out.setCell hlo _, by simpa [World.setCell] using HS.out⟩
            case measure => simp [intOf]; omega
      · have hkn : k + 1 = zs.length := by omega
        have hlt' : ¬ (k : Int) + 1 < (zs.length : Int) := by omega
        have HI2 : Hid (IW wr w.heap.size wr.heap.size (some ⟨b, off, none⟩) ys) := HC.out.iw hys hlo (by rw [HS.out]; exact hhi) (Nat.le_refl _) (by omega) HZ.out
        go_wp2
        go_ret
        exact ⟨_, HU.out.2.1, UpTo.sorted HU.out hkn, retS_of hys.symm HI2.out HB.out⟩


theorem specBent_of {b : Bool} (A : Option Addr) (c lo hi : Nat) (zs : List Int) (w : World) (h : IR w lo hi A zs) (hb : (rowB zs && bentB zs) = b) :
    Calls Try.prog 20 #[.slice A zs.length c] w fun e w' => e = .returned (.bool b) ∧ Below w.heap.size w w' := by
  have := specRowBent_any A c zs w h.toAll; rwa [hb] at this

/-- append of a whole list, in a region that draws its order, in a fence. -/
theorem stepIn_appendsI {F : Fence} {n : Nat} {ops : Array Oper} {o : Oper} {a : Act} {w : World} {K : Act → World → Prop} {Q : Exit → Act → World → Prop} {E : Prop} (hgd : o.guard = none) (s x : Operand)
    (ho : o.op = .call { callee := .builtin .append, args := #[s, x], argTypes := #[22, 22] })
    (base : Nat) (v : Value) (zs ys : List Int) (A : Option Addr) (lo hi m c : Nat) (hm : m = ys.length) (hs : a.eval s = v) (hx : a.eval x = .slice A m c) (hown : OwnI w base v zs)
    (hr : IR w lo hi A ys) (hl : zs.length + ys.length ≤ 17592186044416)
    (h : ∀ v' w', OwnI w' base v' (zs ++ ys) → Below base w w' → K (a.put o.dst v') w') : if Region.wanted o (yielded ops a.tmps) = true then Oper.wpIn F n Try.prog o a w K Q else E := by
  subst hm
  rw [if_pos (show Region.wanted o (yielded ops a.tmps) = true by simp [Region.wanted, hgd])]
  obtain ⟨v', w', hrun, h2, h3⟩ := run_appendsI w base v zs ys hown A lo hi c hr hl o.type
  unfold Oper.wpIn
  refine ⟨?_, ?_⟩
  · simp [Oper.about, ho, resolve, Target.leads, Sem.run_pure]
  · rw [Oper.semAt_plain F _ _ (by rw [ho]; intro c hc'; cases hc')]
    simp only [execOp, ho, resolve, invoke, builtin, Sem.run_bind, Sem.run_pure, Result.andThen_ok, List.map_toArray, List.map_cons, List.map_nil, hs, hx, hrun]
    exact h v' w' h2 h3

set_option maxRecDepth 100000 in
set_option maxHeartbeats 4000000 in
theorem specMergeSlopes_any (A0 : Option Addr) (c0 : Nat) (zs0 : List Int) (A1 : Option Addr) (c1 : Nat) (zs1 : List Int) (w : World) (h0 : IR w 0 w.heap.size A0 zs0) (h1 : IR w 0 w.heap.size A1 zs1) :
    Calls Try.prog 7 #[.slice A0 zs0.length c0, .slice A1 zs1.length c1] w (RetRB w (mergeSlopesM zs0 zs1)) := by
  have H0 := Lib.hid h0; have H1 := Lib.hid h1
  clear h0 h1
  cases hb0 : (rowB zs0 && bentB zs0) with
  | false =>
    have HM := Lib.hid (slopes_no1 (b := zs1) hb0)
    have HR := Lib.hid hb0; clear hb0
    go_enter Try.func7, Try.ntmps7
    go_wp2_with fail
    refine (specBent_of _ _ _ _ zs0 _ H0.out HR.out).mono ?_; rintro e w1 ⟨rfl, hb1⟩
    have B1 := Lib.hid hb1; clear hb1
    go_wp2
    go_ret2
    rw [HM.out]
    exact (retSB_none (B1.out.alloc B1.out.size _)).toR
  | true =>
  have HR0 := Lib.hid hb0
  cases hb1 : (rowB zs1 && bentB zs1) with
  | false =>
    have HM := Lib.hid (slopes_no2 (a := zs0) hb1)
    have HR := Lib.hid hb1; clear hb0 hb1
    go_enter Try.func7, Try.ntmps7
    go_wp2_with fail
    refine (specBent_of _ _ _ _ zs0 _ H0.out HR0.out).mono ?_; rintro e w1 ⟨rfl, hb1⟩
    have B1 := Lib.hid hb1; replace H1 := Lib.hid (H1.out.grow hb1); clear hb1
    go_wp2_with fail
    refine (specBent_of _ _ _ _ zs1 _ H1.out HR.out).mono ?_; rintro e w2 ⟨rfl, hb2⟩
    have B2 := Lib.hid (below_then B1.out (Nat.le_refl _) hb2); clear hb2
    go_wp2
    go_ret2
    rw [HM.out]
    exact (retSB_none (B2.out.alloc B2.out.size _)).toR
  | true =>
    have HR1 := Lib.hid hb1
    have HM := Lib.hid (slopes_yes hb0 hb1)
    rw [Bool.and_eq_true] at hb0 hb1
    have HB0 := Lib.hid hb0; have HB1 := Lib.hid hb1
    have hl0 := (rowB_true.1 hb0.1).2; have hl1 := (rowB_true.1 hb1.1).2
    have p0 : 0 < zs0.length := by omega
    have p1 : 0 < zs1.length := by omega
    obtain ⟨d01, d02⟩ := row_getD hb0.1 0 p0
    obtain ⟨d11, d12⟩ := row_getD hb1.1 0 p1
    have HF : Hid (∀ l : List Int, l.Perm (slopesL zs0 ++ slopesL zs1) → Sorted l → fromL (zs0.getD 0 0 + zs1.getD 0 0) l = mergeL zs0 zs1) := fun l hl hs => slopes_merge hb0.1 hb1.1 hb0.2 hb1.2 hl hs
    have HS0 := Lib.hid (slopesL_len zs0); have HS1 := Lib.hid (slopesL_len zs1)
    clear hb0 hb1
    refine (callsIn_wide (n := 6)).1 ?_
    refine callsIn_of_wp_marks Try.func7 rfl trivial ?_ rfl
    simp only [Try.ntmps7, List.size_toArray, List.length_cons, List.length_nil, Nat.reduceAdd, Nat.reduceSub, Array.replicate_succ, Array.replicate_zero, List.push_toArray, List.append_toArray, List.nil_append, List.cons_append]
    gi_wp2_with fail
    refine ⟨trivial, ?_⟩
    gi_at_call 20
    refine (callsIn_wide.2 (specBent_of _ _ _ _ zs0 _ H0.out HR0.out)).mono ?_; rintro e w1 ⟨rfl, hb1⟩
    have B1 := Lib.hid hb1; replace H0 := Lib.hid (H0.out.grow hb1); replace H1 := Lib.hid (H1.out.grow hb1); clear hb1
    gi_wp2_with fail
    refine ⟨trivial, ?_⟩
    gi_at_call 20
    refine (callsIn_wide.2 (specBent_of _ _ _ _ zs1 _ H1.out HR1.out)).mono ?_; rintro e w2 ⟨rfl, hb2⟩
    have B2 := Lib.hid (below_then B1.out (Nat.le_refl _) hb2); replace H0 := Lib.hid (H0.out.grow hb2); replace H1 := Lib.hid (H1.out.grow hb2); clear hb2 B1
    obtain ⟨b0, o0, rfl, _, hs0, hc0⟩ := H0.out.at_ p0
    obtain ⟨b1, o1, rfl, _, hs1, hc1⟩ := H1.out.at_ p1
    rw [Nat.add_zero, ← getD_in p0] at hc0
    rw [Nat.add_zero, ← getD_in p1] at hc1
    obtain ⟨x, hx⟩ : ∃ x, zs0.getD 0 0 = x := ⟨_, rfl⟩
    obtain ⟨y, hy⟩ : ∃ x, zs1.getD 0 0 = x := ⟨_, rfl⟩
    rw [hx] at hc0 d01 d02
    rw [hy] at hc1 d11 d12
    rw [hx, hy] at HF
    have q0 : (0 : Int) < (zs0.length : Int) := by omega
    have q1 : (0 : Int) < (zs1.length : Int) := by omega
    have s1 : IntKind.i64.wrap (x + y) = x + y := IntWalk.i64_in _ (by omega)
    have HXY : Hid (I64 (x + y)) := ⟨by omega, by omega⟩
    clear hx hy
    gi_wp2
    refine wpIn_mono (Q := Exit.then (fun a' w' => ∃ v15 v16 v17 v18 v19 v20 v21 v22 v23 v24 v25 v26 v27 v28 v29 v30 v31 va vb, a' = { tmps := #[.slice (some ⟨b0, o0, none⟩) zs0.length c0, .slice (some ⟨b1, o1, none⟩) zs1.length c1, undef, undef, va, vb, .slice (some ⟨b0, o0, none⟩) zs0.length c0, .bool true, .bool false, .bool false, .slice (some ⟨b1, o1, none⟩) zs1.length c1, .bool true, .bool false, .bool false, undef, v15, v16, v17, v18, v19, v20, v21, v22, v23, v24, v25, v26, v27, v28, v29, v30, v31], defers := [] } ∧ RetRB w (mergeSlopesM zs0 zs1) (.returned (.tuple #[va, vb])) w') (fun _ _ _ => False)) ?reg ?rest
    case reg =>
      refine region_anyS (fun W' => W'.cell? ⟨b0, o0, none⟩ = some (.int .i64 x) ∧ W'.cell? ⟨b1, o1, none⟩ = some (.int .i64 y)) (by kernel_rfl) ?_
      have hS0 : w2.drew.cell? ⟨b0, o0, none⟩ = some (.int .i64 x) ∧ w2.drew.cell? ⟨b1, o1, none⟩ = some (.int .i64 y) := ⟨hc0, hc1⟩
      refine anyS_first 0 (v := .slice (some ⟨b0, o0, none⟩) zs0.length c0) rfl (by kernel_rfl) (by kernel_rfl) (by kernel_rfl) (fun _ _ _ h => h) hS0 ⟨fun _ => rfl, .inl ⟨by rfl, fun W' hW' => (by obtain ⟨e1, e2⟩ := hW'; go_simp)⟩⟩ ?_
      refine anyS_first 1 (v := .pointer (some ⟨b0, o0, none⟩)) rfl (by kernel_rfl) (by kernel_rfl) (by kernel_rfl) (fun _ _ _ h => h) hS0 ⟨fun _ => rfl, .inl ⟨by rfl, fun W' hW' => (by obtain ⟨e1, e2⟩ := hW'; go_simp)⟩⟩ ?_
      refine anyS_first 2 (v := .int .i64 x) rfl (by kernel_rfl) (by kernel_rfl) (by kernel_rfl) (fun _ _ _ h => h) hS0 ⟨fun _ => rfl, .inl ⟨by rfl, fun W' hW' => (by obtain ⟨e1, e2⟩ := hW'; go_simp)⟩⟩ ?_
      refine anyS_first 3 (v := .slice (some ⟨b1, o1, none⟩) zs1.length c1) rfl (by kernel_rfl) (by kernel_rfl) (by kernel_rfl) (fun _ _ _ h => h) hS0 ⟨fun _ => rfl, .inl ⟨by rfl, fun W' hW' => (by obtain ⟨e1, e2⟩ := hW'; go_simp)⟩⟩ ?_
      refine anyS_first 4 (v := .pointer (some ⟨b1, o1, none⟩)) rfl (by kernel_rfl) (by kernel_rfl) (by kernel_rfl) (fun _ _ _ h => h) hS0 ⟨fun _ => rfl, .inl ⟨by rfl, fun W' hW' => (by obtain ⟨e1, e2⟩ := hW'; go_simp)⟩⟩ ?_
      refine anyS_first 5 (v := .int .i64 y) rfl (by kernel_rfl) (by kernel_rfl) (by kernel_rfl) (fun _ _ _ h => h) hS0 ⟨fun _ => rfl, .inl ⟨by rfl, fun W' hW' => (by obtain ⟨e1, e2⟩ := hW'; go_simp)⟩⟩ ?_
      refine anyS_first 6 (v := .int .i64 (x + y)) rfl (by kernel_rfl) (by kernel_rfl) (by kernel_rfl) (fun _ _ _ h => h) hS0 ⟨fun _ => rfl, .inl ⟨by rfl, fun W' hW' => (by obtain ⟨e1, e2⟩ := hW'; go_simp)⟩⟩ ?_
      refine anyS_first 7 (v := .slice (some ⟨b0, o0, none⟩) zs0.length c0) rfl (by kernel_rfl) (by kernel_rfl) (by kernel_rfl) (fun _ _ _ h => h) hS0 ⟨fun _ => rfl, .inl ⟨by rfl, fun W' hW' => (by obtain ⟨e1, e2⟩ := hW'; go_simp)⟩⟩ ?_
      refine anyS_first 9 (v := .slice (some ⟨b1, o1, none⟩) zs1.length c1) rfl (by kernel_rfl) (by kernel_rfl) (by kernel_rfl) (fun _ _ _ h => h) hS0 ⟨fun _ => rfl, .inl ⟨by rfl, fun W' hW' => (by obtain ⟨e1, e2⟩ := hW'; go_simp)⟩⟩ ?_
      refine anyS_one 8 rfl (by kernel_rfl) hS0 ?_
      refine wpOpIn_step rfl fun K8 hK8 => ?_
      go_simp
      refine ⟨trivial, (callsIn_wide.2 (l1Slopes_own _ _ _ _ zs0 w2.drew (H0.out.drewN 1) HB0.out.1)).mono ?_⟩
      rintro e w3 ⟨v3, rfl, ho3, hb3⟩
      have W2 := Lib.hid (B2.out.drew)
      have hS3 : w3.cell? ⟨b0, o0, none⟩ = some (.int .i64 x) ∧ w3.cell? ⟨b1, o1, none⟩ = some (.int .i64 y) := ⟨(hb3.cell (p := ⟨b0, o0, none⟩) hs0).trans hc0, (hb3.cell (p := ⟨b1, o1, none⟩) hs1).trans hc1⟩
      have HO3 := Lib.hid ho3; have HB3 := Lib.hid hb3; have HSS3 := Lib.hid hS3
      have H13 := Lib.hid ((H1.out.drewN 1).grow hb3)
      clear ho3 hb3 hS3
      refine hK8 _ _ ?_
      clear hK8
      refine anyS_one 10 rfl (by kernel_rfl) HSS3.out ?_
      refine wpOpIn_step rfl fun K10 hK10 => ?_
      go_simp
      refine ⟨trivial, (callsIn_wide.2 (l1Slopes_own _ _ _ _ zs1 w3 H13.out HB1.out.1)).mono ?_⟩
      rintro e w4 ⟨v4, rfl, ho4, hb4⟩
      obtain ⟨A4, c4, rfl, hi4⟩ := ho4.iw (by rw [HS1.out]; omega)
      have HO4 := Lib.hid (HO3.out.below hb4 (Nat.le_refl _)); have HI4 := Lib.hid hi4
      have hbb4 := below_then HB3.out (Nat.le_refl _) hb4
      have HB4 := Lib.hid hbb4
      have HSS4 := Lib.hid (show w4.cell? ⟨b0, o0, none⟩ = some (.int .i64 x) ∧ w4.cell? ⟨b1, o1, none⟩ = some (.int .i64 y) from ⟨(hbb4.cell (p := ⟨b0, o0, none⟩) hs0).trans hc0, (hbb4.cell (p := ⟨b1, o1, none⟩) hs1).trans hc1⟩)
      clear ho4 hi4 hb4 hbb4 HO3
      refine hK10 _ _ ?_
      clear hK10
      refine anyS_one 11 rfl (by kernel_rfl) HSS4.out ?_
      refine wpOpIn_step rfl fun K11 hK11 => ?_
      refine stepIn_appendsI rfl (.tmp 23) (.tmp 25) rfl w2.drew.heap.size v3 (slopesL zs0) (slopesL zs1) A4 _ _ _ c4 rfl rfl rfl HO4.out HI4.out.toIR (by rw [HS0.out, HS1.out]; omega) ?_
      intro v5 w5 ho5 hb5
      obtain ⟨A5, c5, rfl, hi5⟩ := ho5.iw (by rw [List.length_append, HS0.out, HS1.out]; omega)
      have HI5 := Lib.hid hi5
      have hbb5 := HB4.out.trans hb5
      have HB5 := Lib.hid hbb5
      have HSS5 := Lib.hid (show w5.cell? ⟨b0, o0, none⟩ = some (.int .i64 x) ∧ w5.cell? ⟨b1, o1, none⟩ = some (.int .i64 y) from ⟨(hbb5.cell (p := ⟨b0, o0, none⟩) hs0).trans hc0, (hbb5.cell (p := ⟨b1, o1, none⟩) hs1).trans hc1⟩)
      clear ho5 hi5 hb5 hbb5 HO4
      refine hK11 _ _ ?_
      clear hK11
      refine anyS_one 12 rfl (by kernel_rfl) HSS5.out ?_
      refine wpOpIn_step rfl fun K12 hK12 => ?_
      go_simp
      refine ⟨trivial, (callsIn_wide.2 (l3Sorted_is A5 _ c5 (slopesL zs0 ++ slopesL zs1) w5 HI5.out.toAll (by rw [List.length_append, HS0.out, HS1.out]; omega) (by rw [List.length_append]))).mono ?_⟩
      rintro e w6 ⟨l, hpl, hsl, A6, c6, rfl, hi6, hb6⟩
      have hll : l.length = (slopesL zs0).length + (slopesL zs1).length := by rw [hpl.length_eq, List.length_append]
      have HFL := Lib.hid (HF.out l hpl hsl)
      have HLL := Lib.hid hll
      have HI6 := Lib.hid hi6
      have hbb := below_then HB5.out (Nat.le_refl _) hb6
      have HB6 := Lib.hid hbb
      have HSS6 := Lib.hid (show w6.cell? ⟨b0, o0, none⟩ = some (.int .i64 x) ∧ w6.cell? ⟨b1, o1, none⟩ = some (.int .i64 y) from ⟨(hbb.cell (p := ⟨b0, o0, none⟩) hs0).trans hc0, (hbb.cell (p := ⟨b1, o1, none⟩) hs1).trans hc1⟩)
      clear hpl hsl hll hi6 hb6 hbb
      refine hK12 _ _ ?_
      clear hK12
      refine anyS_one 13 rfl (by kernel_rfl) HSS6.out ?_
      refine wpOpIn_step rfl fun K13 hK13 => ?_
      go_simp
      refine ⟨trivial, (callsIn_wide.2 (l3From_any (x + y) A6 _ c6 l w6 HXY.out HI6.out.toAll (by rw [HLL.out, HS0.out, HS1.out]; omega) rfl)).mono ?_⟩
      rintro e w7 ⟨A7, c7, rfl, -, hi7, hb7⟩
      rw [HFL.out] at hi7
      rw [HFL.out]
      have HI7 := Lib.hid hi7
      have hbb := below_then HB6.out (Nat.le_refl _) hb7
      have HB7 := Lib.hid hbb
      have HSS7 := Lib.hid (show w7.cell? ⟨b0, o0, none⟩ = some (.int .i64 x) ∧ w7.cell? ⟨b1, o1, none⟩ = some (.int .i64 y) from ⟨(hbb.cell (p := ⟨b0, o0, none⟩) hs0).trans hc0, (hbb.cell (p := ⟨b1, o1, none⟩) hs1).trans hc1⟩)
      clear hi7 hb7 hbb
      refine hK13 _ _ ?_
      clear hK13
      refine anyS_one 14 rfl (by kernel_rfl) HSS7.out ?_
      refine wpOpIn_step rfl fun K14 hK14 => ?_
      go_simp
      cases hr2 : rowB (mergeL zs0 zs1) with
      | false =>
        have HD : Hid (doneM (mergeL zs0 zs1) = none) := by show _ = _; simp [doneM, hr2]
        refine ⟨trivial, (callsIn_wide.2 (l1Done_false A7 c7 _ _ (mergeL zs0 zs1) w7 HI7.out.toIR hr2)).mono ?_⟩
        rintro e w8 ⟨A8, rfl, hb8⟩
        have hbb := below_then HB7.out (Nat.le_refl _) hb8
        have HB8 := Lib.hid hbb
        have HSS8 := Lib.hid (show w8.cell? ⟨b0, o0, none⟩ = some (.int .i64 x) ∧ w8.cell? ⟨b1, o1, none⟩ = some (.int .i64 y) from ⟨(hbb.cell (p := ⟨b0, o0, none⟩) hs0).trans hc0, (hbb.cell (p := ⟨b1, o1, none⟩) hs1).trans hc1⟩)
        clear hb8 hbb hr2
        refine hK14 _ _ ?_
        clear hK14
        refine anyS_first 15 (v := .slice A8 0 0) rfl (by kernel_rfl) (by kernel_rfl) (by kernel_rfl) (fun _ _ _ h => h) HSS8.out ⟨fun _ => rfl, .inl ⟨by rfl, fun W' hW' => (by go_simp)⟩⟩ ?_
        refine anyS_first 16 (v := .bool false) rfl (by kernel_rfl) (by kernel_rfl) (by kernel_rfl) (fun _ _ _ h => h) HSS8.out ⟨fun _ => rfl, .inl ⟨by rfl, fun W' hW' => (by go_simp)⟩⟩ ?_
        refine anyS_first 17 (v := .slice A8 0 0) rfl (by kernel_rfl) (by kernel_rfl) (by kernel_rfl) (fun _ _ _ h => h) HSS8.out ⟨fun _ => rfl, .inl ⟨by rfl, fun W' hW' => (by go_simp)⟩⟩ ?_
        refine anyS_first 18 (v := .bool false) rfl (by kernel_rfl) (by kernel_rfl) (by kernel_rfl) (fun _ _ _ h => h) HSS8.out ⟨fun _ => rfl, .inl ⟨by rfl, fun W' hW' => (by go_simp)⟩⟩ ?_
        refine anyS_done (by kernel_rfl) HSS8.out ?_
        exact ⟨_, _, _, _, _, _, _, _, _, _, _, _, _, _, _, _, _, _, _, rfl, (by rw [HM.out, HD.out]; exact (retSB_none (B2.out.drew.trans (HB8.out.mono B2.out.drew.size))).toR)⟩
      | true =>
        have HD := Lib.hid (doneM_row hr2)
        refine ⟨trivial, (callsIn_wide.2 (l1Done_true A7 c7 _ _ (mergeL zs0 zs1) w7 HI7.out.toIR hr2)).mono ?_⟩
        rintro e w8 ⟨rfl, rfl⟩
        have HSS8 := HSS7
        clear hr2
        refine hK14 _ _ ?_
        clear hK14
        refine anyS_first 15 (v := .slice A7 (mergeL zs0 zs1).length c7) rfl (by kernel_rfl) (by kernel_rfl) (by kernel_rfl) (fun _ _ _ h => h) HSS8.out ⟨fun _ => rfl, .inl ⟨by rfl, fun W' hW' => (by go_simp)⟩⟩ ?_
        refine anyS_first 16 (v := .bool true) rfl (by kernel_rfl) (by kernel_rfl) (by kernel_rfl) (fun _ _ _ h => h) HSS8.out ⟨fun _ => rfl, .inl ⟨by rfl, fun W' hW' => (by go_simp)⟩⟩ ?_
        refine anyS_first 17 (v := .slice A7 (mergeL zs0 zs1).length c7) rfl (by kernel_rfl) (by kernel_rfl) (by kernel_rfl) (fun _ _ _ h => h) HSS8.out ⟨fun _ => rfl, .inl ⟨by rfl, fun W' hW' => (by go_simp)⟩⟩ ?_
        refine anyS_first 18 (v := .bool true) rfl (by kernel_rfl) (by kernel_rfl) (by kernel_rfl) (fun _ _ _ h => h) HSS8.out ⟨fun _ => rfl, .inl ⟨by rfl, fun W' hW' => (by go_simp)⟩⟩ ?_
        refine anyS_done (by kernel_rfl) HSS8.out ?_
        exact ⟨_, _, _, _, _, _, _, _, _, _, _, _, _, _, _, _, _, _, _, rfl, (by rw [HM.out, HD.out]; exact (retSB_some rfl (HI7.out.wide (by have := B2.out.size; have := HB6.out.size; simp at *; omega) (Nat.le_refl _) (Nat.le_refl _)) (B2.out.drew.trans (HB7.out.mono B2.out.drew.size))).toR)⟩
    case rest =>
      intro e a' w' hp
      cases e <;> try exact hp.elim
      obtain ⟨v15, v16, v17, v18, v19, v20, v21, v22, v23, v24, v25, v26, v27, v28, v29, v30, v31, va, vb, rfl, hret⟩ := hp
      gi_wp2
      refine ⟨.tuple #[va, vb], ?_, hret⟩
      simp [results, Try.f7, go_sem]

/-- slices.Sort of a list that the call has built. -/
theorem sortOwn_any (base : Nat) (v : Value) (xs : List Int) (w : World) (h : OwnI w base v xs) (hl : xs.length ≤ 1000) :
    Calls Try.prog 29 #[v] w fun e w' => e = .returned (.tuple #[]) ∧ OwnI w' base v (xs.mergeSort fun x y => decide (x ≤ y)) ∧ Below base w w' := by
  obtain ⟨ho, hz, hb⟩ := h
  rcases ho.2 with ⟨rfl, h0⟩ | ⟨g, cap, cur, rfl, hg, hh, hn, hcap, hs, ht⟩
  · have hx : xs = [] := by simpa using h0
    subst hx
    refine (Any.slices_Sort_int_none sort_lays none 0 w).mono ?_
    rintro e w' ⟨rfl, rfl⟩
    exact ⟨rfl, ⟨by simpa using ho, by simp, hb⟩, Below.refl _ _⟩
  · refine (Any.slices_Sort_int sort_lays g 0 cap xs w (holds_of_blockI hh (by simpa using ht)) (Array.getElem?_eq_some_iff.1 hh).1 (by omega)).mono ?_
    rintro e w' ⟨rfl, n, os, rfl⟩
    refine ⟨rfl, ⟨?_, fun z hz' => hz z ((List.mergeSort_perm xs _).mem_iff.1 hz'), ?_⟩, (Below.refl base w).grown (grownBy_sortedI _) hb fun k e => by cases e; exact hg⟩
    · have := ownsRow_sortedI (n := n) (os := os) (List.length_mergeSort (le := fun x y : Int => decide (x ≤ y)) xs) hg hh hn hcap hs
      rw [List.length_mergeSort]; exact this
    · exact Nat.le_trans hb (grownBy_sortedI _).size

set_option maxRecDepth 100000 in
set_option maxHeartbeats 4000000 in
theorem implMergeSlopes_any (A0 : Option Addr) (c0 : Nat) (zs0 : List Int) (A1 : Option Addr) (c1 : Nat) (zs1 : List Int) (w : World) (h0 : IR w 0 w.heap.size A0 zs0) (h1 : IR w 0 w.heap.size A1 zs1) :
    Calls Try.prog 9 #[.slice A0 zs0.length c0, .slice A1 zs1.length c1] w (RetSB w (mergeSlopesM zs0 zs1)) := by
  have H0 := Lib.hid h0; have H1 := Lib.hid h1
  clear h0 h1
  cases hb0 : (rowB zs0 && bentB zs0) with
  | false =>
    have HM := Lib.hid (slopes_no1 (b := zs1) hb0)
    have HR := Lib.hid hb0; clear hb0
    go_enter Try.func9, Try.ntmps9
    go_wp2_with fail
    refine (implBent_of _ _ _ _ zs0 _ H0.out HR.out rfl).mono ?_; rintro e w1 ⟨rfl, hb1⟩
    have B1 := Lib.hid hb1; clear hb1
    go_wp2
    go_ret2
    rw [HM.out]
    exact retSB_none B1.out
  | true =>
  have HR0 := Lib.hid hb0
  cases hb1 : (rowB zs1 && bentB zs1) with
  | false =>
    have HM := Lib.hid (slopes_no2 (a := zs0) hb1)
    have HR := Lib.hid hb1; clear hb0 hb1
    go_enter Try.func9, Try.ntmps9
    go_wp2_with fail
    refine (implBent_of _ _ _ _ zs0 _ H0.out HR0.out rfl).mono ?_; rintro e w1 ⟨rfl, hb1⟩
    have B1 := Lib.hid hb1; replace H1 := Lib.hid (H1.out.grow hb1); clear hb1
    go_wp2_with fail
    refine (implBent_of _ _ _ _ zs1 _ H1.out HR.out rfl).mono ?_; rintro e w2 ⟨rfl, hb2⟩
    have B2 := Lib.hid (below_then B1.out (Nat.le_refl _) hb2); clear hb2
    go_wp2
    go_ret2
    rw [HM.out]
    exact retSB_none B2.out
  | true =>
    have HR1 := Lib.hid hb1
    have HM := Lib.hid (slopes_yes hb0 hb1)
    rw [Bool.and_eq_true] at hb0 hb1
    have HB0 := Lib.hid hb0; have HB1 := Lib.hid hb1
    have hl0 := (rowB_true.1 hb0.1).2; have hl1 := (rowB_true.1 hb1.1).2
    have p0 : 0 < zs0.length := by omega
    have p1 : 0 < zs1.length := by omega
    obtain ⟨d01, d02⟩ := row_getD hb0.1 0 p0
    obtain ⟨d11, d12⟩ := row_getD hb1.1 0 p1
    have HF : Hid (fromL (zs0.getD 0 0 + zs1.getD 0 0) ((slopesL zs0 ++ slopesL zs1).mergeSort fun x y => decide (x ≤ y)) = mergeL zs0 zs1) := slopes_merge hb0.1 hb1.1 hb0.2 hb1.2 (List.mergeSort_perm _ _) (sorted_merge _)
    have HS0 := Lib.hid (slopesL_len zs0); have HS1 := Lib.hid (slopesL_len zs1)
    clear hb0 hb1
    refine (callsIn_wide (n := 6)).1 ?_
    refine callsIn_of_wp_marks Try.func9 rfl trivial ?_ rfl
    simp only [Try.ntmps9, List.size_toArray, List.length_cons, List.length_nil, Nat.reduceAdd, Nat.reduceSub, Array.replicate_succ, Array.replicate_zero, List.push_toArray, List.append_toArray, List.nil_append, List.cons_append]
    gi_wp2_with fail
    refine ⟨trivial, ?_⟩
    gi_at_call 25
    refine (callsIn_wide.2 (implBent_of _ _ _ _ zs0 _ H0.out HR0.out rfl)).mono ?_; rintro e w1 ⟨rfl, hb1⟩
    have B1 := Lib.hid hb1; replace H0 := Lib.hid (H0.out.grow hb1); replace H1 := Lib.hid (H1.out.grow hb1); clear hb1
    gi_wp2_with fail
    refine ⟨trivial, ?_⟩
    gi_at_call 25
    refine (callsIn_wide.2 (implBent_of _ _ _ _ zs1 _ H1.out HR1.out rfl)).mono ?_; rintro e w2 ⟨rfl, hb2⟩
    have B2 := Lib.hid (below_then B1.out (Nat.le_refl _) hb2); replace H0 := Lib.hid (H0.out.grow hb2); replace H1 := Lib.hid (H1.out.grow hb2); clear hb2 B1
    gi_wp2_with fail
    refine ⟨trivial, ?_⟩
    gi_at_call 28
    refine (callsIn_wide.2 (slopes_any _ _ _ _)).mono ?_; rintro e w' ⟨rfl, rfl⟩
    obtain ⟨w3, hw3⟩ : ∃ w3, w2.alloc (.cells #[.slice A0 zs0.length c0] 43) = w3 := ⟨_, rfl⟩
    have hbx := Boxed.new w2 43 (.slice A0 zs0.length c0)
    have hb3 : Below w2.heap.size w2 w3 := by rw [← hw3]; exact (Below.refl _ w2).alloc (Nat.le_refl _) _
    rw [hw3] at hbx
    rw [hw3]
    have B3s := (below_then B2.out (Nat.le_refl _) hb3).size
    have B3 := Lib.hid (below_then B2.out (Nat.le_refl _) hb3); replace H0 := Lib.hid (H0.out.grow hb3); replace H1 := Lib.hid (H1.out.grow hb3)
    have HX := Lib.hid hbx
    have h23 := hb3.size
    clear hw3 hbx hb3 B2
    gi_wp2_with fail
    refine ⟨trivial, ?_⟩
    gi_at_call 27
    refine (callsIn_wide.2 (collectSlopes_own A0 c0 w2.heap.size zs0 HB0.out.1 w3 HX.out H0.out.toAll)).mono ?_
    rintro e w4 ⟨v4, rfl, ho4, hb4⟩
    have B4 := Lib.hid (below_then B3.out (Nat.le_refl _) hb4); replace H0 := Lib.hid (H0.out.grow hb4); replace H1 := Lib.hid (H1.out.grow hb4)
    have HO4 := Lib.hid ho4
    have h34 := hb4.size
    clear ho4 hb4 B3 HX
    gi_wp2_with fail
    refine ⟨trivial, ?_⟩
    gi_at_call 28
    refine (callsIn_wide.2 (slopes_any _ _ _ _)).mono ?_; rintro e w' ⟨rfl, rfl⟩
    obtain ⟨w5, hw5⟩ : ∃ w5, w4.alloc (.cells #[.slice A1 zs1.length c1] 43) = w5 := ⟨_, rfl⟩
    have hbx := Boxed.new w4 43 (.slice A1 zs1.length c1)
    have hb5 : Below w4.heap.size w4 w5 := by rw [← hw5]; exact (Below.refl _ w4).alloc (Nat.le_refl _) _
    rw [hw5] at hbx
    rw [hw5]
    have B5 := Lib.hid (below_then B4.out (Nat.le_refl _) hb5); replace H0 := Lib.hid (H0.out.grow hb5); replace H1 := Lib.hid (H1.out.grow hb5)
    replace HO4 := Lib.hid (HO4.out.below hb5 (Nat.le_refl _))
    have HX := Lib.hid hbx
    have h45 := hb5.size
    clear hw5 hbx hb5 B4
    gi_wp2_with fail
    refine ⟨trivial, ?_⟩
    gi_at_call 26
    refine (callsIn_wide.2 (appendSlopes_own v4 (slopesL zs0) w3.heap.size A1 c1 w4.heap.size zs1 HB1.out.1 w5 HO4.out (by rw [HS0.out]; omega) (by omega) HX.out (H1.out.wide (Nat.le_refl _) B3s (by omega)))).mono ?_
    rintro e w6 ⟨v6, rfl, ho6, hb6⟩
    have B6 := Lib.hid (B5.out.trans (hb6.mono B3s)); replace H0 := Lib.hid (H0.out.below hb6 B3s); replace H1 := Lib.hid (H1.out.below hb6 B3s)
    have HO6 := Lib.hid ho6
    clear ho6 hb6 B5 HX HO4
    gi_wp2_with fail
    refine ⟨trivial, ?_⟩
    gi_at_call 29
    refine (callsIn_wide.2 (sortOwn_any w3.heap.size v6 _ w6 HO6.out (by rw [List.length_append, HS0.out, HS1.out]; omega))).mono ?_
    rintro e w7 ⟨rfl, ho7, hb7⟩
    have B7 := Lib.hid (B6.out.trans (hb7.mono B3s)); replace H0 := Lib.hid (H0.out.below hb7 B3s); replace H1 := Lib.hid (H1.out.below hb7 B3s)
    obtain ⟨A7, c7, rfl, hi7⟩ := ho7.iw (by rw [List.length_mergeSort, List.length_append, HS0.out, HS1.out]; omega)
    have HI7 := Lib.hid hi7
    clear ho7 hb7 B6 HO6 hi7
    obtain ⟨L, hL⟩ : ∃ L, ((slopesL zs0 ++ slopesL zs1).mergeSort fun x y => decide (x ≤ y)) = L := ⟨_, rfl⟩
    rw [hL] at HF HI7
    rw [hL]
    clear hL
    obtain ⟨b0, o0, rfl, _, hs0, hc0⟩ := H0.out.at_ p0
    obtain ⟨b1, o1, rfl, _, hs1, hc1⟩ := H1.out.at_ p1
    rw [Nat.add_zero, ← getD_in p0] at hc0
    rw [Nat.add_zero, ← getD_in p1] at hc1
    obtain ⟨x, hx⟩ : ∃ x, zs0.getD 0 0 = x := ⟨_, rfl⟩
    obtain ⟨y, hy⟩ : ∃ x, zs1.getD 0 0 = x := ⟨_, rfl⟩
    rw [hx] at hc0 d01 d02 HF
    rw [hy] at hc1 d11 d12 HF
    have q0 : (0 : Int) < (zs0.length : Int) := by omega
    have q1 : (0 : Int) < (zs1.length : Int) := by omega
    have s1 : IntKind.i64.wrap (x + y) = x + y := IntWalk.i64_in _ (by omega)
    have HXY : Hid (I64 (x + y)) := ⟨by omega, by omega⟩
    clear hx hy
    have HFM : Hid (fromM (x + y) L = doneM (mergeL zs0 zs1)) := by show _ = _; unfold fromM doneM; rw [HF.out]
    gi_wp2
    refine wpIn_mono (Q := Exit.then (fun a' w' => ∃ v23 v24 v25 v26 v27 v28 v29 v30 v31 v32 v33 va vb, a' = { tmps := #[.slice (some ⟨b0, o0, none⟩) zs0.length c0, .slice (some ⟨b1, o1, none⟩) zs1.length c1, undef, undef, va, vb, .slice A7 L.length c7, .slice (some ⟨b0, o0, none⟩) zs0.length c0, .bool true, .bool false, .bool false, .slice (some ⟨b1, o1, none⟩) zs1.length c1, .bool true, .bool false, .bool false, .slice (some ⟨b0, o0, none⟩) zs0.length c0, .func (.func 46) #[] #[.pointer (some ⟨w2.heap.size, 0, none⟩)], v4, .slice (some ⟨b1, o1, none⟩) zs1.length c1, .func (.func 46) #[] #[.pointer (some ⟨w4.heap.size, 0, none⟩)], .slice A7 L.length c7, .slice A7 L.length c7, .tuple #[], v23, v24, v25, v26, v27, v28, v29, v30, v31, v32, v33], defers := [] } ∧ RetSB w (mergeSlopesM zs0 zs1) (.returned (.tuple #[va, vb])) w') (fun _ _ _ => False)) ?reg ?rest
    case reg =>
      refine region_anyS (fun W' => W'.cell? ⟨b0, o0, none⟩ = some (.int .i64 x) ∧ W'.cell? ⟨b1, o1, none⟩ = some (.int .i64 y)) (by kernel_rfl) ?_
      have hS0 : w7.drew.cell? ⟨b0, o0, none⟩ = some (.int .i64 x) ∧ w7.drew.cell? ⟨b1, o1, none⟩ = some (.int .i64 y) := ⟨hc0, hc1⟩
      refine anyS_first 0 (v := .slice (some ⟨b0, o0, none⟩) zs0.length c0) rfl (by kernel_rfl) (by kernel_rfl) (by kernel_rfl) (fun _ _ _ h => h) hS0 ⟨fun _ => rfl, .inl ⟨by rfl, fun W' hW' => (by obtain ⟨e1, e2⟩ := hW'; go_simp)⟩⟩ ?_
      refine anyS_first 1 (v := .pointer (some ⟨b0, o0, none⟩)) rfl (by kernel_rfl) (by kernel_rfl) (by kernel_rfl) (fun _ _ _ h => h) hS0 ⟨fun _ => rfl, .inl ⟨by rfl, fun W' hW' => (by obtain ⟨e1, e2⟩ := hW'; go_simp)⟩⟩ ?_
      refine anyS_first 2 (v := .int .i64 x) rfl (by kernel_rfl) (by kernel_rfl) (by kernel_rfl) (fun _ _ _ h => h) hS0 ⟨fun _ => rfl, .inl ⟨by rfl, fun W' hW' => (by obtain ⟨e1, e2⟩ := hW'; go_simp)⟩⟩ ?_
      refine anyS_first 3 (v := .slice (some ⟨b1, o1, none⟩) zs1.length c1) rfl (by kernel_rfl) (by kernel_rfl) (by kernel_rfl) (fun _ _ _ h => h) hS0 ⟨fun _ => rfl, .inl ⟨by rfl, fun W' hW' => (by obtain ⟨e1, e2⟩ := hW'; go_simp)⟩⟩ ?_
      refine anyS_first 4 (v := .pointer (some ⟨b1, o1, none⟩)) rfl (by kernel_rfl) (by kernel_rfl) (by kernel_rfl) (fun _ _ _ h => h) hS0 ⟨fun _ => rfl, .inl ⟨by rfl, fun W' hW' => (by obtain ⟨e1, e2⟩ := hW'; go_simp)⟩⟩ ?_
      refine anyS_first 5 (v := .int .i64 y) rfl (by kernel_rfl) (by kernel_rfl) (by kernel_rfl) (fun _ _ _ h => h) hS0 ⟨fun _ => rfl, .inl ⟨by rfl, fun W' hW' => (by obtain ⟨e1, e2⟩ := hW'; go_simp)⟩⟩ ?_
      refine anyS_first 6 (v := .int .i64 (x + y)) rfl (by kernel_rfl) (by kernel_rfl) (by kernel_rfl) (fun _ _ _ h => h) hS0 ⟨fun _ => rfl, .inl ⟨by rfl, fun W' hW' => (by obtain ⟨e1, e2⟩ := hW'; go_simp)⟩⟩ ?_
      refine anyS_first 7 (v := .slice A7 L.length c7) rfl (by kernel_rfl) (by kernel_rfl) (by kernel_rfl) (fun _ _ _ h => h) hS0 ⟨fun _ => rfl, .inl ⟨by rfl, fun W' hW' => (by go_simp)⟩⟩ ?_
      refine anyS_one 8 rfl (by kernel_rfl) hS0 ?_
      refine wpOpIn_step rfl fun K8 hK8 => ?_
      go_simp
      refine ⟨trivial, (callsIn_wide.2 (implRowFrom_any (x + y) A7 c7 L w7.drew HXY.out (HI7.out.drewN 1).toAll)).mono ?_⟩
      rintro e w8 ⟨A8, c8, rfl, hi8, hb8⟩
      rw [HFM.out] at hi8
      rw [HFM.out]
      have HI8 := Lib.hid hi8; have HB8 := Lib.hid hb8
      have HSS8 := Lib.hid (show w8.cell? ⟨b0, o0, none⟩ = some (.int .i64 x) ∧ w8.cell? ⟨b1, o1, none⟩ = some (.int .i64 y) from ⟨(hb8.cell (p := ⟨b0, o0, none⟩) hs0).trans hc0, (hb8.cell (p := ⟨b1, o1, none⟩) hs1).trans hc1⟩)
      clear hi8 hb8
      obtain ⟨o, ho⟩ : ∃ o, doneM (mergeL zs0 zs1) = o := ⟨_, rfl⟩
      rw [ho] at HI8 HM
      rw [ho]
      obtain ⟨m, hm⟩ : ∃ m, (o.getD []).length = m := ⟨_, rfl⟩
      obtain ⟨q, hq⟩ : ∃ q, o.isSome = q := ⟨_, rfl⟩
      have HMM := Lib.hid hm; have HQQ := Lib.hid hq
      rw [hm, hq]
      clear hm hq ho
      refine hK8 _ _ ?_
      clear hK8
      refine anyS_first 9 (v := .slice A8 m c8) rfl (by kernel_rfl) (by kernel_rfl) (by kernel_rfl) (fun _ _ _ h => h) HSS8.out ⟨fun _ => rfl, .inl ⟨by rfl, fun W' hW' => (by go_simp)⟩⟩ ?_
      refine anyS_first 10 (v := .bool q) rfl (by kernel_rfl) (by kernel_rfl) (by kernel_rfl) (fun _ _ _ h => h) HSS8.out ⟨fun _ => rfl, .inl ⟨by rfl, fun W' hW' => (by go_simp)⟩⟩ ?_
      refine anyS_first 11 (v := .slice A8 m c8) rfl (by kernel_rfl) (by kernel_rfl) (by kernel_rfl) (fun _ _ _ h => h) HSS8.out ⟨fun _ => rfl, .inl ⟨by rfl, fun W' hW' => (by go_simp)⟩⟩ ?_
      refine anyS_first 12 (v := .bool q) rfl (by kernel_rfl) (by kernel_rfl) (by kernel_rfl) (fun _ _ _ h => h) HSS8.out ⟨fun _ => rfl, .inl ⟨by rfl, fun W' hW' => (by go_simp)⟩⟩ ?_
      refine anyS_done (by kernel_rfl) HSS8.out ?_
      exact ⟨_, _, _, _, _, _, _, _, _, _, _, _, _, rfl, (by rw [HM.out, ← HMM.out, ← HQQ.out]; exact ⟨A8, c8, rfl, HI8.out.wide B7.out.size (Nat.le_refl _) (Nat.le_refl _), B7.out.drew.trans (HB8.out.mono B7.out.drew.size)⟩)⟩
    case rest =>
      intro e a' w' hp
      cases e <;> try exact hp.elim
      obtain ⟨v23, v24, v25, v26, v27, v28, v29, v30, v31, v32, v33, va, vb, rfl, hret⟩ := hp
      gi_wp2
      refine ⟨.tuple #[va, vb], ?_, hret⟩
      simp [results, Try.f9, go_sem]
end Go.Proofs.Ytgbcpbooonincaa
