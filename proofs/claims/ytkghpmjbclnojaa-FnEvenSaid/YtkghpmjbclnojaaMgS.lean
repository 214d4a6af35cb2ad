/-
  Rows merged by slopes: MergeSlopes of the model and of the program. Conditions: the rows' cells are there.
-/
import Derived.Test.YtkghpmjbclnojaaMathA
import Derived.Test.YtkghpmjbclnojaaDraw2
import Derived.Test.YtkghpmjbclnojaaSort
import Derived.Test.YtkghpmjbclnojaaFrom2
import Derived.Test.YtkghpmjbclnojaaHeld
import Derived.Test.YtkghpmjbclnojaaColl2
import Derived.Shelf.Slices.In.SortNone
import Derived.Sort.OwnSortedInts
import Derived.StillTailTactics
namespace Go.Proofs.Ytkghpmjbclnojaa
open Go.RowKit Go.Shelf
attribute [local go_sem] Oper.semAt_some

/- Sorted lists. -/
theorem sorted_getD {l : List Int} (h : ∀ i j, i < j → j < l.length → l.getD i 0 ≤ l.getD j 0) : Sorted l := fun k hk => h k (k + 1) (by omega) hk
theorem sorted_merge (l : List Int) : Sorted (l.mergeSort fun x y => decide (x ≤ y)) := by
  have p := List.pairwise_mergeSort (le := fun x y : Int => decide (x ≤ y)) (by intro a b c; simp; omega) (by intro a b; simp; omega) l
  rw [List.pairwise_iff_getElem] at p
  refine sorted_getD fun i j hij hj => ?_
  rw [getD_in (show i < _ by omega), getD_in hj]
  have := p i j (by omega) hj hij
  simpa using this
/-- A list with a hole at M that waits for X: with X there it is the old one in another order; without the hole it ascends up to K; what is behind the hole is greater than X. -/
def Hole (zs ys : List Int) (X : Int) (M K : Nat) : Prop :=
  ys.length = zs.length ∧ M ≤ K ∧ K < zs.length ∧ (ys.set M X).Perm zs ∧ (∀ i j, i < j → j ≤ K → i ≠ M → j ≠ M → ys.getD i 0 ≤ ys.getD j 0) ∧ ∀ j, M < j → j ≤ K → X ≤ ys.getD j 0
def UpTo (zs ys : List Int) (k : Nat) : Prop := ys.length = zs.length ∧ ys.Perm zs ∧ ∀ i j, i < j → j ≤ k → ys.getD i 0 ≤ ys.getD j 0
theorem set_getD (ys : List Int) (M : Nat) (X : Int) (j : Nat) (hM : M < ys.length) : (ys.set M X).getD j 0 = if j = M then X else ys.getD j 0 := by
  by_cases e : j = M
  · subst e; simp [List.getD, hM]
  · simp [List.getD, e, Ne.symm e]
theorem Hole.begin {zs ys : List Int} {k : Nat} (h : UpTo zs ys k) (hk : k + 1 < zs.length) : Hole zs ys (ys.getD (k + 1) 0) (k + 1) (k + 1) := by
  obtain ⟨h1, h2, h3⟩ := h
  refine ⟨h1, Nat.le_refl _, hk, ?_, fun i j hij hj _ hjM => h3 i j hij (by omega), fun j h4 h5 => by omega⟩
  have e : ys.set (k + 1) (ys.getD (k + 1) 0) = ys := by
    apply List.ext_getElem (by simp)
    intro i p1 p2
    rw [List.getElem_set]
    split
    · rename_i e; subst e; exact (getD_in (by omega))
    · rfl
  rw [e]; exact h2
theorem Hole.step {zs ys : List Int} {X : Int} {M K : Nat} (h : Hole zs ys X M K) (hM : 0 < M) (hlt : X < ys.getD (M - 1) 0) : Hole zs (ys.set M (ys.getD (M - 1) 0)) X (M - 1) K := by
  obtain ⟨h1, h2, h3, h4, h5, h6⟩ := h
  have hMl : M < ys.length := by omega
  have hNl : M - 1 < ys.length := by omega
  refine ⟨by simpa using h1, by omega, h3, ?_, fun i j hij hj hi hj' => ?_, fun j h7 h8 => ?_⟩
  · have p := @List.set_set_perm _ (ys.set M X) M (M - 1) (by simpa using hMl) (by simpa using hNl)
    have e1 : (ys.set M X)[M - 1]'(by simpa using hNl) = ys.getD (M - 1) 0 := by
      rw [List.getElem_set_ne (by omega)]; exact (getD_in hNl).symm
    have e2 : (ys.set M X)[M]'(by simpa using hMl) = X := by simp
    rw [e1, e2, List.set_set] at p
    exact p.trans h4
  · rw [set_getD ys M _ i hMl, set_getD ys M _ j hMl]
    split
    · rename_i e
      rw [if_neg (by omega)]
      exact h5 (M - 1) j (by omega) hj (by omega) (by omega)
    · rename_i e
      split
      · rename_i e2
        by_cases e3 : i = M - 1
        · omega
        · exact h5 i (M - 1) (by omega) (by omega) e (by omega)
      · rename_i e2
        exact h5 i j hij hj e e2
  · rw [set_getD ys M _ j hMl]
    split
    · exact Int.le_of_lt hlt
    · exact h6 j (by omega) h8
theorem Hole.done {zs ys : List Int} {X : Int} {M K : Nat} (h : Hole zs ys X M K) (hM : M = 0 ∨ ys.getD (M - 1) 0 ≤ X) : UpTo zs (ys.set M X) K := by
  obtain ⟨h1, h2, h3, h4, h5, h6⟩ := h
  have hMl : M < ys.length := by omega
  refine ⟨by simpa using h1, h4, fun i j hij hj => ?_⟩
  rw [set_getD ys M _ i hMl, set_getD ys M _ j hMl]
  split
  · rw [if_neg (by omega)]; exact h6 j (by omega) hj
  · split
    · rename_i e1 e2
      rcases hM with hM | hM
      · omega
      · by_cases e3 : i = M - 1
        · rw [e3]; exact hM
        · exact Int.le_trans (h5 i (M - 1) (by omega) (by omega) e1 (by omega)) hM
    · rename_i e1 e2
      exact h5 i j hij hj e1 e2
theorem UpTo.sorted {zs ys : List Int} {k : Nat} (h : UpTo zs ys k) (hk : k + 1 = zs.length) : Sorted ys := sorted_getD fun i j hij hj => h.2.2 i j hij (by have := h.1; omega)

/- What is made of sorted slopes. -/
theorem fromL_addL : ∀ (l : List Int) (x : Int), (∀ k, k ≤ l.length → -900000 ≤ (addL x l).getD k 0 ∧ (addL x l).getD k 0 ≤ 900000) → fromL x l = addL x l
  | [], x, _ => rfl
  | d :: l, x, h => by
    have h1 := h 1 (by simp)
    rw [addL_succ, addL_zero] at h1
    have e : wrap64 (x + d) = x + d := wrap64_id ⟨by omega, by omega⟩
    show x :: fromL (wrap64 (x + d)) l = x :: addL (x + d) l
    rw [e, fromL_addL l (x + d) fun k hk => by have := h (k + 1) (by simpa using hk); rwa [addL_succ] at this]
theorem merge_ge {a b : List Int} (ha : rowB a = true) (hb : rowB b = true) {k : Nat} (hk : k < a.length + b.length - 1) : -2000 ≤ (mergeL a b).getD k 0 ∧ (mergeL a b).getD k 0 ≤ 2000 := by
  obtain ⟨-, i, j, h1, h2, h3, h4⟩ := row_le ha hb hk
  have b1 := row_getD ha i h1
  have b2 := row_getD hb j h2
  rw [h4]; omega
theorem slopes_merge {a b l : List Int} (ha : rowB a = true) (hb : rowB b = true) (hba : bentB a = true) (hbb : bentB b = true) (hl : l.Perm (slopesL a ++ slopesL b)) (hs : Sorted l) :
    fromL (a.getD 0 0 + b.getD 0 0) l = mergeL a b := by
  have e := merge_slopes (row_bdU ha) (row_bdU hb) (by decide) (row_pos ha) (row_pos hb) hba hbb hl hs
  have p0 := row_pos ha; have p1 := row_pos hb
  rw [fromL_addL, e]
  intro k hk
  rw [e]
  have hl' := hl.length_eq
  rw [List.length_append, slopesL_len, slopesL_len] at hl'
  have := merge_ge ha hb (k := k) (by omega)
  omega
theorem slopes_no1 {a b : List Int} (h : (rowB a && bentB a) = false) : mergeSlopesM a b = none := by unfold mergeSlopesM; rw [h]; rfl
theorem slopes_no2 {a b : List Int} (h : (rowB b && bentB b) = false) : mergeSlopesM a b = none := by unfold mergeSlopesM; rw [h]; simp
theorem slopes_yes {a b : List Int} (h : (rowB a && bentB a) = true) (h' : (rowB b && bentB b) = true) : mergeSlopesM a b = doneM (mergeL a b) := by unfold mergeSlopesM; rw [h, h']; rfl
theorem slopes_bd {a : List Int} (ha : rowB a = true) : ∀ z, z ∈ slopesL a → I64 z := by
  intro z hz
  obtain ⟨k, hk, rfl⟩ := List.getElem_of_mem hz
  rw [slopesL_len] at hk
  have b1 := (rowB_true.1 ha).1 _ (List.getElem_mem (show k + 1 < a.length by omega))
  have b2 := (rowB_true.1 ha).1 _ (List.getElem_mem (show k < a.length by omega))
  rw [slopesL_get a k (by omega)]
  exact ⟨by omega, by omega⟩

set_option maxRecDepth 100000 in
set_option maxHeartbeats 4000000 in
theorem l3Sorted_is (A : Option Addr) (n c : Nat) (zs : List Int) (w : World) (h : IR w 0 w.heap.size A zs) (hn : zs.length ≤ 1048576) (hnn : n = zs.length) :
    Calls Try.prog 109 #[.slice A n c] w fun e w' => ∃ zs', zs'.Perm zs ∧ Sorted zs' ∧ RetS w zs' e w' := by
  subst hnn
  have H := Lib.hid h
  clear h
  have HA := Lib.hid (H.out.grow ((Below.refl _ _).alloc (Nat.le_refl _) (.cells #[] 3)))
  go_enter Try.func109, Try.ntmps109
  go_wp2_with (at_builtin; refine wpList_appendsI rfl _ _ rfl w.heap.size _ [] zs A _ _ _ c rfl rfl rfl (OwnI.made w) HA.out (by simp; omega) ?_; intro v1 w1 ho1 hb1; have HO1 := Lib.hid ho1; have HB1 := Lib.hid hb1; clear ho1 hb1)
  have HL1 : Hid (([] ++ zs : List Int).length = zs.length) := by show _ = _; simp
  obtain ⟨A1, c1, rfl, hi1⟩ := HO1.out.iwn HL1.out (by omega)
  have HI1 := Lib.hid hi1
  clear hi1 HO1 HA
  rcases Nat.eq_zero_or_pos zs.length with h0 | h0
  · have h0' : ¬ (1 : Int) < (zs.length : Int) := by omega
    go_wp2
    refine wp_loop_rounds 1 ?_
    rw [rounds_succ]
    go_wp2
    go_ret
    exact ⟨_, by rw [List.nil_append], sorted_getD (fun i j h1 h2 => by rw [HL1.out] at h2; omega), retS_of (by rw [HL1.out]; exact h0.symm) HI1.out (((Below.refl _ _).alloc (Nat.le_refl _) _).trans HB1.out)⟩
  · obtain ⟨b, off, rfl, hlo, hhi, hcs⟩ := HI1.out.2.2.2 (by rw [HL1.out]; exact h0)
    have HC1 : Hid (Cells w1 b off ([] ++ zs)) := hcs
    have HZ1 := Lib.hid HI1.out.2.1
    clear hcs HI1
    have HW1 : Hid (Below w.heap.size w w1) := ((Below.refl _ _).alloc (Nat.le_refl _) _).trans HB1.out
    clear HB1
    go_wp2
    go_loopw [4] (fun i wr => ∃ (k : Nat) (ys : List Int), i = .int .i64 ((k : Int) + 1) ∧ k < zs.length ∧ UpTo zs ys k ∧ (∀ y, y ∈ ys → I64 y) ∧ Cells wr b off ys ∧ Below w.heap.size w wr ∧ wr.heap.size = w1.heap.size) (fun i _ => zs.length - (intOf i).toNat)
    case atStart => exact ⟨0, _, rfl, h0, ⟨HL1.out, by rw [List.nil_append], fun i j h1 h2 => by omega⟩, HZ1.out, HC1.out, HW1.out, rfl⟩
    case round =>
      obtain ⟨k, ys, rfl, hk, hup, hz, hc, hb, hsz⟩ := hrel
      have HU := Lib.hid hup
      have hys : ys.length = zs.length := hup.1
      clear hup
      have HZ := Lib.hid hz; have HC := Lib.hid hc; have HB := Lib.hid hb; have HS := Lib.hid hsz
      clear hz hc hb hsz HC1 HZ1 HW1
      by_cases hlt : k + 1 < zs.length
      · have hlt' : (k : Int) + 1 < (zs.length : Int) := by omega
        have hk1 : k + 1 < ys.length := by omega
        obtain ⟨hc1, -⟩ := HC.out (k + 1) hk1
        obtain ⟨X, hX⟩ : ∃ X, ys[k + 1]'hk1 = X := ⟨_, rfl⟩
        rw [hX] at hc1
        have hXi : I64 X := by rw [← hX]; exact HZ.out _ (List.getElem_mem hk1)
        obtain ⟨hX1, hX2⟩ := hXi
        have q0 : (0 : Int) ≤ (k : Int) + 1 := by omega
        have q1 : ((k : Int) + 1).toNat = k + 1 := by omega
        have HOL : Hid (Hole zs ys X (k + 1) (k + 1)) := by
          have := Hole.begin HU.out hlt
          rw [getD_in hk1, hX] at this; exact this
        clear hX
        go_wp2
        go_loopw [6] (fun i wr => ∃ (M : Int) (ys : List Int), i = .int .i64 M ∧ 0 ≤ M ∧ M < (zs.length : Int) ∧ Hole zs ys X M.toNat (k + 1) ∧ (∀ y, y ∈ ys → I64 y) ∧ Cells wr b off ys ∧ Below w.heap.size w wr ∧ wr.heap.size = w1.heap.size) (fun i _ => (intOf i).toNat)
        case atStart => exact ⟨(k : Int) + 1, _, rfl, q0, hlt', (by rw [q1]; exact HOL.out), HZ.out, HC.out, HB.out, HS.out⟩
        case round =>
          clear hk1 hc1 q1 HZ HC HB HS hys HU HOL
          obtain ⟨M, ys, rfl, p0, p1, hup, hz, hc, hb, hsz⟩ := hrel
          have HU := Lib.hid hup
          have hys : ys.length = zs.length := hup.1
          clear hup
          have HZ := Lib.hid hz; have HC := Lib.hid hc; have HB := Lib.hid hb; have HS := Lib.hid hsz
          clear hz hc hb hsz
          have hmy : M.toNat < ys.length := by omega
          obtain ⟨hcm, hfm⟩ := HC.out M.toNat hmy
          obtain ⟨Z, hZ⟩ : ∃ Z, ys[M.toNat]'hmy = Z := ⟨_, rfl⟩
          rw [hZ] at hcm
          clear hZ
          have HX : Hid (I64 X) := ⟨hX1, hX2⟩
          have HN := Lib.hid (HC.out.set_ M.toNat hmy X)
          by_cases p2 : 0 < M
          · have hj : (M.toNat - 1) < ys.length := by omega
            obtain ⟨hcj, -⟩ := HC.out (M.toNat - 1) hj
            obtain ⟨Y, hY⟩ : ∃ Y, ys[(M.toNat - 1)]'hj = Y := ⟨_, rfl⟩
            rw [hY] at hcj
            have HY : Hid (I64 Y) := by rw [← hY]; exact HZ.out _ (List.getElem_mem hj)
            have p3 : (0 : Int) ≤ M - 1 := by omega
            have p4 : M - 1 < (zs.length : Int) := by omega
            have HN2 := Lib.hid (HC.out.set_ M.toNat hmy Y)
            have HYD : Hid (ys.getD (M.toNat - 1) 0 = Y) := (getD_in hj).trans hY
            clear hY hj hmy
            by_cases hlt2 : X < Y
            · go_wp2
              go_roundw
              case rel => exact ⟨M - 1, _, rfl, p3, p4, (by have h9 := Hole.step HU.out (by omega) (by rw [HYD.out]; exact hlt2); rw [HYD.out] at h9; rw [show (M - 1).toNat = M.toNat - 1 by omega]; exact h9), setI64 HZ.out HY.out, HN2.out, HB.out.setCell hlo _, by simpa [World.setCell] using HS.out⟩
              case measure => simp [intOf]; omega
            · go_wp2
              go_roundw
              case rel => exact ⟨k + 1, _, by go_num, by omega, Hole.done HU.out (.inr (by rw [HYD.out]; omega)), setI64 HZ.out HX.out, HN.out, HB.out.setCell hlo _, by simpa [World.setCell] using HS.out⟩
              case measure => simp [intOf]; omega
          · clear hmy
            go_wp2
            go_roundw
            case rel => exact ⟨k + 1, _, by go_num, by omega, Hole.done HU.out (.inl (by omega)), setI64 HZ.out HX.out, HN.out, HB.out.setCell hlo _, by simpa [World.setCell] using HS.out⟩
            case measure => simp [intOf]; omega
      · have hkn : k + 1 = zs.length := by omega
        have hlt' : ¬ (k : Int) + 1 < (zs.length : Int) := by omega
        have HI2 : Hid (IW wr w.heap.size wr.heap.size (some ⟨b, off, none⟩) ys) := HC.out.iw hys hlo (by rw [HS.out]; exact hhi) (Nat.le_refl _) (by omega) HZ.out
        go_wp2
        go_ret
        exact ⟨_, HU.out.2.1, UpTo.sorted HU.out hkn, retS_of hys.symm HI2.out HB.out⟩


/-- append of a whole list, in a region that draws its order, in a fence. -/
theorem stepIn_appendsI {F : Fence} {n : Nat} {ops : Array Oper} {o : Oper} {a : Act} {w : World} {K : Act → World → Prop} {Q : Exit → Act → World → Prop} {E : Prop} (hgd : o.guard = none) (s x : Operand)
    (ho : o.op = .call { callee := .builtin .append, args := #[s, x], argTypes := #[26, 26] })
    (base : Nat) (v : Value) (zs ys : List Int) (A : Option Addr) (lo hi m c : Nat) (hm : m = ys.length) (hs : a.eval s = v) (hx : a.eval x = .slice A m c) (hown : OwnI w base v zs)
    (hr : IR w lo hi A ys) (hl : zs.length + ys.length ≤ 17592186044416)
    (h : ∀ v' w', OwnI w' base v' (zs ++ ys) → Below base w w' → K (a.put o.dst v') w') : if Region.wanted o (yielded ops a.tmps) = true then Oper.wpIn F n Try.prog o a w K Q else E := by
  subst hm
  rw [if_pos (show Region.wanted o (yielded ops a.tmps) = true by simp [Region.wanted, hgd])]
  obtain ⟨v', w', hrun, h2, h3⟩ := run_appendsI w base v zs ys hown A lo hi c hr hl o.type
  unfold Oper.wpIn
  refine ⟨?_, ?_⟩
  · simp [Oper.about, ho, resolve, Target.leads, Sem.run_pure]
  · rw [Oper.semAt_plain F _ _ (by rw [ho]; intro c hc'; cases hc')]
    simp only [execOp, ho, resolve, invoke, builtin, Sem.run_bind, Sem.run_pure, Result.andThen_ok, List.map_toArray, List.map_cons, List.map_nil, hs, hx, hrun]
    exact h v' w' h2 h3

/-- slices.Sort of a list that the call has built. -/
theorem sortOwn_any (base : Nat) (v : Value) (xs : List Int) (w : World) (h : OwnI w base v xs) (hl : xs.length ≤ 1000) :
    Calls Try.prog 135 #[v] w fun e w' => e = .returned (.tuple #[]) ∧ OwnI w' base v (xs.mergeSort fun x y => decide (x ≤ y)) ∧ Below base w w' := by
  obtain ⟨ho, hz, hb⟩ := h
  rcases ho.2 with ⟨rfl, h0⟩ | ⟨g, cap, cur, rfl, hg, hh, hn, hcap, hs, ht⟩
  · have hx : xs = [] := by simpa using h0
    subst hx
    refine (Any.slices_Sort_int_none sort_lays none 0 w).mono ?_
    rintro e w' ⟨rfl, rfl⟩
    exact ⟨rfl, ⟨by simpa using ho, by simp, hb⟩, Below.refl _ _⟩
  · refine (Any.slices_Sort_int sort_lays g 0 cap xs w (holds_of_blockI hh (by simpa using ht)) (Array.getElem?_eq_some_iff.1 hh).1 (by omega)).mono ?_
    rintro e w' ⟨rfl, n, os, rfl⟩
    refine ⟨rfl, ⟨?_, fun z hz' => hz z ((List.mergeSort_perm xs _).mem_iff.1 hz'), ?_⟩, (Below.refl base w).grown (grownBy_sortedI _) hb fun k e => by cases e; exact hg⟩
    · have := ownsRow_sortedI (n := n) (os := os) (List.length_mergeSort (le := fun x y : Int => decide (x ≤ y)) xs) hg hh hn hcap hs
      rw [List.length_mergeSort]; exact this
    · exact Nat.le_trans hb (grownBy_sortedI _).size

end Go.Proofs.Ytkghpmjbclnojaa
