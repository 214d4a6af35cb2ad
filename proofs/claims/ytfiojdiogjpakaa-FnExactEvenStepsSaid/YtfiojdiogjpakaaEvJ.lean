/-
  mostEven, EvenMost, EvenSteps and EvenSum of the program. Conditions: the lists' cells are there.
-/
import Derived.Test.YtfiojdiogjpakaaEvI
import Derived.Test.YtfiojdiogjpakaaPart2
namespace Go.Proofs.Ytfiojdiogjpakaa
open Go.RowKit Go.Shelf Go.ChangeShapes Go.WideShapes
attribute [local go_sem] Oper.semAt_some

theorem evenL_none (n : Nat) (q : Int) : evenL n q 0 = List.replicate n q := by
  apply List.ext_getElem
  · simp [evenL]
  · intro i h1 h2
    simp [evenL]
    omega
theorem evenL_get (n : Nat) (q r : Int) (i : Nat) (h : i < (evenL n q r).length) : (evenL n q r)[i] = if (i : Int) < r then q + 1 else q := by simp [evenL]
theorem evenL_set (n : Nat) (q : Int) (k : Nat) : (evenL n q (k : Int)).set k (q + 1) = evenL n q ((k : Int) + 1) := by
  apply List.ext_getElem
  · simp [evenL]
  · intro i h1 h2
    rw [List.getElem_set, evenL_get, evenL_get]
    by_cases e : k = i
    · subst e; rw [if_pos rfl, if_pos (by omega)]
    · rw [if_neg e]
      by_cases c : (i : Int) < (k : Int)
      · rw [if_pos c, if_pos (by omega)]
      · rw [if_neg c, if_neg (by omega)]

set_option maxRecDepth 100000 in
set_option maxHeartbeats 2000000 in
theorem mostEven_any (A : Option Addr) (c : Nat) (a : List Int) (w : World) (h : IR w 0 w.heap.size A a) (ra : rowB a = true) :
    Calls Try.prog 71 #[.slice A a.length c] w (RetS w (mostEv a)) := by
  have hlb := (rowB_true.1 ra).2
  have hq := most_q ra
  have hr := most_r (a := a) (by omega)
  have hs := row_sum ra
  have HB := Lib.hid (rowB_true.1 ra).1
  have HQ : Hid (sumL a / (a.length : Int) = mostQ a) := rfl
  have HRR : Hid (sumL a - mostQ a * (a.length : Int) = mostR a) := rfl
  have H := Lib.hid h; have RA := Lib.hid ra
  have HML : Hid (mostEv a = evenL a.length (mostQ a) (mostR a)) := rfl
  clear h ra
  refine (callsIn_wide (n := 6)).1 ?_
  refine callsIn_of_wp_marks Try.func71 rfl trivial ?_ rfl
  simp only [Try.ntmps71, List.size_toArray, List.length_cons, List.length_nil, Nat.reduceAdd, Nat.reduceSub, Array.replicate_succ, Array.replicate_zero, List.push_toArray, List.append_toArray, List.nil_append, List.cons_append]
  gi_wp2_with (refine ⟨trivial, ?_⟩; gi_at_call 73; refine (entries_in _ _ trivial rfl _ _ _ _).mono ?_; rintro e w' ⟨rfl, rfl⟩)
  have b1 := (Boxed.new w 3 (.int .i64 0)).alloc (.cells #[.slice A a.length c] 77)
  have hb1 : Below w.heap.size w ((w.alloc (.cells #[.int .i64 0] 3)).alloc (.cells #[.slice A a.length c] 77)) := ((Below.refl _ w).alloc (Nat.le_refl _) _).alloc (by simp) _
  have hbox : ((w.alloc (.cells #[.int .i64 0] 3)).alloc (.cells #[.slice A a.length c] 77)).cell? ⟨w.heap.size + 1, 0, none⟩ = some (.slice A a.length c) := by
    rw [World.cell?_alloc_at _ _ _ _ (by simp)]; rfl
  obtain ⟨W1, hW1⟩ : ∃ W1, (w.alloc (.cells #[.int .i64 0] 3)).alloc (.cells #[.slice A a.length c] 77) = W1 := ⟨_, rfl⟩
  have hs1 : W1.heap.size = w.heap.size + 2 := by rw [← hW1]; simp
  rw [hW1] at b1 hb1 hbox
  rw [hW1]
  clear hW1
  have hR1 : IR W1 0 w.heap.size A a := H.out.below hb1 (Nat.le_refl _)
  have B1 := Lib.hid hb1
  clear hb1
  apply (fun a₁ => wpIn_rangeFunc_ownF (F := Fence.wide) rfl (by decide) (gf := 104) (lb := #[.pointer (some ⟨w.heap.size + 1, 0, none⟩)]) rfl trivial (enters_of Try.func104 (by kernel_rfl) rfl)
    (entries_stops Fence.wide (6 - 1) trivial rfl (by decide) (w.heap.size + 1) w.heap.size c A a W1 (by omega) (by omega) hbox hR1) belowK_t (belowK_b (by omega)) (Below.refl _ _) (fun _ => rfl)
    (fun pre W => Boxed W w.heap.size 3 (.int .i64 (sumL (valsP a pre))) ∧ Below w.heap.size W1 W)
    (fun _ _ _ => False)
    (OwnFrom.and (Own.from (boxed_own _ _ _) _) (ownFrom_below (by omega) (by omega)))
    (fun _ _ _ _ _ hs _ _ => hs)
    ⟨b1, Below.refl _ _⟩ a₁)
  case hassign =>
    intro l x W K hK
    gi_wp2
    exact hK
  case hbody =>
    rintro l pre x W ⟨hM, hBW⟩ hlt
    have g1 := sum_bd (valsP a pre) fun z hz => HB.out z (valsP_mem hz)
    have g2 := HB.out _ (List.getElem_mem x.2)
    rw [valsP_len] at g1
    have HS1 : Hid (sumL (valsP a (pre ++ [x])) = sumL (valsP a pre) + a[x.1]) := by show _ = _; rw [valsP_snoc, sumL_snoc]
    obtain ⟨T, hT⟩ : ∃ T, sumL (valsP a pre) = T := ⟨_, rfl⟩
    obtain ⟨y, hy⟩ : ∃ y, a[x.1] = y := ⟨_, rfl⟩
    rw [hT] at g1 hM HS1
    rw [hy] at g2 HS1
    have HY : Hid (a[x.1] = y) := hy
    clear hT hy
    have s1 : IntKind.i64.wrap (T + y) = T + y := IntWalk.i64_in _ (by omega)
    have cM := hM.cell; have fM := hM.frozen
    have HM2 := Lib.hid (hM.set (.int .i64 (T + y)))
    have HBW := Lib.hid hBW
    clear hM hBW
    simp only [HY.out]
    gi_wp2
    exact ⟨KeepsOthers.setCell _ _ _, (Below.refl _ W).setCell (p := ⟨w.heap.size, 0, none⟩) (Nat.le_refl _) _, by rw [HS1.out]; exact HM2.out, HBW.out.setCell (p := ⟨w.heap.size, 0, none⟩) (Nat.le_refl _) _⟩
  case hdone =>
    rintro D ys W hD rfl ⟨hM, hBW⟩ hK
    rw [valsP_all] at hM
    obtain ⟨q, hqq⟩ : ∃ q, mostQ a = q := ⟨_, rfl⟩
    obtain ⟨r, hrr⟩ : ∃ r : Nat, mostR a = (r : Int) := ⟨(mostR a).toNat, by omega⟩
    obtain ⟨m, hm⟩ : ∃ m, a.length = m := ⟨_, rfl⟩
    obtain ⟨S, hS⟩ : ∃ S, sumL a = S := ⟨_, rfl⟩
    rw [hqq, hrr, hm] at HML
    rw [hqq] at HQ hq
    rw [hqq, hrr] at HRR
    rw [hm] at HQ HRR hr hlb
    rw [hrr] at hr
    rw [hS] at HQ HRR hs hM
    have HM := Lib.hid hm
    have t1 : IntKind.i64.wrap (q * (m : Int)) = q * (m : Int) := IntWalk.i64_in _ (by have := HRR.out; omega)
    have t2 : IntKind.i64.wrap (S - q * (m : Int)) = (r : Int) := by rw [IntWalk.i64_in _ (by have := HRR.out; omega)]; exact HRR.out
    have BB := Lib.hid (B1.out.trans (hBW.mono (Nat.le_refl _)))
    have hSW := hBW.size
    have cM := hM.cell
    rw [hm]
    have HK := Lib.hid hK; have HMB := Lib.hid hM
    have hDl : D < W.heap.size := (Array.getElem?_eq_some_iff.1 hK).1
    clear hqq hrr hm hS hK hM hBW
    gi_wp2_with fail
    refine ⟨trivial, ?_⟩
    gi_at_call 101
    refine (callsIn_wide.2 (floorDivide_any S (m : Int) (by omega) (by omega) (by omega) (by omega) _)).mono ?_
    rintro e w1 ⟨rfl, rfl⟩
    rw [HQ.out]
    gi_wp2_with fail
    have hcq : (W.alloc (.cells #[.int .i64 q] 3)).cell? ⟨W.heap.size, 0, none⟩ = some (.int .i64 q) := by
      rw [World.cell?_alloc_at _ _ _ _ rfl]; rfl
    have hb2 : Below W.heap.size W (W.alloc (.cells #[.int .i64 q] 3)) := (Below.refl _ _).alloc (Nat.le_refl _) _
    obtain ⟨W2, hW2⟩ : ∃ W2, W.alloc (.cells #[.int .i64 q] 3) = W2 := ⟨_, rfl⟩
    have hs2 : W2.heap.size = W.heap.size + 1 := by rw [← hW2]; simp
    rw [hW2] at hcq hb2
    rw [hW2]
    clear hW2
    refine ⟨trivial, ?_⟩
    gi_at_call 102
    refine (callsIn_wide.2 (repeat_any W.heap.size 0 1 m q W2 (by omega) hcq (by omega) (by omega))).mono ?_
    rintro e W3 ⟨rfl, hc3, hs3, hb3⟩
    have hb13 := hb2.trans (hb3.mono (by omega))
    rw [← evenL_none] at hc3
    have BB3 := Lib.hid (BB.out.trans (hb13.mono (by omega)))
    have cM3 := (boxed_below HMB.out hb13).cell
    have HK3 : Hid (W3.heap[D]? = some (.deferred (some []))) := (hb13.block D hDl).trans HK.out
    have HC3 := Lib.hid hc3
    have HS23 := Lib.hid hb3.size
    have HS2 := Lib.hid hs2
    clear hs2 hc3 hb3 hb2 hcq hb13 cM HMB HK BB
    gi_wp2
    gi_loopw [31] (fun i wr => ∃ k : Nat, k ≤ r ∧ i = .int .i64 (k : Int) ∧ Cells wr W2.heap.size 0 (evenL m q (k : Int)) ∧ Below W2.heap.size W3 wr ∧ W3.heap.size ≤ wr.heap.size) (fun i _ => r - (intOf i).toNat)
    case atStart => exact ⟨0, Nat.zero_le _, rfl, HC3.out, Below.refl _ _, Nat.le_refl _⟩
    case round =>
      obtain ⟨k, hk, rfl, hc, hb, hsz⟩ := hrel
      have HC := Lib.hid hc; have HBk := Lib.hid hb; have HSk := Lib.hid hsz
      clear hc hb hsz HC3
      by_cases hlt : k < r
      · have hlt' : (k : Int) < (r : Int) := by omega
        have hkm : k < m := by omega
        have hkm' : (k : Int) < (m : Int) := by omega
        have hkl : k < (evenL m q (k : Int)).length := by rw [evenL_len]; exact hkm
        obtain ⟨hc1, hc2⟩ := HC.out k hkl
        rw [evenL_get, if_neg (by omega), Nat.zero_add] at hc1
        rw [Nat.zero_add] at hc2
        have HN := Lib.hid (HC.out.set_ k hkl (q + 1))
        rw [evenL_set, Nat.zero_add] at HN
        have s3 : IntKind.i64.wrap (q + 1) = q + 1 := IntWalk.i64_in _ (by omega)
        clear hkl
        gi_wp2
        go_roundw
        case rel => exact ⟨k + 1, by omega, by go_num, HN.out, HBk.out.setCell (Nat.le_refl _) _, by have := HSk.out; simpa [World.setCell] using this⟩
        case measure => simp [intOf]; omega
      · obtain rfl : k = r := by omega
        have HI := Lib.hid (HC.out.iw (n := m) (lo := W2.heap.size) (hi := wr.heap.size) (evenL_len _ _ _) (Nat.le_refl _) (by have := HSk.out; have := HS23.out; omega) (Nat.le_refl _) (by omega) (fun z hz => by
          have := evenL_mem hz
          exact ⟨by omega, by omega⟩))
        have hs2 := HS2.out
        have HKr : Hid (wr.heap[D]? = some (.deferred (some []))) := (HBk.out.block D (by omega)).trans HK3.out
        have BBr := Lib.hid (BB3.out.trans (HBk.out.mono (by omega)))
        clear HC hs2
        gi_wp2
        have hs2 := HS2.out
        refine ⟨by simp, .inl ⟨_, _, rfl, run_takeDeferred HKr.out, ?_⟩⟩
        have bb := BBr.out.trans (belowK_b (w := w) (Nat.le_refl _) wr D _ (.deferred none) (by omega) HKr.out rfl rfl)
        have hi := HI.out.keep (grownBy_putObj' wr D (.deferred none)).size (fun k' h1 h2 => (grownBy_putObj' wr D (.deferred none)).block k' h2 (by simp; omega))
        rw [← HML.out] at hi
        exact ⟨_, results_tmp rfl _ _ _, some ⟨W2.heap.size, 0, none⟩, m, by rw [most_len, HM.out]; rfl, hi.wide (by omega) (by simp [World.putObj]) (Nat.le_refl _), bb⟩
  case hstop =>
    rintro D cd pre W _ _ h _
    exact h.elim

set_option maxHeartbeats 400000 in
theorem implEvenMost_any (A : Option Addr) (c : Nat) (a : List Int) (w : World) (h : IR w 0 w.heap.size A a) :
    Calls Try.prog 35 #[.slice A a.length c] w (RetSB w (mostM a)) := by
  have H := Lib.hid h; clear h
  cases hr : rowB a with
  | false =>
    have HM : Hid (mostM a = none) := by show _ = _; simp [mostM, hr]
    have HR := Lib.hid hr; clear hr
    go_enter Try.func35, Try.ntmps35
    go_wp2_with fail
    refine (implRowIn_any _ _ a _ H.out).mono ?_; rintro e w1 ⟨rfl, b1⟩
    rw [HR.out]
    have B1 := Lib.hid b1; clear b1
    go_wp2
    go_ret2
    rw [HM.out]
    exact retSB_none B1.out
  | true =>
    have HM : Hid (mostM a = some (mostEv a)) := by show _ = _; simp [mostM, hr]
    have HR := Lib.hid hr; clear hr
    go_enter Try.func35, Try.ntmps35
    go_wp2_with fail
    refine (implRowIn_any _ _ a _ H.out).mono ?_; rintro e w1 ⟨rfl, b1⟩
    rw [HR.out]
    replace H := Lib.hid (H.out.grow b1)
    have B1 := Lib.hid b1; clear b1
    go_wp2_with fail
    refine (mostEven_any _ _ a _ H.out.toAll HR.out).mono ?_; rintro e w2 ⟨A2, c2, rfl, hi, hb⟩
    have HI := Lib.hid hi; have HB := Lib.hid hb; clear hi hb
    go_wp2
    go_ret2
    rw [HM.out]
    exact retSB_some rfl (HI.out.wide B1.out.size (Nat.le_refl _) (Nat.le_refl _)) (below_then B1.out (Nat.le_refl _) HB.out)

/-- The steps at the places that came. -/
def stP (X Y : List Int) (pre : List (Fin X.length)) : Int := sumL (pre.map fun x => max 0 (X[x.1] - Y.getD x.1 0))
theorem stP_snoc (X Y : List Int) (pre : List (Fin X.length)) (x : Fin X.length) : stP X Y (pre ++ [x]) = stP X Y pre + max 0 (X[x.1] - Y.getD x.1 0) := by
  unfold stP; rw [List.map_append, sumL_append]; simp [sumL]
theorem stP_take (X Y : List Int) : ∀ k, k ≤ X.length → stP X Y ((List.finRange X.length).take k) = sumN (fun i => max 0 (X.getD i 0 - Y.getD i 0)) k := by
  intro k
  induction k with
  | zero => intro _; rfl
  | succ k ih =>
    intro hk
    rw [← finRange_succ (show k < X.length by omega), stP_snoc, ih (by omega)]
    show _ = sumN _ k + max 0 (X.getD k 0 - Y.getD k 0)
    rw [getD_in (show k < X.length by omega)]
theorem stP_all (X Y : List Int) : stP X Y (List.finRange X.length) = sumN (fun i => max 0 (X.getD i 0 - Y.getD i 0)) X.length := by
  have := stP_take X Y X.length (Nat.le_refl _)
  rwa [List.take_of_length_le (by simp)] at this
theorem stP_bd {X Y : List Int} (hx : ∀ z, z ∈ X → -1000 ≤ z ∧ z ≤ 1000) (hy : ∀ k, k < X.length → -1000 ≤ Y.getD k 0 ∧ Y.getD k 0 ≤ 1000) : ∀ pre : List (Fin X.length), 0 ≤ stP X Y pre ∧ stP X Y pre ≤ 2000 * (pre.length : Int)
  | [] => by simp [stP, sumL]
  | x :: pre => by
    have ih := stP_bd hx hy pre
    have g1 := hx _ (List.getElem_mem x.2)
    have g2 := hy x.1 x.2
    have e : stP X Y (x :: pre) = max 0 (X[x.1] - Y.getD x.1 0) + stP X Y pre := by simp [stP, sumL]
    rw [e, List.length_cons]
    omega

set_option maxRecDepth 100000 in
set_option maxHeartbeats 2000000 in
theorem implEvenSteps_any (A : Option Addr) (c : Nat) (a : List Int) (w : World) (h : IR w 0 w.heap.size A a) :
    Calls Try.prog 37 #[.slice A a.length c] w fun e w' => e = .returned (.tuple #[.int .i64 (stepsV a), .bool (rowB a)]) ∧ Below w.heap.size w w' := by
  have H := Lib.hid h; clear h
  cases hr : rowB a with
  | false =>
    have HM : Hid (stepsV a = 0) := by show _ = _; simp [stepsV, hr]
    have HR := Lib.hid hr; clear hr
    go_enter Try.func37, Try.ntmps37
    go_wp2_with fail
    refine (isRow_any _ _ a _ H.out).mono ?_; rintro e w1 ⟨rfl, b1⟩
    rw [HR.out]
    have B1 := Lib.hid b1; clear b1
    go_wp2
    go_ret2
    rw [HM.out]
    exact ⟨rfl, B1.out⟩
  | true =>
    have HM : Hid (stepsV a = sumN (fun i => max 0 ((downL a).getD i 0 - (mostEv a).getD i 0)) a.length) := by show _ = _; simp [stepsV, hr, stepsL]
    have HXL : Hid ((downL a).length = a.length) := down_len a
    have HYL : Hid ((mostEv a).length = a.length) := most_len a
    have hlb := (rowB_true.1 hr).2
    have HXR := Lib.hid (rowB_true.1 (down_row hr)).1; have HYR := Lib.hid (rowB_true.1 (most_row hr)).1
    have HR := Lib.hid hr; clear hr
    refine (callsIn_wide (n := 6)).1 ?_
    refine callsIn_of_wp_marks Try.func37 rfl trivial ?_ rfl
    simp only [Try.ntmps37, List.size_toArray, List.length_cons, List.length_nil, Nat.reduceAdd, Nat.reduceSub, Array.replicate_succ, Array.replicate_zero, List.push_toArray, List.append_toArray, List.nil_append, List.cons_append]
    gi_wp2_with fail
    refine ⟨trivial, ?_⟩
    gi_at_call 72
    refine (callsIn_wide.2 (isRow_any _ _ a _ H.out)).mono ?_; rintro e w1 ⟨rfl, b1⟩
    rw [HR.out]
    replace H := Lib.hid (H.out.grow b1)
    have S1 := b1.size
    have B1 := Lib.hid b1; clear b1
    gi_wp2_with fail
    refine ⟨trivial, ?_⟩
    gi_at_call 71
    refine (callsIn_wide.2 (mostEven_any _ _ a _ H.out.toAll HR.out)).mono ?_; rintro e w2 ⟨AE, ce, rfl, hi, hb⟩
    replace H := Lib.hid (H.out.below hb S1)
    have S2 := hb.size
    have HE := Lib.hid hi.toIR; have B2 := Lib.hid (below_then B1.out (Nat.le_refl _) hb); clear hi hb
    obtain ⟨X, hX⟩ : ∃ X, downL a = X := ⟨_, rfl⟩
    obtain ⟨Y, hY⟩ : ∃ Y, mostEv a = Y := ⟨_, rfl⟩
    obtain ⟨m, hm⟩ : ∃ m, a.length = m := ⟨_, rfl⟩
    have HMM := Lib.hid hm; have HXX := Lib.hid hX
    rw [hX] at HM HXL HXR
    rw [hY] at HM HYL HYR HE
    rw [hm] at HM HXL HYL hlb
    rw [hY, HYL.out, hm]
    clear hX hY hm
    gi_wp2_with fail
    have b5 := (Boxed.new w2 77 (.slice AE m ce)).alloc (.cells #[.int .i64 0] 3)
    have b6 := Boxed.new (w2.alloc (.cells #[.slice AE m ce] 77)) 3 (.int .i64 0)
    rw [World.size_alloc] at b6
    have hb3 : Below w2.heap.size w2 ((w2.alloc (.cells #[.slice AE m ce] 77)).alloc (.cells #[.int .i64 0] 3)) := ((Below.refl _ w2).alloc (Nat.le_refl _) _).alloc (by simp) _
    obtain ⟨W3, hW3⟩ : ∃ W3, (w2.alloc (.cells #[.slice AE m ce] 77)).alloc (.cells #[.int .i64 0] 3) = W3 := ⟨_, rfl⟩
    have hs3 : W3.heap.size = w2.heap.size + 2 := by rw [← hW3]; simp
    rw [hW3] at b5 b6 hb3
    rw [hW3]
    clear hW3
    replace H := Lib.hid (H.out.below hb3 (by omega))
    replace HE := Lib.hid (HE.out.below hb3 (Nat.le_refl _))
    have B3 := Lib.hid (below_then B2.out (Nat.le_refl _) hb3)
    have HF := Lib.hid (falling_any A c a W3 H.out.toAll HR.out)
    rw [HMM.out, HXX.out] at HF
    clear hb3
    refine ⟨trivial, ?_⟩
    gi_at_call 68
    refine (callsIn_wide.2 HF.out).mono ?_
    rintro e W4 ⟨A4, c4, rfl, i4, bb4⟩
    rw [HXL.out]
    replace b5 := boxed_below b5 bb4
    replace b6 := boxed_below b6 bb4
    replace HE := Lib.hid (HE.out.below bb4 (by omega))
    have S4 := bb4.size
    have B4 := below_then B3.out (Nat.le_refl _) bb4
    clear bb4
    gi_wp2_with (refine ⟨trivial, ?_⟩; gi_at_call 73; refine (entries_in _ _ trivial rfl _ _ _ _).mono ?_; rintro e w' ⟨rfl, rfl⟩)
    have hb5 : Below W4.heap.size W4 (W4.alloc (.cells #[.slice A4 m c4] 77)) := (Below.refl _ W4).alloc (Nat.le_refl _) _
    have hbox : (W4.alloc (.cells #[.slice A4 m c4] 77)).cell? ⟨W4.heap.size, 0, none⟩ = some (.slice A4 m c4) := by
      rw [World.cell?_alloc_at _ _ _ _ rfl]; rfl
    obtain ⟨W5, hW5⟩ : ∃ W5, W4.alloc (.cells #[.slice A4 m c4] 77) = W5 := ⟨_, rfl⟩
    have hs5 : W5.heap.size = W4.heap.size + 1 := by rw [← hW5]; simp
    rw [hW5] at hb5 hbox
    rw [hW5]
    clear hW5
    have hR5 : IR W5 W3.heap.size W5.heap.size A4 X := (i4.toIR.below hb5 (Nat.le_refl _)).wide (Nat.le_refl _) (by omega) (Nat.le_refl _)
    replace b5 := boxed_below b5 hb5
    replace b6 := boxed_below b6 hb5
    replace HE := Lib.hid (HE.out.below hb5 (by omega))
    have B5 := Lib.hid (B4.trans (hb5.mono (by have := B4.size; omega)))
    have SW := B2.out.size
    rw [← HXL.out] at hbox
    clear i4 hb5 B4
    apply (fun a₁ => wpIn_rangeFunc_ownF (F := Fence.wide) rfl (by decide) (gf := 104) (lb := #[.pointer (some ⟨W4.heap.size, 0, none⟩)]) rfl trivial (enters_of Try.func104 (by kernel_rfl) rfl)
      (entries_mid Fence.wide (6 - 1) trivial rfl (by decide) W4.heap.size W3.heap.size W5.heap.size c4 A4 X W5 (by omega) (Nat.le_refl _) hbox hR5) (fun h k => h.trans k) (keepM_b (Nat.le_refl _)) (Below.refl _ _) (fun _ => rfl)
      (fun pre W => Boxed W (w2.heap.size + 1) 3 (.int .i64 (stP X Y pre)) ∧ Below (w2.heap.size + 1) W5 W)
      (fun _ _ _ => False)
      (OwnFrom.and (Own.from (boxed_own _ _ _) _) (ownFrom_below (by omega) (by omega)))
      (fun _ _ _ _ _ hs _ _ => hs)
      ⟨b6, Below.refl _ _⟩ a₁)
    case hassign =>
      intro l x W K hK
      gi_wp2
      exact hK
    case hbody =>
      rintro l pre x W ⟨hM, hBW⟩ hlt
      have hSW := hBW.size
      have hxm : x.1 < m := by have := x.2; rw [← HXL.out]; exact this
      have hyl : x.1 < Y.length := by rw [HYL.out]; exact hxm
      have hEW := HE.out.below hBW (by omega)
      obtain ⟨be, oe, e, hbe, _, hcy⟩ := hEW.at_ hyl
      have hbe' : be < w2.heap.size := by omega
      have g1 := stP_bd HXR.out (fun k hk => by
        have hk' : k < Y.length := by rw [HYL.out, ← HXL.out]; exact hk
        rw [getD_in hk']; exact HYR.out _ (List.getElem_mem hk')) pre
      have g2 := HXR.out _ (List.getElem_mem x.2)
      have g3 := HYR.out _ (List.getElem_mem hyl)
      have hsn := stP_snoc X Y pre x
      rw [getD_in hyl] at hsn
      have hpl : pre.length < 12 := by have := HXL.out; omega
      obtain ⟨T, hT⟩ : ∃ T, stP X Y pre = T := ⟨_, rfl⟩
      obtain ⟨xv, hxv⟩ : ∃ y, X[x.1] = y := ⟨_, rfl⟩
      obtain ⟨yv, hyv⟩ : ∃ y, Y[x.1] = y := ⟨_, rfl⟩
      rw [hT] at g1 hM hsn
      rw [hxv] at g2 hsn
      rw [hyv] at g3 hsn hcy
      have HXV : Hid (X[x.1] = xv) := hxv
      have HSN := Lib.hid hsn
      clear hT hxv hyv hsn
      have b5W : Boxed W w2.heap.size 77 (.slice AE m ce) := (hBW.block _ (by omega)).trans b5
      rw [e] at b5W
      have kE : ∀ {W' : World}, Below (w2.heap.size + 1) W W' → W'.cell? ⟨w2.heap.size, 0, none⟩ = some (.slice (some ⟨be, oe, none⟩) m ce) := fun hb => (hb.cell (p := ⟨w2.heap.size, 0, none⟩) (by show w2.heap.size < _; omega)).trans b5W.cell
      have kY : ∀ {W' : World}, Below (w2.heap.size + 1) W W' → W'.cell? ⟨be, oe + x.1, none⟩ = some (.int .i64 yv) := fun hb => (hb.cell (p := ⟨be, oe + x.1, none⟩) (by show be < _; omega)).trans hcy
      have s1 : IntKind.i64.wrap (xv - yv) = xv - yv := IntWalk.i64_in _ (by omega)
      have s2 : IntKind.i64.wrap (T + max 0 (xv - yv)) = T + max 0 (xv - yv) := IntWalk.i64_in _ (by omega)
      have hx0 : (0 : Int) ≤ ((x.1 : Nat) : Int) := by omega
      have hxm' : ((x.1 : Nat) : Int) < (m : Int) := by omega
      have cM := hM.cell; have fM := hM.frozen
      have HM2 := Lib.hid hM; have HBW := Lib.hid hBW
      clear hM hBW hEW hcy b5W
      simp only [HXV.out]
      gi_wp2
      refine region_anyS (fun W' => Below (w2.heap.size + 1) W W') (by kernel_rfl) ?_
      have hS0 : Below (w2.heap.size + 1) W W.drew := (Below.refl _ _).drew
      refine anyS_first 1 (v := .int .i64 xv) rfl (by kernel_rfl) (by kernel_rfl) (by kernel_rfl) (fun _ _ _ h => h) hS0 ⟨fun _ => rfl, .inl ⟨by rfl, fun W' hW' => (by go_simp)⟩⟩ ?_
      refine anyS_first 2 (v := .slice (some ⟨be, oe, none⟩) m ce) rfl (by kernel_rfl) (by kernel_rfl) (by kernel_rfl) (fun _ _ _ h => h) hS0 ⟨fun _ => rfl, .inl ⟨by rfl, fun W' hW' => (by have e1 := kE hW'; go_simp)⟩⟩ ?_
      refine anyS_first 3 (v := .int .i64 ((x.1 : Nat) : Int)) rfl (by kernel_rfl) (by kernel_rfl) (by kernel_rfl) (fun _ _ _ h => h) hS0 ⟨fun _ => rfl, .inl ⟨by rfl, fun W' hW' => (by go_simp)⟩⟩ ?_
      refine anyS_first 4 (v := .pointer (some ⟨be, oe + x.1, none⟩)) rfl (by kernel_rfl) (by kernel_rfl) (by kernel_rfl) (fun _ _ _ h => h) hS0 ⟨fun _ => rfl, .inl ⟨by rfl, fun W' hW' => (by go_simp)⟩⟩ ?_
      refine anyS_first 5 (v := .int .i64 yv) rfl (by kernel_rfl) (by kernel_rfl) (by kernel_rfl) (fun _ _ _ h => h) hS0 ⟨fun _ => rfl, .inl ⟨by rfl, fun W' hW' => (by have e1 := kY hW'; go_simp)⟩⟩ ?_
      refine anyS_first 6 (v := .int .i64 (xv - yv)) rfl (by kernel_rfl) (by kernel_rfl) (by kernel_rfl) (fun _ _ _ h => h) hS0 ⟨fun _ => rfl, .inl ⟨by rfl, fun W' hW' => (by go_simp)⟩⟩ ?_
      refine anyS_first 7 (v := .int .i64 (max 0 (xv - yv))) rfl (by kernel_rfl) (by kernel_rfl) (by kernel_rfl) (fun _ _ _ h => h) hS0 ⟨fun _ => rfl, .inl ⟨by rfl, fun W' hW' => (by go_simp)⟩⟩ ?_
      refine anyS_one 0 rfl (by kernel_rfl) hS0 ?_
      refine wpOpIn_step rfl fun K0 hK0 => ?_
      go_simp
      refine hK0 _ _ ?_
      clear hK0
      refine anyS_one 8 rfl (by kernel_rfl) hS0 ?_
      refine wpOpIn_step rfl fun K8 hK8 => ?_
      go_simp
      refine hK8 _ _ ?_
      clear hK8
      refine anyS_one 9 rfl (by kernel_rfl) hS0 ?_
      refine wpOpIn_step rfl fun K9 hK9 => ?_
      go_simp
      refine hK9 _ _ ?_
      clear hK9
      have hS9 : Below (w2.heap.size + 1) W (W.drew.setCell ⟨w2.heap.size + 1, 0, none⟩ (.int .i64 (T + max 0 (xv - yv)))) := hS0.setCell (p := ⟨w2.heap.size + 1, 0, none⟩) (Nat.le_refl _) _
      refine anyS_done (by kernel_rfl) hS9 ?_
      have hk9 : ∀ k, k ≠ w2.heap.size + 1 → (W.drew.setCell ⟨w2.heap.size + 1, 0, none⟩ (.int .i64 (T + max 0 (xv - yv)))).heap[k]? = W.heap[k]? := fun k hk => Below.heap_setCell W.drew ⟨w2.heap.size + 1, 0, none⟩ _ k hk
      exact ⟨(keeps_below (Below.refl _ W).drew).trans (KeepsOthers.setCell W.drew _ _), ⟨hS9.size, fun k h1 _ => hk9 k (by omega)⟩, by rw [HSN.out]; exact (show Boxed W.drew (w2.heap.size + 1) 3 (.int .i64 T) from HM2.out).set _, HBW.out.trans hS9⟩
    case hdone =>
      rintro D ys W hD rfl ⟨hM, hBW⟩ hK
      rw [stP_all, HXL.out, ← HM.out] at hM
      have cM := hM.cell
      have BB := Lib.hid (B5.out.trans (hBW.mono (by omega))); have HK := Lib.hid hK
      obtain ⟨y, hy⟩ : ∃ y, stepsV a = y := ⟨_, rfl⟩
      rw [hy] at cM
      have HY := Lib.hid hy
      clear hM hBW hK hy
      gi_wp2
      refine ⟨by simp, .inl ⟨_, _, rfl, run_takeDeferred HK.out, ?_⟩⟩
      refine ⟨.tuple #[.int .i64 y, .bool true], ?_, by rw [HY.out], BB.out.trans (belowK_b (w := w) (Nat.le_refl _) W D _ _ (by omega) HK.out rfl rfl)⟩
      simp [results, Try.f37, go_sem]
    case hstop =>
      rintro D cd pre W _ _ h _
      exact h.elim

set_option maxRecDepth 100000 in
set_option maxHeartbeats 2000000 in
theorem implEvenSum_any (A0 : Option Addr) (c0 : Nat) (f : List Int) (A1 : Option Addr) (c1 : Nat) (a : List Int) (w : World) (h0 : IR w 0 w.heap.size A0 f) (h1 : IR w 0 w.heap.size A1 a) :
    Calls Try.prog 39 #[.slice A0 f.length c0, .slice A1 a.length c1] w fun e w' => e = .returned (.tuple #[.int .i64 (evenSumL f a), .bool (atB f a)]) ∧ Below w.heap.size w w' := by
  have H0 := Lib.hid h0; have H1 := Lib.hid h1
  clear h0 h1
  have HNO : Hid (atB f a = false → evenSumL f a = 0) := fun h => by unfold evenSumL; rw [h]; rfl
  cases hb : (rowB f && bentB f) with
  | false =>
    have HM := Lib.hid (at_no1 (a := a) hb)
    have HB := Lib.hid hb; clear hb
    go_enter Try.func39, Try.ntmps39
    go_wp2_with fail
    refine (implBent_of _ _ _ _ f _ H0.out HB.out rfl).mono ?_; rintro e w1 ⟨rfl, b1⟩
    have B1 := Lib.hid b1; clear b1
    go_wp2
    go_ret2
    rw [HNO.out HM.out, HM.out]
    exact ⟨rfl, B1.out⟩
  | true =>
  have HB := Lib.hid hb
  cases ha : rowB a with
  | false =>
    have HM := Lib.hid (at_no2 (f := f) ha)
    have HA := Lib.hid ha; clear hb ha
    go_enter Try.func39, Try.ntmps39
    go_wp2_with fail
    refine (implBent_of _ _ _ _ f _ H0.out HB.out rfl).mono ?_; rintro e w1 ⟨rfl, b1⟩
    have B1 := Lib.hid b1; replace H1 := Lib.hid (H1.out.grow b1); clear b1
    go_wp2_with fail
    refine (implRowIn_any _ _ a _ H1.out.toAll).mono ?_; rintro e w2 ⟨rfl, b2⟩
    rw [HA.out]
    have B2 := Lib.hid (below_then B1.out (Nat.le_refl _) b2); clear b2
    go_wp2
    go_ret2
    rw [HNO.out HM.out, HM.out]
    exact ⟨rfl, B2.out⟩
  | true =>
    have hf : rowB f = true := by rw [Bool.and_eq_true] at hb; exact hb.1
    have HA := Lib.hid ha; have HF := Lib.hid hf
    have hlf := (rowB_true.1 hf).2; have hla := (rowB_true.1 ha).2
    have HY : Hid (atB f a = true → evenSumL f a = sumAt f a) := fun h => by unfold evenSumL; rw [h]; rfl
    clear hb ha hf
    go_enter Try.func39, Try.ntmps39
    go_wp2_with fail
    refine (implBent_of _ _ _ _ f _ H0.out HB.out rfl).mono ?_; rintro e w1 ⟨rfl, b1⟩
    have B1 := Lib.hid b1; replace H1 := Lib.hid (H1.out.grow b1); replace H0 := Lib.hid (H0.out.grow b1); clear b1
    go_wp2_with fail
    refine (implRowIn_any _ _ a _ H1.out.toAll).mono ?_; rintro e w2 ⟨rfl, b2⟩
    rw [HA.out]
    replace H1 := Lib.hid (H1.out.below b2 B1.out.size); replace H0 := Lib.hid (H0.out.below b2 B1.out.size)
    have B2 := Lib.hid (below_then B1.out (Nat.le_refl _) b2); clear b2
    go_wp2
    obtain ⟨n, hn⟩ : ∃ n, a.length = n := ⟨_, rfl⟩
    obtain ⟨m, hm⟩ : ∃ m, f.length = m := ⟨_, rfl⟩
    have HN := Lib.hid hn; have HM := Lib.hid hm
    rw [hm] at hlf
    rw [hn] at hla
    rw [hn, hm]
    clear hn hm
    go_loop [6, 19] (fun s i => ∃ k : Nat, k ≤ n ∧ i = .int .i64 (k : Int) ∧ s = .int .i64 (sumAt f (a.take k)) ∧ Hid (∀ j, j < k → inB 0 ((m : Int) - 1) (a.getD j 0) = true)) (fun _ i => n - (intOf i).toNat)
    case atStart => exact ⟨0, Nat.zero_le _, rfl, rfl, Lib.hid (fun j hj => by omega)⟩
    case round =>
      obtain ⟨k, hk, rfl, rfl, hall⟩ := hrel
      by_cases hlt : k < n
      · have hx : k < a.length := by rw [HN.out]; exact hlt
        have hlt' : (k : Int) < (n : Int) := by omega
        obtain ⟨ba, oa, rfl, _, _, hca⟩ := H1.out.at_ hx
        have e1 := sumAt_take f a hx
        have g1 := sumAt_bd HF.out (a.take k)
        have HD : Hid (a.getD k 0 = a[k]) := getD_in hx
        have HN3 := Lib.hid (fun h => at_no3 (f := f) (a := a) hx h)
        obtain ⟨x, hxx⟩ : ∃ x, a[k] = x := ⟨_, rfl⟩
        obtain ⟨T, hT⟩ : ∃ T, sumAt f (a.take k) = T := ⟨_, rfl⟩
        have hmin : ((a.take k).length : Int) ≤ 12 := by rw [List.length_take]; omega
        rw [hxx, hT] at e1
        rw [hxx] at hca HD HN3
        rw [hT] at g1
        rw [HM.out] at HN3
        rw [hT]
        cases hin : inB 0 ((m : Int) - 1) x with
        | false =>
          have HI := Lib.hid hin
          have HFA := Lib.hid (HN3.out hin)
          clear hin hxx hT e1
          go_wp2_with fail
          refine (isPlace_b false _ _ _ _ _ HI.out).mono ?_; rintro e w' ⟨rfl, rfl⟩
          go_wp2
          go_ret2
          rw [HNO.out HFA.out, HFA.out]
          exact ⟨rfl, B2.out⟩
        | true =>
          have HI := Lib.hid hin
          have hin' := inB_true.1 hin
          have hxm : x.toNat < f.length := by rw [HM.out]; omega
          obtain ⟨bf, of, rfl, _, _, hcf⟩ := H0.out.at_ hxm
          have g2 := row_getD HF.out _ hxm
          rw [getD_in hxm] at e1 g2
          obtain ⟨y, hyy⟩ : ∃ y, f[x.toNat] = y := ⟨_, rfl⟩
          rw [hyy] at e1 g2 hcf
          have HE1 := Lib.hid e1
          have x0 : 0 ≤ x := hin'.1
          have x1 : x < (m : Int) := by omega
          have s1 : IntKind.i64.wrap (T + y) = T + y := IntWalk.i64_in _ (by omega)
          clear hin hin' hxx hT e1 hyy hxm hx
          go_wp2_with fail
          refine (isPlace_b true _ _ _ _ _ HI.out).mono ?_; rintro e w' ⟨rfl, rfl⟩
          go_wp2
          go_round
          case rel => exact ⟨k + 1, by omega, by go_num, by rw [HE1.out], Lib.hid (fun j hj => by
            by_cases e : j = k
            · subst e; rw [HD.out]; exact HI.out
            · exact hall.out j (by omega))⟩
          case measure => simp [intOf]; omega
      · obtain rfl : k = n := by omega
        have HT := Lib.hid (at_yes HB.out HA.out (by rw [HN.out, HM.out]; exact hall.out))
        have HTK : Hid (a.take k = a) := by show _ = _; rw [← HN.out]; exact List.take_length
        rw [HTK.out]
        go_wp2
        go_ret2
        rw [HY.out HT.out, HT.out]
        exact ⟨rfl, B2.out⟩
end Go.Proofs.Ytfiojdiogjpakaa
