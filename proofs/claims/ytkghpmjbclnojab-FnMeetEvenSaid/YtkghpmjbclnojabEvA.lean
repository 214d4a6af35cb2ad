/-
  Chapter 7 of the model up to EvenMeet. Conditions: the lists' cells are there.
-/
import Derived.Test.YtkghpmjbclnojabEvM
import Derived.Test.YtkghpmjbclnojabMgS
import Derived.Test.YtkghpmjbclnojabImp4
import Derived.Test.YtkghpmjbclnojabLn5
namespace Go.Proofs.Ytkghpmjbclnojab
open Go.RowKit

theorem sorted_pairs {l : List Int} (h : Sorted l) : l.Pairwise (fun x y => x ≤ y) := by
  have p : ∀ d i, i + d < l.length → l.getD i 0 ≤ l.getD (i + d) 0 := by
    intro d
    induction d with
    | zero => intro i _; exact Int.le_refl _
    | succ d ih => intro i hi; exact Int.le_trans (ih i (by omega)) (h (i + d) (by omega))
  rw [List.pairwise_iff_getElem]
  intro i j hi hj hij
  have := p (j - i) i (by omega)
  rw [show i + (j - i) = j by omega, getD_in hi, getD_in hj] at this
  exact this
theorem sorted_down {zs ys : List Int} (hp : ys.Perm zs) (hs : Sorted ys) : ys.reverse = downL zs :=
  (down_of ((List.reverse_perm _).trans hp) (dn_pairs.2 (List.pairwise_reverse.2 (sorted_pairs hs)))).symm
theorem down_row {zs : List Int} (h : rowB zs = true) : rowB (downL zs) = true := by
  obtain ⟨h1, h2, h3⟩ := rowB_true.1 h
  exact rowB_true.2 ⟨fun z hz => h1 z ((down_perm zs).mem_iff.1 hz), by rw [down_len]; exact h2, by rw [down_len]; exact h3⟩
theorem take_bd {l : List Int} (h : ∀ z, z ∈ l → -1000 ≤ z ∧ z ≤ 1000) : ∀ k : Nat, k ≤ l.length → -1000 * (k : Int) ≤ sumL (l.take k) ∧ sumL (l.take k) ≤ 1000 * (k : Int) := by
  intro k
  induction k with
  | zero => intro _; simp [sumL]
  | succ k ih =>
    intro hk
    obtain ⟨h1, h2⟩ := ih (by omega)
    have g := h _ (List.getElem_mem (show k < l.length by omega))
    rw [take_next l (by omega), getD_in (by omega)]
    omega
theorem take_bd12 {l : List Int} (h : rowB l = true) {k : Nat} (hk : k ≤ l.length) : -12000 ≤ sumL (l.take k) ∧ sumL (l.take k) ≤ 12000 := by
  obtain ⟨h1, h2, h3⟩ := rowB_true.1 h
  have := take_bd h1 k hk
  omega

set_option maxRecDepth 100000 in
set_option maxHeartbeats 400000 in
theorem l7Down_any (A : Option Addr) (n c : Nat) (zs : List Int) (w : World) (h : IR w 0 w.heap.size A zs) (hr : rowB zs = true) (hn : n = zs.length) :
    Calls Try.prog 44 #[.slice A n c] w (RetS w (downL zs)) := by
  subst hn
  have HL : Hid (zs.length ≤ 1048576) := by have := (rowB_true.1 hr).2; show _ ≤ _; omega
  have H := Lib.hid h
  clear h hr
  go_enter Try.func44, Try.ntmps44
  go_wp2_with fail
  refine (l3Sorted_is A _ c zs _ H.out HL.out rfl).mono ?_
  rintro e w1 ⟨ys, hp, hs, A1, c1, rfl, hi1, hb1⟩
  have HE : Hid (ys.reverse = downL zs) := sorted_down hp hs
  have HI := Lib.hid hi1; have HB := Lib.hid hb1
  clear hp hs hi1 hb1
  go_wp2_with fail
  refine (l1Back_any A1 c1 _ _ ys _ HI.out.toIR).mono ?_
  rintro e w2 ⟨A2, c2, rfl, hi2, hb2⟩
  have HI2 := Lib.hid hi2; have HB2 := Lib.hid hb2
  clear hi2 hb2
  go_wp2
  go_ret
  rw [HE.out] at HI2
  exact ⟨A2, c2, by rw [← HE.out, List.length_reverse]; rfl, HI2.out.wide HB.out.size (Nat.le_refl _) (Nat.le_refl _), below_then HB.out (Nat.le_refl _) HB2.out⟩

set_option maxHeartbeats 400000 in
theorem l7Sum_any (A : Option Addr) (n c lo hi : Nat) (zs : List Int) (w : World) (h : IR w lo hi A zs) (hr : rowB zs = true) (hn : n = zs.length) :
    Calls Try.prog 57 #[.slice A n c] w fun e w' => e = .returned (.int .i64 (sumL zs)) ∧ w' = w := by
  subst hn
  have hl := h.1
  have HR := Lib.hid hr
  clear hr
  go_enter Try.func57, Try.ntmps57
  go_wp2
  go_loop [3, 4] (fun s i => ∃ k : Nat, k ≤ zs.length ∧ i = .int .i64 k ∧ s = .int .i64 (sumL (zs.take k))) (fun _ i => zs.length - (intOf i).toNat)
  case atStart => exact ⟨0, Nat.zero_le _, rfl, rfl⟩
  case round =>
    obtain ⟨k, hk, rfl, rfl⟩ := hrel
    by_cases hlt : k < zs.length
    · obtain ⟨b, off, rfl, _, _, hc⟩ := h.at_ hlt
      have hlt' : (k : Int) < (zs.length : Int) := by omega
      have hb1 := take_bd12 HR.out hk
      have hb2 := (rowB_true.1 HR.out).1 _ (List.getElem_mem hlt)
      have HT : Hid (sumL (zs.take (k + 1)) = sumL (zs.take k) + zs[k]) := by show _ = _; rw [take_next zs hlt, getD_in hlt]
      obtain ⟨T, hT⟩ : ∃ T, sumL (zs.take k) = T := ⟨_, rfl⟩
      rw [hT] at HT hb1
      rw [hT]
      clear hT
      have s1 : IntKind.i64.wrap (T + zs[k]) = T + zs[k] := IntWalk.i64_in _ (by omega)
      go_wp2
      go_round
      case rel => exact ⟨k + 1, by omega, by go_num, by rw [HT.out]⟩
      case measure => simp [intOf]; omega
    · obtain rfl : k = zs.length := by omega
      have hall : zs.take zs.length = zs := List.take_length
      rw [hall]
      go_wp2
      go_ret
      exact ⟨rfl, rfl⟩

theorem ev_no {a b : List Int} {k : Nat} (hk : k ≤ a.length) (h : sumL ((downL b).take k) < sumL ((downL a).take k)) : evB a b = false := by
  unfold evB
  have : ((List.range (a.length + 1)).all fun k => decide (sumL ((downL a).take k) ≤ sumL ((downL b).take k))) = false := by
    rw [List.all_eq_false]
    exact ⟨k, List.mem_range.2 (by omega), by simpa using h⟩
  rw [this, Bool.and_false]
theorem ev_end {a b : List Int} (hl : a.length = b.length) (h : ∀ k, k ≤ a.length → sumL ((downL a).take k) ≤ sumL ((downL b).take k)) : evB a b = (sumL ((downL a).take a.length) == sumL ((downL b).take a.length)) := by
  unfold evB
  have : ((List.range (a.length + 1)).all fun k => decide (sumL ((downL a).take k) ≤ sumL ((downL b).take k))) = true := by
    rw [List.all_eq_true]
    intro k hk
    have := List.mem_range.1 hk
    simpa using h k (by omega)
  rw [this, Bool.and_true, down_sum, show sumL ((downL b).take a.length) = sumL b by rw [hl]; exact down_sum b]
  cases h : decide (sumL a = sumL b) with
  | true => exact (beq_iff_eq.2 (of_decide_eq_true h)).symm
  | false => exact (beq_eq_false_iff_ne.2 (of_decide_eq_false h)).symm

set_option maxHeartbeats 1000000 in
theorem l7Is_any (A0 : Option Addr) (c0 : Nat) (a : List Int) (A1 : Option Addr) (c1 : Nat) (b : List Int) (w : World) (h0 : IR w 0 w.heap.size A0 a) (h1 : IR w 0 w.heap.size A1 b) (ra : rowB a = true) (rb : rowB b = true) (hl : a.length = b.length) :
    Calls Try.prog 35 #[.slice A0 a.length c0, .slice A1 b.length c1] w fun e w' => e = .returned (.bool (evB a b)) ∧ Below w.heap.size w w' := by
  have H0 := Lib.hid h0; have H1 := Lib.hid h1; have RA := Lib.hid ra; have RB := Lib.hid rb; have HL := Lib.hid hl
  have HX : Hid ((downL a).length = a.length) := down_len a
  have HY : Hid ((downL b).length = a.length) := (down_len b).trans hl.symm
  have HXR := Lib.hid (down_row ra); have HYR := Lib.hid (down_row rb)
  clear h0 h1 ra rb hl
  go_enter Try.func35, Try.ntmps35
  go_wp2_with fail
  refine (l7Down_any A0 _ c0 a _ H0.out RA.out rfl).mono ?_
  rintro e w1 ⟨A2, c2, rfl, i2, b2⟩
  replace H1 := Lib.hid (H1.out.grow b2)
  have I2 := Lib.hid i2; have B2 := Lib.hid b2
  clear i2 b2 H0
  go_wp2_with fail
  refine (l7Down_any A1 _ c1 b _ H1.out.toAll RB.out rfl).mono ?_
  rintro e w2 ⟨A3, c3, rfl, i3, b3⟩
  replace I2 := Lib.hid (I2.out.toIR.grow b3)
  have I3 := Lib.hid i3.toIR; have B3 := Lib.hid (below_then B2.out (Nat.le_refl _) b3)
  clear i3 b3 H1 B2
  have hn12 := (rowB_true.1 RA.out).2.2
  obtain ⟨n, hn⟩ : ∃ n, a.length = n := ⟨_, rfl⟩
  rw [hn] at HX HY hn12
  rw [HX.out, HY.out]
  have HN := Lib.hid hn
  clear hn
  go_wp2
  go_loop [7, 8, 9] (fun l r i => ∃ k : Nat, k ≤ n ∧ i = .int .i64 k ∧ l = .int .i64 (sumL ((downL a).take k)) ∧ r = .int .i64 (sumL ((downL b).take k)) ∧ Hid (∀ j, j ≤ k → sumL ((downL a).take j) ≤ sumL ((downL b).take j))) (fun _ _ i => n - (intOf i).toNat)
  case atStart => exact ⟨0, Nat.zero_le _, rfl, rfl, rfl, Lib.hid (fun j hj => (show j = 0 by omega) ▸ Int.le_refl _)⟩
  case round =>
    obtain ⟨k, hk, rfl, rfl, rfl, hall⟩ := hrel
    by_cases hlt : k < n
    · have hx : k < (downL a).length := by rw [HX.out]; exact hlt
      have hy : k < (downL b).length := by rw [HY.out]; exact hlt
      obtain ⟨ba, oa, rfl, _, _, hca⟩ := I2.out.at_ hx
      obtain ⟨bb, ob, rfl, _, _, hcb⟩ := I3.out.at_ hy
      have hlt' : (k : Int) < (n : Int) := by omega
      have g1 := take_bd12 HXR.out (k := k) (by omega)
      have g2 := take_bd12 HYR.out (k := k) (by omega)
      have g3 := (rowB_true.1 HXR.out).1 _ (List.getElem_mem hx)
      have g4 := (rowB_true.1 HYR.out).1 _ (List.getElem_mem hy)
      have t1 := take_next (downL a) hx
      have t2 := take_next (downL b) hy
      rw [getD_in hx] at t1
      rw [getD_in hy] at t2
      have HLE := Lib.hid (hall.out k (Nat.le_refl _))
      have HNO := Lib.hid (fun h => ev_no (a := a) (b := b) (k := k + 1) (by rw [HN.out]; omega) h)
      obtain ⟨T, hT⟩ : ∃ T, sumL ((downL a).take k) = T := ⟨_, rfl⟩
      obtain ⟨U, hU⟩ : ∃ U, sumL ((downL b).take k) = U := ⟨_, rfl⟩
      obtain ⟨x, hxx⟩ : ∃ x, (downL a)[k] = x := ⟨_, rfl⟩
      obtain ⟨y, hyy⟩ : ∃ y, (downL b)[k] = y := ⟨_, rfl⟩
      rw [hT] at t1 g1
      rw [hU] at t2 g2
      rw [hxx] at t1 g3 hca
      rw [hyy] at t2 g4 hcb
      rw [hT, hU]
      have HT1 := Lib.hid t1; have HT2 := Lib.hid t2
      clear hT hU hxx hyy t1 t2 hx hy
      have s1 : IntKind.i64.wrap (T + x) = T + x := IntWalk.i64_in _ (by omega)
      have s2 : IntKind.i64.wrap (U + y) = U + y := IntWalk.i64_in _ (by omega)
      by_cases hgt : U + y < T + x
      · have HE := Lib.hid (HNO.out (by rw [HT1.out, HT2.out]; exact hgt))
        go_wp2
        go_ret
        exact ⟨ret_bool HE.out.symm, B3.out⟩
      · have hgt' : ¬ T + x > U + y := by omega
        go_wp2
        go_round
        case rel => exact ⟨k + 1, by omega, by go_num, by rw [HT1.out], by rw [HT2.out], Lib.hid (fun j hj => by
          by_cases e : j = k + 1
          · subst e; rw [HT1.out, HT2.out]; omega
          · exact hall.out j (by omega))⟩
        case measure => simp [intOf]; omega
    · obtain rfl : k = n := by omega
      have HE := Lib.hid (ev_end (a := a) (b := b) HL.out (by rw [HN.out]; exact hall.out))
      rw [HN.out] at HE
      go_wp2
      go_ret
      exact ⟨ret_bool HE.out.symm, B3.out⟩

set_option maxHeartbeats 1000000 in
theorem specEvenIs_any (A0 : Option Addr) (c0 : Nat) (a : List Int) (A1 : Option Addr) (c1 : Nat) (b : List Int) (w : World) (h0 : IR w 0 w.heap.size A0 a) (h1 : IR w 0 w.heap.size A1 b) :
    Calls Try.prog 12 #[.slice A0 a.length c0, .slice A1 b.length c1] w fun e w' => e = .returned (.bool (evenIsB a b)) ∧ Below w.heap.size w w' := by
  have H0 := Lib.hid h0; have H1 := Lib.hid h1
  clear h0 h1
  cases ht : twoB a b with
  | false =>
    have HM : Hid (evenIsB a b = false) := by show _ = _; unfold evenIsB; rw [ht]; rfl
    have HT := Lib.hid ht; clear ht
    go_enter Try.func12, Try.ntmps12
    go_wp2_with fail
    refine (l1Two_false _ _ a _ _ b _ _ _ _ _ H0.out H1.out HT.out).mono ?_; rintro e w' ⟨rfl, rfl⟩
    go_wp2
    go_ret
    exact ⟨ret_bool HM.out.symm, Below.refl _ _⟩
  | true =>
    have HM : Hid (evenIsB a b = evB a b) := by show _ = _; unfold evenIsB; rw [ht]; rfl
    have HT := Lib.hid ht; have HTT := Lib.hid (twoB_true ht); clear ht
    go_enter Try.func12, Try.ntmps12
    go_wp2_with fail
    refine (l1Two_true _ _ a _ _ b _ _ _ _ _ H0.out H1.out HT.out).mono ?_; rintro e w' ⟨rfl, rfl⟩
    go_wp2_with fail
    refine (l7Is_any _ _ a _ _ b _ H0.out H1.out HTT.out.1 HTT.out.2.1 HTT.out.2.2).mono ?_; rintro e w2 ⟨rfl, hb⟩
    have HB := Lib.hid hb; clear hb
    obtain ⟨r, hr⟩ : ∃ r, evB a b = r := ⟨_, rfl⟩
    rw [hr] at HM
    rw [hr]
    clear hr
    go_wp2
    go_ret
    exact ⟨ret_bool HM.out.symm, HB.out⟩

set_option maxHeartbeats 400000 in
theorem l7Floor_any (x y : Int) (hy0 : 0 < y) (hy1 : y ≤ 1000) (hx1 : -1000000 ≤ x) (hx2 : x ≤ 1000000) (w : World) : Calls Try.prog 72 #[.int .i64 x, .int .i64 y] w fun e w' => e = .returned (.int .i64 (x / y)) ∧ w = w' := by
  have d1 : -1000000 ≤ x / y := (Int.le_ediv_iff_mul_le hy0).2 (by
    have := Int.mul_le_mul_of_nonneg_left (show (1 : Int) ≤ y by omega) (show (0 : Int) ≤ 1000000 by omega)
    omega)
  have d2 : x / y < 1000001 := Int.ediv_lt_of_lt_mul hy0 (by
    have := Int.mul_le_mul_of_nonneg_left (show (1 : Int) ≤ y by omega) (show (0 : Int) ≤ 1000001 by omega)
    omega)
  have hy : y ≠ 0 := by omega
  have hyb : (y == 0) = false := by rw [beq_eq_false_iff_ne]; exact hy
  by_cases h : x.tmod y < 0
  · have e := floor_neg hy0 h
    have b1 : -1000000 ≤ x.tdiv y := by omega
    have b2 : x.tdiv y ≤ 1000002 := by omega
    have E := Lib.hid e
    clear e d1 d2
    go_enter Try.func72, Try.ntmps72
    go_wp2
    go_ret
    exact ⟨retInt E.out, rfl⟩
  · have e := floor_pos hy0 h
    have b1 : -1000000 ≤ x.tdiv y := by omega
    have b2 : x.tdiv y ≤ 1000002 := by omega
    have E := Lib.hid e
    clear e d1 d2
    go_enter Try.func72, Try.ntmps72
    go_wp2
    go_ret
    exact ⟨retInt E.out, rfl⟩

theorem even_take {n k : Nat} (q r : Int) (hk : k < n) : (evenL n q r).take k ++ [if (k : Int) < r then q + 1 else q] = (evenL n q r).take (k + 1) := by
  have hl : k < (evenL n q r).length := by rw [evenL_len]; exact hk
  rw [← take_snoc _ k hl]
  have := evenL_getD (q := q) (r := r) hk
  rw [getD_in hl] at this
  rw [this]
theorem row_sum {a : List Int} (h : rowB a = true) : -12000 ≤ sumL a ∧ sumL a ≤ 12000 := by
  have := take_bd12 h (k := a.length) (Nat.le_refl _)
  rwa [List.take_length] at this
theorem most_q {a : List Int} (h : rowB a = true) : -1000 ≤ mostQ a ∧ mostQ a ≤ 1000 := by
  obtain ⟨h1, h2, h3⟩ := rowB_true.1 h
  have g := take_bd h1 a.length (Nat.le_refl _)
  rw [List.take_length] at g
  unfold mostQ
  constructor
  · exact (Int.le_ediv_iff_mul_le (by omega)).2 g.1
  · have h4 : sumL a / (a.length : Int) < 1001 := Int.ediv_lt_of_lt_mul (by omega) (by omega)
    omega

set_option maxHeartbeats 1000000 in
theorem l7Most_any (A : Option Addr) (c n : Nat) (a : List Int) (w : World) (h : IR w 0 w.heap.size A a) (ra : rowB a = true) (hn : n = a.length) :
    Calls Try.prog 46 #[.slice A n c] w (RetS w (mostEv a)) := by
  subst hn
  have hlb := (rowB_true.1 ra).2
  have hq := most_q ra
  have hr := most_r (a := a) (by omega)
  have hs := row_sum ra
  have HQ : Hid (sumL a / (a.length : Int) = mostQ a) := rfl
  have HRR : Hid (sumL a - mostQ a * (a.length : Int) = mostR a) := rfl
  have H := Lib.hid h; have RA := Lib.hid ra
  have HML : Hid (mostEv a = evenL a.length (mostQ a) (mostR a)) := rfl
  clear h ra
  obtain ⟨q, hqq⟩ : ∃ q, mostQ a = q := ⟨_, rfl⟩
  obtain ⟨r, hrr⟩ : ∃ r, mostR a = r := ⟨_, rfl⟩
  obtain ⟨m, hm⟩ : ∃ m, a.length = m := ⟨_, rfl⟩
  obtain ⟨S, hS⟩ : ∃ S, sumL a = S := ⟨_, rfl⟩
  rw [hqq, hrr, hm] at HML
  rw [hqq] at HQ hq
  rw [hqq, hrr] at HRR
  rw [hm] at HQ HRR hr hlb
  rw [hrr] at hr
  rw [hS] at HQ HRR hs
  rw [hm, HML.out]
  have HM := Lib.hid hm; have HS := Lib.hid hS
  clear hqq hrr hm hS
  have t1 : IntKind.i64.wrap (q * (m : Int)) = q * (m : Int) := IntWalk.i64_in _ (by have := HRR.out; omega)
  have t2 : IntKind.i64.wrap (S - q * (m : Int)) = r := by rw [IntWalk.i64_in _ (by have := HRR.out; omega)]; exact HRR.out
  have t3 : IntKind.i64.wrap (q + 1) = q + 1 := IntWalk.i64_in _ (by omega)
  go_enter Try.func46, Try.ntmps46
  go_wp2_with fail
  refine (l7Sum_any A _ c _ _ a _ H.out RA.out HM.out.symm).mono ?_
  rintro e w1 ⟨rfl, rfl⟩
  rw [HS.out]
  go_wp2_with fail
  refine (l7Floor_any S (m : Int) (by omega) (by omega) (by omega) (by omega) _).mono ?_
  rintro e w1 ⟨rfl, rfl⟩
  rw [HQ.out]
  go_wp2_with fail
  refine (l7Sum_any A _ c _ _ a _ H.out RA.out HM.out.symm).mono ?_
  rintro e w1 ⟨rfl, rfl⟩
  rw [HS.out]
  go_wp2
  clear t1 t2
  go_loopw [6, 7] (fun v i wr => ∃ k : Nat, k ≤ m ∧ i = .int .i64 (k : Int) ∧ OwnI wr w1.heap.size v ((evenL m q r).take k) ∧ Below w1.heap.size w1 wr) (fun _ i _ => m - (intOf i).toNat)
  case atStart => exact ⟨0, Nat.zero_le _, rfl, OwnI.made w1, (Below.refl _ _).alloc (Nat.le_refl _) _⟩
  case round =>
    obtain ⟨k, hk, rfl, ho, hb⟩ := hrel
    have HO := Lib.hid ho; have HB := Lib.hid hb
    clear ho hb
    by_cases hlt : k < m
    · have hlt' : (k : Int) < (m : Int) := by omega
      have HLn : Hid (((evenL m q r).take k).length < 17592186044416) := by show _ < _; simp; omega
      have HT := Lib.hid (even_take q r hlt)
      by_cases hkr : (k : Int) < r
      · rw [if_pos hkr] at HT
        have HY : Hid (I64 (q + 1)) := ⟨by omega, by omega⟩
        go_wp2_with (at_builtin; refine wpList_push rfl _ _ rfl w1.heap.size _ _ rfl rfl HO.out HLn.out HY.out ?_; intro v1 w2 ho1 hb1; have HO1 := Lib.hid ho1; have HB1 := Lib.hid hb1; clear ho1 hb1)
        rw [HT.out] at HO1
        go_roundw
        case rel => exact ⟨k + 1, by omega, by go_num, HO1.out, HB.out.trans HB1.out⟩
        case measure => simp [intOf]; omega
      · rw [if_neg hkr] at HT
        have HY : Hid (I64 q) := ⟨by omega, by omega⟩
        go_wp2_with (at_builtin; refine wpList_push rfl _ _ rfl w1.heap.size _ _ rfl rfl HO.out HLn.out HY.out ?_; intro v1 w2 ho1 hb1; have HO1 := Lib.hid ho1; have HB1 := Lib.hid hb1; clear ho1 hb1)
        rw [HT.out] at HO1
        go_roundw
        case rel => exact ⟨k + 1, by omega, by go_num, HO1.out, HB.out.trans HB1.out⟩
        case measure => simp [intOf]; omega
    · obtain rfl : k = m := by omega
      have ho := HO.out
      rw [List.take_of_length_le (by rw [evenL_len]; exact Nat.le_refl _)] at ho
      obtain ⟨A', c', rfl, hiw⟩ := ho.iw (by rw [evenL_len]; omega)
      have HI := Lib.hid hiw
      clear hiw ho HO
      go_wp2
      go_ret
      exact ⟨A', c', rfl, HI.out, HB.out⟩

set_option maxHeartbeats 400000 in
theorem specEvenMost_any (A : Option Addr) (c : Nat) (a : List Int) (w : World) (h : IR w 0 w.heap.size A a) :
    Calls Try.prog 22 #[.slice A a.length c] w (RetSB w (mostM a)) := by
  have H := Lib.hid h; clear h
  cases hr : rowB a with
  | false =>
    have HM : Hid (mostM a = none) := by show _ = _; simp [mostM, hr]
    have HR := Lib.hid hr; clear hr
    go_enter Try.func22, Try.ntmps22
    go_wp2_with fail
    refine (specRowIn_false _ _ _ _ a _ H.out HR.out).mono ?_; rintro e w' ⟨rfl, rfl⟩
    go_wp2
    go_ret2
    rw [HM.out]
    exact retSB_none ((Below.refl _ _).alloc (Nat.le_refl _) _)
  | true =>
    have HM : Hid (mostM a = some (mostEv a)) := by show _ = _; simp [mostM, hr]
    have HR := Lib.hid hr; clear hr
    go_enter Try.func22, Try.ntmps22
    go_wp2_with fail
    refine (specRowIn_true _ _ _ _ a _ H.out HR.out).mono ?_; rintro e w' ⟨rfl, rfl⟩
    go_wp2_with fail
    refine (l7Most_any _ _ _ a _ H.out HR.out rfl).mono ?_; rintro e w2 ⟨A2, c2, rfl, hi, hb⟩
    have HI := Lib.hid hi; have HB := Lib.hid hb; clear hi hb
    go_wp2
    go_ret2
    rw [HM.out]
    exact retSB_some rfl HI.out HB.out

set_option maxRecDepth 100000 in
set_option maxHeartbeats 1000000 in
theorem specEvenSteps_any (A : Option Addr) (c : Nat) (a : List Int) (w : World) (h : IR w 0 w.heap.size A a) :
    Calls Try.prog 25 #[.slice A a.length c] w fun e w' => e = .returned (.tuple #[.int .i64 (stepsV a), .bool (rowB a)]) ∧ Below w.heap.size w w' := by
  have H := Lib.hid h; clear h
  cases hr : rowB a with
  | false =>
    have HM : Hid (stepsV a = 0) := by show _ = _; simp [stepsV, hr]
    have HR := Lib.hid hr; clear hr
    go_enter Try.func25, Try.ntmps25
    go_wp2_with fail
    refine (specRowIn_false _ _ _ _ a _ H.out HR.out).mono ?_; rintro e w' ⟨rfl, rfl⟩
    go_wp2
    go_ret2
    rw [HM.out]
    exact ⟨rfl, Below.refl _ _⟩
  | true =>
    have HM : Hid (stepsV a = sumN (fun i => max 0 ((downL a).getD i 0 - (mostEv a).getD i 0)) a.length) := by show _ = _; simp [stepsV, hr, stepsL]
    have hX := down_row hr; have hY := most_row hr
    have HXL : Hid ((downL a).length = a.length) := down_len a
    have HYL : Hid ((mostEv a).length = a.length) := most_len a
    have hlb := (rowB_true.1 hr).2
    have HXR := Lib.hid hX; have HYR := Lib.hid hY
    have HR := Lib.hid hr; clear hr hX hY
    go_enter Try.func25, Try.ntmps25
    go_wp2_with fail
    refine (specRowIn_true _ _ _ _ a _ H.out HR.out).mono ?_; rintro e w' ⟨rfl, rfl⟩
    go_wp2_with fail
    refine (l7Down_any A _ c a _ H.out HR.out rfl).mono ?_
    rintro e w1 ⟨A2, c2, rfl, i2, b2⟩
    replace H := Lib.hid (H.out.grow b2)
    have I2 := Lib.hid i2; have B2 := Lib.hid b2
    clear i2 b2
    go_wp2_with fail
    refine (l7Most_any A c _ a _ H.out.toAll HR.out rfl).mono ?_
    rintro e w2 ⟨A3, c3, rfl, i3, b3⟩
    replace I2 := Lib.hid (I2.out.toIR.grow b3)
    have I3 := Lib.hid i3.toIR; have B3 := Lib.hid (below_then B2.out (Nat.le_refl _) b3)
    clear i3 b3 H B2
    obtain ⟨X, hX⟩ : ∃ X, downL a = X := ⟨_, rfl⟩
    obtain ⟨Y, hY⟩ : ∃ Y, mostEv a = Y := ⟨_, rfl⟩
    obtain ⟨m, hm⟩ : ∃ m, a.length = m := ⟨_, rfl⟩
    rw [hX] at HM HXL HXR I2
    rw [hY] at HM HYL HYR I3
    rw [hm] at HM HXL HYL hlb
    rw [hX, hY, HXL.out, HYL.out]
    clear hX hY hm
    go_wp2
    go_loopw [6, 7] (fun s i wr => ∃ k : Nat, k ≤ m ∧ i = .int .i64 (k : Int) ∧ s = .int .i64 (sumN (fun i => max 0 (X.getD i 0 - Y.getD i 0)) k) ∧ (0 ≤ sumN (fun i => max 0 (X.getD i 0 - Y.getD i 0)) k ∧ sumN (fun i => max 0 (X.getD i 0 - Y.getD i 0)) k ≤ 2000 * (k : Int)) ∧ ∃ d, wr = w2.drewN d) (fun _ i _ => m - (intOf i).toNat)
    case atStart => exact ⟨0, Nat.zero_le _, rfl, rfl, by simp [sumN], 0, rfl⟩
    case round =>
      obtain ⟨k, hk, rfl, rfl, hbd, d, rfl⟩ := hrel
      by_cases hlt : k < m
      · have hx : k < X.length := by rw [HXL.out]; exact hlt
        have hy : k < Y.length := by rw [HYL.out]; exact hlt
        have J2 := I2.out.drewN d
        have J3 := I3.out.drewN d
        obtain ⟨W, hW⟩ : ∃ W, w2.drewN d = W := ⟨_, rfl⟩
        rw [hW] at J2 J3
        have HW := Lib.hid hW
        rw [hW]
        clear hW
        obtain ⟨ba, oa, rfl, _, _, hca⟩ := J2.at_ hx
        obtain ⟨bb, ob, rfl, _, _, hcb⟩ := J3.at_ hy
        have g3 := (rowB_true.1 HXR.out).1 _ (List.getElem_mem hx)
        have g4 := (rowB_true.1 HYR.out).1 _ (List.getElem_mem hy)
        have e1 : sumN (fun i => max 0 (X.getD i 0 - Y.getD i 0)) (k + 1) = sumN (fun i => max 0 (X.getD i 0 - Y.getD i 0)) k + max 0 (X.getD k 0 - Y.getD k 0) := rfl
        rw [getD_in hx, getD_in hy] at e1
        obtain ⟨x, hxx⟩ : ∃ x, X[k] = x := ⟨_, rfl⟩
        obtain ⟨y, hyy⟩ : ∃ y, Y[k] = y := ⟨_, rfl⟩
        obtain ⟨T, hT⟩ : ∃ T, sumN (fun i => max 0 (X.getD i 0 - Y.getD i 0)) k = T := ⟨_, rfl⟩
        rw [hxx, hyy, hT] at e1
        rw [hxx] at g3 hca
        rw [hyy] at g4 hcb
        rw [hT] at hbd
        rw [hT]
        clear hxx hyy hT hx hy J2 J3
        have HE1 := Lib.hid e1
        have hlt' : (k : Int) < (m : Int) := by omega
        have s1 : IntKind.i64.wrap (x - y) = x - y := IntWalk.i64_in _ (by omega)
        have s2 : IntKind.i64.wrap (T + max 0 (x - y)) = T + max 0 (x - y) := IntWalk.i64_in _ (by omega)
        clear e1
        go_wp2
        go_region
        go_wp2
        go_roundw
        case rel => exact ⟨k + 1, by omega, by go_num, by rw [HE1.out], by rw [HE1.out]; omega, d + 1, by rw [← HW.out]; rfl⟩
        case measure => simp [intOf]; omega
      · obtain rfl : k = m := by omega
        go_wp2
        go_ret2
        rw [HM.out]
        exact ⟨rfl, below_drawN B3.out d⟩
end Go.Proofs.Ytkghpmjbclnojab

namespace Go.Proofs.Ytkghpmjbclnojab
open Go.RowKit

theorem at_no1 {f a : List Int} (h : (rowB f && bentB f) = false) : atB f a = false := by unfold atB; rw [h]; rfl
theorem at_no2 {f a : List Int} (h : rowB a = false) : atB f a = false := by unfold atB; rw [h, Bool.and_false]; rfl
theorem at_no3 {f a : List Int} {k : Nat} (hk : k < a.length) (h : inB 0 ((f.length : Int) - 1) a[k] = false) : atB f a = false := by
  unfold atB
  have : (a.all fun x => inB 0 ((f.length : Int) - 1) x) = false := by
    rw [List.all_eq_false]; exact ⟨a[k], List.getElem_mem hk, by simp [h]⟩
  rw [this, Bool.and_false]
theorem at_yes {f a : List Int} (h1 : (rowB f && bentB f) = true) (h2 : rowB a = true) (h3 : ∀ k, k < a.length → inB 0 ((f.length : Int) - 1) (a.getD k 0) = true) : atB f a = true := by
  unfold atB
  have : (a.all fun x => inB 0 ((f.length : Int) - 1) x) = true := by
    rw [List.all_eq_true]
    intro x hx
    obtain ⟨k, hk, rfl⟩ := List.getElem_of_mem hx
    have := h3 k hk
    rwa [getD_in hk] at this
  rw [h1, h2, this]; rfl
theorem sumAt_take (f a : List Int) {k : Nat} (hk : k < a.length) : sumAt f (a.take (k + 1)) = sumAt f (a.take k) + f.getD a[k].toNat 0 := by
  rw [← take_snoc a k hk]
  have : ∀ l m : List Int, sumAt f (l ++ m) = sumAt f l + sumAt f m := by
    intro l m
    induction l with
    | nil => simp [sumAt]
    | cons x l ih => simp only [List.cons_append, sumAt]; rw [ih]; omega
  rw [this]
  simp [sumAt]
theorem sumAt_bd {f : List Int} (hf : rowB f = true) : ∀ l : List Int, -1000 * (l.length : Int) ≤ sumAt f l ∧ sumAt f l ≤ 1000 * (l.length : Int)
  | [] => by simp [sumAt]
  | x :: l => by
    have ih := sumAt_bd hf l
    have g : -1000 ≤ f.getD x.toNat 0 ∧ f.getD x.toNat 0 ≤ 1000 := by
      by_cases h : x.toNat < f.length
      · exact row_getD hf _ h
      · have e : f.getD x.toNat 0 = 0 := by simp only [List.getD]; rw [List.getElem?_eq_none (by omega)]; rfl
        rw [e]; omega
    simp only [sumAt, List.length_cons]
    omega

set_option maxHeartbeats 2000000 in
theorem specEvenSum_any (A0 : Option Addr) (c0 : Nat) (f : List Int) (A1 : Option Addr) (c1 : Nat) (a : List Int) (w : World) (h0 : IR w 0 w.heap.size A0 f) (h1 : IR w 0 w.heap.size A1 a) :
    Calls Try.prog 27 #[.slice A0 f.length c0, .slice A1 a.length c1] w fun e w' => e = .returned (.tuple #[.int .i64 (evenSumL f a), .bool (atB f a)]) ∧ Below w.heap.size w w' := by
  have H0 := Lib.hid h0; have H1 := Lib.hid h1
  clear h0 h1
  have HNO : Hid (atB f a = false → evenSumL f a = 0) := fun h => by unfold evenSumL; rw [h]; rfl
  cases hb : (rowB f && bentB f) with
  | false =>
    have HM := Lib.hid (at_no1 (a := a) hb)
    have HB := Lib.hid hb; clear hb
    go_enter Try.func27, Try.ntmps27
    go_wp2_with fail
    refine (specBent_of _ _ _ _ f _ H0.out HB.out).mono ?_; rintro e w1 ⟨rfl, b1⟩
    have B1 := Lib.hid b1; clear b1
    go_wp2
    go_ret2
    rw [HNO.out HM.out, HM.out]
    exact ⟨rfl, B1.out⟩
  | true =>
  have HB := Lib.hid hb
  cases ha : rowB a with
  | false =>
    have HM := Lib.hid (at_no2 (f := f) ha)
    have HA := Lib.hid ha; clear hb ha
    go_enter Try.func27, Try.ntmps27
    go_wp2_with fail
    refine (specBent_of _ _ _ _ f _ H0.out HB.out).mono ?_; rintro e w1 ⟨rfl, b1⟩
    have B1 := Lib.hid b1; replace H1 := Lib.hid (H1.out.grow b1); clear b1
    go_wp2_with fail
    refine (specRowIn_false _ _ _ _ a _ H1.out HA.out).mono ?_; rintro e w' ⟨rfl, rfl⟩
    go_wp2
    go_ret2
    rw [HNO.out HM.out, HM.out]
    exact ⟨rfl, B1.out⟩
  | true =>
    have hf : rowB f = true := by rw [Bool.and_eq_true] at hb; exact hb.1
    have HA := Lib.hid ha; have HF := Lib.hid hf
    have hlf := (rowB_true.1 hf).2; have hla := (rowB_true.1 ha).2
    have HY : Hid (atB f a = true → evenSumL f a = sumAt f a) := fun h => by unfold evenSumL; rw [h]; rfl
    clear hb ha hf
    go_enter Try.func27, Try.ntmps27
    go_wp2_with fail
    refine (specBent_of _ _ _ _ f _ H0.out HB.out).mono ?_; rintro e w1 ⟨rfl, b1⟩
    have B1 := Lib.hid b1; replace H1 := Lib.hid (H1.out.grow b1); replace H0 := Lib.hid (H0.out.grow b1); clear b1
    go_wp2_with fail
    refine (specRowIn_true _ _ _ _ a _ H1.out HA.out).mono ?_; rintro e w' ⟨rfl, rfl⟩
    go_wp2
    obtain ⟨n, hn⟩ : ∃ n, a.length = n := ⟨_, rfl⟩
    obtain ⟨m, hm⟩ : ∃ m, f.length = m := ⟨_, rfl⟩
    have HN := Lib.hid hn; have HM := Lib.hid hm
    rw [hm] at hlf
    rw [hn] at hla
    rw [hn, hm]
    clear hn hm
    go_loop [6, 7] (fun s i => ∃ k : Nat, k ≤ n ∧ i = .int .i64 (k : Int) ∧ s = .int .i64 (sumAt f (a.take k)) ∧ Hid (∀ j, j < k → inB 0 ((m : Int) - 1) (a.getD j 0) = true)) (fun _ i => n - (intOf i).toNat)
    case atStart => exact ⟨0, Nat.zero_le _, rfl, rfl, Lib.hid (fun j hj => by omega)⟩
    case round =>
      obtain ⟨k, hk, rfl, rfl, hall⟩ := hrel
      by_cases hlt : k < n
      · have hx : k < a.length := by rw [HN.out]; exact hlt
        have hlt' : (k : Int) < (n : Int) := by omega
        obtain ⟨ba, oa, rfl, _, _, hca⟩ := H1.out.at_ hx
        have e1 := sumAt_take f a hx
        have g1 := sumAt_bd HF.out (a.take k)
        have HD : Hid (a.getD k 0 = a[k]) := getD_in hx
        have HN3 := Lib.hid (fun h => at_no3 (f := f) (a := a) hx h)
        obtain ⟨x, hxx⟩ : ∃ x, a[k] = x := ⟨_, rfl⟩
        obtain ⟨T, hT⟩ : ∃ T, sumAt f (a.take k) = T := ⟨_, rfl⟩
        have hmin : ((a.take k).length : Int) ≤ 12 := by rw [List.length_take]; omega
        rw [hxx, hT] at e1
        rw [hxx] at hca HD HN3
        rw [hT] at g1
        rw [HM.out] at HN3
        rw [hT]
        have s0 : IntKind.i64.wrap ((m : Int) - 1) = (m : Int) - 1 := IntWalk.i64_in _ (by omega)
        cases hin : inB 0 ((m : Int) - 1) x with
        | false =>
          have HI := Lib.hid hin
          have HFA := Lib.hid (HN3.out hin)
          clear hin hxx hT e1
          go_wp2_with fail
          refine (l6In_false _ _ _ _ HI.out).mono ?_; rintro e w' ⟨rfl, rfl⟩
          go_wp2
          go_ret2
          rw [HNO.out HFA.out, HFA.out]
          exact ⟨rfl, B1.out⟩
        | true =>
          have HI := Lib.hid hin
          have hin' := inB_true.1 hin
          have hxm : x.toNat < f.length := by rw [HM.out]; omega
          obtain ⟨bf, of, rfl, _, _, hcf⟩ := H0.out.at_ hxm
          have g2 := row_getD HF.out _ hxm
          rw [getD_in hxm] at e1 g2
          obtain ⟨y, hyy⟩ : ∃ y, f[x.toNat] = y := ⟨_, rfl⟩
          rw [hyy] at e1 g2 hcf
          have HE1 := Lib.hid e1
          have x0 : 0 ≤ x := hin'.1
          have x1 : x < (m : Int) := by omega
          have s1 : IntKind.i64.wrap (T + y) = T + y := IntWalk.i64_in _ (by omega)
          clear hin hin' hxx hT e1 hyy hxm hx
          go_wp2_with fail
          refine (l6In_true _ _ _ _ HI.out).mono ?_; rintro e w' ⟨rfl, rfl⟩
          go_wp2
          go_round
          case rel => exact ⟨k + 1, by omega, by go_num, by rw [HE1.out], Lib.hid (fun j hj => by
            by_cases e : j = k
            · subst e; rw [HD.out]; exact HI.out
            · exact hall.out j (by omega))⟩
          case measure => simp [intOf]; omega
      · obtain rfl : k = n := by omega
        have HT := Lib.hid (at_yes HB.out HA.out (by rw [HN.out, HM.out]; exact hall.out))
        have HTK : Hid (a.take k = a) := by show _ = _; rw [← HN.out]; exact List.take_length
        rw [HTK.out]
        go_wp2
        go_ret2
        rw [HY.out HT.out, HT.out]
        exact ⟨rfl, B1.out⟩

theorem meet_take' (a b : List Int) {k : Nat} (hk : k < a.length) : (meetL a b).take k ++ [meetTo a b (k + 1) - meetTo a b k] = (meetL a b).take (k + 1) := by
  have hl : k < (meetL a b).length := by rw [meet_len]; exact hk
  rw [← take_snoc _ k hl]
  have := meet_getD a b hk
  rw [getD_in hl] at this
  rw [this]
theorem topS_bd {a : List Int} (h : rowB a = true) {k : Nat} (hk : k ≤ a.length) : -12000 ≤ topS a k ∧ topS a k ≤ 12000 := take_bd12 (down_row h) (by rw [down_len]; exact hk)
theorem meet_no {a b : List Int} (h : twoB a b = false) : meetM a b = none := by unfold meetM; rw [h]; rfl
theorem meet_no2 {a b : List Int} (h : ¬ sumL a = sumL b) : meetM a b = none := by unfold meetM; rw [decide_eq_false h, Bool.and_false]; rfl
theorem meet_row {a b : List Int} (h : twoB a b = true) (hs : sumL a = sumL b) : rowB (meetL a b) = true :=
  ev_row (meet_ev (twoB_true h).2.2 hs).1 (twoB_true h).1
theorem meet_yes {a b : List Int} (h : twoB a b = true) (hs : sumL a = sumL b) : meetM a b = some (meetL a b) := by
  unfold meetM; rw [h, decide_eq_true hs]
  exact doneM_row (meet_row h hs)

set_option maxHeartbeats 2000000 in
theorem specEvenMeet_any (A0 : Option Addr) (c0 : Nat) (a : List Int) (A1 : Option Addr) (c1 : Nat) (b : List Int) (w : World) (h0 : IR w 0 w.heap.size A0 a) (h1 : IR w 0 w.heap.size A1 b) :
    Calls Try.prog 31 #[.slice A0 a.length c0, .slice A1 b.length c1] w (RetSB w (meetM a b)) := by
  have H0 := Lib.hid h0; have H1 := Lib.hid h1
  clear h0 h1
  cases ht : twoB a b with
  | false =>
    have HM := Lib.hid (meet_no ht)
    have HT := Lib.hid ht; clear ht
    go_enter Try.func31, Try.ntmps31
    go_wp2_with fail
    refine (l1Two_false _ _ a _ _ b _ _ _ _ _ H0.out H1.out HT.out).mono ?_; rintro e w' ⟨rfl, rfl⟩
    go_wp2
    go_ret2
    rw [HM.out]
    exact retSB_none ((Below.refl _ _).alloc (Nat.le_refl _) _)
  | true =>
    have HT := Lib.hid ht; have HTT := Lib.hid (twoB_true ht)
    by_cases hs : sumL a = sumL b
    · have HM := Lib.hid (meet_yes ht hs)
      have hsb : (sumL a != sumL b) = false := by simp [hs]
      have HRM := Lib.hid (meet_row ht hs)
      have hla := (rowB_true.1 HTT.out.1).2
      have HX : Hid ((downL a).length = a.length) := down_len a
      have HY : Hid ((downL b).length = a.length) := (down_len b).trans HTT.out.2.2.symm
      have HXR := Lib.hid (down_row HTT.out.1); have HYR := Lib.hid (down_row HTT.out.2.1)
      have HML : Hid ((meetL a b).length = a.length) := meet_len a b
      clear ht hs
      go_enter Try.func31, Try.ntmps31
      go_wp2_with fail
      refine (l1Two_true _ _ a _ _ b _ _ _ _ _ H0.out H1.out HT.out).mono ?_; rintro e w' ⟨rfl, rfl⟩
      go_wp2_with fail
      refine (l7Sum_any A0 _ c0 _ _ a _ H0.out HTT.out.1 rfl).mono ?_
      rintro e w1 ⟨rfl, rfl⟩
      go_wp2_with fail
      refine (l7Sum_any A1 _ c1 _ _ b _ H1.out HTT.out.2.1 rfl).mono ?_
      rintro e w1 ⟨rfl, rfl⟩
      go_wp2_with fail
      refine (l7Down_any A0 _ c0 a _ H0.out HTT.out.1 rfl).mono ?_
      rintro e w2 ⟨A2, c2, rfl, i2, b2⟩
      replace H1 := Lib.hid (H1.out.grow b2)
      have I2 := Lib.hid i2; have B2 := Lib.hid b2
      clear i2 b2 H0
      go_wp2_with fail
      refine (l7Down_any A1 _ c1 b _ H1.out.toAll HTT.out.2.1 rfl).mono ?_
      rintro e w3 ⟨A3, c3, rfl, i3, b3⟩
      replace I2 := Lib.hid (I2.out.toIR.grow b3)
      have I3 := Lib.hid i3.toIR; have B3 := Lib.hid (below_then B2.out (Nat.le_refl _) b3)
      clear i3 b3 H1 B2
      obtain ⟨n, hn⟩ : ∃ n, a.length = n := ⟨_, rfl⟩
      rw [hn] at HX HY HML hla
      rw [HX.out, HY.out]
      have HN := Lib.hid hn
      clear hn
      go_wp2
      go_loopw [8, 9, 10, 11, 12] (fun v l r d i wr => ∃ k : Nat, k ≤ n ∧ i = .int .i64 k ∧ l = .int .i64 (topS a k) ∧ r = .int .i64 (topS b k) ∧ d = .int .i64 (meetTo a b k) ∧ OwnI wr w3.heap.size v ((meetL a b).take k) ∧ Below w3.heap.size w3 wr) (fun _ _ _ _ i _ => n - (intOf i).toNat)
      case atStart => exact ⟨0, Nat.zero_le _, rfl, by rw [topS_zero], by rw [topS_zero], by unfold meetTo; rw [topS_zero, topS_zero]; rfl, OwnI.made w3, (Below.refl _ _).alloc (Nat.le_refl _) _⟩
      case round =>
        obtain ⟨k, hk, rfl, rfl, rfl, rfl, ho, hb⟩ := hrel
        have HO := Lib.hid ho; have HB := Lib.hid hb
        clear ho hb
        by_cases hlt : k < n
        · have hx : k < (downL a).length := by rw [HX.out]; exact hlt
          have hy : k < (downL b).length := by rw [HY.out]; exact hlt
          obtain ⟨ba, oa, rfl, _, _, hca⟩ := (I2.out.below HB.out I2.out.2.2.1).at_ hx
          obtain ⟨bb, ob, rfl, _, _, hcb⟩ := (I3.out.below HB.out I3.out.2.2.1).at_ hy
          have hlt' : (k : Int) < (n : Int) := by omega
          have g1 := topS_bd HTT.out.1 (k := k) (by rw [HN.out]; exact hk)
          have g2 := topS_bd HTT.out.2.1 (k := k) (by rw [← HTT.out.2.2, HN.out]; exact hk)
          have g3 := (rowB_true.1 HXR.out).1 _ (List.getElem_mem hx)
          have g4 := (rowB_true.1 HYR.out).1 _ (List.getElem_mem hy)
          have t1 := topS_next (a := a) (k := k) (by rw [HN.out]; exact hlt)
          have t2 := topS_next (a := b) (k := k) (by rw [← HTT.out.2.2, HN.out]; exact hlt)
          rw [getD_in hx] at t1
          rw [getD_in hy] at t2
          have HTK := Lib.hid (meet_take' a b (k := k) (by rw [HN.out]; exact hlt))
          have hmk : meetTo a b k = min (topS a k) (topS b k) := rfl
          have hmk1 : meetTo a b (k + 1) = min (topS a (k + 1)) (topS b (k + 1)) := rfl
          obtain ⟨T, hT⟩ : ∃ T, topS a k = T := ⟨_, rfl⟩
          obtain ⟨U, hU⟩ : ∃ U, topS b k = U := ⟨_, rfl⟩
          obtain ⟨D, hD⟩ : ∃ D, meetTo a b k = D := ⟨_, rfl⟩
          obtain ⟨x, hxx⟩ : ∃ x, (downL a)[k] = x := ⟨_, rfl⟩
          obtain ⟨y, hyy⟩ : ∃ y, (downL b)[k] = y := ⟨_, rfl⟩
          rw [hD, hT, hU] at hmk
          rw [t1, t2, hT, hU, hxx, hyy] at hmk1
          rw [hT] at t1 g1
          rw [hU] at t2 g2
          rw [hxx] at t1 g3 hca
          rw [hyy] at t2 g4 hcb
          rw [hD, hmk1] at HTK
          rw [hT, hU, hD]
          have HT1 := Lib.hid t1; have HT2 := Lib.hid t2; have HM1 := Lib.hid hmk1
          have hLn : Hid (((meetL a b).take k).length < 17592186044416) := by show _ < _; simp; omega
          have s1 : IntKind.i64.wrap (T + x) = T + x := IntWalk.i64_in _ (by omega)
          have s2 : IntKind.i64.wrap (U + y) = U + y := IntWalk.i64_in _ (by omega)
          have s3 : IntKind.i64.wrap (min (T + x) (U + y) - D) = min (T + x) (U + y) - D := IntWalk.i64_in _ (by omega)
          have HY64 : Hid (I64 (min (T + x) (U + y) - D)) := ⟨by omega, by omega⟩
          clear hT hU hD hxx hyy t1 t2 hx hy hmk hmk1
          go_wp2_with (at_builtin; refine wpList_push rfl _ _ rfl w3.heap.size _ _ rfl rfl HO.out hLn.out HY64.out ?_; intro v4 w4 ho4 hb4; have HO4 := Lib.hid ho4; have HB4 := Lib.hid hb4; clear ho4 hb4)
          rw [HTK.out] at HO4
          go_roundw
          case rel => exact ⟨k + 1, by omega, by go_num, by rw [HT1.out], by rw [HT2.out], by rw [HM1.out], HO4.out, HB.out.trans HB4.out⟩
          case measure => simp [intOf]; omega
        · obtain rfl : k = n := by omega
          have ho := HO.out
          rw [List.take_of_length_le (by rw [HML.out]; exact Nat.le_refl _)] at ho
          obtain ⟨A', c', rfl, hiw⟩ := ho.iw (by rw [HML.out]; omega)
          have HI := Lib.hid hiw
          clear hiw ho HO
          go_wp2_with fail
          refine (l1Done_true _ _ _ _ _ _ HI.out.toIR HRM.out).mono ?_
          rintro e w' ⟨rfl, rfl⟩
          go_wp2
          go_ret2
          rw [HM.out]
          exact retSB_some rfl (HI.out.wide B3.out.size (Nat.le_refl _) (Nat.le_refl _)) (B3.out.trans (HB.out.mono B3.out.size))
    · have HM := Lib.hid (meet_no2 hs)
      have hsb : (sumL a != sumL b) = true := by simp [hs]
      clear ht hs
      go_enter Try.func31, Try.ntmps31
      go_wp2_with fail
      refine (l1Two_true _ _ a _ _ b _ _ _ _ _ H0.out H1.out HT.out).mono ?_; rintro e w' ⟨rfl, rfl⟩
      go_wp2_with fail
      refine (l7Sum_any A0 _ c0 _ _ a _ H0.out HTT.out.1 rfl).mono ?_
      rintro e w1 ⟨rfl, rfl⟩
      go_wp2_with fail
      refine (l7Sum_any A1 _ c1 _ _ b _ H1.out HTT.out.2.1 rfl).mono ?_
      rintro e w1 ⟨rfl, rfl⟩
      go_wp2
      go_ret2
      rw [HM.out]
      exact retSB_none ((Below.refl _ _).alloc (Nat.le_refl _) _)
end Go.Proofs.Ytkghpmjbclnojab
