/-
  Chapter 7 of the model up to EvenMeet. Conditions: the lists' cells are there.
-/
import Derived.Test.YtkghpmjbclnojaaEvM
import Derived.Test.YtkghpmjbclnojaaMgS
import Derived.Test.YtkghpmjbclnojaaImp4
import Derived.Test.YtkghpmjbclnojaaLn5
namespace Go.Proofs.Ytkghpmjbclnojaa
open Go.RowKit

theorem sorted_pairs {l : List Int} (h : Sorted l) : l.Pairwise (fun x y => x ≤ y) := by
  have p : ∀ d i, i + d < l.length → l.getD i 0 ≤ l.getD (i + d) 0 := by
    intro d
    induction d with
    | zero => intro i _; exact Int.le_refl _
    | succ d ih => intro i hi; exact Int.le_trans (ih i (by omega)) (h (i + d) (by omega))
  rw [List.pairwise_iff_getElem]
  intro i j hi hj hij
  have := p (j - i) i (by omega)
  rw [show i + (j - i) = j by omega, getD_in hi, getD_in hj] at this
  exact this
theorem sorted_down {zs ys : List Int} (hp : ys.Perm zs) (hs : Sorted ys) : ys.reverse = downL zs :=
  (down_of ((List.reverse_perm _).trans hp) (dn_pairs.2 (List.pairwise_reverse.2 (sorted_pairs hs)))).symm
theorem down_row {zs : List Int} (h : rowB zs = true) : rowB (downL zs) = true := by
  obtain ⟨h1, h2, h3⟩ := rowB_true.1 h
  exact rowB_true.2 ⟨fun z hz => h1 z ((down_perm zs).mem_iff.1 hz), by rw [down_len]; exact h2, by rw [down_len]; exact h3⟩
theorem take_bd {l : List Int} (h : ∀ z, z ∈ l → -1000 ≤ z ∧ z ≤ 1000) : ∀ k : Nat, k ≤ l.length → -1000 * (k : Int) ≤ sumL (l.take k) ∧ sumL (l.take k) ≤ 1000 * (k : Int) := by
  intro k
  induction k with
  | zero => intro _; simp [sumL]
  | succ k ih =>
    intro hk
    obtain ⟨h1, h2⟩ := ih (by omega)
    have g := h _ (List.getElem_mem (show k < l.length by omega))
    rw [take_next l (by omega), getD_in (by omega)]
    omega
theorem take_bd12 {l : List Int} (h : rowB l = true) {k : Nat} (hk : k ≤ l.length) : -12000 ≤ sumL (l.take k) ∧ sumL (l.take k) ≤ 12000 := by
  obtain ⟨h1, h2, h3⟩ := rowB_true.1 h
  have := take_bd h1 k hk
  omega

set_option maxRecDepth 100000 in
set_option maxHeartbeats 400000 in
theorem l7Down_any (A : Option Addr) (n c : Nat) (zs : List Int) (w : World) (h : IR w 0 w.heap.size A zs) (hr : rowB zs = true) (hn : n = zs.length) :
    Calls Try.prog 96 #[.slice A n c] w (RetS w (downL zs)) := by
  subst hn
  have HL : Hid (zs.length ≤ 1048576) := by have := (rowB_true.1 hr).2; show _ ≤ _; omega
  have H := Lib.hid h
  clear h hr
  go_enter Try.func96, Try.ntmps96
  go_wp2_with fail
  refine (l3Sorted_is A _ c zs _ H.out HL.out rfl).mono ?_
  rintro e w1 ⟨ys, hp, hs, A1, c1, rfl, hi1, hb1⟩
  have HE : Hid (ys.reverse = downL zs) := sorted_down hp hs
  have HI := Lib.hid hi1; have HB := Lib.hid hb1
  clear hp hs hi1 hb1
  go_wp2_with fail
  refine (l1Back_any A1 c1 _ _ ys _ HI.out.toIR).mono ?_
  rintro e w2 ⟨A2, c2, rfl, hi2, hb2⟩
  have HI2 := Lib.hid hi2; have HB2 := Lib.hid hb2
  clear hi2 hb2
  go_wp2
  go_ret
  rw [HE.out] at HI2
  exact ⟨A2, c2, by rw [← HE.out, List.length_reverse]; rfl, HI2.out.wide HB.out.size (Nat.le_refl _) (Nat.le_refl _), below_then HB.out (Nat.le_refl _) HB2.out⟩

theorem ev_no {a b : List Int} {k : Nat} (hk : k ≤ a.length) (h : sumL ((downL b).take k) < sumL ((downL a).take k)) : evB a b = false := by
  unfold evB
  have : ((List.range (a.length + 1)).all fun k => decide (sumL ((downL a).take k) ≤ sumL ((downL b).take k))) = false := by
    rw [List.all_eq_false]
    exact ⟨k, List.mem_range.2 (by omega), by simpa using h⟩
  rw [this, Bool.and_false]
theorem ev_end {a b : List Int} (hl : a.length = b.length) (h : ∀ k, k ≤ a.length → sumL ((downL a).take k) ≤ sumL ((downL b).take k)) : evB a b = (sumL ((downL a).take a.length) == sumL ((downL b).take a.length)) := by
  unfold evB
  have : ((List.range (a.length + 1)).all fun k => decide (sumL ((downL a).take k) ≤ sumL ((downL b).take k))) = true := by
    rw [List.all_eq_true]
    intro k hk
    have := List.mem_range.1 hk
    simpa using h k (by omega)
  rw [this, Bool.and_true, down_sum, show sumL ((downL b).take a.length) = sumL b by rw [hl]; exact down_sum b]
  cases h : decide (sumL a = sumL b) with
  | true => exact (beq_iff_eq.2 (of_decide_eq_true h)).symm
  | false => exact (beq_eq_false_iff_ne.2 (of_decide_eq_false h)).symm

set_option maxHeartbeats 1000000 in
theorem l7Is_any (A0 : Option Addr) (c0 : Nat) (a : List Int) (A1 : Option Addr) (c1 : Nat) (b : List Int) (w : World) (h0 : IR w 0 w.heap.size A0 a) (h1 : IR w 0 w.heap.size A1 b) (ra : rowB a = true) (rb : rowB b = true) (hl : a.length = b.length) :
    Calls Try.prog 69 #[.slice A0 a.length c0, .slice A1 b.length c1] w fun e w' => e = .returned (.bool (evB a b)) ∧ Below w.heap.size w w' := by
  have H0 := Lib.hid h0; have H1 := Lib.hid h1; have RA := Lib.hid ra; have RB := Lib.hid rb; have HL := Lib.hid hl
  have HX : Hid ((downL a).length = a.length) := down_len a
  have HY : Hid ((downL b).length = a.length) := (down_len b).trans hl.symm
  have HXR := Lib.hid (down_row ra); have HYR := Lib.hid (down_row rb)
  clear h0 h1 ra rb hl
  go_enter Try.func69, Try.ntmps69
  go_wp2_with fail
  refine (l7Down_any A0 _ c0 a _ H0.out RA.out rfl).mono ?_
  rintro e w1 ⟨A2, c2, rfl, i2, b2⟩
  replace H1 := Lib.hid (H1.out.grow b2)
  have I2 := Lib.hid i2; have B2 := Lib.hid b2
  clear i2 b2 H0
  go_wp2_with fail
  refine (l7Down_any A1 _ c1 b _ H1.out.toAll RB.out rfl).mono ?_
  rintro e w2 ⟨A3, c3, rfl, i3, b3⟩
  replace I2 := Lib.hid (I2.out.toIR.grow b3)
  have I3 := Lib.hid i3.toIR; have B3 := Lib.hid (below_then B2.out (Nat.le_refl _) b3)
  clear i3 b3 H1 B2
  have hn12 := (rowB_true.1 RA.out).2.2
  obtain ⟨n, hn⟩ : ∃ n, a.length = n := ⟨_, rfl⟩
  rw [hn] at HX HY hn12
  rw [HX.out, HY.out]
  have HN := Lib.hid hn
  clear hn
  go_wp2
  go_loop [7, 8, 9] (fun l r i => ∃ k : Nat, k ≤ n ∧ i = .int .i64 k ∧ l = .int .i64 (sumL ((downL a).take k)) ∧ r = .int .i64 (sumL ((downL b).take k)) ∧ Hid (∀ j, j ≤ k → sumL ((downL a).take j) ≤ sumL ((downL b).take j))) (fun _ _ i => n - (intOf i).toNat)
  case atStart => exact ⟨0, Nat.zero_le _, rfl, rfl, rfl, Lib.hid (fun j hj => (show j = 0 by omega) ▸ Int.le_refl _)⟩
  case round =>
    obtain ⟨k, hk, rfl, rfl, rfl, hall⟩ := hrel
    by_cases hlt : k < n
    · have hx : k < (downL a).length := by rw [HX.out]; exact hlt
      have hy : k < (downL b).length := by rw [HY.out]; exact hlt
      obtain ⟨ba, oa, rfl, _, _, hca⟩ := I2.out.at_ hx
      obtain ⟨bb, ob, rfl, _, _, hcb⟩ := I3.out.at_ hy
      have hlt' : (k : Int) < (n : Int) := by omega
      have g1 := take_bd12 HXR.out (k := k) (by omega)
      have g2 := take_bd12 HYR.out (k := k) (by omega)
      have g3 := (rowB_true.1 HXR.out).1 _ (List.getElem_mem hx)
      have g4 := (rowB_true.1 HYR.out).1 _ (List.getElem_mem hy)
      have t1 := take_next (downL a) hx
      have t2 := take_next (downL b) hy
      rw [getD_in hx] at t1
      rw [getD_in hy] at t2
      have HLE := Lib.hid (hall.out k (Nat.le_refl _))
      have HNO := Lib.hid (fun h => ev_no (a := a) (b := b) (k := k + 1) (by rw [HN.out]; omega) h)
      obtain ⟨T, hT⟩ : ∃ T, sumL ((downL a).take k) = T := ⟨_, rfl⟩
      obtain ⟨U, hU⟩ : ∃ U, sumL ((downL b).take k) = U := ⟨_, rfl⟩
      obtain ⟨x, hxx⟩ : ∃ x, (downL a)[k] = x := ⟨_, rfl⟩
      obtain ⟨y, hyy⟩ : ∃ y, (downL b)[k] = y := ⟨_, rfl⟩
      rw [hT] at t1 g1
      rw [hU] at t2 g2
      rw [hxx] at t1 g3 hca
      rw [hyy] at t2 g4 hcb
      rw [hT, hU]
      have HT1 := Lib.hid t1; have HT2 := Lib.hid t2
      clear hT hU hxx hyy t1 t2 hx hy
      have s1 : IntKind.i64.wrap (T + x) = T + x := IntWalk.i64_in _ (by omega)
      have s2 : IntKind.i64.wrap (U + y) = U + y := IntWalk.i64_in _ (by omega)
      by_cases hgt : U + y < T + x
      · have HE := Lib.hid (HNO.out (by rw [HT1.out, HT2.out]; exact hgt))
        go_wp2
        go_ret
        exact ⟨ret_bool HE.out.symm, B3.out⟩
      · have hgt' : ¬ T + x > U + y := by omega
        go_wp2
        go_round
        case rel => exact ⟨k + 1, by omega, by go_num, by rw [HT1.out], by rw [HT2.out], Lib.hid (fun j hj => by
          by_cases e : j = k + 1
          · subst e; rw [HT1.out, HT2.out]; omega
          · exact hall.out j (by omega))⟩
        case measure => simp [intOf]; omega
    · obtain rfl : k = n := by omega
      have HE := Lib.hid (ev_end (a := a) (b := b) HL.out (by rw [HN.out]; exact hall.out))
      rw [HN.out] at HE
      go_wp2
      go_ret
      exact ⟨ret_bool HE.out.symm, B3.out⟩

set_option maxHeartbeats 1000000 in
theorem specEvenIs_any (A0 : Option Addr) (c0 : Nat) (a : List Int) (A1 : Option Addr) (c1 : Nat) (b : List Int) (w : World) (h0 : IR w 0 w.heap.size A0 a) (h1 : IR w 0 w.heap.size A1 b) :
    Calls Try.prog 34 #[.slice A0 a.length c0, .slice A1 b.length c1] w fun e w' => e = .returned (.bool (evenIsB a b)) ∧ Below w.heap.size w w' := by
  have H0 := Lib.hid h0; have H1 := Lib.hid h1
  clear h0 h1
  cases ht : twoB a b with
  | false =>
    have HM : Hid (evenIsB a b = false) := by show _ = _; unfold evenIsB; rw [ht]; rfl
    have HT := Lib.hid ht; clear ht
    go_enter Try.func34, Try.ntmps34
    go_wp2_with fail
    refine (l1Two_false _ _ a _ _ b _ _ _ _ _ H0.out H1.out HT.out).mono ?_; rintro e w' ⟨rfl, rfl⟩
    go_wp2
    go_ret
    exact ⟨ret_bool HM.out.symm, Below.refl _ _⟩
  | true =>
    have HM : Hid (evenIsB a b = evB a b) := by show _ = _; unfold evenIsB; rw [ht]; rfl
    have HT := Lib.hid ht; have HTT := Lib.hid (twoB_true ht); clear ht
    go_enter Try.func34, Try.ntmps34
    go_wp2_with fail
    refine (l1Two_true _ _ a _ _ b _ _ _ _ _ H0.out H1.out HT.out).mono ?_; rintro e w' ⟨rfl, rfl⟩
    go_wp2_with fail
    refine (l7Is_any _ _ a _ _ b _ H0.out H1.out HTT.out.1 HTT.out.2.1 HTT.out.2.2).mono ?_; rintro e w2 ⟨rfl, hb⟩
    have HB := Lib.hid hb; clear hb
    obtain ⟨r, hr⟩ : ∃ r, evB a b = r := ⟨_, rfl⟩
    rw [hr] at HM
    rw [hr]
    clear hr
    go_wp2
    go_ret
    exact ⟨ret_bool HM.out.symm, HB.out⟩

theorem even_take {n k : Nat} (q r : Int) (hk : k < n) : (evenL n q r).take k ++ [if (k : Int) < r then q + 1 else q] = (evenL n q r).take (k + 1) := by
  have hl : k < (evenL n q r).length := by rw [evenL_len]; exact hk
  rw [← take_snoc _ k hl]
  have := evenL_getD (q := q) (r := r) hk
  rw [getD_in hl] at this
  rw [this]
theorem row_sum {a : List Int} (h : rowB a = true) : -12000 ≤ sumL a ∧ sumL a ≤ 12000 := by
  have := take_bd12 h (k := a.length) (Nat.le_refl _)
  rwa [List.take_length] at this
theorem most_q {a : List Int} (h : rowB a = true) : -1000 ≤ mostQ a ∧ mostQ a ≤ 1000 := by
  obtain ⟨h1, h2, h3⟩ := rowB_true.1 h
  have g := take_bd h1 a.length (Nat.le_refl _)
  rw [List.take_length] at g
  unfold mostQ
  constructor
  · exact (Int.le_ediv_iff_mul_le (by omega)).2 g.1
  · have h4 : sumL a / (a.length : Int) < 1001 := Int.ediv_lt_of_lt_mul (by omega) (by omega)
    omega

end Go.Proofs.Ytkghpmjbclnojaa

namespace Go.Proofs.Ytkghpmjbclnojaa
open Go.RowKit

theorem at_no1 {f a : List Int} (h : (rowB f && bentB f) = false) : atB f a = false := by unfold atB; rw [h]; rfl
theorem at_no2 {f a : List Int} (h : rowB a = false) : atB f a = false := by unfold atB; rw [h, Bool.and_false]; rfl
theorem at_no3 {f a : List Int} {k : Nat} (hk : k < a.length) (h : inB 0 ((f.length : Int) - 1) a[k] = false) : atB f a = false := by
  unfold atB
  have : (a.all fun x => inB 0 ((f.length : Int) - 1) x) = false := by
    rw [List.all_eq_false]; exact ⟨a[k], List.getElem_mem hk, by simp [h]⟩
  rw [this, Bool.and_false]
theorem at_yes {f a : List Int} (h1 : (rowB f && bentB f) = true) (h2 : rowB a = true) (h3 : ∀ k, k < a.length → inB 0 ((f.length : Int) - 1) (a.getD k 0) = true) : atB f a = true := by
  unfold atB
  have : (a.all fun x => inB 0 ((f.length : Int) - 1) x) = true := by
    rw [List.all_eq_true]
    intro x hx
    obtain ⟨k, hk, rfl⟩ := List.getElem_of_mem hx
    have := h3 k hk
    rwa [getD_in hk] at this
  rw [h1, h2, this]; rfl
theorem sumAt_take (f a : List Int) {k : Nat} (hk : k < a.length) : sumAt f (a.take (k + 1)) = sumAt f (a.take k) + f.getD a[k].toNat 0 := by
  rw [← take_snoc a k hk]
  have : ∀ l m : List Int, sumAt f (l ++ m) = sumAt f l + sumAt f m := by
    intro l m
    induction l with
    | nil => simp [sumAt]
    | cons x l ih => simp only [List.cons_append, sumAt]; rw [ih]; omega
  rw [this]
  simp [sumAt]
theorem sumAt_bd {f : List Int} (hf : rowB f = true) : ∀ l : List Int, -1000 * (l.length : Int) ≤ sumAt f l ∧ sumAt f l ≤ 1000 * (l.length : Int)
  | [] => by simp [sumAt]
  | x :: l => by
    have ih := sumAt_bd hf l
    have g : -1000 ≤ f.getD x.toNat 0 ∧ f.getD x.toNat 0 ≤ 1000 := by
      by_cases h : x.toNat < f.length
      · exact row_getD hf _ h
      · have e : f.getD x.toNat 0 = 0 := by simp only [List.getD]; rw [List.getElem?_eq_none (by omega)]; rfl
        rw [e]; omega
    simp only [sumAt, List.length_cons]
    omega

theorem meet_take' (a b : List Int) {k : Nat} (hk : k < a.length) : (meetL a b).take k ++ [meetTo a b (k + 1) - meetTo a b k] = (meetL a b).take (k + 1) := by
  have hl : k < (meetL a b).length := by rw [meet_len]; exact hk
  rw [← take_snoc _ k hl]
  have := meet_getD a b hk
  rw [getD_in hl] at this
  rw [this]
theorem topS_bd {a : List Int} (h : rowB a = true) {k : Nat} (hk : k ≤ a.length) : -12000 ≤ topS a k ∧ topS a k ≤ 12000 := take_bd12 (down_row h) (by rw [down_len]; exact hk)
theorem meet_no {a b : List Int} (h : twoB a b = false) : meetM a b = none := by unfold meetM; rw [h]; rfl
theorem meet_no2 {a b : List Int} (h : ¬ sumL a = sumL b) : meetM a b = none := by unfold meetM; rw [decide_eq_false h, Bool.and_false]; rfl
theorem meet_row {a b : List Int} (h : twoB a b = true) (hs : sumL a = sumL b) : rowB (meetL a b) = true :=
  ev_row (meet_ev (twoB_true h).2.2 hs).1 (twoB_true h).1
theorem meet_yes {a b : List Int} (h : twoB a b = true) (hs : sumL a = sumL b) : meetM a b = some (meetL a b) := by
  unfold meetM; rw [h, decide_eq_true hs]
  exact doneM_row (meet_row h hs)

end Go.Proofs.Ytkghpmjbclnojaa
