/-
  EvenSum and EvenMeet of the model. Conditions: the lists' cells are there.
-/
import Derived.Test.YtfiojdiogjpakaaEvS
namespace Go.Proofs.Ytfiojdiogjpakaa
open Go.RowKit

theorem at_no1 {f a : List Int} (h : (rowB f && bentB f) = false) : atB f a = false := by unfold atB; rw [h]; rfl
theorem at_no2 {f a : List Int} (h : rowB a = false) : atB f a = false := by unfold atB; rw [h, Bool.and_false]; rfl
theorem at_no3 {f a : List Int} {k : Nat} (hk : k < a.length) (h : inB 0 ((f.length : Int) - 1) a[k] = false) : atB f a = false := by
  unfold atB
  have : (a.all fun x => inB 0 ((f.length : Int) - 1) x) = false := by
    rw [List.all_eq_false]; exact ⟨a[k], List.getElem_mem hk, by simp [h]⟩
  rw [this, Bool.and_false]
theorem at_yes {f a : List Int} (h1 : (rowB f && bentB f) = true) (h2 : rowB a = true) (h3 : ∀ k, k < a.length → inB 0 ((f.length : Int) - 1) (a.getD k 0) = true) : atB f a = true := by
  unfold atB
  have : (a.all fun x => inB 0 ((f.length : Int) - 1) x) = true := by
    rw [List.all_eq_true]
    intro x hx
    obtain ⟨k, hk, rfl⟩ := List.getElem_of_mem hx
    have := h3 k hk
    rwa [getD_in hk] at this
  rw [h1, h2, this]; rfl
theorem sumAt_take (f a : List Int) {k : Nat} (hk : k < a.length) : sumAt f (a.take (k + 1)) = sumAt f (a.take k) + f.getD a[k].toNat 0 := by
  rw [← take_snoc a k hk]
  have : ∀ l m : List Int, sumAt f (l ++ m) = sumAt f l + sumAt f m := by
    intro l m
    induction l with
    | nil => simp [sumAt]
    | cons x l ih => simp only [List.cons_append, sumAt]; rw [ih]; omega
  rw [this]
  simp [sumAt]
theorem sumAt_bd {f : List Int} (hf : rowB f = true) : ∀ l : List Int, -1000 * (l.length : Int) ≤ sumAt f l ∧ sumAt f l ≤ 1000 * (l.length : Int)
  | [] => by simp [sumAt]
  | x :: l => by
    have ih := sumAt_bd hf l
    have g : -1000 ≤ f.getD x.toNat 0 ∧ f.getD x.toNat 0 ≤ 1000 := by
      by_cases h : x.toNat < f.length
      · exact row_getD hf _ h
      · have e : f.getD x.toNat 0 = 0 := by simp only [List.getD]; rw [List.getElem?_eq_none (by omega)]; rfl
        rw [e]; omega
    simp only [sumAt, List.length_cons]
    omega

set_option maxHeartbeats 2000000 in
theorem specEvenSum_any (A0 : Option Addr) (c0 : Nat) (f : List Int) (A1 : Option Addr) (c1 : Nat) (a : List Int) (w : World) (h0 : IR w 0 w.heap.size A0 f) (h1 : IR w 0 w.heap.size A1 a) :
    Calls Try.prog 38 #[.slice A0 f.length c0, .slice A1 a.length c1] w fun e w' => e = .returned (.tuple #[.int .i64 (evenSumL f a), .bool (atB f a)]) ∧ Below w.heap.size w w' := by
  have H0 := Lib.hid h0; have H1 := Lib.hid h1
  clear h0 h1
  have HNO : Hid (atB f a = false → evenSumL f a = 0) := fun h => by unfold evenSumL; rw [h]; rfl
  cases hb : (rowB f && bentB f) with
  | false =>
    have HM := Lib.hid (at_no1 (a := a) hb)
    have HB := Lib.hid hb; clear hb
    go_enter Try.func38, Try.ntmps38
    go_wp2_with fail
    refine (specBent_of _ _ _ _ f _ H0.out HB.out).mono ?_; rintro e w1 ⟨rfl, b1⟩
    have B1 := Lib.hid b1; clear b1
    go_wp2
    go_ret2
    rw [HNO.out HM.out, HM.out]
    exact ⟨rfl, B1.out⟩
  | true =>
  have HB := Lib.hid hb
  cases ha : rowB a with
  | false =>
    have HM := Lib.hid (at_no2 (f := f) ha)
    have HA := Lib.hid ha; clear hb ha
    go_enter Try.func38, Try.ntmps38
    go_wp2_with fail
    refine (specBent_of _ _ _ _ f _ H0.out HB.out).mono ?_; rintro e w1 ⟨rfl, b1⟩
    have B1 := Lib.hid b1; replace H1 := Lib.hid (H1.out.grow b1); clear b1
    go_wp2_with fail
    refine (specRowIn_false _ _ _ _ a _ H1.out HA.out).mono ?_; rintro e w' ⟨rfl, rfl⟩
    go_wp2
    go_ret2
    rw [HNO.out HM.out, HM.out]
    exact ⟨rfl, B1.out⟩
  | true =>
    have hf : rowB f = true := by rw [Bool.and_eq_true] at hb; exact hb.1
    have HA := Lib.hid ha; have HF := Lib.hid hf
    have hlf := (rowB_true.1 hf).2; have hla := (rowB_true.1 ha).2
    have HY : Hid (atB f a = true → evenSumL f a = sumAt f a) := fun h => by unfold evenSumL; rw [h]; rfl
    clear hb ha hf
    go_enter Try.func38, Try.ntmps38
    go_wp2_with fail
    refine (specBent_of _ _ _ _ f _ H0.out HB.out).mono ?_; rintro e w1 ⟨rfl, b1⟩
    have B1 := Lib.hid b1; replace H1 := Lib.hid (H1.out.grow b1); replace H0 := Lib.hid (H0.out.grow b1); clear b1
    go_wp2_with fail
    refine (specRowIn_true _ _ _ _ a _ H1.out HA.out).mono ?_; rintro e w' ⟨rfl, rfl⟩
    go_wp2
    obtain ⟨n, hn⟩ : ∃ n, a.length = n := ⟨_, rfl⟩
    obtain ⟨m, hm⟩ : ∃ m, f.length = m := ⟨_, rfl⟩
    have HN := Lib.hid hn; have HM := Lib.hid hm
    rw [hm] at hlf
    rw [hn] at hla
    rw [hn, hm]
    clear hn hm
    go_loop [6, 7] (fun s i => ∃ k : Nat, k ≤ n ∧ i = .int .i64 (k : Int) ∧ s = .int .i64 (sumAt f (a.take k)) ∧ Hid (∀ j, j < k → inB 0 ((m : Int) - 1) (a.getD j 0) = true)) (fun _ i => n - (intOf i).toNat)
    case atStart => exact ⟨0, Nat.zero_le _, rfl, rfl, Lib.hid (fun j hj => by omega)⟩
    case round =>
      obtain ⟨k, hk, rfl, rfl, hall⟩ := hrel
      by_cases hlt : k < n
      · have hx : k < a.length := by rw [HN.out]; exact hlt
        have hlt' : (k : Int) < (n : Int) := by omega
        obtain ⟨ba, oa, rfl, _, _, hca⟩ := H1.out.at_ hx
        have e1 := sumAt_take f a hx
        have g1 := sumAt_bd HF.out (a.take k)
        have HD : Hid (a.getD k 0 = a[k]) := getD_in hx
        have HN3 := Lib.hid (fun h => at_no3 (f := f) (a := a) hx h)
        obtain ⟨x, hxx⟩ : ∃ x, a[k] = x := ⟨_, rfl⟩
        obtain ⟨T, hT⟩ : ∃ T, sumAt f (a.take k) = T := ⟨_, rfl⟩
        have hmin : ((a.take k).length : Int) ≤ 12 := by rw [List.length_take]; omega
        rw [hxx, hT] at e1
        rw [hxx] at hca HD HN3
        rw [hT] at g1
        rw [HM.out] at HN3
        rw [hT]
        have s0 : IntKind.i64.wrap ((m : Int) - 1) = (m : Int) - 1 := IntWalk.i64_in _ (by omega)
        cases hin : inB 0 ((m : Int) - 1) x with
        | false =>
          have HI := Lib.hid hin
          have HFA := Lib.hid (HN3.out hin)
          clear hin hxx hT e1
          go_wp2_with fail
          refine (l6In_false _ _ _ _ HI.out).mono ?_; rintro e w' ⟨rfl, rfl⟩
          go_wp2
          go_ret2
          rw [HNO.out HFA.out, HFA.out]
          exact ⟨rfl, B1.out⟩
        | true =>
          have HI := Lib.hid hin
          have hin' := inB_true.1 hin
          have hxm : x.toNat < f.length := by rw [HM.out]; omega
          obtain ⟨bf, of, rfl, _, _, hcf⟩ := H0.out.at_ hxm
          have g2 := row_getD HF.out _ hxm
          rw [getD_in hxm] at e1 g2
          obtain ⟨y, hyy⟩ : ∃ y, f[x.toNat] = y := ⟨_, rfl⟩
          rw [hyy] at e1 g2 hcf
          have HE1 := Lib.hid e1
          have x0 : 0 ≤ x := hin'.1
          have x1 : x < (m : Int) := by omega
          have s1 : IntKind.i64.wrap (T + y) = T + y := IntWalk.i64_in _ (by omega)
          clear hin hin' hxx hT e1 hyy hxm hx
          go_wp2_with fail
          refine (l6In_true _ _ _ _ HI.out).mono ?_; rintro e w' ⟨rfl, rfl⟩
          go_wp2
          go_round
          case rel => exact ⟨k + 1, by omega, by go_num, by rw [HE1.out], Lib.hid (fun j hj => by
            by_cases e : j = k
            · subst e; rw [HD.out]; exact HI.out
            · exact hall.out j (by omega))⟩
          case measure => simp [intOf]; omega
      · obtain rfl : k = n := by omega
        have HT := Lib.hid (at_yes HB.out HA.out (by rw [HN.out, HM.out]; exact hall.out))
        have HTK : Hid (a.take k = a) := by show _ = _; rw [← HN.out]; exact List.take_length
        rw [HTK.out]
        go_wp2
        go_ret2
        rw [HY.out HT.out, HT.out]
        exact ⟨rfl, B1.out⟩

theorem meet_take' (a b : List Int) {k : Nat} (hk : k < a.length) : (meetL a b).take k ++ [meetTo a b (k + 1) - meetTo a b k] = (meetL a b).take (k + 1) := by
  have hl : k < (meetL a b).length := by rw [meet_len]; exact hk
  rw [← take_snoc _ k hl]
  have := meet_getD a b hk
  rw [getD_in hl] at this
  rw [this]
theorem topS_bd {a : List Int} (h : rowB a = true) {k : Nat} (hk : k ≤ a.length) : -12000 ≤ topS a k ∧ topS a k ≤ 12000 := take_bd12 (down_row h) (by rw [down_len]; exact hk)
theorem meet_no {a b : List Int} (h : twoB a b = false) : meetM a b = none := by unfold meetM; rw [h]; rfl
theorem meet_no2 {a b : List Int} (h : ¬ sumL a = sumL b) : meetM a b = none := by unfold meetM; rw [decide_eq_false h, Bool.and_false]; rfl
theorem meet_row {a b : List Int} (h : twoB a b = true) (hs : sumL a = sumL b) : rowB (meetL a b) = true :=
  ev_row (meet_ev (twoB_true h).2.2 hs).1 (twoB_true h).1
theorem meet_yes {a b : List Int} (h : twoB a b = true) (hs : sumL a = sumL b) : meetM a b = some (meetL a b) := by
  unfold meetM; rw [h, decide_eq_true hs]
  exact doneM_row (meet_row h hs)

set_option maxHeartbeats 2000000 in
theorem specEvenMeet_any (A0 : Option Addr) (c0 : Nat) (a : List Int) (A1 : Option Addr) (c1 : Nat) (b : List Int) (w : World) (h0 : IR w 0 w.heap.size A0 a) (h1 : IR w 0 w.heap.size A1 b) :
    Calls Try.prog 40 #[.slice A0 a.length c0, .slice A1 b.length c1] w (RetSB w (meetM a b)) := by
  have H0 := Lib.hid h0; have H1 := Lib.hid h1
  clear h0 h1
  cases ht : twoB a b with
  | false =>
    have HM := Lib.hid (meet_no ht)
    have HT := Lib.hid ht; clear ht
    go_enter Try.func40, Try.ntmps40
    go_wp2_with fail
    refine (l1Two_false _ _ a _ _ b _ _ _ _ _ H0.out H1.out HT.out).mono ?_; rintro e w' ⟨rfl, rfl⟩
    go_wp2
    go_ret2
    rw [HM.out]
    exact retSB_none ((Below.refl _ _).alloc (Nat.le_refl _) _)
  | true =>
    have HT := Lib.hid ht; have HTT := Lib.hid (twoB_true ht)
    by_cases hs : sumL a = sumL b
    · have HM := Lib.hid (meet_yes ht hs)
      have hsb : (sumL a != sumL b) = false := by simp [hs]
      have HRM := Lib.hid (meet_row ht hs)
      have hla := (rowB_true.1 HTT.out.1).2
      have HX : Hid ((downL a).length = a.length) := down_len a
      have HY : Hid ((downL b).length = a.length) := (down_len b).trans HTT.out.2.2.symm
      have HXR := Lib.hid (down_row HTT.out.1); have HYR := Lib.hid (down_row HTT.out.2.1)
      have HML : Hid ((meetL a b).length = a.length) := meet_len a b
      clear ht hs
      go_enter Try.func40, Try.ntmps40
      go_wp2_with fail
      refine (l1Two_true _ _ a _ _ b _ _ _ _ _ H0.out H1.out HT.out).mono ?_; rintro e w' ⟨rfl, rfl⟩
      go_wp2_with fail
      refine (l7Sum_any A0 _ c0 _ _ a _ H0.out HTT.out.1 rfl).mono ?_
      rintro e w1 ⟨rfl, rfl⟩
      go_wp2_with fail
      refine (l7Sum_any A1 _ c1 _ _ b _ H1.out HTT.out.2.1 rfl).mono ?_
      rintro e w1 ⟨rfl, rfl⟩
      go_wp2_with fail
      refine (l7Down_any A0 _ c0 a _ H0.out HTT.out.1 rfl).mono ?_
      rintro e w2 ⟨A2, c2, rfl, i2, b2⟩
      replace H1 := Lib.hid (H1.out.grow b2)
      have I2 := Lib.hid i2; have B2 := Lib.hid b2
      clear i2 b2 H0
      go_wp2_with fail
      refine (l7Down_any A1 _ c1 b _ H1.out.toAll HTT.out.2.1 rfl).mono ?_
      rintro e w3 ⟨A3, c3, rfl, i3, b3⟩
      replace I2 := Lib.hid (I2.out.toIR.grow b3)
      have I3 := Lib.hid i3.toIR; have B3 := Lib.hid (below_then B2.out (Nat.le_refl _) b3)
      clear i3 b3 H1 B2
      obtain ⟨n, hn⟩ : ∃ n, a.length = n := ⟨_, rfl⟩
      rw [hn] at HX HY HML hla
      rw [HX.out, HY.out]
      have HN := Lib.hid hn
      clear hn
      go_wp2
      go_loopw [8, 9, 10, 11, 12] (fun v l r d i wr => ∃ k : Nat, k ≤ n ∧ i = .int .i64 k ∧ l = .int .i64 (topS a k) ∧ r = .int .i64 (topS b k) ∧ d = .int .i64 (meetTo a b k) ∧ OwnI wr w3.heap.size v ((meetL a b).take k) ∧ Below w3.heap.size w3 wr) (fun _ _ _ _ i _ => n - (intOf i).toNat)
      case atStart => exact ⟨0, Nat.zero_le _, rfl, by rw [topS_zero], by rw [topS_zero], by unfold meetTo; rw [topS_zero, topS_zero]; rfl, OwnI.made w3, (Below.refl _ _).alloc (Nat.le_refl _) _⟩
      case round =>
        obtain ⟨k, hk, rfl, rfl, rfl, rfl, ho, hb⟩ := hrel
        have HO := Lib.hid ho; have HB := Lib.hid hb
        clear ho hb
        by_cases hlt : k < n
        · have hx : k < (downL a).length := by rw [HX.out]; exact hlt
          have hy : k < (downL b).length := by rw [HY.out]; exact hlt
          obtain ⟨ba, oa, rfl, _, _, hca⟩ := (I2.out.below HB.out I2.out.2.2.1).at_ hx
          obtain ⟨bb, ob, rfl, _, _, hcb⟩ := (I3.out.below HB.out I3.out.2.2.1).at_ hy
          have hlt' : (k : Int) < (n : Int) := by omega
          have g1 := topS_bd HTT.out.1 (k := k) (by rw [HN.out]; exact hk)
          have g2 := topS_bd HTT.out.2.1 (k := k) (by rw [← HTT.out.2.2, HN.out]; exact hk)
          have g3 := (rowB_true.1 HXR.out).1 _ (List.getElem_mem hx)
          have g4 := (rowB_true.1 HYR.out).1 _ (List.getElem_mem hy)
          have t1 := topS_next (a := a) (k := k) (by rw [HN.out]; exact hlt)
          have t2 := topS_next (a := b) (k := k) (by rw [← HTT.out.2.2, HN.out]; exact hlt)
          rw [getD_in hx] at t1
          rw [getD_in hy] at t2
          have HTK := Lib.hid (meet_take' a b (k := k) (by rw [HN.out]; exact hlt))
          have hmk : meetTo a b k = min (topS a k) (topS b k) := rfl
          have hmk1 : meetTo a b (k + 1) = min (topS a (k + 1)) (topS b (k + 1)) := rfl
          obtain ⟨T, hT⟩ : ∃ T, topS a k = T := ⟨_, rfl⟩
          obtain ⟨U, hU⟩ : ∃ U, topS b k = U := ⟨_, rfl⟩
          obtain ⟨D, hD⟩ : ∃ D, meetTo a b k = D := ⟨_, rfl⟩
          obtain ⟨x, hxx⟩ : ∃ x, (downL a)[k] = x := ⟨_, rfl⟩
          obtain ⟨y, hyy⟩ : ∃ y, (downL b)[k] = y := ⟨_, rfl⟩
          rw [hD, hT, hU] at hmk
          rw [t1, t2, hT, hU, hxx, hyy] at hmk1
          rw [hT] at t1 g1
          rw [hU] at t2 g2
          rw [hxx] at t1 g3 hca
          rw [hyy] at t2 g4 hcb
          rw [hD, hmk1] at HTK
          rw [hT, hU, hD]
          have HT1 := Lib.hid t1; have HT2 := Lib.hid t2; have HM1 := Lib.hid hmk1
          have hLn : Hid (((meetL a b).take k).length < 17592186044416) := by show _ < _; simp; omega
          have s1 : IntKind.i64.wrap (T + x) = T + x := IntWalk.i64_in _ (by omega)
          have s2 : IntKind.i64.wrap (U + y) = U + y := IntWalk.i64_in _ (by omega)
          have s3 : IntKind.i64.wrap (min (T + x) (U + y) - D) = min (T + x) (U + y) - D := IntWalk.i64_in _ (by omega)
          have HY64 : Hid (I64 (min (T + x) (U + y) - D)) := ⟨by omega, by omega⟩
          clear hT hU hD hxx hyy t1 t2 hx hy hmk hmk1
          go_wp2_with (at_builtin; refine wpList_push rfl _ _ rfl w3.heap.size _ _ rfl rfl HO.out hLn.out HY64.out ?_; intro v4 w4 ho4 hb4; have HO4 := Lib.hid ho4; have HB4 := Lib.hid hb4; clear ho4 hb4)
          rw [HTK.out] at HO4
          go_roundw
          case rel => exact ⟨k + 1, by omega, by go_num, by rw [HT1.out], by rw [HT2.out], by rw [HM1.out], HO4.out, HB.out.trans HB4.out⟩
          case measure => simp [intOf]; omega
        · obtain rfl : k = n := by omega
          have ho := HO.out
          rw [List.take_of_length_le (by rw [HML.out]; exact Nat.le_refl _)] at ho
          obtain ⟨A', c', rfl, hiw⟩ := ho.iw (by rw [HML.out]; omega)
          have HI := Lib.hid hiw
          clear hiw ho HO
          go_wp2_with fail
          refine (l1Done_true _ _ _ _ _ _ HI.out.toIR HRM.out).mono ?_
          rintro e w' ⟨rfl, rfl⟩
          go_wp2
          go_ret2
          rw [HM.out]
          exact retSB_some rfl (HI.out.wide B3.out.size (Nat.le_refl _) (Nat.le_refl _)) (B3.out.trans (HB.out.mono B3.out.size))
    · have HM := Lib.hid (meet_no2 hs)
      have hsb : (sumL a != sumL b) = true := by simp [hs]
      clear ht hs
      go_enter Try.func40, Try.ntmps40
      go_wp2_with fail
      refine (l1Two_true _ _ a _ _ b _ _ _ _ _ H0.out H1.out HT.out).mono ?_; rintro e w' ⟨rfl, rfl⟩
      go_wp2_with fail
      refine (l7Sum_any A0 _ c0 _ _ a _ H0.out HTT.out.1 rfl).mono ?_
      rintro e w1 ⟨rfl, rfl⟩
      go_wp2_with fail
      refine (l7Sum_any A1 _ c1 _ _ b _ H1.out HTT.out.2.1 rfl).mono ?_
      rintro e w1 ⟨rfl, rfl⟩
      go_wp2
      go_ret2
      rw [HM.out]
      exact retSB_none ((Below.refl _ _).alloc (Nat.le_refl _) _)
end Go.Proofs.Ytfiojdiogjpakaa
