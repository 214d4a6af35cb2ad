/-
  The law FnEvenSum walked: for all codes it returns true, and nothing that lay before has turned. Conditions: none but those of its row.
-/
import Derived.Test.YtkghpmjbclnojabDrawTwo
import Derived.Test.YtkghpmjbclnojabEvB
import Derived.Test.YtkghpmjbclnojabEvA
import Derived.Test.YtkghpmjbclnojabSame
namespace Go.Proofs.Ytkghpmjbclnojab
open Go.RowKit

set_option maxRecDepth 100000 in
set_option maxHeartbeats 4000000 in
theorem DrawEvenSum_any (A : Option Addr) (c : Nat) (bs : List Int) (w : World) (h : BR w w.heap.size A bs) (hc : bs.length ≤ c) (hc2 : c ≤ 9000000000000000000) :
    Calls Try.prog 26 #[.slice A bs.length c] w (TwoPost w 9) := by
  have H := Lib.hid h
  clear h
  go_enter Try.func26, Try.ntmps26
  go_wp2_with fail
  refine (l6Open_any A c bs _ H.out hc hc2).mono ?_
  rintro e w1 ⟨rfl, hr, hb⟩
  have B0 := Lib.hid hb; have R0 := Lib.hid hr
  have hs := hb.size
  clear hb hr
  go_wp2_with fail
  refine (pick_any w.heap.size 0 _ _ R0.out (by omega) (by omega)).mono ?_
  rintro e w2 ⟨v0, rfl, v00, v01, -, hb, hsz, hr⟩
  have v02 := v01 (by omega)
  have hs1 : w.heap.size < w1.heap.size := R0.out.lt
  replace B0 := Lib.hid (B0.out.trans (hb.toBelow hs (Nat.le_refl _)))
  replace R0 := Lib.hid hr
  have hs2 := B0.out.size
  have hR2 : w.heap.size < w2.heap.size := R0.out.lt
  have hs12 := hsz
  clear hb hsz hr hs v01
  obtain ⟨N, hN⟩ : ∃ N : Nat, 1 + v0 = (N : Int) := ⟨(1 + v0).toNat, by omega⟩
  have hN1 : 1 ≤ N := by omega
  have hN8 : N ≤ 8 := by omega
  have sN : IntKind.i64.wrap (1 + v0) = (N : Int) := by rw [hN]; exact IntWalk.i64_in _ (by omega)
  have sN2 : 1 + v0 = (N : Int) := hN
  have hNN : N - 1 + 1 = N := by omega
  go_wp2_with fail
  refine (l91Bent_n w.heap.size _ N _ R0.out (by omega) (by omega) (by omega)).mono ?_
  rintro e w3 ⟨A2, c2, za, p2, rfl, hz, hi, hb, hr, hp2, hcap⟩
  rw [hNN] at hcap hz ⊢
  have HZA := Lib.hid hz
  have HCA := Lib.hid hcap
  have I0 := Lib.hid hi
  replace B0 := Lib.hid (B0.out.trans (hb.toBelow hs2 (Nat.le_refl _)))
  replace R0 := Lib.hid hr
  have hs3 := B0.out.size
  clear hi hb hr hz hcap
  go_wp2_with fail
  refine (pick_any w.heap.size _ _ _ R0.out (by omega) (by omega)).mono ?_
  rintro e w4 ⟨v3, rfl, v30, v31, -, hb, hsz, hr⟩
  have v32 := v31 (by omega)
  replace I0 := Lib.hid (I0.out.but hb (by have := I0.out.2.2.1; omega) (.inl (by omega)))
  replace B0 := Lib.hid (B0.out.trans (hb.toBelow hs3 (Nat.le_refl _)))
  replace R0 := Lib.hid hr
  have hs4 := B0.out.size
  have hs34 := hb.size
  have hR4 : w.heap.size < w4.heap.size := R0.out.lt
  clear hb hsz hr v31
  by_cases h12 : v3 = 0
  · subst h12
    go_wp2_with fail
    refine (l91Row_n w.heap.size _ N _ R0.out (by omega) (by omega) (by omega)).mono ?_
    rintro e w5 ⟨A5, c5, zr, p5, rfl, hz, hi, hb, hr, hp5, hcap⟩
    replace HZA := Lib.hid hz
    replace HCA := Lib.hid hcap
    replace I0 := Lib.hid hi
    replace B0 := Lib.hid (B0.out.trans (hb.toBelow hs4 (Nat.le_refl _)))
    replace R0 := Lib.hid hr
    have hs5 := B0.out.size
    have hw5 := hb.size
    clear hi hb hr hz hcap
    have hRW : w.heap.size < w5.heap.size := R0.out.lt
    have HBA : Hid (Below w5.heap.size w5 (w5.alloc (.cells #[] 3))) := (Below.refl _ _).alloc (Nat.le_refl _) _
    replace I0 := Lib.hid (I0.out.but (But.of (R := w.heap.size) HBA.out) (by have := I0.out.2.2.1; omega) (.inl (by omega)))
    replace B0 := Lib.hid (B0.out.trans (HBA.out.mono hs5))
    replace R0 := Lib.hid (R0.out.below HBA.out R0.out.lt)
    have hsa := B0.out.size
    have hwa := HBA.out.size
    clear HBA
    go_wp2_with fail
    refine (pick_any w.heap.size _ _ _ R0.out (by omega) (by omega)).mono ?_
    rintro e w6 ⟨v5, rfl, v50, v51, -, hb, hsz, hr⟩
    have v52 := v51 (by omega)
    replace I0 := Lib.hid (I0.out.but hb (by have := I0.out.2.2.1; omega) (.inl (by omega)))
    replace B0 := Lib.hid (B0.out.trans (hb.toBelow hsa (Nat.le_refl _)))
    replace R0 := Lib.hid hr
    have hs6 := B0.out.size
    have O6 := Lib.hid ((OwnI.made w5).but hb (Nat.le_refl _) (by omega))
    have hw6 : w5.heap.size < w6.heap.size := Nat.lt_of_lt_of_le (by simp) hb.size
    clear hb hsz hr v51
    obtain ⟨M, hM⟩ : ∃ M : Nat, 1 + v5 = (M : Int) := ⟨(1 + v5).toNat, by omega⟩
    have hM6 : M ≤ 6 := by omega
    have sM : IntKind.i64.wrap (1 + v5) = (M : Int) := by rw [hM]; exact IntWalk.i64_in _ (by omega)
    have sM2 : 1 + v5 = (M : Int) := hM
    obtain ⟨P, hP⟩ : ∃ P, p5 + 1 = P := ⟨_, rfl⟩
    rw [hP] at R0
    have hP9 : P ≤ 1000 := by omega
    have hR6 : w.heap.size < w6.heap.size := R0.out.lt
    clear hP
    go_wp2
    clear sM sM2 hM sN sN2
    go_loopw [7, 9] (fun v i wr => ∃ (k : Nat) (O : List Int) (p' : Nat), k ≤ M ∧ i = .int .i64 k ∧ O.length = k ∧ OwnI wr w5.heap.size v O ∧ But w5.heap.size w.heap.size w6 wr ∧ Rd wr w.heap.size p' ∧ p' ≤ P + 2 * k) (fun _ i _ => M - (intOf i).toNat)
    case atStart => exact ⟨0, [], P, Nat.zero_le _, rfl, rfl, O6.out, But.refl _ _ _, R0.out, by omega⟩
    case round =>
      obtain ⟨k, O, p', hk, rfl, hO, ho, hb, hr, hp'⟩ := hrel
      have HO := Lib.hid ho; have HB := Lib.hid hb; have HR := Lib.hid hr; have HOL := Lib.hid hO
      clear ho hb hr hO O6
      by_cases hlt : k < M
      · have hlt' : (k : Int) < (M : Int) := by omega
        have HLn := Lib.hid (show O.length < 17592186044416 by have := HOL.out; omega)
        go_wp2_with fail
        refine (pick_any w.heap.size p' _ _ HR.out (by omega) (by omega)).mono ?_
        rintro e w7 ⟨u1, rfl, u10, u11, -, hb, hsz, hr⟩
        have u12 := u11 (by omega)
        have hszw := HO.out.2.2
        replace HO := Lib.hid (HO.out.but hb (by omega) (by omega))
        replace HB := Lib.hid (HB.out.then_ (by omega) hb)
        replace HR := Lib.hid hr
        have hd1 : IntKind.i64.wrap (u1.tdiv 39) = u1 / 39 := by rw [Int.tdiv_eq_ediv_of_nonneg u10, IntWalk.i64_in _ (by omega)]
        have hd2 : IntKind.i64.wrap ((N : Int) + u1 / 39) = (N : Int) + u1 / 39 := IntWalk.i64_in _ (by omega)
        clear hb hsz hr u11
        go_wp2_with fail
        refine (pick_any w.heap.size (p' + 1) _ _ HR.out (by omega) (by omega)).mono ?_
        rintro e w8 ⟨u2, rfl, u20, u21, -, hb, hsz, hr⟩
        have u22 := u21 (by omega)
        have hszw8 := HO.out.2.2
        replace HO := Lib.hid (HO.out.but hb (by omega) (by omega))
        replace HB := Lib.hid (HB.out.then_ (by omega) hb)
        replace HR := Lib.hid hr
        have HY : Hid (I64 u2) := ⟨by omega, by omega⟩
        clear hb hsz hr u21
        go_wp2_with (at_builtin; refine wpList_push rfl _ _ rfl w5.heap.size _ _ rfl rfl HO.out HLn.out HY.out ?_; intro v1 w9 ho1 hb1; have HO1 := Lib.hid ho1; have HB1 := Lib.hid (But.of (R := w.heap.size) hb1); have HR1 := Lib.hid (HR.out.below hb1 (by omega)); clear ho1 hb1)
        go_roundw
        case rel => exact ⟨k + 1, O ++ [u2], _, by omega, by go_num, by simp [HOL.out], HO1.out, HB.out.trans HB1.out, HR1.out, by omega⟩
        case measure => simp [intOf]; omega
      · obtain rfl : k = M := by omega
        obtain ⟨A9, c9, rfl, hiw, hcap⟩ := HO.out.iwc HOL.out (by omega)
        have HIW := Lib.hid hiw; have HCAP := Lib.hid hcap
        have I9 := Lib.hid (I0.out.but HB.out (by omega) (.inl (by omega)))
        have B9 := Lib.hid (B0.out.trans (HB.out.toBelow (by omega) (Nat.le_refl _)))
        clear hiw hcap HO
        go_wp2
        go_ret2
        exact twoPost_of HZA.out HOL.out (by omega) (by omega) I9.out HIW.out (by omega) (by omega) B9.out rfl rfl HCA.out HCAP.out
  · have h12' : (v3 == 0) = false := by simpa using h12
    have hRW : w.heap.size < w4.heap.size := R0.out.lt
    have HBA : Hid (Below w4.heap.size w4 (w4.alloc (.cells #[] 3))) := (Below.refl _ _).alloc (Nat.le_refl _) _
    replace I0 := Lib.hid (I0.out.but (But.of (R := w.heap.size) HBA.out) (by have := I0.out.2.2.1; omega) (.inl (by omega)))
    replace B0 := Lib.hid (B0.out.trans (HBA.out.mono hs4))
    replace R0 := Lib.hid (R0.out.below HBA.out R0.out.lt)
    have hsa := B0.out.size
    have hwa := HBA.out.size
    clear HBA
    go_wp2_with fail
    refine (pick_any w.heap.size _ _ _ R0.out (by omega) (by omega)).mono ?_
    rintro e w6 ⟨v5, rfl, v50, v51, -, hb, hsz, hr⟩
    have v52 := v51 (by omega)
    replace I0 := Lib.hid (I0.out.but hb (by have := I0.out.2.2.1; omega) (.inl (by omega)))
    replace B0 := Lib.hid (B0.out.trans (hb.toBelow hsa (Nat.le_refl _)))
    replace R0 := Lib.hid hr
    have hs6 := B0.out.size
    have O6 := Lib.hid ((OwnI.made w4).but hb (Nat.le_refl _) (by omega))
    have hw6 : w4.heap.size < w6.heap.size := Nat.lt_of_lt_of_le (by simp) hb.size
    clear hb hsz hr v51
    obtain ⟨M, hM⟩ : ∃ M : Nat, 1 + v5 = (M : Int) := ⟨(1 + v5).toNat, by omega⟩
    have hM6 : M ≤ 6 := by omega
    have sM : IntKind.i64.wrap (1 + v5) = (M : Int) := by rw [hM]; exact IntWalk.i64_in _ (by omega)
    have sM2 : 1 + v5 = (M : Int) := hM
    obtain ⟨P, hP⟩ : ∃ P, p2 + 1 + 1 = P := ⟨_, rfl⟩
    rw [hP] at R0
    have hP9 : P ≤ 1000 := by omega
    have hR6 : w.heap.size < w6.heap.size := R0.out.lt
    clear hP
    go_wp2
    clear sM sM2 hM sN sN2
    go_loopw [7, 9] (fun v i wr => ∃ (k : Nat) (O : List Int) (p' : Nat), k ≤ M ∧ i = .int .i64 k ∧ O.length = k ∧ OwnI wr w4.heap.size v O ∧ But w4.heap.size w.heap.size w6 wr ∧ Rd wr w.heap.size p' ∧ p' ≤ P + 2 * k) (fun _ i _ => M - (intOf i).toNat)
    case atStart => exact ⟨0, [], P, Nat.zero_le _, rfl, rfl, O6.out, But.refl _ _ _, R0.out, by omega⟩
    case round =>
      obtain ⟨k, O, p', hk, rfl, hO, ho, hb, hr, hp'⟩ := hrel
      have HO := Lib.hid ho; have HB := Lib.hid hb; have HR := Lib.hid hr; have HOL := Lib.hid hO
      clear ho hb hr hO O6
      by_cases hlt : k < M
      · have hlt' : (k : Int) < (M : Int) := by omega
        have HLn := Lib.hid (show O.length < 17592186044416 by have := HOL.out; omega)
        go_wp2_with fail
        refine (pick_any w.heap.size p' _ _ HR.out (by omega) (by omega)).mono ?_
        rintro e w7 ⟨u1, rfl, u10, u11, -, hb, hsz, hr⟩
        have u12 := u11 (by omega)
        have hszw := HO.out.2.2
        replace HO := Lib.hid (HO.out.but hb (by omega) (by omega))
        replace HB := Lib.hid (HB.out.then_ (by omega) hb)
        replace HR := Lib.hid hr
        have hd1 : IntKind.i64.wrap (u1.tdiv 39) = u1 / 39 := by rw [Int.tdiv_eq_ediv_of_nonneg u10, IntWalk.i64_in _ (by omega)]
        have hd2 : IntKind.i64.wrap ((N : Int) + u1 / 39) = (N : Int) + u1 / 39 := IntWalk.i64_in _ (by omega)
        clear hb hsz hr u11
        go_wp2_with fail
        refine (pick_any w.heap.size (p' + 1) _ _ HR.out (by omega) (by omega)).mono ?_
        rintro e w8 ⟨u2, rfl, u20, u21, -, hb, hsz, hr⟩
        have u22 := u21 (by omega)
        have hszw8 := HO.out.2.2
        replace HO := Lib.hid (HO.out.but hb (by omega) (by omega))
        replace HB := Lib.hid (HB.out.then_ (by omega) hb)
        replace HR := Lib.hid hr
        have HY : Hid (I64 u2) := ⟨by omega, by omega⟩
        clear hb hsz hr u21
        go_wp2_with (at_builtin; refine wpList_push rfl _ _ rfl w4.heap.size _ _ rfl rfl HO.out HLn.out HY.out ?_; intro v1 w9 ho1 hb1; have HO1 := Lib.hid ho1; have HB1 := Lib.hid (But.of (R := w.heap.size) hb1); have HR1 := Lib.hid (HR.out.below hb1 (by omega)); clear ho1 hb1)
        go_roundw
        case rel => exact ⟨k + 1, O ++ [u2], _, by omega, by go_num, by simp [HOL.out], HO1.out, HB.out.trans HB1.out, HR1.out, by omega⟩
        case measure => simp [intOf]; omega
      · obtain rfl : k = M := by omega
        obtain ⟨A9, c9, rfl, hiw, hcap⟩ := HO.out.iwc HOL.out (by omega)
        have HIW := Lib.hid hiw; have HCAP := Lib.hid hcap
        have I9 := Lib.hid (I0.out.but HB.out (by omega) (.inl (by omega)))
        have B9 := Lib.hid (B0.out.trans (HB.out.toBelow (by omega) (Nat.le_refl _)))
        clear hiw hcap HO
        go_wp2
        go_ret2
        exact twoPost_of HZA.out HOL.out (by omega) (by omega) I9.out HIW.out (by omega) (by omega) B9.out rfl rfl HCA.out HCAP.out


theorem evenSumL_at {f a : List Int} (h : atB f a = true) : evenSumL f a = sumAt f a := by unfold evenSumL; rw [if_pos h]
theorem sum_most {f a : List Int} (h : atB f a = true) : atB f (mostEv a) = true ∧ evenSumL f (mostEv a) ≤ evenSumL f a ∧ atB f a.reverse = true ∧ evenSumL f a.reverse = evenSumL f a ∧ mostM a = some (mostEv a) ∧ backM a = some a.reverse := by
  obtain ⟨h1, h2, h3, h4⟩ := sum_law h
  have hr := (at_true.1 h).2.2.1
  rw [evenSumL_at h, evenSumL_at h1, evenSumL_at h3]
  exact ⟨h1, h2, h3, h4, by simp [mostM, hr], by simp [backM, hr]⟩

set_option maxHeartbeats 1500000 in
set_option maxRecDepth 100000 in
theorem lawFnEvenSum_any (A0 : Option Addr) (c0 : Nat) (bs : List Int) (w : World) (h0 : BR w w.heap.size A0 bs) (hc : bs.length ≤ c0) (hc2 : c0 ≤ 9000000000000000000) :
    Calls Try.prog 7 #[.slice A0 bs.length c0] w fun e w' => e = .returned (.bool true) ∧ Below w.heap.size w w' := by
  by_cases hbig : (1048576 : Int) < (bs.length : Int)
  · clear h0
    go_enter Try.func7, Try.ntmps7
    go_wp2
    go_ret
    exact ⟨rfl, Below.refl _ _⟩
  have H0 := Lib.hid h0
  clear h0
  have BB := Lib.hid (Below.refl w.heap.size w)
  go_enter Try.func7, Try.ntmps7
  go_wp2_with fail
  refine (DrawEvenSum_any _ _ bs _ H0.out hc hc2).mono ?_
  rintro e w1 ⟨A, c, za, B, d, zb, rfl, hza, hzb, iwa, iwb, bb⟩
  replace BB := Lib.hid (below_then BB.out (Nat.le_refl _) bb)
  have ZA := Lib.hid iwa.toAll
  have ZB := Lib.hid iwb.toAll
  clear bb
  clear iwa iwb hza hzb
  go_wp2_with fail
  refine (implEvenSum_any _ _ za _ _ zb _ ZA.out.toAll ZB.out.toAll).mono ?_
  rintro e w2 ⟨rfl, bb⟩
  replace BB := Lib.hid (below_then BB.out (Nat.le_refl _) bb)
  replace ZA := Lib.hid (ZA.out.grow bb)
  replace ZB := Lib.hid (ZB.out.grow bb)
  clear bb
  go_wp2_with fail
  refine (specEvenSum_any _ _ za _ _ zb _ ZA.out.toAll ZB.out.toAll).mono ?_
  rintro e w3 ⟨rfl, bb⟩
  replace BB := Lib.hid (below_then BB.out (Nat.le_refl _) bb)
  replace ZA := Lib.hid (ZA.out.grow bb)
  replace ZB := Lib.hid (ZB.out.grow bb)
  clear bb
  cases hr : atB za zb with
  | false =>
    obtain ⟨S, hS⟩ : ∃ S, evenSumL za zb = S := ⟨_, rfl⟩
    rw [hS]
    clear hS hr
    go_wp2
    go_ret
    exact ⟨rfl, BB.out⟩
  | true =>
    have HQ1 := Lib.hid (sum_most hr).1
    have hq2 := (sum_most hr).2.1
    have HQ3 := Lib.hid (sum_most hr).2.2.1
    have HQ4 := Lib.hid (sum_most hr).2.2.2.1
    have FM := Lib.hid (sum_most hr).2.2.2.2.1
    have FB := Lib.hid (sum_most hr).2.2.2.2.2
    obtain ⟨S, hS⟩ : ∃ S, evenSumL za zb = S := ⟨_, rfl⟩
    rw [hS] at hq2 HQ4
    rw [hS]
    clear hS hr
    go_wp2_with fail
    refine (implEvenMost_any _ _ zb _ ZB.out.toAll).mono ?_
    rintro e w4 ⟨A5, c5, rfl, iw, bb⟩
    replace BB := Lib.hid (below_then BB.out (Nat.le_refl _) bb)
    replace ZA := Lib.hid (ZA.out.grow bb)
    replace ZB := Lib.hid (ZB.out.grow bb)
    have X := Lib.hid iw.toAll
    clear bb
    clear iw
    rw [FM.out] at X
    rw [FM.out]
    have e1 : (some (mostEv zb)).getD [] = (mostEv zb) := rfl
    rw [e1]
    replace X : Hid (IR w4 _ _ A5 (mostEv zb)) := X
    clear e1
    obtain ⟨mo, hmo⟩ : ∃ mo, mostEv zb = mo := ⟨_, rfl⟩
    rw [hmo] at X HQ1 hq2
    rw [hmo]
    clear hmo FM
    go_wp2_with fail
    refine (implEvenSum_any _ _ za _ _ mo _ ZA.out.toAll X.out.toAll).mono ?_
    rintro e w5 ⟨rfl, bb⟩
    replace BB := Lib.hid (below_then BB.out (Nat.le_refl _) bb)
    replace ZA := Lib.hid (ZA.out.grow bb)
    replace ZB := Lib.hid (ZB.out.grow bb)
    replace X := Lib.hid (X.out.grow bb)
    clear bb
    rw [HQ1.out]
    obtain ⟨T, hT⟩ : ∃ T, evenSumL za mo = T := ⟨_, rfl⟩
    rw [hT] at hq2
    rw [hT]
    have hd := decide_eq_true hq2
    clear hT
    go_wp2_with fail
    refine (implRowBack_any _ _ zb _ ZB.out.toAll).mono ?_
    rintro e w6 ⟨A6, c6, rfl, iw, bb⟩
    replace BB := Lib.hid (below_then BB.out (Nat.le_refl _) bb)
    replace ZA := Lib.hid (ZA.out.grow bb)
    replace ZB := Lib.hid (ZB.out.grow bb)
    replace X := Lib.hid (X.out.grow bb)
    have V := Lib.hid iw.toAll
    clear bb
    clear iw
    rw [FB.out] at V
    rw [FB.out]
    have e1 : (some zb.reverse).getD [] = zb.reverse := rfl
    rw [e1]
    replace V : Hid (IR w6 _ _ A6 zb.reverse) := V
    clear e1
    obtain ⟨ba, hba⟩ : ∃ ba, zb.reverse = ba := ⟨_, rfl⟩
    rw [hba] at V HQ3 HQ4
    rw [hba]
    clear hba FB
    go_wp2_with fail
    refine (implEvenSum_any _ _ za _ _ ba _ ZA.out.toAll V.out.toAll).mono ?_
    rintro e w7 ⟨rfl, bb⟩
    replace BB := Lib.hid (below_then BB.out (Nat.le_refl _) bb)
    replace ZA := Lib.hid (ZA.out.grow bb)
    replace ZB := Lib.hid (ZB.out.grow bb)
    replace X := Lib.hid (X.out.grow bb)
    replace V := Lib.hid (V.out.grow bb)
    clear bb
    rw [HQ3.out, HQ4.out]
    go_wp2
    go_ret
    exact ⟨rfl, BB.out⟩
end Go.Proofs.Ytkghpmjbclnojab
