/-
  The draw of a number, a slope and falls: DrawLineBack. Conditions: the code's cells are there.
-/
import Derived.Test.YtlgagdplnpeklaaDrawTwo
import Derived.Test.YtlgagdplnpeklaaLnM
namespace Go.Proofs.Ytlgagdplnpeklaa
open Go.RowKit

set_option maxHeartbeats 1000000 in
theorem specLineFalls_own (A : Option Addr) (c : Nat) (zs : List Int) (f t : Int) (w : World) (h : IR w 0 w.heap.size A zs) :
    Calls Try.prog 27 #[.slice A zs.length c, .int .i64 f, .int .i64 t] w (RetSB w (lineFallsM zs f t)) := by
  have H := Lib.hid h; clear h
  have hb0 : Below w.heap.size w (w.alloc (.cells #[] 3)) := (Below.refl _ _).alloc (Nat.le_refl _) _
  have HH := Lib.hid (H.out.grow hb0)
  clear hb0
  cases hr : rowB zs with
  | false =>
    have HM : Hid (lineFallsM zs f t = none) := fallsM_no (by simp [hr])
    have HR := Lib.hid hr; clear hr
    go_enter Try.func27, Try.ntmps27
    go_wp2_with fail
    refine (specRowIn_false _ _ _ _ zs _ HH.out HR.out).mono ?_; rintro e w' ⟨rfl, rfl⟩
    go_wp2
    go_ret2
    rw [HM.out]
    exact retSB_none ((Below.refl _ _).alloc (Nat.le_refl _) _)
  | true =>
    have HR := Lib.hid hr; clear hr
    cases hs : inB (-100) 100 f with
    | false =>
      have HM : Hid (lineFallsM zs f t = none) := fallsM_no (by simp [hs])
      have HS := Lib.hid hs; clear hs
      go_enter Try.func27, Try.ntmps27
      go_wp2_with fail
      refine (specRowIn_true _ _ _ _ zs _ HH.out HR.out).mono ?_; rintro e w' ⟨rfl, rfl⟩
      go_wp2_with fail
      refine (l6In_false _ _ _ _ HS.out).mono ?_; rintro e w' ⟨rfl, rfl⟩
      go_wp2
      go_ret2
      rw [HM.out]
      exact retSB_none ((Below.refl _ _).alloc (Nat.le_refl _) _)
    | true =>
      have HS := Lib.hid hs; clear hs
      cases ht : inB f 100 t with
      | false =>
        have HM : Hid (lineFallsM zs f t = none) := fallsM_no (by simp [ht])
        have HT := Lib.hid ht; clear ht
        go_enter Try.func27, Try.ntmps27
        go_wp2_with fail
        refine (specRowIn_true _ _ _ _ zs _ HH.out HR.out).mono ?_; rintro e w' ⟨rfl, rfl⟩
        go_wp2_with fail
        refine (l6In_true _ _ _ _ HS.out).mono ?_; rintro e w' ⟨rfl, rfl⟩
        go_wp2_with fail
        refine (l6In_false _ _ _ _ HT.out).mono ?_; rintro e w' ⟨rfl, rfl⟩
        go_wp2
        go_ret2
        rw [HM.out]
        exact retSB_none ((Below.refl _ _).alloc (Nat.le_refl _) _)
      | true =>
        have HM : Hid (lineFallsM zs f t = some (fallsL zs f (t - f + 1).toNat)) := by show _ = _; simp [lineFallsM, ht, HS.out, HR.out]
        have HT := Lib.hid ht; clear ht
        obtain ⟨f1, f2⟩ := inB_true.1 HS.out
        obtain ⟨t1, t2⟩ := inB_true.1 HT.out
        obtain ⟨n, hn⟩ : ∃ n : Nat, n = (t - f + 1).toNat := ⟨_, rfl⟩
        have hn' : (n : Int) = t - f + 1 := by omega
        rw [← hn] at HM
        clear hn
        go_enter Try.func27, Try.ntmps27
        go_wp2_with fail
        refine (specRowIn_true _ _ _ _ zs _ HH.out HR.out).mono ?_; rintro e w' ⟨rfl, rfl⟩
        go_wp2_with fail
        refine (l6In_true _ _ _ _ HS.out).mono ?_; rintro e w' ⟨rfl, rfl⟩
        go_wp2_with fail
        refine (l6In_true _ _ _ _ HT.out).mono ?_; rintro e w' ⟨rfl, rfl⟩
        go_wp2
        go_loopw [8, 9] (fun v i wr => ∃ k : Nat, k ≤ n ∧ i = .int .i64 (f + (k : Int)) ∧ OwnI wr w.heap.size v (fallsL zs f k) ∧ Below w.heap.size w wr) (fun _ i _ => (t + 1 - intOf i).toNat)
        case atStart => exact ⟨0, Nat.zero_le _, by go_num, by simpa [fallsL] using OwnI.made w, (Below.refl _ _).alloc (Nat.le_refl _) _⟩
        case round =>
          obtain ⟨k, hk, rfl, ho, hb⟩ := hrel
          have HO := Lib.hid ho; have HBl := Lib.hid hb
          clear ho hb
          by_cases hlt : k < n
          · have hle : f + (k : Int) ≤ t := by omega
            have h1 : -3000 ≤ f + (k : Int) := by omega
            have h2 : f + (k : Int) ≤ 3000 := by omega
            have HY := Lib.hid (fall_i64 HR.out h1 h2)
            have HLn := Lib.hid (show (fallsL zs f k).length < 17592186044416 by rw [falls_len]; omega)
            have HN := Lib.hid (falls_snoc zs f k)
            go_wp2_with fail
            refine (l2Fall_any _ _ _ _ _ zs (f + (k : Int)) _ (H.out.below HBl.out (Nat.le_refl _)) HR.out h1 h2 rfl).mono ?_; rintro e w' ⟨rfl, rfl⟩
            go_wp2_with (at_builtin; refine wpList_push rfl _ _ rfl w.heap.size _ _ rfl rfl HO.out HLn.out HY.out ?_; intro v1 w1 ho1 hb1)
            rw [← HN.out] at ho1
            have HO1 := Lib.hid ho1; have HB1 := Lib.hid hb1
            clear ho1 hb1
            go_roundw
            case rel => exact ⟨k + 1, by omega, by go_num, HO1.out, HBl.out.trans HB1.out⟩
            case measure => simp [intOf]; omega
          · obtain rfl : k = n := by omega
            have hle : ¬ f + (k : Int) ≤ t := by omega
            have ho := HO.out
            obtain ⟨A', c', rfl, hiw⟩ := ho.iw (by rw [falls_len]; omega)
            have HIW := Lib.hid hiw
            have HLn := Lib.hid (falls_len zs f k)
            clear hiw ho HO
            go_wp2
            go_ret2
            rw [HM.out]
            exact retSB_some rfl HIW.out HBl.out

/-- The call returns two numbers and a list of its own. -/
def NumsListPost (w : World) (e : Ending) (w' : World) : Prop :=
  ∃ x y A c zs, e = .returned (.tuple #[.int .i64 x, .int .i64 y, .slice A zs.length c]) ∧ IW w' w.heap.size w'.heap.size A zs ∧ Below w.heap.size w w'
theorem numsList_of {w w' : World} {n c lo hi : Nat} {x y : Int} {A : Option Addr} {zs : List Int} (hz : zs.length = n) (hi1 : IW w' lo hi A zs) (hlo : w.heap.size ≤ lo) (hb : Below w.heap.size w w') : NumsListPost w (.returned (.tuple #[.int .i64 x, .int .i64 y, .slice A n c])) w' := by
  subst hz
  exact ⟨x, y, A, c, zs, rfl, hi1.wide hlo hi1.2.2.1 (Nat.le_refl _), hb⟩

set_option maxRecDepth 100000 in
set_option maxHeartbeats 4000000 in
theorem DrawLineBack_any (A : Option Addr) (c : Nat) (bs : List Int) (w : World) (h : BR w w.heap.size A bs) (hc : bs.length ≤ c) (hc2 : c ≤ 9000000000000000000) :
    Calls Try.prog 36 #[.slice A bs.length c] w (NumsListPost w) := by
  have H := Lib.hid h
  clear h
  go_enter Try.func36, Try.ntmps36
  go_wp2_with fail
  refine (l6Open_any A c bs _ H.out hc hc2).mono ?_
  rintro e w1 ⟨rfl, hr, hb⟩
  have B0 := Lib.hid hb; have R0 := Lib.hid hr
  have hs := hb.size
  clear hb hr
  go_wp2_with fail
  refine (pick_any w.heap.size 0 _ _ R0.out (by omega) (by omega)).mono ?_
  rintro e w2 ⟨v0, rfl, v00, v01, -, hb, hsz, hr⟩
  have v02 := v01 (by omega)
  have hs1 : w.heap.size < w1.heap.size := R0.out.lt
  replace B0 := Lib.hid (B0.out.trans (hb.toBelow hs (Nat.le_refl _)))
  replace R0 := Lib.hid hr
  have hs2 := B0.out.size
  clear hb hsz hr hs v01
  go_wp2_with fail
  refine (pick_any w.heap.size _ _ _ R0.out (by omega) (by omega)).mono ?_
  rintro e w3 ⟨v1, rfl, v10, v11, -, hb, hsz, hr⟩
  have v12 := v11 (by omega)
  replace B0 := Lib.hid (B0.out.trans (hb.toBelow hs2 (Nat.le_refl _)))
  replace R0 := Lib.hid hr
  have hs3 := B0.out.size
  clear hb hsz hr v11
  go_wp2_with fail
  refine (l91Some_any w.heap.size _ 8 _ R0.out (by omega) (by omega)).mono ?_
  rintro e w4 ⟨A4, c4, za, p4, rfl, hz, hi, hb, hr, hp4, hcap⟩
  have I0 := Lib.hid hi
  replace B0 := Lib.hid (B0.out.trans (hb.toBelow hs3 (Nat.le_refl _)))
  have hR3 : w.heap.size < w3.heap.size := R0.out.lt
  replace R0 := Lib.hid hr
  have hs4 := B0.out.size
  clear hi hb hr hcap
  go_wp2_with fail
  refine (pick_any w.heap.size _ _ _ R0.out (by omega) (by omega)).mono ?_
  rintro e w5 ⟨v2, rfl, v20, v21, -, hb, hsz, hr⟩
  have v22 := v21 (by omega)
  replace I0 := Lib.hid (I0.out.but hb (by have := I0.out.2.2.1; omega) (.inl hR3))
  replace B0 := Lib.hid (B0.out.trans (hb.toBelow hs4 (Nat.le_refl _)))
  replace R0 := Lib.hid hr
  have hs5 := B0.out.size
  have hR5 : w.heap.size < w5.heap.size := R0.out.lt
  clear hb hsz hr v21
  go_wp2_with fail
  refine (specLineFalls_own _ _ za _ _ _ I0.out.toIR.toAll).mono ?_
  rintro e w6 ⟨A6, c6, rfl, hi, hb⟩
  obtain ⟨o, ho⟩ : ∃ o, o = lineFallsM za (v1 - 15) (v1 - 15 + v2) := ⟨_, rfl⟩
  rw [← ho] at hi
  have R6 := Lib.hid (R0.out.below hb hR5)
  have B6 := Lib.hid (below_then B0.out (Nat.le_refl _) hb)
  have J6 := Lib.hid hi
  have hs6 : w5.heap.size ≤ w6.heap.size := hb.size
  rw [← ho]
  clear hi hb ho
  cases o with
  | none =>
    have e1 : (none : Option (List Int)).getD [] = [] := rfl
    have e2 : (none : Option (List Int)).isSome = false := rfl
    rw [e1, e2]
    clear e1 e2 J6
    go_wp2_with fail
    refine (pick_any w.heap.size _ _ _ R6.out (by omega) (by omega)).mono ?_
    rintro e w8 ⟨v4, rfl, v40, v41, -, hb, hsz, hr⟩
    have v42 := v41 (by omega)
    have B8 := Lib.hid (B6.out.trans (hb.toBelow B6.out.size (Nat.le_refl _)))
    have R8 := Lib.hid hr
    clear hb hsz hr v41
    obtain ⟨N, hN⟩ : ∃ N : Nat, 1 + v4 = (N : Int) := ⟨(1 + v4).toNat, by omega⟩
    go_wp2_with fail
    refine (l91Row_n w.heap.size _ N _ R8.out (by omega) (by omega) rfl).mono ?_
    rintro e w9 ⟨A9, c9, zc, p9, rfl, hzc, hi9, hb9, hr9, hp9, -⟩
    have R9 := Lib.hid hr9; have I9 := Lib.hid hi9
    have hR8 : w.heap.size < w8.heap.size := R8.out.lt
    have B9 := Lib.hid (B8.out.trans (hb9.toBelow B8.out.size (Nat.le_refl _)))
    clear hi9 hb9 hr9
    go_wp2_with fail
    refine (pick_any w.heap.size _ _ _ R9.out (by omega) (by omega)).mono ?_
    rintro e w10 ⟨v5, rfl, v50, v51, -, hb, hsz, hr⟩
    have I10 := Lib.hid (I9.out.but hb (by have := I9.out.2.2.1; omega) (.inl hR8))
    have B10 := Lib.hid (B9.out.trans (hb.toBelow B9.out.size (Nat.le_refl _)))
    clear hb hsz hr
    go_wp2
    go_ret3
    exact numsList_of hzc I10.out (Nat.le_of_lt hR8) B10.out
  | some fs =>
    have e1 : (some fs).getD [] = fs := rfl
    have e2 : (some fs).isSome = true := rfl
    rw [e1] at J6
    rw [e1, e2]
    clear e1 e2
    go_wp2_with fail
    refine (pick_any w.heap.size _ _ _ R6.out (by omega) (by omega)).mono ?_
    rintro e w7 ⟨v3, rfl, v30, v31, -, hb, hsz, hr⟩
    have B7 := Lib.hid (B6.out.trans (hb.toBelow B6.out.size (Nat.le_refl _)))
    have J7 := Lib.hid (J6.out.but hb (by have := J6.out.2.2.1; omega) (.inl hR5))
    have R7 := Lib.hid hr
    clear hb hsz hr v31
    by_cases h3 : v3 = 0
    · subst h3
      go_wp2_with fail
      refine (pick_any w.heap.size _ _ _ R7.out (by omega) (by omega)).mono ?_
      rintro e w8 ⟨v4, rfl, v40, v41, -, hb, hsz, hr⟩
      have v42 := v41 (by omega)
      have B8 := Lib.hid (B7.out.trans (hb.toBelow B7.out.size (Nat.le_refl _)))
      have R8 := Lib.hid hr
      clear hb hsz hr v41
      obtain ⟨N, hN⟩ : ∃ N : Nat, 1 + v4 = (N : Int) := ⟨(1 + v4).toNat, by omega⟩
      go_wp2_with fail
      refine (l91Row_n w.heap.size _ N _ R8.out (by omega) (by omega) rfl).mono ?_
      rintro e w9 ⟨A9, c9, zc, p9, rfl, hzc, hi9, hb9, hr9, hp9, -⟩
      have R9 := Lib.hid hr9; have I9 := Lib.hid hi9
      have hR8 : w.heap.size < w8.heap.size := R8.out.lt
      have B9 := Lib.hid (B8.out.trans (hb9.toBelow B8.out.size (Nat.le_refl _)))
      clear hi9 hb9 hr9
      go_wp2_with fail
      refine (pick_any w.heap.size _ _ _ R9.out (by omega) (by omega)).mono ?_
      rintro e w10 ⟨v5, rfl, v50, v51, -, hb, hsz, hr⟩
      have I10 := Lib.hid (I9.out.but hb (by have := I9.out.2.2.1; omega) (.inl hR8))
      have B10 := Lib.hid (B9.out.trans (hb.toBelow B9.out.size (Nat.le_refl _)))
      clear hb hsz hr
      go_wp2
      go_ret3
      exact numsList_of hzc I10.out (Nat.le_of_lt hR8) B10.out
    · go_wp2_with fail
      refine (pick_any w.heap.size _ _ _ R7.out (by omega) (by omega)).mono ?_
      rintro e w8 ⟨v5, rfl, v50, v51, -, hb, hsz, hr⟩
      have I10 := Lib.hid (J7.out.but hb (by have := J7.out.2.2.1; omega) (.inl hR5))
      have B10 := Lib.hid (B7.out.trans (hb.toBelow B7.out.size (Nat.le_refl _)))
      clear hb hsz hr
      go_wp2
      go_ret3
      exact numsList_of rfl I10.out (Nat.le_of_lt hR5) B10.out
end Go.Proofs.Ytlgagdplnpeklaa
