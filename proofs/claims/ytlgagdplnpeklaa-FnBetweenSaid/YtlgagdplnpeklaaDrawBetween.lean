/-
  The draw of two rows that often have a line between them (DrawLineBetween), and a list with its signs turned (turned). Conditions: the code's cells are there.
-/
import Derived.Test.YtlgagdplnpeklaaDrawTwo
import Derived.Test.YtlgagdplnpeklaaLnM
namespace Go.Proofs.Ytlgagdplnpeklaa
open Go.RowKit

theorem i64_wrap (x : Int) : I64 (IntKind.i64.wrap x) := by
  rw [IntWalk.i64_left]
  have := wrap64_i64 x
  exact this

set_option maxRecDepth 100000 in
set_option maxHeartbeats 1000000 in
theorem turned_any (A : Option Addr) (c lo hi : Nat) (zs : List Int) (w : World) (h : IR w lo hi A zs) (hr : rowB zs = true) :
    Calls Try.prog 46 #[.slice A zs.length c] w (RetS w (turnL zs)) := by
  have hl := (rowB_true.1 hr).2
  have H := Lib.hid h; have HR := Lib.hid hr
  clear h hr
  go_enter Try.func46, Try.ntmps46
  go_wp2
  go_loopw [3, 4] (fun v i wr => ∃ k : Nat, k ≤ zs.length ∧ i = .int .i64 k ∧ OwnI wr w.heap.size v ((turnL zs).take k) ∧ Below w.heap.size w wr) (fun _ i _ => zs.length - (intOf i).toNat)
  case atStart => exact ⟨0, Nat.zero_le _, rfl, by simpa using OwnI.made w, (Below.refl _ _).alloc (Nat.le_refl _) _⟩
  case round =>
    obtain ⟨k, hk, rfl, ho, hb⟩ := hrel
    have HO := Lib.hid ho; have HBl := Lib.hid hb
    clear ho hb
    by_cases hlt : k < zs.length
    · have hlt' : (k : Int) < (zs.length : Int) := by omega
      obtain ⟨b, off, rfl, _, _, hc⟩ := (H.out.below HBl.out H.out.2.2.1).at_ hlt
      obtain ⟨y1, y2⟩ := row_getD HR.out k hlt
      rw [getD_in hlt] at y1 y2
      have HY := Lib.hid (show I64 (-zs[k]) by unfold I64; omega)
      have HLn := Lib.hid (show ((turnL zs).take k).length < 17592186044416 by simp; omega)
      have HT := Lib.hid (turn_take zs k hlt)
      have s1 : IntKind.i64.wrap (0 - zs[k]) = -zs[k] := by rw [IntWalk.i64_in _ (by omega)]; omega
      have s2 : IntKind.i64.wrap (-zs[k]) = -zs[k] := IntWalk.i64_in _ (by omega)
      go_wp2_with (at_builtin; refine wpList_push rfl _ _ rfl w.heap.size _ _ rfl rfl HO.out HLn.out HY.out ?_; intro v1 w4 ho1 hb1)
      rw [HT.out] at ho1
      have HO1 := Lib.hid ho1; have HB1 := Lib.hid hb1
      clear ho1 hb1 s1 s2
      go_roundw
      case rel => exact ⟨k + 1, by omega, by go_num, HO1.out, HBl.out.trans HB1.out⟩
      case measure => simp [intOf]; omega
    · obtain rfl : k = zs.length := by omega
      have ho := HO.out
      rw [List.take_of_length_le (by rw [turn_len]; exact Nat.le_refl _)] at ho
      obtain ⟨A', c', rfl, hiw⟩ := ho.iw (by rw [turn_len]; omega)
      have HIW := Lib.hid hiw
      clear hiw ho HO
      go_wp2
      go_ret
      exact ⟨A', c', rfl, HIW.out, HBl.out⟩

set_option maxRecDepth 100000 in
set_option maxHeartbeats 4000000 in
theorem DrawLineBetween_any (A : Option Addr) (c : Nat) (bs : List Int) (w : World) (h : BR w w.heap.size A bs) (hc : bs.length ≤ c) (hc2 : c ≤ 9000000000000000000) :
    Calls Try.prog 43 #[.slice A bs.length c] w (TwoPost w 9) := by
  have H := Lib.hid h
  clear h
  go_enter Try.func43, Try.ntmps43
  go_wp2_with fail
  refine (l6Open_any A c bs _ H.out hc hc2).mono ?_
  rintro e w1 ⟨rfl, hr, hb⟩
  have B0 := Lib.hid hb; have R0 := Lib.hid hr
  have hs := hb.size
  clear hb hr
  go_wp2_with fail
  refine (pick_any w.heap.size 0 _ _ R0.out (by omega) (by omega)).mono ?_
  rintro e w2 ⟨v0, rfl, v00, v01, -, hb, hsz, hr⟩
  have v02 := v01 (by omega)
  have hs1 : w.heap.size < w1.heap.size := R0.out.lt
  replace B0 := Lib.hid (B0.out.trans (hb.toBelow hs (Nat.le_refl _)))
  replace R0 := Lib.hid hr
  have hs2 := B0.out.size
  have hs12 := hsz
  clear hb hsz hr hs v01
  obtain ⟨N, hN⟩ : ∃ N : Nat, 1 + v0 = (N : Int) := ⟨(1 + v0).toNat, by omega⟩
  have hN1 : 1 ≤ N := by omega
  have hN8 : N ≤ 8 := by omega
  have sN : IntKind.i64.wrap (1 + v0) = (N : Int) := by rw [hN]; exact IntWalk.i64_in _ (by omega)
  have sN2 : 1 + v0 = (N : Int) := hN
  have hNN : N - 1 + 1 = N := by omega
  go_wp2_with fail
  refine (l91Bent_n w.heap.size _ N _ R0.out (by omega) (by omega) (by omega)).mono ?_
  rintro e w3 ⟨A2, c2, za, p2, rfl, hz, hi, hb, hr, hp2, hcap⟩
  rw [hNN] at hcap hz ⊢
  have hza : za.length = N := by omega
  have I0 := Lib.hid hi
  replace B0 := Lib.hid (B0.out.trans (hb.toBelow hs2 (Nat.le_refl _)))
  replace R0 := Lib.hid hr
  have hs3 := B0.out.size
  have hR3 : w.heap.size < w3.heap.size := R0.out.lt
  clear hi hb hr hz hcap
  go_wp2_with fail
  refine (l91Bent_n w.heap.size _ N _ R0.out (by omega) (by omega) (by omega)).mono ?_
  rintro e w4 ⟨A4, c4, zb, p4, rfl, hz, hi, hb, hr, hp4, hcap⟩
  rw [hNN] at hcap hz ⊢
  have hzb : zb.length = N := by omega
  have HK := Lib.hid hcap
  have J0 := Lib.hid hi
  replace I0 := Lib.hid (I0.out.but hb (by have := I0.out.2.2.1; omega) (.inl (by omega)))
  replace B0 := Lib.hid (B0.out.trans (hb.toBelow hs3 (Nat.le_refl _)))
  replace R0 := Lib.hid hr
  have hs4 := B0.out.size
  clear hi hb hr hz hcap
  have hRl : w.heap.size < w4.heap.size := R0.out.lt
  have HB0 := Lib.hid B0.out
  have HZA := Lib.hid hza; have HZB := Lib.hid hzb
  clear hza hzb hN sN2
  go_wp2
  go_loopw [8, 9, 10] (fun v g i wr => ∃ (k : Nat) (O : List Int) (G : Int), k ≤ N ∧ i = .int .i64 k ∧ g = .int .i64 G ∧ O.length = k ∧ I64 G ∧ OwnI wr w4.heap.size v O ∧ Below w4.heap.size w4 wr) (fun _ _ i _ => N - (intOf i).toNat)
  case atStart => exact ⟨0, [], -1000, Nat.zero_le _, rfl, rfl, rfl, by unfold I64; omega, OwnI.made w4, (Below.refl _ _).alloc (Nat.le_refl _) _⟩
  case round =>
    obtain ⟨k, O, G, hk, rfl, rfl, hO, hG, ho, hb⟩ := hrel
    have HO := Lib.hid ho; have HBl := Lib.hid hb; have HOL := Lib.hid hO; have HG := Lib.hid hG
    clear ho hb hO hG
    by_cases hlt : k < N
    · have hlt' : (k : Int) < (N : Int) := by omega
      have ha : k < za.length := by rw [HZA.out]; exact hlt
      have hb : k < zb.length := by rw [HZB.out]; exact hlt
      obtain ⟨b1, o1, rfl, hbh, _, hca⟩ := (I0.out.toIR.below HBl.out I0.out.2.2.1).at_ ha
      obtain ⟨b2, o2, rfl, hbh2, _, hcb⟩ := (J0.out.toIR.below HBl.out J0.out.2.2.1).at_ hb
      obtain ⟨x, hx⟩ : ∃ x, za[k]'ha = x := ⟨_, rfl⟩
      obtain ⟨z, hz⟩ : ∃ z, zb[k]'hb = z := ⟨_, rfl⟩
      rw [hx] at hca
      rw [hz] at hcb
      obtain ⟨y, hy⟩ : ∃ y, IntKind.i64.wrap (0 - x) = y := ⟨_, rfl⟩
      have hy2 : IntKind.i64.wrap (-x) = y := by rw [← hy, Int.zero_sub]
      have HY := Lib.hid (show I64 y by rw [← hy]; exact i64_wrap _)
      obtain ⟨d, hd⟩ : ∃ d, IntKind.i64.wrap (y - z) = d := ⟨_, rfl⟩
      have HD := Lib.hid (show I64 d by rw [← hd]; exact i64_wrap _)
      have HLn := Lib.hid (show O.length < 17592186044416 by have := HOL.out; omega)
      have h2l : b2 < w4.heap.size := hbh2
      have HKN := Lib.hid (Int.natCast_nonneg k)
      clear hx hz ha hb
      go_wp2_with (at_builtin; refine wpList_push rfl _ _ rfl w4.heap.size _ _ rfl rfl HO.out HLn.out HY.out ?_; intro v1 w5 ho1 hb1)
      obtain ⟨A', c', rfl, hiw⟩ := ho1.iwn (n := k + 1) (by have := HOL.out; simp; omega) (by omega)
      have hOk : k < (O ++ [y]).length := by have := HOL.out; simp; omega
      obtain ⟨b3, o3, rfl, _, _, hco⟩ := hiw.toIR.at_ hOk
      have hget : (O ++ [y])[k]'hOk = y := by
        have h := HOL.out
        subst h
        simp
      rw [hget] at hco
      have hcb5 := (hb1.cell (p := ⟨b2, o2 + k, none⟩) h2l).trans hcb
      have HO1 := Lib.hid ho1; have HB1 := Lib.hid hb1
      have HOL1 := Lib.hid (show (O ++ [y]).length = k + 1 by have := HOL.out; simp; omega)
      have hk1 : (k : Int) < ((k + 1 : Nat) : Int) := by omega
      have hk1' : (k : Int) < (k : Int) + 1 := by omega
      clear ho1 hb1 hiw hget hOk hca hcb
      by_cases hgd : G < d
      · go_wp2
        go_quiet (fail)
        go_wp2
        go_roundw
        case rel => exact ⟨k + 1, O ++ [y], d, by omega, by go_num, by simp, HOL1.out, HD.out, HO1.out.drewN _, below_drawN (HBl.out.trans HB1.out) _⟩
        case measure => simp [intOf]; omega
      · go_wp2
        go_quiet (fail)
        go_wp2
        go_roundw
        case rel => exact ⟨k + 1, O ++ [y], G, by omega, by go_num, by simp, HOL1.out, HG.out, HO1.out.drewN _, below_drawN (HBl.out.trans HB1.out) _⟩
        case measure => simp [intOf]; omega
    · obtain rfl : k = N := by omega
      obtain ⟨A', c', rfl, hiw, hcap⟩ := HO.out.iwc HOL.out (by omega)
      have R5 := Lib.hid (R0.out.below HBl.out hRl)
      have J5 := Lib.hid (J0.out.below HBl.out (Nat.le_refl _))
      have B5 := Lib.hid (B0.out.trans (HBl.out.mono (Nat.le_of_lt hRl)))
      have HIW := Lib.hid hiw; have HCAP := Lib.hid hcap
      have hs5 := HBl.out.size
      clear hiw hcap HO
      go_wp2_with fail
      refine (pick_any w.heap.size _ _ _ R5.out (by omega) (by omega)).mono ?_
      rintro e w6 ⟨K, rfl, k0, k1, -, hb, hsz, hr⟩
      have hlo : w.heap.size < w4.heap.size := hRl
      replace R5 := Lib.hid hr
      replace J5 := Lib.hid (J5.out.but hb (by omega) (.inl (by omega)))
      replace HIW := Lib.hid (HIW.out.but hb (Nat.le_refl _) (.inl hlo))
      replace B5 := Lib.hid (B5.out.trans (hb.toBelow (Nat.le_trans (Nat.le_of_lt hlo) hs5) (Nat.le_refl _)))
      have hs6 : w4.heap.size ≤ w6.heap.size := by omega
      have hs6w := B5.out.size
      clear hb hr hsz
      obtain ⟨b1, off1, e1, lo1, hi1, hcells⟩ := HIW.out.2.2.2 (by rw [HOL.out]; omega)
      subst e1
      have HCl := Lib.hid (show Cells w6 b1 off1 O from hcells)
      have HOI := Lib.hid HIW.out.2.1
      have hwsz := Lib.hid (HIW.out.2.2.1)
      clear hcells
      rcases Classical.em (K = 0) with hK | hK
      case' inl =>
        subst hK
        obtain ⟨G1, hG1⟩ : ∃ g, IntKind.i64.wrap (G - 1) = g := ⟨_, rfl⟩
        have HG1 := Lib.hid (show I64 G1 by rw [← hG1]; exact i64_wrap _)
        go_wp2
        clear hG1
      case' inr =>
        obtain ⟨G1, hG1⟩ : ∃ g, g = G := ⟨_, rfl⟩
        subst hG1
        have HG1 := HG
        go_wp2
      all_goals
        go_loopw [11] (fun i wr => ∃ (j : Nat) (P : List Int), j ≤ k ∧ i = .int .i64 j ∧ P.length = k ∧ Cells wr b1 off1 P ∧ (∀ z, z ∈ P → I64 z) ∧ Only w4.heap.size w6.heap.size w6 wr) (fun i _ => k - (intOf i).toNat)
        case atStart => exact ⟨0, O, Nat.zero_le _, rfl, HOL.out, HCl.out, HOI.out, Only.refl _ _ _⟩
        case round =>
          obtain ⟨j, P, hj, rfl, hP, hcl, hI, ho⟩ := hrel
          have HPL := Lib.hid hP; have HCP := Lib.hid hcl; have HPI := Lib.hid hI; have HOn := Lib.hid ho
          clear hP hcl hI ho
          by_cases hlt : j < k
          · have hlt' : (j : Int) < (k : Int) := by omega
            have hPj : j < P.length := by rw [HPL.out]; exact hlt
            obtain ⟨hcx, hfx⟩ := HCP.out j hPj
            obtain ⟨y, hy⟩ : ∃ y, P[j]'hPj = y := ⟨_, rfl⟩
            rw [hy] at hcx
            obtain ⟨d, hd⟩ : ∃ d, IntKind.i64.wrap (y - G1) = d := ⟨_, rfl⟩
            have HD := Lib.hid (show I64 d by rw [← hd]; exact i64_wrap _)
            have HC2 := Lib.hid (HCP.out.set_ j hPj d)
            have HO2 := Lib.hid (HOn.out.set_ (b := b1) (off := off1 + j) lo1 (by have := hwsz.out; omega) (.int .i64 d))
            have HI2 := Lib.hid (show ∀ z, z ∈ P.set j d → I64 z from fun z hz => by
              rcases List.mem_or_eq_of_mem_set hz with h | h
              · exact HPI.out z h
              · rw [h]; exact HD.out)
            clear hy hPj
            go_wp2
            go_roundw
            case rel => exact ⟨j + 1, _, by omega, by go_num, by simp; exact HPL.out, HC2.out, HI2.out, HO2.out⟩
            case measure => simp [intOf]; omega
          · obtain rfl : j = k := by omega
            have hbo : Below w4.heap.size w6 wr := below_only (Below.refl _ _) HOn.out (Nat.le_refl _)
            have R7 := Lib.hid (R5.out.below hbo hlo)
            have J7 := Lib.hid (J5.out.below hbo (Nat.le_refl _))
            have B7 := Lib.hid (B5.out.trans (hbo.mono (Nat.le_of_lt hlo)))
            have HI7 := Lib.hid (HCP.out.iw (lo := w4.heap.size) (hi := wr.heap.size) HPL.out lo1 (by have := HOn.out.size; have := hwsz.out; omega) (Nat.le_refl _) (by omega) HPI.out)
            have hs7 : w4.heap.size ≤ wr.heap.size := by have := HOn.out.size; omega
            clear hbo
            go_wp2_with fail
            refine (pick_any w.heap.size _ _ _ R7.out (by omega) (by omega)).mono ?_
            rintro e w8 ⟨L, rfl, -, -, -, hb, hsz, hr⟩
            have R8 := Lib.hid hr
            have J8 := Lib.hid (J7.out.but hb hs7 (.inl (by omega)))
            have HI8 := Lib.hid (HI7.out.but hb (Nat.le_refl _) (.inl hlo))
            have B8 := Lib.hid (B7.out.trans (hb.toBelow (by omega) (Nat.le_refl _)))
            have hs8 : w4.heap.size ≤ w8.heap.size := by omega
            clear hb hr hsz
            by_cases hL : L = 0
            · subst hL
              go_wp2_with fail
              refine (l91Row_n w.heap.size _ j _ R8.out (by omega) (by omega) rfl).mono ?_
              rintro e w9 ⟨A9, c9, zc, p9, rfl, hzc, hi9, hb9, -, -, hcap9⟩
              have K9 := Lib.hid hi9; have C9 := Lib.hid hcap9
              have J9 := Lib.hid (J8.out.but hb9 hs8 (.inl (by omega)))
              have B9 := Lib.hid (B8.out.trans (hb9.toBelow (by have := B8.out.size; omega) (Nat.le_refl _)))
              have hs9 := B8.out.size
              clear hi9 hb9 hcap9
              go_wp2
              go_ret2
              exact twoPost_of hzc HZB.out (by omega) (by omega) K9.out J9.out hs9 (by omega) B9.out rfl rfl C9.out HK.out
            · go_wp2
              go_ret2
              exact twoPost_of HPL.out HZB.out (by omega) (by omega) HI8.out J8.out (Nat.le_of_lt hlo) (by omega) B8.out rfl rfl HCAP.out HK.out
end Go.Proofs.Ytlgagdplnpeklaa
