/-
  The law FnMatchTilt walked: for all codes it returns true, and nothing that lay before has turned. Conditions: none but those of its row.
-/
import Derived.Test.YtfkmnlhmldjieabDW
import Derived.Test.YtfkmnlhmldjieabTbR
import Derived.Test.YtfkmnlhmldjieabSamE
import Derived.BigQuiet
namespace Go.Proofs.Ytfkmnlhmldjieab
open Go.RowKit

theorem l92Square_any (R p : Nat) (w : World) (h : Rd w R p) (hp : p ≤ 700000000) :
    Calls Try.prog 49 #[.pointer (some ⟨R, 0, none⟩), .int .i64 5] w (TabPost w R p 1001) := by
  have H := Lib.hid h
  have hR := h.lt
  clear h
  go_enter Try.func49, Try.ntmps49
  go_wp2_with fail
  refine (pick_any R p 5 _ H.out (by omega) (by omega)).mono ?_
  rintro e w1 ⟨v, rfl, v0, v1, -, hb, hs, hr⟩
  have v2 := v1 (by omega)
  obtain ⟨n, hn⟩ : ∃ n : Nat, 1 + v = (n : Int) := ⟨(1 + v).toNat, by omega⟩
  have t0 : IntKind.i64.wrap (1 + v) = (n : Int) := by rw [← hn]; exact IntWalk.i64_in _ (by omega)
  have hn1 : 1 ≤ n ∧ n ≤ 12 := by omega
  have HB := Lib.hid hb; have HR := Lib.hid hr
  clear hb hr v1 hn v0 v2
  go_wp2_with fail
  refine (l92Table_any R (p + 1) n n _ HR.out (by omega) hn1 hn1).mono ?_
  rintro e w2 ⟨A2, m2, c2, t, p2, rfl, hm, hcc, hcc2, hi, hb, hr, hp2⟩
  have HI := Lib.hid hi; have HB2 := Lib.hid (HB.out.then_ (Nat.le_refl _) hb); have HR2 := Lib.hid hr
  have hsz := hb.size
  have hs' := hs
  clear hb hr hi
  go_wp2
  go_ret
  exact ⟨A2, m2, c2, t, p2, rfl, hm, hcc, hcc2, HI.out.wide (Nat.le_of_eq hs'.symm) (Nat.le_refl _) (Nat.le_refl _), HB2.out, HR2.out, by omega⟩
set_option maxRecDepth 100000 in
theorem DrawTableMatch_any (A : Option Addr) (c : Nat) (bs : List Int) (w : World) (h : BR w w.heap.size A bs) (hc : bs.length ≤ c) (hc2 : c ≤ 9000000000000000000) :
    Calls Try.prog 20 #[.slice A bs.length c] w (OneTPost w) := by
  have H := Lib.hid h
  clear h
  go_enter Try.func20, Try.ntmps20
  go_wp2_with fail
  refine (l6Open_any A c bs _ H.out hc hc2).mono ?_
  rintro e w1 ⟨rfl, hr, hb⟩
  have B0 := Lib.hid hb; have R0 := Lib.hid hr
  have hs2 := B0.out.size
  clear hb hr
  go_wp2_with fail
  refine (pick_any w.heap.size _ 20 _ R0.out (by omega) (by omega)).mono ?_
  rintro e w2 ⟨v, rfl, v0, v1, -, hb, hs, hr⟩
  replace B0 := Lib.hid (B0.out.trans (hb.toBelow hs2 (Nat.le_refl _)))
  replace R0 := Lib.hid hr
  have hs2 := B0.out.size
  clear hb hs hr v1
  by_cases hv : v = 0
  · have hvb : (v == 0) = true := by simpa using hv
    clear hv
    go_wp2_with fail
    refine (l92Table_any w.heap.size _ 2 3 _ R0.out (by omega) (by omega) (by omega)).mono ?_
    rintro e w4 ⟨A4, m4, c4, t, p4, rfl, rfl, hcc, hcc2, hi, hb, hr, hp4⟩
    have I0 := Lib.hid hi
    replace B0 := Lib.hid (B0.out.trans (hb.toBelow hs2 (Nat.le_refl _)))
    clear hi hb hr
    go_wp2
    go_ret
    exact ⟨A4, c4, t, rfl, I0.out.wide (Nat.zero_le _) (Nat.le_refl _) (Nat.le_refl _), B0.out⟩
  · have hvb : (v == 0) = false := by rw [beq_eq_false_iff_ne]; exact hv
    clear hv
    go_wp2_with fail
    refine (l92Square_any w.heap.size _ _ R0.out (by omega)).mono ?_
    rintro e w4 ⟨A4, m4, c4, t, p4, rfl, rfl, hcc, hcc2, hi, hb, hr, hp4⟩
    have I0 := Lib.hid hi
    replace B0 := Lib.hid (B0.out.trans (hb.toBelow hs2 (Nat.le_refl _)))
    clear hi hb hr
    go_wp2
    go_ret
    exact ⟨A4, c4, t, rfl, I0.out.wide (Nat.zero_le _) (Nat.le_refl _) (Nat.le_refl _), B0.out⟩

theorem cost_snoc (f : Nat → Nat → Int) : ∀ (l : List Nat) (i j : Nat), j < l.length → costOf f i (l.take (j + 1)) = costOf f i (l.take j) + f (i + j) (l.getD j 0)
  | [], _, _, h => by simp at h
  | k :: l, i, 0, _ => by simp [costOf]
  | k :: l, i, j + 1, h => by
    have ih := cost_snoc f l (i + 1) j (by simpa using h)
    simp only [List.take_succ_cons, costOf]
    rw [ih, show i + 1 + j = i + (j + 1) by omega]
    simp; omega
theorem cost_take_bd {f : Nat → Nat → Int} {n : Nat} {M : List Nat} (hE : ∀ i k, i < n → k < n → -1000 ≤ f i k ∧ f i k ≤ 1000) (m1 : M.length = n) (m3 : ∀ k, k ∈ M → k < n) : ∀ j : Nat, j ≤ n → -1000 * (j : Int) ≤ costOf f 0 (M.take j) ∧ costOf f 0 (M.take j) ≤ 1000 * (j : Int)
  | 0, _ => by simp [costOf]
  | j + 1, h => by
    have ih := cost_take_bd hE m1 m3 j (by omega)
    rw [cost_snoc f M 0 j (by omega), Nat.zero_add]
    have hk : M.getD j 0 < n := by
      rw [List.getD_eq_getElem?_getD, List.getElem?_eq_getElem (show j < M.length by omega)]; exact m3 _ (List.getElem_mem _)
    have := hE j _ (by omega) hk
    omega

theorem ent_snoc (zss : List (List Int)) (ys : List Int) (j k : Nat) (hj : j < zss.length + 1) : ent (zss ++ [ys]) j k = if j < zss.length then ent zss j k else ys.getD k 0 := by
  unfold ent
  by_cases h : j < zss.length
  · rw [if_pos h, List.getD_eq_getElem?_getD, List.getD_eq_getElem?_getD, List.getElem?_append_left h, ← List.getD_eq_getElem?_getD, ← List.getD_eq_getElem?_getD]
  · rw [if_neg h, List.getD_eq_getElem?_getD (l := zss ++ [ys]), List.getElem?_append_right (by omega), show j - zss.length = 0 by omega]; rfl
theorem tilt_next {t u : List (List Int)} {n : Nat} {C : Int} {L : List Int} (hn : 1 ≤ n) (hu : Sh u n n) (he : ∀ i k, i < n → k < n → ent u i k = if i = 0 then ent t i k + 1 else ent t i k)
    (hC : (matchM (ent t) n n []).1 = C) (hL : ((matchM (ent t) n n []).2.map fun k : Nat => (k : Int)) = L) : matchI u = none ∨ matchI u = some (C + 1, L) := by
  unfold matchI
  split
  · right
    rw [hu.1, match_congr (f' := fun i k => if i = 0 then ent t i k + 1 else ent t i k) he n [] (Nat.le_refl _), match_tilt hn]
    dsimp only
    rw [hC, hL]
  · exact .inl rfl
def TN (t : List (List Int)) (n : Nat) (w0 : World) (i : Nat) (v : Value) (wr : World) : Prop :=
  ∃ zss F C, zss.length = i ∧ (∀ r, r ∈ zss → r.length = n) ∧ (∀ j k, j < i → k < n → ent zss j k = if j = 0 then ent t j k + 1 else ent t j k) ∧ DT wr w0.heap.size v zss F C ∧ Below w0.heap.size w0 wr
theorem DT.drewN {w : World} {base : Nat} {v : Value} {zss : List (List Int)} {F : Nat → Option Addr} {C : Nat → Nat} (h : DT w base v zss F C) (q : Nat) : DT (w.drewN q) base v zss F C :=
  h.keepZ (Nat.le_refl _) (fun _ => False) (fun _ _ _ => rfl) (fun _ _ => id) (fun _ _ _ _ => id)

set_option maxHeartbeats 1500000 in
set_option maxRecDepth 100000 in
theorem lawFnMatchTilt_any (A0 : Option Addr) (c0 : Nat) (bs : List Int) (w : World) (h0 : BR w w.heap.size A0 bs) (hc : bs.length ≤ c0) (hc2 : c0 ≤ 9000000000000000000) :
    Calls Try.prog 6 #[.slice A0 bs.length c0] w fun e w' => e = .returned (.bool true) ∧ Below w.heap.size w w' := by
  by_cases hbig : (1048576 : Int) < (bs.length : Int)
  · clear h0
    go_enter Try.func6, Try.ntmps6
    go_wp2
    go_ret
    exact ⟨rfl, Below.refl _ _⟩
  have H0 := Lib.hid h0
  clear h0
  have BB := Lib.hid (Below.refl w.heap.size w)
  go_enter Try.func6, Try.ntmps6
  go_wp2_with fail
  refine (DrawTableMatch_any _ _ bs _ H0.out hc hc2).mono ?_
  rintro e w1 ⟨A, c, t, rfl, iw, bb⟩
  replace BB := Lib.hid (below_then BB.out (Nat.le_refl _) bb)
  have Z := Lib.hid iw
  clear bb
  clear iw
  go_wp2_with fail
  refine (implTableMatch_any _ _ t _ Z.out.toAll).mono ?_
  rintro e w2 ⟨A2, c2, rfl, iw, bb⟩
  replace BB := Lib.hid (below_then BB.out (Nat.le_refl _) bb)
  replace Z := Lib.hid (Z.out.grow bb)
  have G := Lib.hid iw.toIR.toAll
  clear bb
  clear iw
  go_wp2_with fail
  refine (specTableMatch_any _ _ _ _ t _ Z.out.toAll).mono ?_
  rintro e w3 ⟨A3, c3, rfl, iw, bb⟩
  replace BB := Lib.hid (below_then BB.out (Nat.le_refl _) bb)
  replace Z := Lib.hid (Z.out.grow bb)
  replace G := Lib.hid (G.out.grow bb)
  have V := Lib.hid iw.toAll
  clear bb
  clear iw
  obtain ⟨o, hm⟩ : ∃ o, matchI t = o := ⟨_, rfl⟩
  rw [hm] at G V
  rw [hm]
  cases o with
  | none =>
    clear hm
    replace G : Hid (IR w3 _ _ A2 []) := G
    replace V : Hid (IR w3 _ _ A3 []) := V
    go_wp2_with fail
    refine (sameInts_b _ _ _ _ _ _ _ _ _ _ [] _ G.out V.out rfl rfl).mono ?_
    rintro e w4 ⟨rfl, bb⟩
    replace BB := Lib.hid (below_then BB.out (Nat.le_refl _) bb)
    replace G := Lib.hid (G.out.grow bb)
    replace V := Lib.hid (V.out.grow bb)
    clear bb
    go_wp2_with fail
    refine (sameInts_b _ _ _ _ _ _ _ _ _ _ [] _ G.out V.out rfl rfl).mono ?_
    rintro e w5 ⟨rfl, bb⟩
    replace BB := Lib.hid (below_then BB.out (Nat.le_refl _) bb)
    replace G := Lib.hid (G.out.grow bb)
    replace V := Lib.hid (V.out.grow bb)
    clear bb
    go_wp2
    go_ret
    exact ⟨rfl, BB.out⟩
  | some o =>
    obtain ⟨C, L⟩ := o
    have e1 : (some (C, L)).getD (0, []) = (C, L) := rfl
    rw [e1]
    dsimp only
    replace G : Hid (IR w3 _ _ A2 L) := G
    replace V : Hid (IR w3 _ _ A3 L) := V
    clear e1
    go_wp2_with fail
    refine (sameInts_b _ _ _ _ _ _ _ _ _ _ L _ G.out V.out rfl rfl).mono ?_
    rintro e w4 ⟨rfl, bb⟩
    replace BB := Lib.hid (below_then BB.out (Nat.le_refl _) bb)
    replace Z := Lib.hid (Z.out.grow bb)
    replace G := Lib.hid (G.out.grow bb)
    replace V := Lib.hid (V.out.grow bb)
    clear bb
    clear V
    unfold matchI at hm
    split at hm
    case isFalse => cases hm
    rename_i hok
    obtain ⟨ht, hsq⟩ := Bool.and_eq_true_iff.1 hok
    have hsq := of_decide_eq_true hsq
    injection hm with hm
    injection hm with hC hL
    obtain ⟨hsh, hsh6, -, hE⟩ := table_sh ht
    obtain ⟨n, hn⟩ : ∃ n, t.length = n := ⟨_, rfl⟩
    have HN := Lib.hid hn
    have hmc : colsN t = n := by rw [← hsq, hn]
    have HMC := Lib.hid hmc
    rw [hn] at hC hL hsh6 hE hsh
    rw [hmc] at hE hsh
    have HSH := Lib.hid hsh
    have HNX : Hid (∀ u, Sh u n n → (∀ i k, i < n → k < n → ent u i k = if i = 0 then ent t i k + 1 else ent t i k) → matchI u = none ∨ matchI u = some (C + 1, L)) := Lib.hid fun u hu he => tilt_next hsh6.1 hu he hC hL
    have H6 := Lib.hid (show 1 ≤ n ∧ n ≤ 6 from hsh6)
    have HEE := Lib.hid hE
    have HLL : Hid (L.length ≤ 6) := Lib.hid (by
      rw [← hL, List.length_map, (match_is (ent t) n n [] ⟨by simp, by simp, by simp⟩).1]; omega)
    have HCB : Hid (-6000 ≤ C ∧ C ≤ 6000) := Lib.hid (by
      obtain ⟨m1, m2, m3, m4⟩ := match_is (ent t) n n [] ⟨by simp, by simp, by simp⟩
      rw [Nat.sub_self, hC] at m4
      have := cost_take_bd hE m1 m3 n (Nat.le_refl _)
      rw [List.take_of_length_le (by omega), m4] at this
      omega)
    have HI0 : Hid (TN t n w4 0 (.slice (some ⟨w4.heap.size, 0, none⟩) 0 0) (w4.alloc (.cells #[] 26))) := Lib.hid ⟨[], _, _, rfl, fun r h => absurd h (by simp), fun j k h => absurd h (by omega), DT.made w4, (Below.refl _ _).alloc (Nat.le_refl _) _⟩
    rw [hn]
    clear hok hsq hC hL hsh6 hE hn hmc ht hsh
    go_wp2
    go_loopw [10, 11] (fun v x wr => ∃ i : Nat, i ≤ n ∧ x = .int .i64 (i : Int) ∧ TN t n w4 i v wr) (fun _ x _ => n - (intOf x).toNat)
    case atStart => exact ⟨0, Nat.zero_le _, rfl, HI0.out⟩
    case round =>
      obtain ⟨W, hW⟩ : ∃ W, W = wr := ⟨_, rfl⟩
      subst hW
      obtain ⟨v, hv0⟩ : ∃ v, v = u10 := ⟨_, rfl⟩
      subst hv0
      clear HI0
      obtain ⟨i, hi, rfl, zss, F, D, hzl, hrl, hen, hD, hB⟩ := hrel
      have HD := Lib.hid hD; have HB := Lib.hid hB; have HRL := Lib.hid hrl; have HZL := Lib.hid hzl; have HEN := Lib.hid hen
      clear hD hB hrl hzl hen
      have hw4 := HB.out.size
      have Zr := Lib.hid (Z.out.below HB.out (by have := Z.out.2.1; omega))
      have h6 := H6.out
      by_cases hin : i < n
      · have hin' : (i : Int) < (n : Int) := by omega
        have i0 : (0 : Int) ≤ (i : Int) := by omega
        have hit : i < t.length := by rw [HN.out]; exact hin
        obtain ⟨b, off, Ak, ck, rfl, hb0, hcell, hcap, hrow⟩ := Zr.out.at_ hit
        obtain ⟨r, hr⟩ : ∃ r, t[i]'hit = r := ⟨_, rfl⟩
        have hrn : r.length = n := by rw [← hr]; exact HSH.out.2 _ (List.getElem_mem _)
        have HRE : Hid (∀ k, r.getD k 0 = ent t i k) := Lib.hid fun k => by
          unfold ent; rw [List.getD_eq_getElem?_getD (l := t), List.getElem?_eq_getElem hit, ← hr]; rfl
        rw [hr] at hcell hcap hrow
        rw [hrn] at hcell
        have HRN := Lib.hid hrn
        have HRR := Lib.hid (hrow.grow ((Below.refl _ W).alloc (Nat.le_refl _) (.cells #[] 3)))
        clear hr hrn hrow hcap hit
        go_wp2_with (at_builtin; refine wpList_appendsI rfl _ _ rfl W.heap.size _ [] r _ _ _ n ck HRN.out.symm rfl rfl (OwnI.made W) HRR.out (by have := HRN.out; simp; omega) ?_; intro v1 w8 ho1 hb1; obtain ⟨A1, c1, rfl, hi1, hcap1⟩ := ho1.iwc (n := n) HRN.out (by omega); have HO1 : Hid (OwnI w8 W.heap.size (.slice A1 n c1) r) := Lib.hid ho1; have HBV := Lib.hid ((((Below.refl W.heap.size W).alloc (Nat.le_refl _) (.cells #[] 3)).trans hb1)); clear ho1 hb1 hi1 hcap1)
        obtain ⟨G1, rfl, hG1, hG2⟩ := HO1.out.some_ (by have := HRN.out; omega)
        have HB8 := Lib.hid (HB.out.trans (HBV.out.mono hw4))
        have hs8 := HB8.out.size
        have HD1 := Lib.hid (HD.out.keepZ HBV.out.size (fun _ => False) (fun k hk _ => HBV.out.block k hk) (fun _ _ => id) (fun _ _ _ _ => id))
        have HOB := Lib.hid (HO1.out.mono (base' := w4.heap.size) hw4)
        clear HO1 HBV HRR
        go_wp2
        go_loopw [13] (fun x X => ∃ (k : Nat) (ys : List Int), k ≤ n ∧ x = .int .i64 (k : Int) ∧ ys.length = n ∧ OwnI X w4.heap.size (.slice (some ⟨G1, 0, none⟩) n c1) ys ∧ ButT G1 G1 w8 X ∧ (i ≠ 0 → k = 0) ∧ (∀ j, j < n → ys.getD j 0 = if i = 0 ∧ j < k then ent t i j + 1 else ent t i j)) (fun x _ => n - (intOf x).toNat)
        case atStart => exact ⟨0, r, Nat.zero_le _, rfl, HRN.out, HOB.out, ButT.refl _ _ _, fun _ => rfl, fun j _ => by rw [if_neg (by omega), HRE.out]⟩
        case round =>
          obtain ⟨X, hX⟩ : ∃ X, X = wr := ⟨_, rfl⟩
          subst hX
          obtain ⟨k, ys, hk, rfl, hyl, hoy, hbt, hik, hye⟩ := hrel
          have HOY := Lib.hid hoy; have HBX := Lib.hid hbt; have HYL := Lib.hid hyl; have HIK := Lib.hid hik; have HYF := Lib.hid hye
          clear hoy hbt hyl hik hye HOB
          have hsX := HBX.out.size
          by_cases hkm : k < n
          · have hkm' : (k : Int) < (n : Int) := by omega
            have k0' : (0 : Int) ≤ (k : Int) := by omega
            by_cases hi0 : i = 0
            · subst hi0
              have hky : k < ys.length := by rw [HYL.out]; exact hkm
              obtain ⟨hcY, hfY⟩ := HOY.out.cells hky
              have hyk := HYF.out k hkm
              rw [if_neg (by omega), List.getD_eq_getElem?_getD, List.getElem?_eq_getElem hky] at hyk
              obtain ⟨yo, hyo⟩ : ∃ yo, ys[k]'hky = yo := ⟨_, rfl⟩
              rw [hyo] at hcY hyk
              have HYO : Hid (yo = ent t 0 k) := Lib.hid hyk
              have hbd := HEE.out 0 k hin hkm
              rw [← HYO.out] at hbd
              have s1 : IntKind.i64.wrap (yo + 1) = yo + 1 := IntWalk.i64_in _ (by omega)
              have HYS := Lib.hid (HOY.out.set_ k (x := yo + 1) ⟨by omega, by omega⟩)
              have HBS : Hid (∀ yv, ButT G1 G1 w8 (X.setCell ⟨G1, k, none⟩ yv)) := fun yv => HBX.out.set_ k yv
              have HL2 : Hid ((ys.set k (yo + 1)).length = n) := by show _ = _; rw [List.length_set]; exact HYL.out
              have HYG : Hid (∀ j, j < n → (ys.set k (yo + 1)).getD j 0 = if 0 = 0 ∧ j < k + 1 then ent t 0 j + 1 else ent t 0 j) := Lib.hid fun j hj => by
                have hjy : j < ys.length := by rw [HYL.out]; exact hj
                have h1 := HYF.out j hj
                rw [List.getD_eq_getElem?_getD, List.getElem?_eq_getElem hjy] at h1
                rw [List.getD_eq_getElem?_getD, List.getElem?_set]
                by_cases e : k = j
                · subst e
                  rw [if_pos rfl, if_pos hjy, if_pos (by omega), HYO.out]; rfl
                · rw [if_neg e, List.getElem?_eq_getElem hjy, h1]
                  by_cases e2 : j < k
                  · rw [if_pos ⟨rfl, e2⟩, if_pos (by omega)]
                  · rw [if_neg (by omega), if_neg (by omega)]
              clear hyk hyo hky hbd
              go_wp2
              go_roundw
              case rel => exact ⟨k + 1, ys.set k (yo + 1), by omega, by go_num, HL2.out, HYS.out, HBS.out _, fun h => absurd rfl h, fun j hj => by have := HYG.out j hj; simpa using this⟩
              case measure => simp [intOf]; omega
            · have hi0' : ((i : Int) == 0) = false := by rw [beq_eq_false_iff_ne]; omega
              have HYE : Hid (∀ k, k < n → ys.getD k 0 = if i = 0 then ent t i k + 1 else ent t i k) := Lib.hid fun j hj => by
                have := HYF.out j hj
                rw [if_neg (by omega)] at this
                rw [if_neg hi0]; exact this
              have HDX := Lib.hid (HD1.out.keepZ HBX.out.size (fun j => j = G1) (fun j hj hne => HBX.out.block j hj hne hne) (fun g hg e => by have := (ownsRow_lt HD.out.own hg).2; omega) (fun j a hj ha e => by
                have h1 := (HD.out.row j hj).1; rw [ha] at h1; have := (own_at h1).2; omega))
              have HNE : Hid (∀ a, some (⟨G1, 0, none⟩ : Addr) = some a → v.ownBlock ≠ some a.block ∧ ∀ j b, j < zss.length → F j = some b → b.block ≠ a.block) := fun a ha => by
                injection ha with ha
                subst ha
                refine ⟨fun e => ?_, fun j b hj hb e => ?_⟩
                · have := (ownsRow_lt HD.out.own e).2
                  have e2 : (⟨G1, 0, none⟩ : Addr).block = G1 := rfl
                  omega
                · have h1 := (HD.out.row j hj).1; rw [hb] at h1; have := (own_at h1).2
                  have e2 : (⟨G1, 0, none⟩ : Addr).block = G1 := rfl
                  omega
              have hz1 := HZL.out
              go_wp2_with (at_builtin; refine wpList_pushD rfl _ _ rfl w4.heap.size v zss F D rfl rfl HDX.out ys HYL.out.symm HOY.out HNE.out (by omega) ?_; intro v1 w9 hd1 hg1 ho1; have HD9 := Lib.hid hd1; have HG9 := Lib.hid hg1; clear hd1 hg1 ho1)
              go_roundw
              case rel =>
                have hbel : Below w4.heap.size X w9 := grown_below HG9.out (fun g hg => (ownsRow_lt HDX.out.own hg).1) (by omega)
                have hbx : Below w4.heap.size w8 X := ⟨HBX.out.os, HBX.out.tape, HBX.out.output, HBX.out.size, fun j hj => HBX.out.block j (by omega) (by omega) (by omega)⟩
                refine ⟨i + 1, by omega, by go_num, zss ++ [ys], _, _, by rw [List.length_append, HZL.out]; rfl, fun r hr => ?_, fun j k hj hk => ?_, HD9.out, (HB8.out.trans hbx).trans hbel⟩
                · rcases List.mem_append.1 hr with hr | hr
                  · exact HRL.out r hr
                  · obtain rfl := List.mem_singleton.1 hr; exact HYL.out
                · rw [ent_snoc _ _ _ _ (by omega)]
                  split
                  · exact HEN.out j k (by omega) hk
                  · obtain rfl : j = i := by omega
                    exact HYE.out k hk
              case measure => simp [intOf]; omega
          · obtain rfl : k = n := by omega
            have hkm' : ¬ (k : Int) < (k : Int) := by omega
            have hi0 : i = 0 := Classical.byContradiction fun c => by have := HIK.out c; omega
            have HYE : Hid (∀ j, j < k → ys.getD j 0 = if i = 0 then ent t i j + 1 else ent t i j) := Lib.hid fun j hj => by
              have := HYF.out j hj
              rw [if_pos ⟨hi0, hj⟩] at this
              rw [if_pos hi0]; exact this
            clear hi0
            have HDX := Lib.hid (HD1.out.keepZ HBX.out.size (fun j => j = G1) (fun j hj hne => HBX.out.block j hj hne hne) (fun g hg e => by have := (ownsRow_lt HD.out.own hg).2; omega) (fun j a hj ha e => by
              have h1 := (HD.out.row j hj).1; rw [ha] at h1; have := (own_at h1).2; omega))
            have HNE : Hid (∀ a, some (⟨G1, 0, none⟩ : Addr) = some a → v.ownBlock ≠ some a.block ∧ ∀ j b, j < zss.length → F j = some b → b.block ≠ a.block) := fun a ha => by
              injection ha with ha
              subst ha
              refine ⟨fun e => ?_, fun j b hj hb e => ?_⟩
              · have := (ownsRow_lt HD.out.own e).2
                have e2 : (⟨G1, 0, none⟩ : Addr).block = G1 := rfl
                omega
              · have h1 := (HD.out.row j hj).1; rw [hb] at h1; have := (own_at h1).2
                have e2 : (⟨G1, 0, none⟩ : Addr).block = G1 := rfl
                omega
            have hz1 := HZL.out
            go_wp2_with (at_builtin; refine wpList_pushD rfl _ _ rfl w4.heap.size v zss F D rfl rfl HDX.out ys HYL.out.symm HOY.out HNE.out (by omega) ?_; intro v1 w9 hd1 hg1 ho1; have HD9 := Lib.hid hd1; have HG9 := Lib.hid hg1; clear hd1 hg1 ho1)
            go_roundw
            case rel =>
              have hbel : Below w4.heap.size X w9 := grown_below HG9.out (fun g hg => (ownsRow_lt HDX.out.own hg).1) (by omega)
              have hbx : Below w4.heap.size w8 X := ⟨HBX.out.os, HBX.out.tape, HBX.out.output, HBX.out.size, fun j hj => HBX.out.block j (by omega) (by omega) (by omega)⟩
              refine ⟨i + 1, by omega, by go_num, zss ++ [ys], _, _, by rw [List.length_append, HZL.out]; rfl, fun r hr => ?_, fun j k hj hk => ?_, HD9.out, (HB8.out.trans hbx).trans hbel⟩
              · rcases List.mem_append.1 hr with hr | hr
                · exact HRL.out r hr
                · obtain rfl := List.mem_singleton.1 hr; exact HYL.out
              · rw [ent_snoc _ _ _ _ (by omega)]
                split
                · exact HEN.out j k (by omega) hk
                · obtain rfl : j = i := by omega
                  exact HYE.out k hk
            case measure => simp [intOf]; omega
      · obtain rfl : i = n := by omega
        have hin' : ¬ (i : Int) < (i : Int) := by omega
        obtain ⟨A4, c4, rfl, hirr, hc41, hc42⟩ := HD.out.irr (by rw [HZL.out]; omega) (fun r hr => by rw [HRL.out r hr]; omega)
        have U := Lib.hid hirr.toAll
        have HM := Lib.hid (HNX.out zss ⟨HZL.out, HRL.out⟩ HEN.out)
        have bb := HB.out
        replace BB := Lib.hid (below_then BB.out (Nat.le_refl _) bb)
        replace G := Lib.hid (G.out.grow bb)
        clear bb hirr hc41 hc42 HD HB Zr Z HRL HEN HNX
        have hCB := HCB.out
        have s1 : IntKind.i64.wrap (C + 1) = C + 1 := IntWalk.i64_in _ (by omega)
        have b1 : ((C + 1 : Int) == C + 1) = true := by simp
        clear hCB
        go_wp2_with fail
        refine (implTableMatch_any _ _ zss _ U.out).mono ?_
        rintro e w10 ⟨A5, c5, rfl, iw, bb⟩
        replace BB := Lib.hid (below_then BB.out (Nat.le_refl _) bb)
        replace G := Lib.hid (G.out.grow bb)
        have Y := Lib.hid iw.toIR.toAll
        clear iw bb
        rcases HM.out with hm | hm
        · rw [hm] at Y
          rw [hm]
          clear HM hm
          go_wp2
          go_ret
          exact ⟨rfl, BB.out⟩
        · rw [hm] at Y
          rw [hm]
          clear HM hm
          have e1 : (some (C + 1, L)).getD (0, []) = (C + 1, L) := rfl
          rw [e1]
          dsimp only
          replace Y : Hid (IR w10 _ _ A5 L) := Y
          clear e1
          go_wp2_with fail
          refine (sameInts_b _ _ _ _ _ _ _ _ _ _ L _ Y.out G.out rfl rfl).mono ?_
          rintro e w11 ⟨rfl, bb⟩
          replace BB := Lib.hid (below_then BB.out (Nat.le_refl _) bb)
          clear bb
          go_wp2
          go_ret
          exact ⟨rfl, BB.out⟩
end Go.Proofs.Ytfkmnlhmldjieab
