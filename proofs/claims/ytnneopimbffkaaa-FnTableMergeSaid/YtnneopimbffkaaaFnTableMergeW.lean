/-
  The law FnTableMerge walked: for all codes it returns true, and nothing that lay before has turned. Conditions: none but those of its row.
-/
import Derived.Test.YtnneopimbffkaaaDWm
import Derived.Test.YtnneopimbffkaaaTbG
import Derived.Test.YtnneopimbffkaaaTsA
import Derived.Test.YtnneopimbffkaaaLawR
import Derived.Test.YtnneopimbffkaaaSame
import Derived.Test.YtnneopimbffkaaaMathA
namespace Go.Proofs.Ytnneopimbffkaaa
open Go.RowKit

theorem implCrossed_of {b : Bool} {n lo hi : Nat} (A : Option Addr) (c : Nat) (t : List (List Int)) (w : World) (h : IRR w lo hi A t) (hb : crossedB t = b) (hn : n = t.length) :
    Calls Try.prog 13 #[.slice A n c] w fun e w' => e = .returned (.bool b) ∧ Below w.heap.size w w' := by subst hn; subst hb; exact implTableCrossed_any A c t w h.toAll
theorem specCrossed_of {b : Bool} {n lo hi : Nat} (A : Option Addr) (c : Nat) (t : List (List Int)) (w : World) (h : IRR w lo hi A t) (hb : crossedB t = b) (hn : n = t.length) :
    Calls Try.prog 14 #[.slice A n c] w fun e w' => e = .returned (.bool b) ∧ Below w.heap.size w w' := by
  subst hn; subst hb
  exact (specTableCrossed_any A c lo hi t w h).mono fun e w' h => ⟨h.1, h.2.below⟩

theorem tbl_congr {n m : Nat} {f g : Nat → Nat → Int} (h : ∀ i k, i < n → k < m → f i k = g i k) : tabL n m f = tabL n m g :=
  tables_eq (tab_sh _ _ _) (tab_sh _ _ _) fun i k hi hk => by rw [tab_ent _ hi hk, tab_ent _ hi hk]; exact h i k hi hk
theorem across_table {t : List (List Int)} (h : tableB t = true) : tableB (acrossL t t.length (colsN t)) = true := by
  obtain ⟨_, h1, h2, h3⟩ := table_sh h
  exact tab_table h2 h1 fun i k hi hk => h3 k i hk hi
theorem across_len (t : List (List Int)) (n m : Nat) : (acrossL t n m).length = m := (tab_sh _ _ _).1
theorem across_cols (t : List (List Int)) {n m : Nat} (h : 0 < m) : colsN (acrossL t n m) = n := (tab_sh m n _).row h
theorem across_back {t : List (List Int)} (h : tableB t = true) : acrossL (acrossL t t.length (colsN t)) (colsN t) t.length = t := by
  obtain ⟨h1, _, _, _⟩ := table_sh h
  exact tables_eq (tab_sh _ _ _) h1 fun i k hi hk => by rw [turn_ent _ hk hi, turn_ent _ hi hk]
theorem across_crossed {t : List (List Int)} (h : crossedB t = true) : crossedB (acrossL t t.length (colsN t)) = true := by
  obtain ⟨h1, h2⟩ := crossed_true h
  obtain ⟨_, b1, b2, _⟩ := table_sh h1
  unfold crossedB
  rw [across_table h1, Bool.true_and, across_len, across_cols _ (by omega), crB_iff]
  exact cr_congr (cr_turn h2) fun i k hi hk => (turn_ent t hk hi).symm

theorem mergeT_is {t u out : List (List Int)} (h : mergeTM t u = some out) : tableB t = true ∧ tableB u = true ∧ colsN t = u.length ∧ tableB out = true ∧ out = mergeTL t u := by
  unfold mergeTM at h
  split at h
  · next e =>
    rw [Bool.and_eq_true, Bool.and_eq_true, decide_eq_true_eq] at e
    split at h
    · next e2 => injection h with h; subst h; exact ⟨e.1.1, e.1.2, e.2, e2, rfl⟩
    · cases h
  · cases h
theorem mergeT_len (t u : List (List Int)) : (mergeTL t u).length = t.length := (tab_sh _ _ _).1
theorem mergeT_cols {t u : List (List Int)} (h : 0 < t.length) : colsN (mergeTL t u) = colsN u := (tab_sh t.length (colsN u) _).row h
theorem merge_turned {t u out : List (List Int)} (h : mergeTM t u = some out) : mergeTM (acrossL u u.length (colsN u)) (acrossL t t.length (colsN t)) = some (acrossL out out.length (colsN out)) := by
  obtain ⟨h1, h2, h3, h4, h5⟩ := mergeT_is h
  obtain ⟨_, a1, a2, _⟩ := table_sh h1
  obtain ⟨_, b1, b2, _⟩ := table_sh h2
  have e : mergeTL (acrossL u u.length (colsN u)) (acrossL t t.length (colsN t)) = acrossL out out.length (colsN out) := by
    rw [h5]
    unfold mergeTL
    rw [across_len, across_len, across_cols _ (show 0 < colsN t by omega)]
    have e1 : (tabL t.length (colsN u) (mergeT (ent t) (ent u) u.length)).length = t.length := mergeT_len t u
    have e2 : colsN (tabL t.length (colsN u) (mergeT (ent t) (ent u) u.length)) = colsN u := mergeT_cols (by omega)
    rw [e1, e2]
    refine tbl_congr fun k i hk hi => ?_
    rw [tab_ent _ hi hk, h3]
    unfold mergeT
    refine minN_congr fun l hl => ?_
    rw [turn_ent u (show l < u.length by omega) hk, turn_ent t hi (show l < u.length by omega), Int.add_comm]
  unfold mergeTM
  rw [across_table h1, across_table h2, across_cols _ (show 0 < colsN u by omega), across_len, e, across_table h4, if_pos rfl, h3]
  simp
theorem merge_crossed {t u out : List (List Int)} (h : mergeTM t u = some out) : Imp2 (crossedB t) (crossedB u) (crossedB out) := by
  intro ht hu
  obtain ⟨h1, h2, h3, h4, h5⟩ := mergeT_is h
  obtain ⟨_, a1, a2, _⟩ := table_sh h1
  unfold crossedB
  rw [h4, Bool.true_and, crB_iff, h5, mergeT_len, mergeT_cols (by omega)]
  refine cr_congr (mergeT_cr (j := u.length) (by have := (table_sh h2).2.1; omega) (by rw [← h3]; exact (crossed_true ht).2) (crossed_true hu).2) fun i k hi hk => ?_
  exact (tab_ent _ hi hk).symm
theorem implMerge_of {o : Option (List (List Int))} {n m lo hi lo' hi' : Nat} (A : Option Addr) (c : Nat) (t : List (List Int)) (A2 : Option Addr) (c2 : Nat) (u : List (List Int)) (w : World) (h : IRR w lo hi A t) (h2 : IRR w lo' hi' A2 u) (ho : mergeTM t u = o) (hn : n = t.length) (hm : m = u.length) :
    Calls Try.prog 24 #[.slice A n c, .slice A2 m c2] w (RetTB w o) := by subst hn; subst hm; subst ho; exact implTableMerge_any A c t A2 c2 u w h.toAll h2.toAll

set_option maxHeartbeats 1500000 in
set_option maxRecDepth 100000 in
theorem lawFnTableMerge_any (A0 : Option Addr) (c0 : Nat) (bs : List Int) (w : World) (h0 : BR w w.heap.size A0 bs) (hc : bs.length ≤ c0) (hc2 : c0 ≤ 9000000000000000000) :
    Calls Try.prog 6 #[.slice A0 bs.length c0] w fun e w' => e = .returned (.bool true) ∧ Below w.heap.size w w' := by
  by_cases hbig : (1048576 : Int) < (bs.length : Int)
  · clear h0
    go_enter Try.func6, Try.ntmps6
    go_wp2
    go_ret
    exact ⟨rfl, Below.refl _ _⟩
  have H0 := Lib.hid h0
  clear h0
  have BB := Lib.hid (Below.refl w.heap.size w)
  go_enter Try.func6, Try.ntmps6
  go_wp2_with fail
  refine (DrawTableMerge_any _ _ bs _ H0.out hc hc2).mono ?_
  rintro e w1 ⟨A, c, t, B, d, u, rfl, iw, iw2, bb⟩
  replace BB := Lib.hid (below_then BB.out (Nat.le_refl _) bb)
  have Z := Lib.hid iw.toAll
  have Y := Lib.hid iw2.toAll
  clear bb
  clear iw iw2
  go_wp2_with fail
  refine (implTableMerge_any _ _ t _ _ u _ Z.out.toAll Y.out.toAll).mono ?_
  rintro e w2 ⟨A2, c2, rfl, -, iw, bb⟩
  replace BB := Lib.hid (below_then BB.out (Nat.le_refl _) bb)
  replace Z := Lib.hid (Z.out.grow bb)
  replace Y := Lib.hid (Y.out.grow bb)
  have G := Lib.hid iw.toIRR.toAll
  clear bb
  clear iw
  go_wp2_with fail
  refine (specTableMerge_any _ _ _ _ t _ _ _ _ u _ Z.out Y.out).mono ?_
  rintro e w3 ⟨A3, c3, rfl, -, iw, bb⟩
  replace BB := Lib.hid (below_then BB.out (Nat.le_refl _) bb)
  replace Z := Lib.hid (Z.out.grow bb)
  replace Y := Lib.hid (Y.out.grow bb)
  replace G := Lib.hid (G.out.grow bb)
  have V := Lib.hid iw.toIRR.toAll
  clear bb
  clear iw
  obtain ⟨o, hm'⟩ : ∃ o, mergeTM t u = o := ⟨_, rfl⟩
  rw [hm'] at G V
  rw [hm']
  cases o with
  | none =>
    clear hm'
    replace G : Hid (IRR w3 _ _ A2 []) := G
    replace V : Hid (IRR w3 _ _ A3 []) := V
    go_wp2_with fail
    refine (sameRows_b _ _ _ _ _ _ _ _ _ _ [] _ G.out V.out rfl rfl).mono ?_
    rintro e w4 ⟨rfl, bb⟩
    replace BB := Lib.hid (below_then BB.out (Nat.le_refl _) bb)
    replace G := Lib.hid (G.out.grow bb)
    replace V := Lib.hid (V.out.grow bb)
    clear bb
    go_wp2_with fail
    refine (sameRows_b _ _ _ _ _ _ _ _ _ _ [] _ G.out V.out rfl rfl).mono ?_
    rintro e w5 ⟨rfl, bb⟩
    replace BB := Lib.hid (below_then BB.out (Nat.le_refl _) bb)
    replace G := Lib.hid (G.out.grow bb)
    replace V := Lib.hid (V.out.grow bb)
    clear bb
    go_wp2
    go_ret
    exact ⟨rfl, BB.out⟩
  | some out =>
    have e1 : (some out).getD [] = out := rfl
    rw [e1]
    replace G : Hid (IRR w3 _ _ A2 out) := G
    replace V : Hid (IRR w3 _ _ A3 out) := V
    have HM := Lib.hid hm'
    clear hm' e1
    go_wp2_with fail
    refine (sameRows_b _ _ _ _ _ _ _ _ _ _ out _ G.out V.out rfl rfl).mono ?_
    rintro e w4 ⟨rfl, bb⟩
    replace BB := Lib.hid (below_then BB.out (Nat.le_refl _) bb)
    replace Z := Lib.hid (Z.out.grow bb)
    replace Y := Lib.hid (Y.out.grow bb)
    replace G := Lib.hid (G.out.grow bb)
    replace V := Lib.hid (V.out.grow bb)
    clear bb
    clear V
    obtain ⟨h1, h2, h3, h4, -⟩ := mergeT_is HM.out
    have HT := Lib.hid h1; have HU := Lib.hid h2; have HO := Lib.hid h4
    have HTM := Lib.hid (merge_turned HM.out)
    have HIM := merge_crossed HM.out
    obtain ⟨at', hat⟩ : ∃ x, acrossL t t.length (colsN t) = x := ⟨_, rfl⟩
    obtain ⟨au, hau⟩ : ∃ x, acrossL u u.length (colsN u) = x := ⟨_, rfl⟩
    obtain ⟨ao, hao⟩ : ∃ x, acrossL out out.length (colsN out) = x := ⟨_, rfl⟩
    have HAT := Lib.hid hat; have HAU := Lib.hid hau; have HAO := Lib.hid hao
    have HBK := Lib.hid (across_back h4)
    have HTA : Hid (tableB ao = true) := by show _ = _; rw [← hao]; exact across_table h4
    have HLA : Hid (ao.length = colsN out) := by show _ = _; rw [← hao]; exact across_len _ _ _
    have HCA : Hid (colsN ao = out.length) := by show _ = _; rw [← hao]; exact across_cols _ (by have := (table_sh h4).2.2.1; omega)
    rw [hat, hau, hao] at HTM
    rw [hao] at HBK
    obtain ⟨p, hp⟩ : ∃ p, crossedB t = p := ⟨_, rfl⟩
    obtain ⟨q, hq⟩ : ∃ q, crossedB u = q := ⟨_, rfl⟩
    obtain ⟨s, hs⟩ : ∃ s, crossedB out = s := ⟨_, rfl⟩
    rw [hp, hq, hs] at HIM
    have HP := Lib.hid hp; have HQ := Lib.hid hq; have HS := Lib.hid hs
    clear HM h1 h2 h3 h4 hat hau hao hp hq hs
    go_wp2_with fail
    refine (across_any _ _ _ _ _ _ u _ Y.out HU.out rfl rfl).mono ?_
    rintro e w5 ⟨A5, c5, rfl, -, iw, bb⟩
    replace BB := Lib.hid (below_then BB.out (Nat.le_refl _) bb)
    replace Z := Lib.hid (Z.out.grow bb)
    replace Y := Lib.hid (Y.out.grow bb)
    replace G := Lib.hid (G.out.grow bb)
    have X := Lib.hid iw.toIRR.toAll
    clear bb
    clear iw
    rw [HAU.out] at X
    rw [HAU.out]
    go_wp2_with fail
    refine (across_any _ _ _ _ _ _ t _ Z.out HT.out rfl rfl).mono ?_
    rintro e w6 ⟨A6, c6, rfl, -, iw, bb⟩
    replace BB := Lib.hid (below_then BB.out (Nat.le_refl _) bb)
    replace Z := Lib.hid (Z.out.grow bb)
    replace Y := Lib.hid (Y.out.grow bb)
    replace G := Lib.hid (G.out.grow bb)
    replace X := Lib.hid (X.out.grow bb)
    have X2 := Lib.hid iw.toIRR.toAll
    clear bb
    clear iw
    rw [HAT.out] at X2
    rw [HAT.out]
    go_wp2_with fail
    refine (implMerge_of _ _ au _ _ at' _ X.out X2.out HTM.out rfl rfl).mono ?_
    rintro e w7 ⟨A7, c7, rfl, -, iw, bb⟩
    replace BB := Lib.hid (below_then BB.out (Nat.le_refl _) bb)
    replace Z := Lib.hid (Z.out.grow bb)
    replace Y := Lib.hid (Y.out.grow bb)
    replace G := Lib.hid (G.out.grow bb)
    replace X := Lib.hid (X.out.grow bb)
    replace X2 := Lib.hid (X2.out.grow bb)
    have O := Lib.hid iw.toIRR.toAll
    clear bb
    clear iw
    have e1 : (some ao).getD [] = ao := rfl
    rw [e1]
    replace O : Hid (IRR w7 _ _ A7 ao) := O
    clear e1
    go_wp2_with fail
    refine (across_any _ _ _ _ _ _ ao _ O.out HTA.out rfl rfl).mono ?_
    rintro e w8 ⟨A8, c8, rfl, -, iw, bb⟩
    replace BB := Lib.hid (below_then BB.out (Nat.le_refl _) bb)
    replace Z := Lib.hid (Z.out.grow bb)
    replace Y := Lib.hid (Y.out.grow bb)
    replace G := Lib.hid (G.out.grow bb)
    replace X := Lib.hid (X.out.grow bb)
    replace X2 := Lib.hid (X2.out.grow bb)
    replace O := Lib.hid (O.out.grow bb)
    have O2 := Lib.hid iw.toIRR.toAll
    clear bb
    clear iw
    rw [HLA.out, HCA.out, HBK.out] at O2
    rw [HLA.out, HCA.out, HBK.out]
    go_wp2_with fail
    refine (sameRows_b _ _ _ _ _ _ _ _ _ _ out _ O2.out G.out rfl rfl).mono ?_
    rintro e w9 ⟨rfl, bb⟩
    replace BB := Lib.hid (below_then BB.out (Nat.le_refl _) bb)
    replace Z := Lib.hid (Z.out.grow bb)
    replace Y := Lib.hid (Y.out.grow bb)
    replace G := Lib.hid (G.out.grow bb)
    replace X := Lib.hid (X.out.grow bb)
    replace X2 := Lib.hid (X2.out.grow bb)
    replace O := Lib.hid (O.out.grow bb)
    replace O2 := Lib.hid (O2.out.grow bb)
    clear bb
    go_wp2_with fail
    refine (implCrossed_of _ _ t _ Z.out HP.out rfl).mono ?_
    rintro e w10 ⟨rfl, bb⟩
    replace BB := Lib.hid (below_then BB.out (Nat.le_refl _) bb)
    replace Z := Lib.hid (Z.out.grow bb)
    replace Y := Lib.hid (Y.out.grow bb)
    replace G := Lib.hid (G.out.grow bb)
    replace X := Lib.hid (X.out.grow bb)
    replace X2 := Lib.hid (X2.out.grow bb)
    replace O := Lib.hid (O.out.grow bb)
    replace O2 := Lib.hid (O2.out.grow bb)
    clear bb
    cases p with
    | false =>
      go_wp2
      go_ret
      exact ⟨rfl, BB.out⟩
    | true =>
      go_wp2_with fail
      refine (implCrossed_of _ _ u _ Y.out HQ.out rfl).mono ?_
      rintro e w11 ⟨rfl, bb⟩
      replace BB := Lib.hid (below_then BB.out (Nat.le_refl _) bb)
      replace Z := Lib.hid (Z.out.grow bb)
      replace Y := Lib.hid (Y.out.grow bb)
      replace G := Lib.hid (G.out.grow bb)
      replace X := Lib.hid (X.out.grow bb)
      replace X2 := Lib.hid (X2.out.grow bb)
      replace O := Lib.hid (O.out.grow bb)
      replace O2 := Lib.hid (O2.out.grow bb)
      clear bb
      cases q with
      | false =>
        go_wp2
        go_ret
        exact ⟨rfl, BB.out⟩
      | true =>
        have hs := HIM rfl rfl
        subst hs
        go_wp2_with fail
        refine (implCrossed_of _ _ out _ G.out HS.out rfl).mono ?_
        rintro e w12 ⟨rfl, bb⟩
        replace BB := Lib.hid (below_then BB.out (Nat.le_refl _) bb)
        replace Z := Lib.hid (Z.out.grow bb)
        replace Y := Lib.hid (Y.out.grow bb)
        replace G := Lib.hid (G.out.grow bb)
        replace X := Lib.hid (X.out.grow bb)
        replace X2 := Lib.hid (X2.out.grow bb)
        replace O := Lib.hid (O.out.grow bb)
        replace O2 := Lib.hid (O2.out.grow bb)
        clear bb
        go_wp2
        go_ret
        exact ⟨rfl, BB.out⟩
end Go.Proofs.Ytnneopimbffkaaa
