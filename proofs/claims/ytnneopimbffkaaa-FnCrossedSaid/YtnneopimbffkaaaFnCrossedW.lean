/-
  The law FnCrossed walked: for all codes it returns true, and nothing that lay before has turned. Conditions: none but those of its row.
-/
import Derived.Test.YtnneopimbffkaaaDW
import Derived.Test.YtnneopimbffkaaaTbA
import Derived.Test.YtnneopimbffkaaaTsA
import Derived.Test.YtnneopimbffkaaaLawR
import Derived.Test.YtnneopimbffkaaaMathA
namespace Go.Proofs.Ytnneopimbffkaaa
open Go.RowKit

theorem implCrossed_of {b : Bool} {n lo hi : Nat} (A : Option Addr) (c : Nat) (t : List (List Int)) (w : World) (h : IRR w lo hi A t) (hb : crossedB t = b) (hn : n = t.length) :
    Calls Try.prog 13 #[.slice A n c] w fun e w' => e = .returned (.bool b) ∧ Below w.heap.size w w' := by subst hn; subst hb; exact implTableCrossed_any A c t w h.toAll
theorem specCrossed_of {b : Bool} {n lo hi : Nat} (A : Option Addr) (c : Nat) (t : List (List Int)) (w : World) (h : IRR w lo hi A t) (hb : crossedB t = b) (hn : n = t.length) :
    Calls Try.prog 14 #[.slice A n c] w fun e w' => e = .returned (.bool b) ∧ Below w.heap.size w w' := by
  subst hn; subst hb
  exact (specTableCrossed_any A c lo hi t w h).mono fun e w' h => ⟨h.1, h.2.below⟩

theorem tbl_congr {n m : Nat} {f g : Nat → Nat → Int} (h : ∀ i k, i < n → k < m → f i k = g i k) : tabL n m f = tabL n m g :=
  tables_eq (tab_sh _ _ _) (tab_sh _ _ _) fun i k hi hk => by rw [tab_ent _ hi hk, tab_ent _ hi hk]; exact h i k hi hk
theorem across_table {t : List (List Int)} (h : tableB t = true) : tableB (acrossL t t.length (colsN t)) = true := by
  obtain ⟨_, h1, h2, h3⟩ := table_sh h
  exact tab_table h2 h1 fun i k hi hk => h3 k i hk hi
theorem across_len (t : List (List Int)) (n m : Nat) : (acrossL t n m).length = m := (tab_sh _ _ _).1
theorem across_cols (t : List (List Int)) {n m : Nat} (h : 0 < m) : colsN (acrossL t n m) = n := (tab_sh m n _).row h
theorem across_back {t : List (List Int)} (h : tableB t = true) : acrossL (acrossL t t.length (colsN t)) (colsN t) t.length = t := by
  obtain ⟨h1, _, _, _⟩ := table_sh h
  exact tables_eq (tab_sh _ _ _) h1 fun i k hi hk => by rw [turn_ent _ hk hi, turn_ent _ hi hk]
theorem across_crossed {t : List (List Int)} (h : crossedB t = true) : crossedB (acrossL t t.length (colsN t)) = true := by
  obtain ⟨h1, h2⟩ := crossed_true h
  obtain ⟨_, b1, b2, _⟩ := table_sh h1
  unfold crossedB
  rw [across_table h1, Bool.true_and, across_len, across_cols _ (by omega), crB_iff]
  exact cr_congr (cr_turn h2) fun i k hi hk => (turn_ent t hk hi).symm

set_option maxHeartbeats 1500000 in
set_option maxRecDepth 100000 in
theorem lawFnCrossed_any (A0 : Option Addr) (c0 : Nat) (bs : List Int) (w : World) (h0 : BR w w.heap.size A0 bs) (hc : bs.length ≤ c0) (hc2 : c0 ≤ 9000000000000000000) :
    Calls Try.prog 3 #[.slice A0 bs.length c0] w fun e w' => e = .returned (.bool true) ∧ Below w.heap.size w w' := by
  by_cases hbig : (1048576 : Int) < (bs.length : Int)
  · clear h0
    go_enter Try.func3, Try.ntmps3
    go_wp2
    go_ret
    exact ⟨rfl, Below.refl _ _⟩
  have H0 := Lib.hid h0
  clear h0
  have BB := Lib.hid (Below.refl w.heap.size w)
  go_enter Try.func3, Try.ntmps3
  go_wp2_with fail
  refine (DrawTableCrossed_any _ _ bs _ H0.out hc hc2).mono ?_
  rintro e w1 ⟨A, c, t, rfl, iw, bb⟩
  replace BB := Lib.hid (below_then BB.out (Nat.le_refl _) bb)
  have Z := Lib.hid iw.toAll
  clear bb
  clear iw
  obtain ⟨p, hp⟩ : ∃ p, crossedB t = p := ⟨_, rfl⟩
  have HP := Lib.hid hp
  clear hp
  go_wp2_with fail
  refine (implCrossed_of _ _ t _ Z.out HP.out rfl).mono ?_
  rintro e w2 ⟨rfl, bb⟩
  replace BB := Lib.hid (below_then BB.out (Nat.le_refl _) bb)
  replace Z := Lib.hid (Z.out.grow bb)
  clear bb
  go_wp2_with fail
  refine (specCrossed_of _ _ t _ Z.out HP.out rfl).mono ?_
  rintro e w3 ⟨rfl, bb⟩
  replace BB := Lib.hid (below_then BB.out (Nat.le_refl _) bb)
  replace Z := Lib.hid (Z.out.grow bb)
  clear bb
  cases p with
  | false =>
    go_wp2
    go_ret
    exact ⟨rfl, BB.out⟩
  | true =>
    obtain ⟨ht, hcr⟩ := crossed_true HP.out
    obtain ⟨_, hn, hm, hE⟩ := table_sh ht
    have HT := Lib.hid ht; have HCR := Lib.hid hcr; have HE := Lib.hid hE
    have HXC := Lib.hid (across_crossed HP.out)
    obtain ⟨x, hx⟩ : ∃ x, acrossL t t.length (colsN t) = x := ⟨_, rfl⟩
    have HX := Lib.hid hx
    rw [hx] at HXC
    have HXL : Hid (x.length = colsN t) := by show _ = _; rw [← hx]; exact across_len _ _ _
    clear ht hcr hE hx
    obtain ⟨n, hnn⟩ : ∃ n, t.length = n := ⟨_, rfl⟩
    obtain ⟨m, hmm⟩ : ∃ m, colsN t = m := ⟨_, rfl⟩
    have HN := Lib.hid hnn; have HM := Lib.hid hmm
    rw [hnn] at hn
    rw [hmm] at hm
    rw [hnn]
    have HXN : Hid (acrossL t n (colsN t) = x) := by show _ = _; rw [← hnn]; exact HX.out
    clear hnn hmm
    obtain ⟨b, off, b0, o0, c0, hA, hc0, -⟩ := Z.out.entry HT.out (i := 0) (by rw [HN.out]; omega)
    rw [HM.out, Nat.add_zero] at hc0
    subst hA
    have n0 : (0 : Int) < (n : Int) := by omega
    go_wp2
    clear hc0
    go_loopw [8] (fun x wr => ∃ i : Nat, i ≤ n ∧ x = .int .i64 (i : Int) ∧ Dr w3 wr) (fun x _ => n - (intOf x).toNat)
    case atStart => exact ⟨0, Nat.zero_le _, rfl, Dr.refl _⟩
    case round =>
      obtain ⟨i, hi, rfl, hdr⟩ := hrel
      have HD := Lib.hid hdr
      clear hdr
      by_cases hin : i < n
      · have hin' : (i : Int) < (n : Int) := by omega
        have i0 : (0 : Int) ≤ (i : Int) := by omega
        go_wp2
        go_loopw [9] (fun x wr => ∃ j : Nat, i + 1 ≤ j ∧ j ≤ n ∧ x = .int .i64 (j : Int) ∧ Dr w3 wr) (fun x _ => n - (intOf x).toNat)
        case atStart => exact ⟨i + 1, Nat.le_refl _, by omega, by go_num, HD.out⟩
        case round =>
          clear HD
          obtain ⟨j, hij, hj, rfl, hdr⟩ := hrel
          have HD := Lib.hid hdr
          clear hdr
          by_cases hjn : j < n
          · have hjn' : (j : Int) < (n : Int) := by omega
            have j0 : (0 : Int) ≤ (j : Int) := by omega
            go_wp2
            go_loopw [10] (fun x wr => ∃ k : Nat, k ≤ m ∧ x = .int .i64 (k : Int) ∧ Dr w3 wr) (fun x _ => m - (intOf x).toNat)
            case atStart => exact ⟨0, Nat.zero_le _, rfl, HD.out⟩
            case round =>
              clear HD
              obtain ⟨k, hk, rfl, hdr⟩ := hrel
              have HD := Lib.hid hdr
              clear hdr
              by_cases hkm : k < m
              · have hkm' : (k : Int) < (m : Int) := by omega
                have k0 : (0 : Int) ≤ (k : Int) := by omega
                go_wp2
                go_loopw [11] (fun x wr => ∃ l : Nat, k + 1 ≤ l ∧ l ≤ m ∧ x = .int .i64 (l : Int) ∧ Dr w3 wr) (fun x _ => m - (intOf x).toNat)
                case atStart => exact ⟨k + 1, Nat.le_refl _, by omega, by go_num, HD.out⟩
                case round =>
                  clear HD
                  obtain ⟨l, hkl, hl, rfl, hdr⟩ := hrel
                  have HD := Lib.hid hdr
                  clear hdr
                  by_cases hlm : l < m
                  · have hlm' : (l : Int) < (m : Int) := by omega
                    have l0 : (0 : Int) ≤ (l : Int) := by omega
                    have HW := Lib.hid (HD.out.irr Z.out)
                    obtain ⟨_, _, bi, oi, ci, e, hci, hei⟩ := HW.out.entry HT.out (i := i) (by rw [HN.out]; exact hin)
                    injection e with e; injection e with e3 e4 _; subst e3; subst e4
                    obtain ⟨_, _, bj, oj, cj, e, hcj, hej⟩ := HW.out.entry HT.out (i := j) (by rw [HN.out]; exact hjn)
                    injection e with e; injection e with e3 e4 _; subst e3; subst e4
                    rw [HM.out] at hci hei hcj hej
                    have xik := hei k hkm; have xil := hei l hlm; have xjk := hej k hkm; have xjl := hej l hlm
                    have gik := HE.out i k (by rw [HN.out]; exact hin) (by rw [HM.out]; exact hkm)
                    have gil := HE.out i l (by rw [HN.out]; exact hin) (by rw [HM.out]; exact hlm)
                    have gjk := HE.out j k (by rw [HN.out]; exact hjn) (by rw [HM.out]; exact hkm)
                    have gjl := HE.out j l (by rw [HN.out]; exact hjn) (by rw [HM.out]; exact hlm)
                    have hgood := HCR.out i j k l (by omega) (by rw [HN.out]; exact hjn) (by omega) (by rw [HM.out]; exact hlm)
                    obtain ⟨yik, hyik⟩ : ∃ y, ent t i k = y := ⟨_, rfl⟩
                    obtain ⟨yil, hyil⟩ : ∃ y, ent t i l = y := ⟨_, rfl⟩
                    obtain ⟨yjk, hyjk⟩ : ∃ y, ent t j k = y := ⟨_, rfl⟩
                    obtain ⟨yjl, hyjl⟩ : ∃ y, ent t j l = y := ⟨_, rfl⟩
                    rw [hyik] at xik gik hgood
                    rw [hyil] at xil gil hgood
                    rw [hyjk] at xjk gjk hgood
                    rw [hyjl] at xjl gjl hgood
                    have s1 : IntKind.i64.wrap (yik + yjl) = yik + yjl := IntWalk.i64_in _ (by omega)
                    have s2 : IntKind.i64.wrap (yil + yjk) = yil + yjk := IntWalk.i64_in _ (by omega)
                    have hgood' : ¬ (yil + yjk < yik + yjl) := by omega
                    clear hyik hyil hyjk hyjl hei hej gik gil gjk gjl
                    go_wp2
                    go_quiet (fail)
                    go_wp2
                    go_roundw
                    case rel => exact ⟨l + 1, by omega, by omega, by go_num, HD.out.more _⟩
                    case measure => simp [intOf]; omega
                  · obtain rfl : l = m := by omega
                    have hlm' : ¬ (l : Int) < (l : Int) := by omega
                    go_wp2
                    go_roundw
                    case rel => exact ⟨k + 1, by omega, by go_num, HD.out⟩
                    case measure => simp [intOf]; omega
              · obtain rfl : k = m := by omega
                have hkm' : ¬ (k : Int) < (k : Int) := by omega
                go_wp2
                go_roundw
                case rel => exact ⟨j + 1, by omega, by omega, by go_num, HD.out⟩
                case measure => simp [intOf]; omega
          · obtain rfl : j = n := by omega
            have hjn' : ¬ (j : Int) < (j : Int) := by omega
            go_wp2
            go_roundw
            case rel => exact ⟨i + 1, by omega, by go_num, HD.out⟩
            case measure => simp [intOf]; omega
      · obtain rfl : i = n := by omega
        have hin' : ¬ (i : Int) < (i : Int) := by omega
        replace Z := Lib.hid (HD.out.irr Z.out)
        replace BB := Lib.hid (HD.out.grow BB.out)
        clear HD
        go_wp2_with fail
        refine (across_any _ _ _ _ _ _ t _ Z.out HT.out HN.out.symm rfl).mono ?_
        rintro e w14 ⟨A5, c5, rfl, -, iw, bb⟩
        replace BB := Lib.hid (below_then BB.out (Nat.le_refl _) bb)
        replace Z := Lib.hid (Z.out.grow bb)
        have X := Lib.hid iw.toIRR.toAll
        clear bb
        clear iw
        rw [HXN.out] at X
        rw [HXN.out]
        go_wp2_with fail
        refine (implCrossed_of _ _ x _ X.out HXC.out rfl).mono ?_
        rintro e w15 ⟨rfl, bb⟩
        replace BB := Lib.hid (below_then BB.out (Nat.le_refl _) bb)
        replace Z := Lib.hid (Z.out.grow bb)
        replace X := Lib.hid (X.out.grow bb)
        clear bb
        go_wp2
        go_ret
        exact ⟨rfl, BB.out⟩
end Go.Proofs.Ytnneopimbffkaaa
