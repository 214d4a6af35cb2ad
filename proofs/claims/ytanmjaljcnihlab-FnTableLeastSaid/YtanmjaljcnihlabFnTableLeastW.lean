/-
  The law FnTableLeast walked: for all codes it returns true, and nothing that lay before has turned. Conditions: none but those of its row.
-/
import Derived.Test.YtanmjaljcnihlabDW
import Derived.Test.YtanmjaljcnihlabTbL
import Derived.Test.YtanmjaljcnihlabTbA
import Derived.Test.YtanmjaljcnihlabTsA
import Derived.Test.YtanmjaljcnihlabLawR
import Derived.Test.YtanmjaljcnihlabSame
import Derived.Test.YtanmjaljcnihlabMathA
namespace Go.Proofs.Ytanmjaljcnihlab
open Go.RowKit

theorem implCrossed_of {b : Bool} {n lo hi : Nat} (A : Option Addr) (c : Nat) (t : List (List Int)) (w : World) (h : IRR w lo hi A t) (hb : crossedB t = b) (hn : n = t.length) :
    Calls Try.prog 13 #[.slice A n c] w fun e w' => e = .returned (.bool b) ∧ Below w.heap.size w w' := by subst hn; subst hb; exact implTableCrossed_any A c t w h.toAll
theorem leastC_is {t : List (List Int)} {o : List Int} (h : leastCM t = some o) : tableB t = true ∧ o = t.map fun r => (firstOf r : Int) := by
  unfold leastCM at h
  split at h
  · next e => injection h with h; exact ⟨e, h.symm⟩
  · cases h
theorem firstI_lt {t : List (List Int)} (ht : tableB t = true) {i : Nat} (hi : i < t.length) : firstOf (t.getD i []) < colsN t := by
  have h1 := (first_fst ht hi).2.1
  have := (table_sh ht).2.2.1
  omega
theorem firstI_le {t : List (List Int)} (ht : tableB t = true) {i k : Nat} (hi : i < t.length) (hk : k < colsN t) : ent t i (firstOf (t.getD i [])) ≤ ent t i k ∧ (k < firstOf (t.getD i []) → ent t i (firstOf (t.getD i [])) < ent t i k) := by
  have h := first_fst ht hi
  exact ⟨h.2.2.1 k (Nat.zero_le _) (by omega), fun h1 => h.2.2.2 k (Nat.zero_le _) h1⟩
theorem firstI_get {t : List (List Int)} {o : List Int} (ho : o = t.map fun r => (firstOf r : Int)) {i : Nat} (hi : i < o.length) : o[i] = (firstOf (t.getD i []) : Int) := by
  subst ho
  have hi' : i < t.length := by simpa using hi
  simp [List.getD, hi']

set_option maxHeartbeats 8000000 in
set_option maxRecDepth 100000 in
theorem lawFnTableLeast_any (A0 : Option Addr) (c0 : Nat) (bs : List Int) (w : World) (h0 : BR w w.heap.size A0 bs) (hc : bs.length ≤ c0) (hc2 : c0 ≤ 9000000000000000000) :
    Calls Try.prog 3 #[.slice A0 bs.length c0] w fun e w' => e = .returned (.bool true) ∧ Below w.heap.size w w' := by
  by_cases hbig : (1048576 : Int) < (bs.length : Int)
  · clear h0
    go_enter Try.func3, Try.ntmps3
    go_wp2
    go_ret
    exact ⟨rfl, Below.refl _ _⟩
  have H0 := Lib.hid h0
  clear h0
  have BB := Lib.hid (Below.refl w.heap.size w)
  go_enter Try.func3, Try.ntmps3
  go_wp2_with fail
  refine (DrawTableLeast_any _ _ bs _ H0.out hc hc2).mono ?_
  rintro e w1 ⟨A, c, t, rfl, iw, bb⟩
  replace BB := Lib.hid (below_then BB.out (Nat.le_refl _) bb)
  have Z := Lib.hid iw.toAll
  clear bb
  clear iw
  go_wp2_with fail
  refine (implTableLeast_any _ _ t _ Z.out.toAll).mono ?_
  rintro e w2 ⟨A2, c2, rfl, iw, bb⟩
  replace BB := Lib.hid (below_then BB.out (Nat.le_refl _) bb)
  replace Z := Lib.hid (Z.out.grow bb)
  have G := Lib.hid iw.toAll
  clear bb
  clear iw
  go_wp2_with fail
  refine (specTableLeast_any _ _ _ _ t _ Z.out).mono ?_
  rintro e w3 ⟨A3, c3, rfl, iw, bb⟩
  replace BB := Lib.hid (below_then BB.out (Nat.le_refl _) bb)
  replace Z := Lib.hid (Z.out.grow bb)
  replace G := Lib.hid (G.out.grow bb)
  have V := Lib.hid iw.toAll
  clear bb
  clear iw
  obtain ⟨o, hm⟩ : ∃ o, leastCM t = o := ⟨_, rfl⟩
  rw [hm] at G V
  rw [hm]
  cases o with
  | none =>
    clear hm
    replace G : Hid (IR w3 _ _ A2 []) := G
    replace V : Hid (IR w3 _ _ A3 []) := V
    go_wp2_with fail
    refine (sameInts_b _ _ _ _ _ _ _ _ _ _ [] _ G.out V.out rfl rfl).mono ?_
    rintro e w4 ⟨rfl, bb⟩
    replace BB := Lib.hid (below_then BB.out (Nat.le_refl _) bb)
    replace G := Lib.hid (G.out.grow bb)
    replace V := Lib.hid (V.out.grow bb)
    clear bb
    go_wp2_with fail
    refine (sameInts_b _ _ _ _ _ _ _ _ _ _ [] _ G.out V.out rfl rfl).mono ?_
    rintro e w5 ⟨rfl, bb⟩
    replace BB := Lib.hid (below_then BB.out (Nat.le_refl _) bb)
    replace G := Lib.hid (G.out.grow bb)
    replace V := Lib.hid (V.out.grow bb)
    clear bb
    go_wp2
    go_ret
    exact ⟨rfl, BB.out⟩
  | some out =>
    have e1 : (some out).getD [] = out := rfl
    rw [e1]
    replace G : Hid (IR w3 _ _ A2 out) := G
    replace V : Hid (IR w3 _ _ A3 out) := V
    have HM := Lib.hid hm
    clear hm e1
    go_wp2_with fail
    refine (sameInts_b _ _ _ _ _ _ _ _ _ _ out _ G.out V.out rfl rfl).mono ?_
    rintro e w4 ⟨rfl, bb⟩
    replace BB := Lib.hid (below_then BB.out (Nat.le_refl _) bb)
    replace Z := Lib.hid (Z.out.grow bb)
    replace G := Lib.hid (G.out.grow bb)
    replace V := Lib.hid (V.out.grow bb)
    clear bb
    clear V
    obtain ⟨ht, hout⟩ := leastC_is HM.out
    obtain ⟨_, hn, hm, hE⟩ := table_sh ht
    have HT := Lib.hid ht; have HE := Lib.hid hE
    have HLT := Lib.hid (fun i hi => firstI_lt (i := i) ht hi)
    have HLE := Lib.hid (fun i k hi hk => firstI_le (i := i) (k := k) ht hi hk)
    have HGO := Lib.hid (fun i hi => firstI_get hout (i := i) hi)
    have HOL : Hid (out.length = t.length) := by show _ = _; rw [hout]; simp
    obtain ⟨p, hp⟩ : ∃ p, crossedB t = p := ⟨_, rfl⟩
    have HP := Lib.hid hp
    have HMO : Hid (p = true → ∀ i, i + 1 < t.length → firstOf (t.getD i []) ≤ firstOf (t.getD (i + 1) [])) := fun e i hi => first_mono ht (crossed_true (by rw [hp]; exact e)).2 (by omega) hi
    clear ht hE hout hp HM
    obtain ⟨n, hnn⟩ : ∃ n, t.length = n := ⟨_, rfl⟩
    obtain ⟨m, hmm⟩ : ∃ m, colsN t = m := ⟨_, rfl⟩
    have HN := Lib.hid hnn; have HM := Lib.hid hmm
    have HOLN : Hid (out.length = n) := by show _ = _; rw [HOL.out]; exact hnn
    rw [hnn] at hn
    rw [hmm] at hm
    rw [HOLN.out, hnn]
    clear hnn hmm
    go_wp2
    go_loopw [8] (fun x wr => ∃ i : Nat, i ≤ n ∧ x = .int .i64 (i : Int) ∧ IRR wr 0 w4.heap.size A t ∧ IR wr 0 w4.heap.size A2 out ∧ Below w.heap.size w wr ∧ w4.heap.size ≤ wr.heap.size) (fun x _ => n - (intOf x).toNat)
    case atStart => exact ⟨0, Nat.zero_le _, rfl, Z.out.toAll, G.out.toAll, BB.out, Nat.le_refl _⟩
    case round =>
      obtain ⟨W, hW⟩ : ∃ W, W = wr := ⟨_, rfl⟩
      subst hW
      clear Z G BB
      obtain ⟨i, hi, rfl, hz, hg, hb, hs0⟩ := hrel
      have Z := Lib.hid hz; have G := Lib.hid hg; have BB := Lib.hid hb
      clear hz hg hb
      by_cases hin : i < n
      · have hin' : (i : Int) < (n : Int) := by omega
        have i0 : (0 : Int) ≤ (i : Int) := by omega
        have hio : i < out.length := by rw [HOLN.out]; exact hin
        have hit : i < t.length := by rw [HN.out]; exact hin
        obtain ⟨b, off, b0, o0, c0, rfl, hc0, he0⟩ := Z.out.entry HT.out hit
        rw [HM.out] at hc0 he0
        obtain ⟨bo, oo, rfl, _, _, hco⟩ := G.out.at_ hio
        rw [HGO.out i hio] at hco
        obtain ⟨x, hx⟩ : ∃ x, firstOf (t.getD i []) = x := ⟨_, rfl⟩
        rw [hx] at hco
        have hxm : x < m := by rw [← hx, ← HM.out]; exact HLT.out i hit
        have hxm' : (x : Int) < (m : Int) := by omega
        have x0 : (0 : Int) ≤ (x : Int) := by omega
        have HX := Lib.hid hx
        have HLX : Hid (∀ k, k < m → ent t i x ≤ ent t i k ∧ (k < x → ent t i x < ent t i k)) := fun k hk => by
          have h := HLE.out i k hit (by rw [HM.out]; exact hk)
          rw [hx] at h; exact h
        have HC0 := Lib.hid hc0; have HC1 := Lib.hid hco; have HE0 := Lib.hid he0
        clear hx hc0 hco he0
        go_wp2
        go_loopw [9] (fun x wr => ∃ k : Nat, k ≤ m ∧ x = .int .i64 (k : Int) ∧ Dr W wr) (fun x _ => m - (intOf x).toNat)
        case atStart => exact ⟨0, Nat.zero_le _, rfl, Dr.refl _⟩
        case round =>
          obtain ⟨k, hk, rfl, hdr⟩ := hrel
          have HD := Lib.hid hdr
          clear hdr
          have hc0 := HD.out.cell HC0.out
          have hco := HD.out.cell HC1.out
          by_cases hkm : k < m
          · have hkm' : (k : Int) < (m : Int) := by omega
            have k0 : (0 : Int) ≤ (k : Int) := by omega
            have xk := HD.out.cell (HE0.out k hkm); have xx := HD.out.cell (HE0.out x hxm)
            obtain ⟨g1, g2⟩ := HLX.out k hkm
            obtain ⟨yk, hyk⟩ : ∃ y, ent t i k = y := ⟨_, rfl⟩
            obtain ⟨yx, hyx⟩ : ∃ y, ent t i x = y := ⟨_, rfl⟩
            rw [hyk] at xk g1 g2
            rw [hyx] at xx g1 g2
            have hng : ¬ yk < yx := by omega
            have hng' : decide (yk < yx) = false := decide_eq_false hng
            clear hyk hyx
            by_cases hkx : k < x
            · have hkx' : (k : Int) < (x : Int) := by omega
              have hne : ¬ yk = yx := by have := g2 hkx; omega
              have hne' : (yk == yx) = false := by rw [beq_eq_false_iff_ne]; exact hne
              clear g2
              go_wp2
              go_quiet (fail)
              go_wp2
              go_roundw
              case rel => exact ⟨k + 1, by omega, by go_num, HD.out.more _⟩
              case measure => simp [intOf]; omega
            · have hkx' : ¬ (k : Int) < (x : Int) := by omega
              have hkx'' : decide ((k : Int) < (x : Int)) = false := decide_eq_false hkx'
              clear g2
              go_wp2
              go_quiet (fail)
              go_wp2
              go_roundw
              case rel => exact ⟨k + 1, by omega, by go_num, HD.out.more _⟩
              case measure => simp [intOf]; omega
          · obtain rfl : k = m := by omega
            have hkm' : ¬ (k : Int) < (k : Int) := by omega
            have hsW : W.heap.size ≤ wr.heap.size := HD.out.below.size
            replace Z := Lib.hid (HD.out.irr Z.out); replace G := Lib.hid (HD.out.ir G.out); replace BB := Lib.hid (HD.out.grow BB.out)
            clear HD hco
            by_cases hi0 : 0 < i
            · have hj0 : (0 : Int) < (i : Int) := by omega
              have hj0' : decide ((0 : Int) < (i : Int)) = true := decide_eq_true hj0
              obtain ⟨j, hij⟩ : ∃ j, j + 1 = i := ⟨i - 1, by omega⟩
              have sj : IntKind.i64.wrap ((i : Int) - 1) = (j : Int) := by rw [IntWalk.i64_in _ (by omega)]; omega
              have hjn : j < n := by omega
              have hjo : j < out.length := by rw [HOLN.out]; exact hjn
              obtain ⟨b2, o2, e2, _, hbh2, hc1⟩ := G.out.at_ hio
              obtain ⟨b3, o3, e3, _, _, hc2⟩ := G.out.at_ hjo
              rw [e3] at e2
              injection e2 with e2; injection e2 with e4 e5 _; subst e4; subst e5
              injection e3 with e3; injection e3 with e4 e5 _; subst e4; subst e5
              rw [HGO.out i hio, HX.out] at hc1
              rw [HGO.out j hjo] at hc2
              have HMX : Hid (p = true → firstOf (t.getD j []) ≤ x) := fun e => by
                have hmo := HMO.out e j (by rw [hij]; exact hit)
                rw [hij, HX.out] at hmo; exact hmo
              obtain ⟨y, hy⟩ : ∃ y, firstOf (t.getD j []) = y := ⟨_, rfl⟩
              rw [hy] at hc2 HMX
              have j0 : (0 : Int) ≤ (j : Int) := by omega
              have hjn' : (j : Int) < (n : Int) := by omega
              have hol := HOLN.out
              have HZW : Hid (IRR wr.drew 0 wr.drew.heap.size (some ⟨b, off, none⟩) t) := Z.out.toAll
              have hbw : bo < wr.heap.size := by have := G.out.2.2.1; have := BB.out.size; omega
              clear hy hij
              cases p with
              | false =>
                clear hc1 hc2
                go_wp2
                refine wp_region_held_drew (S := fun _ => True) (by kernel_rfl) trivial (fun hS => ?_)
                refine anyH_take 0 (v := .int .i64 (i : Int)) rfl (by kernel_rfl) (by kernel_rfl) (by kernel_rfl) (fun _ _ _ h => h) rfl (fun W hW => by kernel_rfl) hS ?_
                refine anyH_take 1 (v := .bool true) rfl (by kernel_rfl) (by kernel_rfl) (by kernel_rfl) (fun _ _ _ h => h) rfl (fun W hW => by go_simp) hS ?_
                refine anyH_take 2 (v := .bool true) rfl (by kernel_rfl) (by kernel_rfl) (by kernel_rfl) (fun _ _ _ h => h) rfl (fun W hW => by kernel_rfl) hS ?_
                refine anyH_takeW 3 (v := .slice (some ⟨b, off, none⟩) n c) rfl (by kernel_rfl) (by kernel_rfl) (by kernel_rfl) (fun _ _ _ h => h) (by kernel_rfl) (fun W hW => by kernel_rfl) hS ?_
                refine anyH_one 4 rfl (by kernel_rfl) (by kernel_rfl) ?_
                refine wp_callF (args := #[.slice (some ⟨b, off, none⟩) n c]) rfl Try.call13 (by kernel_rfl) ?_
                refine (implCrossed_of _ _ t _ HZW.out HP.out HN.out.symm).mono ?_
                rintro e w9 ⟨rfl, bb⟩
                have hb9 : Below wr.heap.size wr w9 := ⟨bb.os, bb.tape, bb.output, bb.size, bb.block⟩
                have HB9 := Lib.hid hb9
                refine ⟨_, rfl, trivial, ?_⟩
                refine anyH_take 5 (v := .bool false) rfl (by kernel_rfl) (by kernel_rfl) (by kernel_rfl) (fun _ _ _ h => h) rfl (fun W hW => by go_simp) hS ?_
                refine anyH_take 6 (v := .bool false) rfl (by kernel_rfl) (by kernel_rfl) (by kernel_rfl) (fun _ _ _ h => h) rfl (fun W hW => by kernel_rfl) hS ?_
                refine anyH_skip 7 rfl (by kernel_rfl) (by kernel_rfl) (by kernel_rfl) (fun _ _ _ h => h) (by kernel_rfl) hS ?_
                refine anyH_skip 8 rfl (by kernel_rfl) (by kernel_rfl) (by kernel_rfl) (fun _ _ _ h => h) (by kernel_rfl) hS ?_
                refine anyH_skip 9 rfl (by kernel_rfl) (by kernel_rfl) (by kernel_rfl) (fun _ _ _ h => h) (by kernel_rfl) hS ?_
                refine anyH_skip 10 rfl (by kernel_rfl) (by kernel_rfl) (by kernel_rfl) (fun _ _ _ h => h) (by kernel_rfl) hS ?_
                refine anyH_skip 11 rfl (by kernel_rfl) (by kernel_rfl) (by kernel_rfl) (fun _ _ _ h => h) (by kernel_rfl) hS ?_
                refine anyH_skip 12 rfl (by kernel_rfl) (by kernel_rfl) (by kernel_rfl) (fun _ _ _ h => h) (by kernel_rfl) hS ?_
                refine anyH_skip 13 rfl (by kernel_rfl) (by kernel_rfl) (by kernel_rfl) (fun _ _ _ h => h) (by kernel_rfl) hS ?_
                refine anyH_skip 14 rfl (by kernel_rfl) (by kernel_rfl) (by kernel_rfl) (fun _ _ _ h => h) (by kernel_rfl) hS ?_
                refine anyH_skip 15 rfl (by kernel_rfl) (by kernel_rfl) (by kernel_rfl) (fun _ _ _ h => h) (by kernel_rfl) hS ?_
                refine anyH_skip 16 rfl (by kernel_rfl) (by kernel_rfl) (by kernel_rfl) (fun _ _ _ h => h) (by kernel_rfl) hS ?_
                refine anyH_take 17 (v := .bool false) rfl (by kernel_rfl) (by kernel_rfl) (by kernel_rfl) (fun _ _ _ h => h) rfl (fun W hW => by go_simp) hS ?_
                refine wpAnyH_done (by kernel_rfl) ?_ _
                clear hb9 bb
                go_simp
                go_wp2
                go_roundw
                case rel => exact ⟨i + 1, by omega, by go_num, Z.out.below HB9.out (by have := Z.out.2.1; show _ ≤ wr.heap.size; omega), G.out.below HB9.out (by have := G.out.2.2.1; show _ ≤ wr.heap.size; omega), BB.out.trans (HB9.out.mono BB.out.size), by have := HB9.out.size; omega⟩
                case measure => simp [intOf]; omega
              | true =>
                have hmx := HMX.out rfl
                have hxy : ¬ (x : Int) < (y : Int) := by omega
                have hxy' : decide ((x : Int) < (y : Int)) = false := decide_eq_false hxy
                go_wp2
                refine wp_region_held_drew (S := (fun W => W.cell? ⟨bo, oo + i, none⟩ = some (.int .i64 (x : Int)) ∧ W.cell? ⟨bo, oo + j, none⟩ = some (.int .i64 (y : Int)))) (by kernel_rfl) ⟨hc1, hc2⟩ (fun hS => ?_)
                refine anyH_take 0 (v := .int .i64 (i : Int)) rfl (by kernel_rfl) (by kernel_rfl) (by kernel_rfl) (fun _ _ _ h => h) rfl (fun W hW => by kernel_rfl) hS ?_
                refine anyH_take 1 (v := .bool true) rfl (by kernel_rfl) (by kernel_rfl) (by kernel_rfl) (fun _ _ _ h => h) rfl (fun W hW => by go_simp) hS ?_
                refine anyH_take 2 (v := .bool true) rfl (by kernel_rfl) (by kernel_rfl) (by kernel_rfl) (fun _ _ _ h => h) rfl (fun W hW => by kernel_rfl) hS ?_
                refine anyH_takeW 3 (v := .slice (some ⟨b, off, none⟩) n c) rfl (by kernel_rfl) (by kernel_rfl) (by kernel_rfl) (fun _ _ _ h => h) (by kernel_rfl) (fun W hW => by kernel_rfl) hS ?_
                refine anyH_one 4 rfl (by kernel_rfl) (by kernel_rfl) ?_
                refine wp_callF (args := #[.slice (some ⟨b, off, none⟩) n c]) rfl Try.call13 (by kernel_rfl) ?_
                refine (implCrossed_of _ _ t _ HZW.out HP.out HN.out.symm).mono ?_
                rintro e w9 ⟨rfl, bb⟩
                have hb9 : Below wr.heap.size wr w9 := ⟨bb.os, bb.tape, bb.output, bb.size, bb.block⟩
                have HB9 := Lib.hid hb9
                have hS9 : w9.cell? ⟨bo, oo + i, none⟩ = some (.int .i64 (x : Int)) ∧ w9.cell? ⟨bo, oo + j, none⟩ = some (.int .i64 (y : Int)) := ⟨(hb9.cell (p := ⟨bo, oo + i, none⟩) hbw).trans hc1, (hb9.cell (p := ⟨bo, oo + j, none⟩) hbw).trans hc2⟩
                refine ⟨_, rfl, hS9, ?_⟩
                refine anyH_take 5 (v := .bool true) rfl (by kernel_rfl) (by kernel_rfl) (by kernel_rfl) (fun _ _ _ h => h) rfl (fun W hW => by go_simp) hS9 ?_
                refine anyH_take 6 (v := .bool true) rfl (by kernel_rfl) (by kernel_rfl) (by kernel_rfl) (fun _ _ _ h => h) rfl (fun W hW => by kernel_rfl) hS9 ?_
                refine anyH_takeW 7 (v := .slice (some ⟨bo, oo, none⟩) n c2) rfl (by kernel_rfl) (by kernel_rfl) (by kernel_rfl) (fun _ _ _ h => h) (by kernel_rfl) (fun W hW => by kernel_rfl) hS9 ?_
                refine anyH_takeW 8 (v := .int .i64 (i : Int)) rfl (by kernel_rfl) (by kernel_rfl) (by kernel_rfl) (fun _ _ _ h => h) (by kernel_rfl) (fun W hW => by kernel_rfl) hS9 ?_
                refine anyH_takeW 9 (v := .pointer (some ⟨bo, oo + i, none⟩)) rfl (by kernel_rfl) (by kernel_rfl) (by kernel_rfl) (fun _ _ _ h => h) (by kernel_rfl) (fun W hW => by go_simp) hS9 ?_
                refine anyH_takeW 10 (v := .int .i64 (x : Int)) rfl (by kernel_rfl) (by kernel_rfl) (by kernel_rfl) (fun _ _ _ h => h) (by kernel_rfl) (fun W hW => by have h1 := hW.1; go_simp) hS9 ?_
                refine anyH_takeW 11 (v := .slice (some ⟨bo, oo, none⟩) n c2) rfl (by kernel_rfl) (by kernel_rfl) (by kernel_rfl) (fun _ _ _ h => h) (by kernel_rfl) (fun W hW => by kernel_rfl) hS9 ?_
                refine anyH_takeW 12 (v := .int .i64 (i : Int)) rfl (by kernel_rfl) (by kernel_rfl) (by kernel_rfl) (fun _ _ _ h => h) (by kernel_rfl) (fun W hW => by kernel_rfl) hS9 ?_
                refine anyH_takeW 13 (v := .int .i64 (j : Int)) rfl (by kernel_rfl) (by kernel_rfl) (by kernel_rfl) (fun _ _ _ h => h) (by kernel_rfl) (fun W hW => by go_simp) hS9 ?_
                refine anyH_takeW 14 (v := .pointer (some ⟨bo, oo + j, none⟩)) rfl (by kernel_rfl) (by kernel_rfl) (by kernel_rfl) (fun _ _ _ h => h) (by kernel_rfl) (fun W hW => by go_simp) hS9 ?_
                refine anyH_takeW 15 (v := .int .i64 (y : Int)) rfl (by kernel_rfl) (by kernel_rfl) (by kernel_rfl) (fun _ _ _ h => h) (by kernel_rfl) (fun W hW => by have h1 := hW.2; go_simp) hS9 ?_
                refine anyH_takeW 16 (v := .bool false) rfl (by kernel_rfl) (by kernel_rfl) (by kernel_rfl) (fun _ _ _ h => h) (by kernel_rfl) (fun W hW => by go_simp) hS9 ?_
                refine anyH_take 17 (v := .bool false) rfl (by kernel_rfl) (by kernel_rfl) (by kernel_rfl) (fun _ _ _ h => h) rfl (fun W hW => by go_simp) hS9 ?_
                refine wpAnyH_done (by kernel_rfl) ?_ _
                clear hb9 bb hS9
                go_simp
                go_wp2
                go_roundw
                case rel => exact ⟨i + 1, by omega, by go_num, Z.out.below HB9.out (by have := Z.out.2.1; show _ ≤ wr.heap.size; omega), G.out.below HB9.out (by have := G.out.2.2.1; show _ ≤ wr.heap.size; omega), BB.out.trans (HB9.out.mono BB.out.size), by have := HB9.out.size; omega⟩
                case measure => simp [intOf]; omega
            · have hj0 : ¬ (0 : Int) < (i : Int) := by omega
              go_wp2
              go_quiet (fail)
              go_wp2
              go_roundw
              case rel => exact ⟨i + 1, by omega, by go_num, Z.out.drewN _, G.out.drewN _, below_drawN BB.out _, by show _ ≤ wr.heap.size; omega⟩
              case measure => simp [intOf]; omega
      · obtain rfl : i = n := by omega
        have hin' : ¬ (i : Int) < (i : Int) := by omega
        have hol := HOLN.out
        go_wp2
        go_ret
        exact ⟨rfl, BB.out⟩
end Go.Proofs.Ytanmjaljcnihlab
