/-
  load and TableLoad of the program. Conditions: the cells are there.
-/
import Derived.Test.YtlbimmhlijelfaaLdQ
import Derived.Test.YtlbimmhlijelfaaLdA
namespace Go.Proofs.Ytlbimmhlijelfaa
open Go.RowKit
attribute [local go_sem] Oper.semAt_some

set_option maxRecDepth 100000 in
theorem resT1 {fn : Func} {p : Tmp} (h : fn.results = #[.cell p 56]) (tmps : Array Value) (W : World) {B n m : Nat} {f : Nat → Nat → Int} (hp : tmps.getD p undef = .pointer (some ⟨B, 0, none⟩)) (hb : BT W B n m f) :
    (results fn tmps).run Try.prog W = .ok (.agg (tabV n m f)) W := by
  have hp' : tmps[p]?.getD undef = .pointer (some ⟨B, 0, none⟩) := by simpa using hp
  simp [results, h, hp', asAddr, hb.loadV]

set_option maxRecDepth 100000 in
set_option maxHeartbeats 2000000 in
theorem load_any (n m : Nat) (f : Nat → Nat → Int) (SA SB : Nat → Int) (hn : 1 ≤ n ∧ n ≤ 6) (hm : 1 ≤ m ∧ m ≤ 6) (upA : Up SA) (upB : Up SB) (zA : SA 0 = 0) (zB : SB 0 = 0) (dA : ∀ p, SA (p + 1) - SA p ≤ 9) (dB : ∀ p, SB (p + 1) - SB p ≤ 9) (g h : Nat → Int)
    (hg : ∀ j, j < 6 → g j = SA (j + 1) - SA j) (hh : ∀ j, j < 6 → h j = SB (j + 1) - SB j) (w : World) :
    Calls Try.prog 41 #[.agg (tabV n m f), .agg (ordV g h)] w fun e w' => ∃ k, e = .returned (.agg (tabV n m k)) ∧ (∀ i j, i < n → j < m → k i j = loadF SA SB i j) ∧ Below w.heap.size w w' := by
  have UA := Lib.hid upA; have UB := Lib.hid upB; have ZA := Lib.hid zA; have ZB := Lib.hid zB; have DA := Lib.hid dA; have DB := Lib.hid dB
  have hV0 : ordV g h = ordV (remA SA SB 0 0) (remA SB SA 0 0) := ordV_congr (fun j hj => by rw [rem_zero zA zB, hg j hj]) (fun j hj => by rw [rem_zero zB zA, hh j hj])
  rw [hV0]
  clear hV0 hg hh upA upB zA zB dA dB
  have b1 := (BT.new w n m f).alloc (.cells (ordV (remA SA SB 0 0) (remA SB SA 0 0)) 59)
  have b2 := BX.new (w.alloc (.cells (tabV n m f) 56)) 59 (ordV (remA SA SB 0 0) (remA SB SA 0 0))
  rw [World.size_alloc] at b2
  have b0 : Below w.heap.size w ((w.alloc (.cells (tabV n m f) 56)).alloc (.cells (ordV (remA SA SB 0 0) (remA SB SA 0 0)) 59)) := ((Below.refl _ w).alloc (Nat.le_refl _) _).alloc (by simp) _
  have s1 : ((w.alloc (.cells (tabV n m f) 56)).alloc (.cells (ordV (remA SA SB 0 0) (remA SB SA 0 0)) 59)).heap.size = w.heap.size + 2 := by simp
  obtain ⟨V, hV⟩ : ∃ V, ordV (remA SA SB 0 0) (remA SB SA 0 0) = V := ⟨_, rfl⟩
  rw [hV] at b0 b1 b2 s1
  rw [hV]
  obtain ⟨W1, hW1⟩ : ∃ W, (w.alloc (.cells (tabV n m f) 56)).alloc (.cells V 59) = W := ⟨_, rfl⟩
  rw [hW1] at b0 b1 b2 s1
  have c1 := (b1.alloc (.cells (tabV 0 0 zF) 56))
  have c2 := (b2.alloc (.cells (tabV 0 0 zF) 56))
  have c3 := BT.new W1 0 0 zF
  have c0 := b0.alloc (by omega) (.cells (tabV 0 0 zF) 56)
  rw [s1] at c3
  have s2 : (W1.alloc (.cells (tabV 0 0 zF) 56)).heap.size = w.heap.size + 3 := by rw [World.size_alloc, s1]
  obtain ⟨W2, hW2⟩ : ∃ W, W1.alloc (.cells (tabV 0 0 zF) 56) = W := ⟨_, rfl⟩
  rw [hW2] at c0 c1 c2 c3 s2
  have d1 := (c1.alloc (.cells (tabV 0 0 zF) 56)).block (setRow_other _ (w.heap.size + 3) w.heap.size (tabV n m zF) (by omega))
  have d2 := (c2.alloc (.cells (tabV 0 0 zF) 56)).apart (B' := w.heap.size + 3) (by omega) (tabV n m zF)
  have d3 := (c3.alloc (.cells (tabV 0 0 zF) 56)).block (setRow_other _ (w.heap.size + 3) (w.heap.size + 2) (tabV n m zF) (by omega))
  have d4' := BT.new W2 0 0 zF
  rw [s2] at d4'
  have d4 : BT ((W2.alloc (.cells (tabV 0 0 zF) 56)).setRow (w.heap.size + 3) (tabV n m zF)) (w.heap.size + 3) n m zF := d4'.put
  have d0 := below_setRow (c0.alloc (by omega) (.cells (tabV 0 0 zF) 56)) (show w.heap.size ≤ w.heap.size + 3 by omega) (tabV n m zF)
  obtain ⟨W3, hW3⟩ : ∃ W, (W2.alloc (.cells (tabV 0 0 zF) 56)).setRow (w.heap.size + 3) (tabV n m zF) = W := ⟨_, rfl⟩
  rw [hW3] at d0 d1 d2 d3 d4
  have hz0 : zF = ldOut SA SB 0 0 := by funext p q; exact (out_zero SA SB p q).symm
  rw [hz0] at d4
  have D0 := Lib.hid d0; have D1 := Lib.hid d1; have D2 := Lib.hid d2; have D3 := Lib.hid d3; have D4 := Lib.hid d4
  have HV := Lib.hid hV
  have r1 := c1.rows; have r2 := c1.cols
  have HW3 := Lib.hid hW3
  have HS1 := Lib.hid s1
  clear b0 b1 b2 c0 c1 c2 c3 d0 d1 d2 d3 d4 hV s1 hz0 hW3
  go_enter Try.func41, Try.ntmps41
  go_wp2_with (first | (refine wpList_alT rfl rfl ?_; rw [hW1]; rw [hW2]) | (refine wpList_alT rfl rfl ?_; rw [hW2]) | (refine wpList_alT rfl rfl ?_) | (refine wpList_bu2 rfl _ _ rfl rfl rfl ?_) | (rw [s2]; refine wpList_stT rfl _ _ rfl rfl rfl d4' ?_; rw [HW3.out]) | (refine wpList_stT rfl _ _ rfl rfl rfl d4' ?_; rw [HW3.out]))
  rw [HS1.out]
  have D4v := D4.out
  clear hW1 hW2 s2 d4' r1 r2 HW3
  go_loopw [6, 7] (fun x y wr => ∃ p q : Nat, p ≤ n ∧ q ≤ m ∧ x = .int .i64 (p : Int) ∧ y = .int .i64 (q : Int) ∧ LdI SA SB p q ∧ BT wr w.heap.size n m f ∧ BX wr (w.heap.size + 1) 59 (ordV (remA SA SB p q) (remA SB SA q p)) ∧ BT wr (w.heap.size + 2) 0 0 zF ∧ BT wr (w.heap.size + 3) n m (ldOut SA SB p q) ∧ Below w.heap.size w wr) (fun x y _ => (n - (intOf x).toNat) + (m - (intOf y).toNat))
  case atStart => exact ⟨0, 0, Nat.zero_le _, Nat.zero_le _, rfl, rfl, ldI_zero UA.out UB.out ZA.out ZB.out, D1.out, by rw [HV.out]; exact D2.out, D3.out, D4.out, D0.out⟩
  case round =>
    obtain ⟨X, hX⟩ : ∃ X, X = wr := ⟨_, rfl⟩
    subst hX
    clear D0 D1 D2 D3 D4 D4v HV
    obtain ⟨p, q, hp, hq, rfl, rfl, hli, ht, ho, hr, hl, hb⟩ := hrel
    have HLI := Lib.hid hli; have HT := Lib.hid ht; have HO := Lib.hid ho; have HR := Lib.hid hr; have HL := Lib.hid hl; have HB := Lib.hid hb
    have r1 := ht.rows
    have r2 := ht.cols
    clear hli ht ho hr hl hb
    by_cases hlp : p < n
    · have lp : (p : Int) < (n : Int) := by omega
      by_cases hlq : q < m
      · have lq : (q : Int) < (m : Int) := by omega
        have p0 : (0 : Int) ≤ (p : Int) := by omega
        have q0 : (0 : Int) ≤ (q : Int) := by omega
        have hp6 : p < 6 := by omega
        have hq6 : q < 6 := by omega
        have p6 : (p : Int) < 6 := by omega
        have q6 : (q : Int) < 6 := by omega
        obtain ⟨hxm, hx0⟩ := ld_x UA.out UB.out HLI.out
        have bda := rem_bd UA.out HLI.out p
        have bdb := rem_bd UB.out HLI.out.turn q
        have dda := DA.out p; have ddb := DB.out q
        have hus := ld_used UA.out UB.out HLI.out
        obtain ⟨x, hx⟩ : ∃ x, loadF SA SB p q = x := ⟨_, rfl⟩
        obtain ⟨ra, hra⟩ : ∃ x, remA SA SB p q p = x := ⟨_, rfl⟩
        obtain ⟨rb, hrb⟩ : ∃ x, remA SB SA q p q = x := ⟨_, rfl⟩
        rw [hra] at bda hus hxm
        rw [hrb] at bdb hxm
        rw [hx] at hus hxm hx0
        have HX := Lib.hid hx; have HRA := Lib.hid hra; have HRB := Lib.hid hrb; have HUS := Lib.hid hus
        have HMO : Hid (∀ W, Calls Try.prog 67 #[.agg (ordV (remA SA SB p q) (remA SB SA q p)), .int .i64 (p : Int), .int .i64 (q : Int)] W fun e w' => e = .returned (.int .i64 x) ∧ Below W.heap.size W w') := Lib.hid fun W => by
          rw [hxm, ← hra, ← hrb]; exact ordMost_any _ _ p q hp6 hq6 W
        have HGI : Hid (∀ W, Calls Try.prog 68 #[.agg (ordV (remA SA SB p q) (remA SB SA q p)), .int .i64 (p : Int), .int .i64 (q : Int), .int .i64 x] W fun e w' => e = .returned (.agg (ordV (fun j => if j = p then remA SA SB p q j - x else remA SA SB p q j) (fun j => if j = q then remA SB SA q p j - x else remA SB SA q p j))) ∧ Below W.heap.size W w') := Lib.hid fun W =>
          ordGiven_any _ _ p q x hp6 hq6 (by rw [hra]; exact ⟨by omega, by omega⟩) (by rw [hrb]; exact ⟨by omega, by omega⟩) W
        obtain ⟨V2, hV2⟩ : ∃ V, ordV (remA SA SB p q) (remA SB SA q p) = V := ⟨_, rfl⟩
        obtain ⟨V3, hV3⟩ : ∃ V, ordV (fun j => if j = p then remA SA SB p q j - x else remA SA SB p q j) (fun j => if j = q then remA SB SA q p j - x else remA SB SA q p j) = V := ⟨_, rfl⟩
        have HV3 := Lib.hid hV3
        have HV2S : Hid (V2.size = 12) := Lib.hid (by rw [← hV2]; exact ordV_size _ _)
        have HV3S : Hid (V3.size = 12) := Lib.hid (by rw [← hV3]; exact ordV_size _ _)
        have HV3O : Hid (V3.all (·.oneCell') = true) := Lib.hid (by rw [← hV3]; exact ordV_one _ _)
        rw [hV2] at HO HMO HGI
        rw [hV3] at HGI
        have hoo := HO.out
        have HXM := Lib.hid hxm
        clear hx hra hrb hus hV2 hV3 hxm
        go_wp2_with (first | (refine wpList_ldX rfl _ rfl rfl hoo rowT_ord HV2S.out ?_))
        clear r1 r2 hoo
        refine (HMO.out _).mono ?_
        rintro e w5 ⟨rfl, hb⟩
        have hs := HB.out.size
        replace HT := Lib.hid (HT.out.grow hb); replace HO := Lib.hid (HO.out.grow hb); replace HR := Lib.hid (HR.out.grow hb); replace HL := Lib.hid (HL.out.grow hb); replace HB := Lib.hid (HB.out.trans (hb.mono hs))
        clear hb
        have ce := HL.out.entry hp6 hq6
        have cf := HL.out.frozen (2 + p * 6 + q)
        obtain ⟨W6, hW6⟩ : ∃ W, w5.setCell ⟨w.heap.size + 3, 2 + p * 6 + q, none⟩ (.int .i64 x) = W := ⟨_, rfl⟩
        have e1 := HT.out.other (p := ⟨w.heap.size + 3, 2 + p * 6 + q, none⟩) (show w.heap.size ≠ w.heap.size + 3 by omega) (.int .i64 x)
        have e2 := HO.out.other (p := ⟨w.heap.size + 3, 2 + p * 6 + q, none⟩) (show w.heap.size + 1 ≠ w.heap.size + 3 by omega) (.int .i64 x)
        have e3 := HR.out.other (p := ⟨w.heap.size + 3, 2 + p * 6 + q, none⟩) (show w.heap.size + 2 ≠ w.heap.size + 3 by omega) (.int .i64 x)
        have e4 := HL.out.set_ hp6 hq6 x
        have e5 := HB.out.setCell (p := ⟨w.heap.size + 3, 2 + p * 6 + q, none⟩) (show w.heap.size ≤ w.heap.size + 3 by omega) (.int .i64 x)
        rw [hW6] at e1 e2 e3 e4 e5
        have hoo := e2
        have HT6 := Lib.hid e1; have HO6 := Lib.hid e2; have HR6 := Lib.hid e3; have HL6 := Lib.hid e4; have HB6 := Lib.hid e5
        clear e1 e2 e3 e4 e5 HT HO HR HL HB
        go_wp2_with (first | (refine wpList_ldX rfl _ rfl rfl hoo rowT_ord HV2S.out ?_) | (rw [hW6]; refine wpList_ldX rfl _ rfl rfl hoo rowT_ord HV2S.out ?_))
        clear hW6 hoo ce cf
        refine (HGI.out _).mono ?_
        rintro e w7 ⟨rfl, hb⟩
        have hs := HB6.out.size
        have hoo := HO6.out.grow hb
        have e1 := (HT6.out.grow hb).block (setRow_other _ (w.heap.size + 1) w.heap.size V3 (by omega))
        have HX9' := hoo.put V3
        have e3 := (HR6.out.grow hb).block (setRow_other _ (w.heap.size + 1) (w.heap.size + 2) V3 (by omega))
        have e4 := (HL6.out.grow hb).block (setRow_other _ (w.heap.size + 1) (w.heap.size + 3) V3 (by omega))
        have e5 := below_setRow (HB6.out.trans (hb.mono hs)) (show w.heap.size ≤ w.heap.size + 1 by omega) V3
        obtain ⟨W9, hW9⟩ : ∃ W, w7.setRow (w.heap.size + 1) V3 = W := ⟨_, rfl⟩
        rw [hW9] at e1 HX9' e3 e4 e5
        have HT9 := Lib.hid e1; have HX9 := Lib.hid HX9'; have HR9 := Lib.hid e3; have HL9 := Lib.hid e4; have HB9 := Lib.hid e5
        clear e1 HX9' e3 e4 e5 hb HT6 HO6 HR6 HL6 HB6 HGI HMO
        by_cases hle : ra ≤ rb
        · have hAB : SA (p + 1) ≤ SB (q + 1) := HUS.out.1 (by have := HXM.out; omega)
          have hcr : W9.cell? ⟨w.heap.size + 1, p, none⟩ = some (.int .i64 0) := by
            rw [HX9.out.cell, ← HV3.out, ordV_row _ _ hp6, if_pos rfl, HRA.out, show ra - x = 0 by have := HXM.out; omega]
          have HNX := Lib.hid (ldI_down UA.out HLI.out hAB)
          have HOU : Hid (putF (ldOut SA SB p q) p q x = ldOut SA SB (p + 1) q) := by
            show _ = _
            funext p' q'
            rw [out_down UB.out HLI.out hAB, HX.out]; rfl
          have HOV : Hid (V3 = ordV (remA SA SB (p + 1) q) (remA SB SA q (p + 1))) := by
            show _ = _
            rw [← HV3.out]
            refine ordV_congr (fun j _ => ?_) (fun j _ => ?_)
            · rw [rem_down UA.out UB.out HLI.out hAB, HX.out]
              by_cases e : j = p
              · subst e; rfl
              · rw [if_neg e, if_neg e]
            · rw [rem_stay UB.out UA.out HLI.out.turn hAB, load_turn, HX.out]
              by_cases e : j = q
              · subst e; rfl
              · rw [if_neg e, if_neg e]
          clear hAB
          go_wp2_with (first | (refine wpList_stX rfl _ _ rfl rfl rfl hoo rowT_ord HV2S.out HV3S.out HV3O.out ?_; rw [hW9]; clear hW9 hoo))
          go_roundw
          case rel => exact ⟨p + 1, q, by omega, by omega, by go_num, rfl, HNX.out, HT9.out, by rw [← HOV.out]; exact HX9.out, HR9.out, by rw [← HOU.out]; exact HL9.out, HB9.out⟩
          case measure => simp [intOf]; omega
        · have hrx : ¬ (ra - x = 0) := by have := HXM.out; omega
          have hrxb : (ra - x == 0) = false := by rw [beq_eq_false_iff_ne]; exact hrx
          have hAB : SB (q + 1) < SA (p + 1) := by have h9 : ¬ (SA (p + 1) ≤ SB (q + 1)) := fun h9 => hrx (HUS.out.2 h9); omega
          have hcr : W9.cell? ⟨w.heap.size + 1, p, none⟩ = some (.int .i64 (ra - x)) := by
            rw [HX9.out.cell, ← HV3.out, ordV_row _ _ hp6, if_pos rfl, HRA.out]
          have HNX := Lib.hid (ldI_right UB.out HLI.out hAB)
          have HOU : Hid (putF (ldOut SA SB p q) p q x = ldOut SA SB p (q + 1)) := by
            show _ = _
            funext p' q'
            rw [out_right, HX.out]; rfl
          have HOV : Hid (V3 = ordV (remA SA SB p (q + 1)) (remA SB SA (q + 1) p)) := by
            show _ = _
            rw [← HV3.out]
            refine ordV_congr (fun j _ => ?_) (fun j _ => ?_)
            · rw [rem_stay UA.out UB.out HLI.out (Int.le_of_lt hAB), HX.out]
              by_cases e : j = p
              · subst e; rfl
              · rw [if_neg e, if_neg e]
            · rw [rem_down UB.out UA.out HLI.out.turn (Int.le_of_lt hAB), load_turn, HX.out]
              by_cases e : j = q
              · subst e; rfl
              · rw [if_neg e, if_neg e]
          clear hAB
          go_wp2_with (first | (refine wpList_stX rfl _ _ rfl rfl rfl hoo rowT_ord HV2S.out HV3S.out HV3O.out ?_; rw [hW9]; clear hW9 hoo))
          go_roundw
          case rel => exact ⟨p, q + 1, by omega, by omega, rfl, by go_num, HNX.out, HT9.out, by rw [← HOV.out]; exact HX9.out, HR9.out, by rw [← HOU.out]; exact HL9.out, HB9.out⟩
          case measure => simp [intOf]; omega
      · have lq : ¬ (q : Int) < (m : Int) := by omega
        have hEND : Hid (∀ i j, i < n → j < m → ldOut SA SB p q i j = loadF SA SB i j) := Lib.hid fun i j h1 h2 => out_cols UA.out UB.out HLI.out (by omega)
        have hll := HL.out; have hrr := HR.out
        have hfin : BT (X.setRow (w.heap.size + 2) (tabV n m (ldOut SA SB p q))) (w.heap.size + 2) n m (ldOut SA SB p q) := hrr.put
        have hbf := below_setRow HB.out (show w.heap.size ≤ w.heap.size + 2 by omega) (tabV n m (ldOut SA SB p q))
        go_wp2_with (first | (refine wpList_ldT rfl _ rfl rfl hll ?_) | (refine wpList_stT rfl _ _ rfl rfl rfl hrr ?_))
        exact bodyPost_ret (v := .agg (tabV n m (ldOut SA SB p q))) (resT1 rfl _ _ (by kernel_rfl) hfin) rfl ⟨_, rfl, hEND.out, hbf⟩
    · have lp : ¬ (p : Int) < (n : Int) := by omega
      have hEND : Hid (∀ i j, i < n → j < m → ldOut SA SB p q i j = loadF SA SB i j) := Lib.hid fun i j h1 h2 => out_rows (by omega)
      have hll := HL.out; have hrr := HR.out
      have hfin : BT (X.setRow (w.heap.size + 2) (tabV n m (ldOut SA SB p q))) (w.heap.size + 2) n m (ldOut SA SB p q) := hrr.put
      have hbf := below_setRow HB.out (show w.heap.size ≤ w.heap.size + 2 by omega) (tabV n m (ldOut SA SB p q))
      go_wp2_with (first | (refine wpList_ldT rfl _ rfl rfl hll ?_) | (refine wpList_stT rfl _ _ rfl rfl rfl hrr ?_))
      exact bodyPost_ret (v := .agg (tabV n m (ldOut SA SB p q))) (resT1 rfl _ _ (by kernel_rfl) hfin) rfl ⟨_, rfl, hEND.out, hbf⟩

set_option maxRecDepth 100000 in
set_option maxHeartbeats 2000000 in
theorem implTableLoad_any (A : Option Addr) (c : Nat) (t : List (List Int)) (A1 : Option Addr) (c1 : Nat) (a : List Int) (A2 : Option Addr) (c2 : Nat) (b : List Int) (w : World) (h : IRR w 0 w.heap.size A t) (h1 : IR w 0 w.heap.size A1 a) (h2 : IR w 0 w.heap.size A2 b) :
    Calls Try.prog 14 #[.slice A t.length c, .slice A1 a.length c1, .slice A2 b.length c2] w (RetTB w (loadM t a b)) := by
  have H := Lib.hid h; have H1 := Lib.hid h1; have H2 := Lib.hid h2
  clear h h1 h2
  go_enter Try.func14, Try.ntmps14
  go_wp2_with fail
  refine (orderIn_any A c _ _ t A1 c1 _ _ a A2 c2 _ _ b _ H.out H1.out H2.out).mono ?_
  rintro e w1 ⟨n, m, f, g, h, rfl, ⟨hn6, hm6⟩, hf, hb1⟩
  have HB := Lib.hid hb1
  have hs1 := hb1.size
  have hzo := zeroT_ord
  obtain ⟨Z, hZ⟩ : ∃ V, (ordV (fun _ => 0) fun _ => 0) = V := ⟨_, rfl⟩
  have HZS : Hid (Z.size = 12) := Lib.hid (by rw [← hZ]; exact ordV_size _ _)
  rw [hZ] at hzo
  obtain ⟨U, hU⟩ : ∃ V, ordV g h = V := ⟨_, rfl⟩
  have HUS : Hid (U.size = 12) := Lib.hid (by rw [← hU]; exact ordV_size _ _)
  have HUO : Hid (U.all (·.oneCell') = true) := Lib.hid (by rw [← hU]; exact ordV_one _ _)
  have HU := Lib.hid hU
  rw [hU]
  have c1' := (BT.new w1 0 0 zF).alloc (.cells Z 59)
  have c2' := BX.new (w1.alloc (.cells (tabV 0 0 zF) 56)) 59 Z
  rw [World.size_alloc] at c2'
  have c0' := (HB.out.alloc hs1 (.cells (tabV 0 0 zF) 56)).alloc (by simp; omega) (.cells Z 59)
  obtain ⟨W1, hW1⟩ : ∃ W, (w1.alloc (.cells (tabV 0 0 zF) 56)).alloc (.cells Z 59) = W := ⟨_, rfl⟩
  rw [hW1] at c0' c1' c2'
  have d1 : BT (W1.setRow w1.heap.size (tabV n m f)) w1.heap.size n m f := c1'.put
  have d2 := c2'.apart (B' := w1.heap.size) (by omega) (tabV n m f)
  have d0 := below_setRow c0' (show w.heap.size ≤ w1.heap.size by omega) (tabV n m f)
  have e1 := d1.block (setRow_other _ (w1.heap.size + 1) w1.heap.size U (by omega))
  have e2 := d2.put U
  have e0 := below_setRow d0 (show w.heap.size ≤ w1.heap.size + 1 by omega) U
  obtain ⟨W2, hW2⟩ : ∃ W, (W1.setRow w1.heap.size (tabV n m f)).setRow (w1.heap.size + 1) U = W := ⟨_, rfl⟩
  rw [hW2] at e0 e1 e2
  have HE0 := Lib.hid e0
  have HFF := Lib.hid hf
  obtain ⟨p, hp⟩ : ∃ p, amountsB t a b = p := ⟨_, rfl⟩
  have HP := Lib.hid hp
  rw [hp] at HFF
  rw [hp]
  clear hb1 hZ hU c0' d1 d0 e0 hf hp
  have HW2 := Lib.hid hW2
  clear hW2
  cases p with
  | false =>
    have HM : Hid (loadM t a b = none) := by show _ = _; unfold loadM; rw [HP.out]; rfl
    go_wp2_with (first | (refine wpList_alT rfl rfl ?_) | (refine wpList_alX rfl rfl hzo ?_; rw [World.size_alloc]; rw [hW1]) | (refine wpList_alX rfl rfl hzo ?_; rw [hW1]) | (refine wpList_stT rfl _ _ rfl rfl rfl c1' ?_) | (refine wpList_stX rfl _ _ rfl rfl rfl d2 rowT_ord HZS.out HUS.out HUO.out ?_; rw [HW2.out]))
    go_ret2
    rw [HM.out]
    exact ⟨none, 0, rfl, Nat.le_refl _, IWW.nil' _ _ _ _ (Nat.le_refl _), HE0.out⟩
  | true =>
    obtain ⟨tt, ea, eb, fa, fb, es⟩ := amounts_true HP.out
    obtain ⟨en, em, -, eg, eh⟩ := HFF.out rfl
    obtain ⟨-, bn, bm, -⟩ := table_sh tt
    obtain ⟨upA, dA⟩ := am9_up fa
    obtain ⟨upB, dB⟩ := am9_up fb
    have HLD : Hid (∀ W, Calls Try.prog 41 #[.agg (tabV n m f), .agg U] W fun e w' => ∃ k, e = .returned (.agg (tabV n m k)) ∧ (∀ i j, i < n → j < m → k i j = loadF (sumTo a) (sumTo b) i j) ∧ Below W.heap.size W w') := Lib.hid fun W => by
      rw [← HU.out]
      refine load_any n m f (sumTo a) (sumTo b) (by omega) (by omega) upA upB rfl rfl dA dB g h (fun j _ => ?_) (fun j _ => ?_) W
      · rw [eg j]; unfold sumTo; rw [sumN]; omega
      · rw [eh j]; unfold sumTo; rw [sumN]; omega
    have HM : Hid (loadM t a b = some (loadL a b)) := by show _ = _; unfold loadM; rw [if_pos HP.out]
    have HL : Hid (∀ k : Nat → Nat → Int, (∀ i j, i < n → j < m → k i j = loadF (sumTo a) (sumTo b) i j) → tabL n m k = loadL a b ∧ ∀ i j, i < n → j < m → I64 (k i j)) := Lib.hid fun k hk => by
      refine ⟨?_, fun i j hi hj => ?_⟩
      · unfold loadL
        rw [ea, eb, ← en, ← em]
        exact tab_fn hk
      · have := loadF_bd upA upB i j
        have := dA i
        rw [hk i j hi hj]
        exact ⟨by omega, by omega⟩
    have hn1 : 1 ≤ n ∧ n ≤ 6 := by omega
    have hm1 : 1 ≤ m ∧ m ≤ 6 := by omega
    clear tt ea eb fa fb es en em eg eh bn bm upA dA upB dB
    go_wp2_with (first | (refine wpList_alT rfl rfl ?_) | (refine wpList_alX rfl rfl hzo ?_; rw [World.size_alloc]; rw [hW1]) | (refine wpList_alX rfl rfl hzo ?_; rw [hW1]) | (refine wpList_stT rfl _ _ rfl rfl rfl c1' ?_) | (refine wpList_stX rfl _ _ rfl rfl rfl d2 rowT_ord HZS.out HUS.out HUO.out ?_; rw [HW2.out]) | (refine wpList_ldT rfl _ rfl rfl e1 ?_) | (refine wpList_ldX rfl _ rfl rfl e2 rowT_ord HUS.out ?_))
    refine (HLD.out _).mono ?_
    rintro e w5 ⟨k, rfl, hk, hb5⟩
    obtain ⟨hl, hi⟩ := HL.out k hk
    have hse := HE0.out.size
    have HB5 := Lib.hid (HE0.out.trans (hb5.mono hse))
    have HLL := Lib.hid hl
    have HLI : Hid (∀ W, Calls Try.prog 42 #[.agg (tabV n m k)] W (RetT W (tabL n m k))) := Lib.hid fun W => lists_any n m k hn1 hm1 hi W
    clear hb5 hk hl hi hse HLD c1' d2 hzo e1 e2
    go_wp2_with fail
    refine (HLI.out _).mono ?_
    rintro e w6 ⟨A6, c6, rfl, hc6, hi6, hb6⟩
    have hs5 := HB5.out.size
    have HB6 := Lib.hid (HB5.out.trans (hb6.mono hs5))
    rw [HLL.out] at hc6 hi6
    rw [HLL.out]
    have HI6 := Lib.hid (hi6.wide hs5 (Nat.le_refl _) (Nat.le_refl _)); have HC6 := Lib.hid hc6
    clear hi6 hb6 hc6
    go_wp2
    go_ret2
    rw [HM.out]
    exact ⟨A6, c6, rfl, HC6.out, HI6.out, HB6.out⟩
end Go.Proofs.Ytlbimmhlijelfaa
