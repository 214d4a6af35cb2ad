/-
  The law FnMeetEven walked: for all codes it returns true, and nothing that lay before has turned. Conditions: none but those of its row.
-/
import Derived.Test.YtkghpmjbclnojabDrawEv
import Derived.Test.YtkghpmjbclnojabEvB
import Derived.Test.YtkghpmjbclnojabEvC
import Derived.Test.YtkghpmjbclnojabSame
namespace Go.Proofs.Ytkghpmjbclnojab
open Go.RowKit

set_option maxRecDepth 100000 in
theorem wpT_skipE {P : Program} {Q : Exit → Act → World → Prop} {o : Oper} {a : Act} {w w' : World} {K : Act → World → Prop} (hr : (execOp a.eval o).run P w = .ok .skip w') (h : K (a.put o.dst undef) w') : WpT P o a w K Q := by
  refine ⟨?_⟩
  unfold Oper.wp
  rw [hr]
  exact h
set_option maxHeartbeats 400000 in
theorem l7Sum_some (A : Option Addr) (n c lo hi : Nat) (zs : List Int) (w : World) (h : IR w lo hi A zs) (hn : n = zs.length) :
    Calls Try.prog 57 #[.slice A n c] w fun e w' => ∃ s, e = .returned (.int .i64 s) ∧ w' = w := by
  subst hn
  have hl := h.1
  go_enter Try.func57, Try.ntmps57
  go_wp2
  go_loop [3, 4] (fun s i => ∃ (k : Nat) (S : Int), k ≤ zs.length ∧ i = .int .i64 k ∧ s = .int .i64 S) (fun _ i => zs.length - (intOf i).toNat)
  case atStart => exact ⟨0, 0, Nat.zero_le _, rfl, rfl⟩
  case round =>
    obtain ⟨k, S, hk, rfl, rfl⟩ := hrel
    by_cases hlt : k < zs.length
    · obtain ⟨b, off, rfl, _, _, hc⟩ := h.at_ hlt
      have hlt' : (k : Int) < (zs.length : Int) := by omega
      obtain ⟨T, hT⟩ : ∃ T, IntKind.i64.wrap (S + zs[k]) = T := ⟨_, rfl⟩
      go_wp2
      go_round
      case rel => exact ⟨k + 1, T, by omega, by go_num, rfl⟩
      case measure => simp [intOf]; omega
    · obtain rfl : k = zs.length := by omega
      go_wp2
      go_ret

      first | exact ⟨⟨S, rfl⟩, rfl⟩ | exact ⟨S, rfl, rfl⟩

set_option maxRecDepth 100000 in
set_option maxHeartbeats 4000000 in
theorem DrawEvenMeet_any (A : Option Addr) (c : Nat) (bs : List Int) (w : World) (h : BR w w.heap.size A bs) (hc : bs.length ≤ c) (hc2 : c ≤ 9000000000000000000) :
    Calls Try.prog 29 #[.slice A bs.length c] w (TwoPost w 9) := by
  have H := Lib.hid h
  clear h
  go_enter Try.func29, Try.ntmps29
  go_wp2_with fail
  refine (l6Open_any A c bs _ H.out hc hc2).mono ?_
  rintro e w1 ⟨rfl, hr, hb⟩
  have B0 := Lib.hid hb; have R0 := Lib.hid hr
  have hs := hb.size
  clear hb hr
  go_wp2_with fail
  refine (pick_any w.heap.size 0 _ _ R0.out (by omega) (by omega)).mono ?_
  rintro e w2 ⟨v0, rfl, v00, v01, -, hb, hsz, hr⟩
  have v02 := v01 (by omega)
  replace B0 := Lib.hid (B0.out.trans (hb.toBelow hs (Nat.le_refl _)))
  replace R0 := Lib.hid hr
  have hs2 := B0.out.size
  have hR2 : w.heap.size < w2.heap.size := R0.out.lt
  clear hb hsz hr hs v01
  obtain ⟨N, hN⟩ : ∃ N : Nat, 1 + v0 = (N : Int) := ⟨(1 + v0).toNat, by omega⟩
  have hN1 : 1 ≤ N := by omega
  have hN7 : N ≤ 7 := by omega
  have sN : IntKind.i64.wrap (1 + v0) = (N : Int) := by rw [hN]; exact IntWalk.i64_in _ (by omega)
  have sN2 : 1 + v0 = (N : Int) := hN
  go_wp2_with fail
  refine (l91Row_n w.heap.size _ N _ R0.out (by omega) (by omega) (by omega)).mono ?_
  rintro e w3 ⟨A2, c2, za, p2, rfl, hz, hi, hb, hr, hp2, hcap⟩
  have HZA := Lib.hid hz
  have HCA := Lib.hid hcap
  have I0 := Lib.hid hi
  replace B0 := Lib.hid (B0.out.trans (hb.toBelow hs2 (Nat.le_refl _)))
  replace R0 := Lib.hid hr
  have hs3 := B0.out.size
  have hR3 : w.heap.size < w3.heap.size := R0.out.lt
  clear hi hb hr hz hcap
  go_wp2_with fail
  refine (l91Row_n w.heap.size _ N _ R0.out (by omega) (by omega) (by omega)).mono ?_
  rintro e w4 ⟨A4, c4, zb, p4, rfl, hz, hi, hb, hr, hp4, hcap⟩
  have HZB := Lib.hid hz
  have HCB := Lib.hid hcap
  have J0 := Lib.hid hi
  have hs34 := hb.size
  replace I0 := Lib.hid (I0.out.but hb (by have := I0.out.2.2.1; omega) (.inl (by omega)))
  replace B0 := Lib.hid (B0.out.trans (hb.toBelow hs3 (Nat.le_refl _)))
  replace R0 := Lib.hid hr
  have hs4 := B0.out.size
  clear hi hb hr hz hcap sN sN2 hN
  obtain ⟨b0, o0, rfl, hlo, hhi, hcs⟩ := J0.out.2.2.2 (by rw [HZB.out]; exact hN1)
  have h0l : 0 < zb.length := by rw [HZB.out]; exact hN1
  have HC0 : Hid (Cells w4 b0 o0 zb) := hcs
  have hca : w4.cell? ⟨b0, o0, none⟩ = some (.int .i64 zb[0]) := (hcs 0 h0l).1
  obtain ⟨x, hx⟩ : ∃ x, zb[0] = x := ⟨_, rfl⟩
  rw [hx] at hca
  have hN0 : (0 : Int) < (N : Int) := by omega
  have hNz : ¬ N = 0 := by omega
  have hR4 : w.heap.size < w4.heap.size := R0.out.lt
  clear hcs hx
  go_wp2
  refine wp_region_held_drew (S := fun _ => True) (by kernel_rfl) trivial (fun _ => ?_)
  refine planH_take 0 (v := .slice (some ⟨b0, o0, none⟩) N c4) rfl (by kernel_rfl) (by kernel_rfl) (by kernel_rfl) (fun _ _ _ h => h) rfl (fun W' hW => by kernel_rfl) trivial ?_
  refine planH_take 1 (v := .slice (some ⟨b0, o0, none⟩) N c4) rfl (by kernel_rfl) (by kernel_rfl) (by kernel_rfl) (fun _ _ _ h => h) rfl (fun W' hW => by kernel_rfl) trivial ?_
  refine planH_take 2 (v := .pointer (some ⟨b0, o0, none⟩)) rfl (by kernel_rfl) (by kernel_rfl) (by kernel_rfl) (fun _ _ _ h => h) rfl (fun W' hW => by go_simp) trivial ?_
  refine planH_take 4 (v := .slice A2 N c2) rfl (by kernel_rfl) (by kernel_rfl) (by kernel_rfl) (fun _ _ _ h => h) rfl (fun W' hW => by kernel_rfl) trivial ?_
  refine planH_take 7 (v := .slice (some ⟨b0, o0, none⟩) N c4) rfl (by kernel_rfl) (by kernel_rfl) (by kernel_rfl) (fun _ _ _ h => h) rfl (fun W' hW => by kernel_rfl) trivial ?_
  refine planH_take 10 (v := .pointer (some ⟨w.heap.size, 0, none⟩)) rfl (by kernel_rfl) (by kernel_rfl) (by kernel_rfl) (fun _ _ _ h => h) rfl (fun W' hW => by kernel_rfl) trivial ?_
  refine planH_pair 3 5 rfl rfl (by kernel_rfl) (by kernel_rfl) (by kernel_rfl) ?a1 ?b1
  case a1 =>
    refine wpT_value (v := .int .i64 x) (w' := w4.drew) (by have h1 : (w4.drew).cell? ⟨b0, o0, none⟩ = some (.int .i64 x) := hca; go_simp) ⟨trivial, ?_⟩
    refine planH_one 5 rfl (by kernel_rfl) (by kernel_rfl) ?_
    refine wpT_callE (args := #[.slice A2 N c2]) rfl Try.call57 (by kernel_rfl) ?_
    refine (l7Sum_some A2 N c2 _ _ za w4.drew (I0.out.toIR.drewN 1) HZA.out.symm).mono ?_
    rintro e w5 ⟨s1, rfl, rfl⟩
    obtain ⟨t1, ht1⟩ : ∃ t1, IntKind.i64.wrap (x + s1) = t1 := ⟨_, rfl⟩
    refine ⟨_, rfl, trivial, ?_⟩
    refine planH_take 6 (v := .int .i64 t1) rfl (by kernel_rfl) (by kernel_rfl) (by kernel_rfl) (fun _ _ _ h => h) rfl (fun W' hW => by go_simp) trivial ?_
    refine planH_one 8 rfl (by kernel_rfl) (by kernel_rfl) ?_
    refine wpT_callE (args := #[.slice (some ⟨b0, o0, none⟩) N c4]) rfl Try.call57 (by kernel_rfl) ?_
    refine (l7Sum_some (some ⟨b0, o0, none⟩) N c4 _ _ zb w4.drew (J0.out.toIR.drewN 1) HZB.out.symm).mono ?_
    rintro e w6 ⟨s2, rfl, rfl⟩
    obtain ⟨t2, ht2⟩ : ∃ t2, IntKind.i64.wrap (t1 - s2) = t2 := ⟨_, rfl⟩
    refine ⟨_, rfl, trivial, ?_⟩
    refine planH_take 9 (v := .int .i64 t2) rfl (by kernel_rfl) (by kernel_rfl) (by kernel_rfl) (fun _ _ _ h => h) rfl (fun W' hW => by go_simp) trivial ?_
    refine planH_one 11 rfl (by kernel_rfl) (by kernel_rfl) ?_
    refine wpT_callE (args := #[.pointer (some ⟨w.heap.size, 0, none⟩), .int .i64 24]) rfl Try.call50 (by kernel_rfl) ?_
    refine (pick_any w.heap.size p4 24 w4.drew (R0.out.drewN 1) (by omega) (by omega)).mono ?_
    rintro e w7 ⟨u3, rfl, u30, u31, -, hb7, hs7, hr7⟩
    have u32 := u31 (by omega)
    have hvs : w4.drew.heap.size = w4.heap.size := rfl
    have h7s := hb7.size
    have hS7 : w7.cell? ⟨b0, o0, none⟩ = some (.int .i64 x) := (World.cell?_of_block (hb7.block b0 (by omega) (by omega))).trans hca
    have hd1 : IntKind.i64.wrap (u3.tdiv 23) = u3 / 23 := by rw [Int.tdiv_eq_ediv_of_nonneg u30, IntWalk.i64_in _ (by omega)]
    obtain ⟨t3, ht3⟩ : ∃ t3, IntKind.i64.wrap (t2 + u3 / 23) = t3 := ⟨_, rfl⟩
    have HT3 := Lib.hid (show I64 t3 by rw [← ht3]; exact i64_wrapE _)
    have HI7 := Lib.hid (IW.but (w := w4.drew) (w' := w7) (C := w4.heap.size) (R := w.heap.size) (I0.out.drewN 1) hb7 (by omega) (.inl (by omega)))
    have HJ7 := Lib.hid (IW.but (w := w4.drew) (w' := w7) (C := w4.heap.size) (R := w.heap.size) (J0.out.drewN 1) hb7 (Nat.le_refl _) (.inl (by omega)))
    have HB7 := Lib.hid ((below_drawN B0.out 1).trans (hb7.toBelow (B := w.heap.size) (by omega) (Nat.le_refl _)))
    obtain ⟨b1, o1, eq1, hlo1, hhi1, hcs1⟩ := HJ7.out.2.2.2 h0l
    obtain ⟨rfl, rfl⟩ : b0 = b1 ∧ o0 = o1 := by injection eq1 with e; injection e with e1 e2; exact ⟨e1, e2⟩
    have hfr : w7.frozen? ⟨b0, o0, none⟩ = false := (hcs1 0 h0l).2
    have HC7 : Hid (Cells w7 b0 o0 zb) := hcs1
    refine ⟨_, rfl, trivial, ?_⟩
    clear hb7 hr7 hs7 hcs1 eq1
    refine planH_take 12 (v := .int .i64 (u3 / 23)) rfl (by kernel_rfl) (by kernel_rfl) (by kernel_rfl) (fun _ _ _ h => h) rfl (fun W' hW => by go_simp) trivial ?_
    refine planH_take 13 (v := .int .i64 t3) rfl (by kernel_rfl) (by kernel_rfl) (by kernel_rfl) (fun _ _ _ h => h) rfl (fun W' hW => by go_simp) trivial ?_
    refine planH_take 14 (v := .pointer (some ⟨b0, o0, none⟩)) rfl (by kernel_rfl) (by kernel_rfl) (by kernel_rfl) (fun _ _ _ h => h) rfl (fun W' hW => by go_simp) trivial ?_
    refine planH_one 15 rfl (by kernel_rfl) (by kernel_rfl) ?_
    refine wpT_skipE (w' := w7.setCell ⟨b0, o0, none⟩ (.int .i64 t3)) (by go_simp) ⟨trivial, ?_⟩
    have HC8 := Lib.hid (HC7.out.set_ 0 h0l t3)
    rw [Nat.add_zero] at HC8
    have hsz8 : (w7.setCell ⟨b0, o0, none⟩ (.int .i64 t3)).heap.size = w7.heap.size := by simp [World.setCell]
    have HI8 := Lib.hid (HI7.out.but (R := w.heap.size) (But.of ((Below.refl w3.heap.size w7).setCell (p := ⟨b0, o0, none⟩) hlo (.int .i64 t3))) (Nat.le_refl _) (.inl (by omega)))
    have HJ8 := Lib.hid (HC8.out.iw (n := N) (lo := w3.heap.size) (hi := (w7.setCell ⟨b0, o0, none⟩ (.int .i64 t3)).heap.size) (by rw [List.length_set]; exact HZB.out) hlo (by omega) (Nat.le_refl _) (by omega) (setI64E J0.out.2.1 HT3.out))
    have HB8 : Hid (Below w.heap.size w (w7.setCell ⟨b0, o0, none⟩ (.int .i64 t3))) := HB7.out.setCell (p := ⟨b0, o0, none⟩) (show w.heap.size ≤ b0 by omega) _
    have HL8 : Hid ((zb.set 0 t3).length = N) := by show _ = _; rw [List.length_set]; exact HZB.out
    refine wpAnyH_done (by kernel_rfl) ?_ _
    generalize w7.setCell ⟨b0, o0, none⟩ (.int .i64 t3) = w8 at HC8 hsz8 HI8 HJ8 HB8 ⊢
    clear HC7 HC8 HI7 HJ7 HB7 hfr hS7 hca
    go_simp
    go_wp2
    go_ret2
    exact twoPost_of HZA.out HL8.out (by omega) (by omega) HI8.out HJ8.out (by omega) (by omega) HB8.out rfl rfl HCA.out HCB.out
  case b1 =>
    refine wpT_callE (args := #[.slice A2 N c2]) rfl Try.call57 (by kernel_rfl) ?_
    refine (l7Sum_some A2 N c2 _ _ za w4.drew (I0.out.toIR.drewN 1) HZA.out.symm).mono ?_
    rintro e w5 ⟨s1, rfl, rfl⟩
    obtain ⟨t1, ht1⟩ : ∃ t1, IntKind.i64.wrap (x + s1) = t1 := ⟨_, rfl⟩
    refine ⟨_, rfl, trivial, ?_⟩
    refine planH_pair 3 8 rfl rfl (by kernel_rfl) (by kernel_rfl) (by kernel_rfl) ?a2 ?b2
    case a2 =>
      refine wpT_value (v := .int .i64 x) (w' := w4.drew) (by have h1 : (w4.drew).cell? ⟨b0, o0, none⟩ = some (.int .i64 x) := hca; go_simp) ⟨trivial, ?_⟩
      refine planH_take 6 (v := .int .i64 t1) rfl (by kernel_rfl) (by kernel_rfl) (by kernel_rfl) (fun _ _ _ h => h) rfl (fun W' hW => by go_simp) trivial ?_
      refine planH_one 8 rfl (by kernel_rfl) (by kernel_rfl) ?_
      refine wpT_callE (args := #[.slice (some ⟨b0, o0, none⟩) N c4]) rfl Try.call57 (by kernel_rfl) ?_
      refine (l7Sum_some (some ⟨b0, o0, none⟩) N c4 _ _ zb w4.drew (J0.out.toIR.drewN 1) HZB.out.symm).mono ?_
      rintro e w6 ⟨s2, rfl, rfl⟩
      obtain ⟨t2, ht2⟩ : ∃ t2, IntKind.i64.wrap (t1 - s2) = t2 := ⟨_, rfl⟩
      refine ⟨_, rfl, trivial, ?_⟩
      refine planH_take 9 (v := .int .i64 t2) rfl (by kernel_rfl) (by kernel_rfl) (by kernel_rfl) (fun _ _ _ h => h) rfl (fun W' hW => by go_simp) trivial ?_
      refine planH_one 11 rfl (by kernel_rfl) (by kernel_rfl) ?_
      refine wpT_callE (args := #[.pointer (some ⟨w.heap.size, 0, none⟩), .int .i64 24]) rfl Try.call50 (by kernel_rfl) ?_
      refine (pick_any w.heap.size p4 24 w4.drew (R0.out.drewN 1) (by omega) (by omega)).mono ?_
      rintro e w7 ⟨u3, rfl, u30, u31, -, hb7, hs7, hr7⟩
      have u32 := u31 (by omega)
      have hvs : w4.drew.heap.size = w4.heap.size := rfl
      have h7s := hb7.size
      have hS7 : w7.cell? ⟨b0, o0, none⟩ = some (.int .i64 x) := (World.cell?_of_block (hb7.block b0 (by omega) (by omega))).trans hca
      have hd1 : IntKind.i64.wrap (u3.tdiv 23) = u3 / 23 := by rw [Int.tdiv_eq_ediv_of_nonneg u30, IntWalk.i64_in _ (by omega)]
      obtain ⟨t3, ht3⟩ : ∃ t3, IntKind.i64.wrap (t2 + u3 / 23) = t3 := ⟨_, rfl⟩
      have HT3 := Lib.hid (show I64 t3 by rw [← ht3]; exact i64_wrapE _)
      have HI7 := Lib.hid (IW.but (w := w4.drew) (w' := w7) (C := w4.heap.size) (R := w.heap.size) (I0.out.drewN 1) hb7 (by omega) (.inl (by omega)))
      have HJ7 := Lib.hid (IW.but (w := w4.drew) (w' := w7) (C := w4.heap.size) (R := w.heap.size) (J0.out.drewN 1) hb7 (Nat.le_refl _) (.inl (by omega)))
      have HB7 := Lib.hid ((below_drawN B0.out 1).trans (hb7.toBelow (B := w.heap.size) (by omega) (Nat.le_refl _)))
      obtain ⟨b1, o1, eq1, hlo1, hhi1, hcs1⟩ := HJ7.out.2.2.2 h0l
      obtain ⟨rfl, rfl⟩ : b0 = b1 ∧ o0 = o1 := by injection eq1 with e; injection e with e1 e2; exact ⟨e1, e2⟩
      have hfr : w7.frozen? ⟨b0, o0, none⟩ = false := (hcs1 0 h0l).2
      have HC7 : Hid (Cells w7 b0 o0 zb) := hcs1
      refine ⟨_, rfl, trivial, ?_⟩
      clear hb7 hr7 hs7 hcs1 eq1
      refine planH_take 12 (v := .int .i64 (u3 / 23)) rfl (by kernel_rfl) (by kernel_rfl) (by kernel_rfl) (fun _ _ _ h => h) rfl (fun W' hW => by go_simp) trivial ?_
      refine planH_take 13 (v := .int .i64 t3) rfl (by kernel_rfl) (by kernel_rfl) (by kernel_rfl) (fun _ _ _ h => h) rfl (fun W' hW => by go_simp) trivial ?_
      refine planH_take 14 (v := .pointer (some ⟨b0, o0, none⟩)) rfl (by kernel_rfl) (by kernel_rfl) (by kernel_rfl) (fun _ _ _ h => h) rfl (fun W' hW => by go_simp) trivial ?_
      refine planH_one 15 rfl (by kernel_rfl) (by kernel_rfl) ?_
      refine wpT_skipE (w' := w7.setCell ⟨b0, o0, none⟩ (.int .i64 t3)) (by go_simp) ⟨trivial, ?_⟩
      have HC8 := Lib.hid (HC7.out.set_ 0 h0l t3)
      rw [Nat.add_zero] at HC8
      have hsz8 : (w7.setCell ⟨b0, o0, none⟩ (.int .i64 t3)).heap.size = w7.heap.size := by simp [World.setCell]
      have HI8 := Lib.hid (HI7.out.but (R := w.heap.size) (But.of ((Below.refl w3.heap.size w7).setCell (p := ⟨b0, o0, none⟩) hlo (.int .i64 t3))) (Nat.le_refl _) (.inl (by omega)))
      have HJ8 := Lib.hid (HC8.out.iw (n := N) (lo := w3.heap.size) (hi := (w7.setCell ⟨b0, o0, none⟩ (.int .i64 t3)).heap.size) (by rw [List.length_set]; exact HZB.out) hlo (by omega) (Nat.le_refl _) (by omega) (setI64E J0.out.2.1 HT3.out))
      have HB8 : Hid (Below w.heap.size w (w7.setCell ⟨b0, o0, none⟩ (.int .i64 t3))) := HB7.out.setCell (p := ⟨b0, o0, none⟩) (show w.heap.size ≤ b0 by omega) _
      have HL8 : Hid ((zb.set 0 t3).length = N) := by show _ = _; rw [List.length_set]; exact HZB.out
      refine wpAnyH_done (by kernel_rfl) ?_ _
      generalize w7.setCell ⟨b0, o0, none⟩ (.int .i64 t3) = w8 at HC8 hsz8 HI8 HJ8 HB8 ⊢
      clear HC7 HC8 HI7 HJ7 HB7 hfr hS7 hca
      go_simp
      go_wp2
      go_ret2
      exact twoPost_of HZA.out HL8.out (by omega) (by omega) HI8.out HJ8.out (by omega) (by omega) HB8.out rfl rfl HCA.out HCB.out
    case b2 =>
      refine wpT_callE (args := #[.slice (some ⟨b0, o0, none⟩) N c4]) rfl Try.call57 (by kernel_rfl) ?_
      refine (l7Sum_some (some ⟨b0, o0, none⟩) N c4 _ _ zb w4.drew (J0.out.toIR.drewN 1) HZB.out.symm).mono ?_
      rintro e w6 ⟨s2, rfl, rfl⟩
      obtain ⟨t2, ht2⟩ : ∃ t2, IntKind.i64.wrap (t1 - s2) = t2 := ⟨_, rfl⟩
      refine ⟨_, rfl, trivial, ?_⟩
      refine planH_pair 3 11 rfl rfl (by kernel_rfl) (by kernel_rfl) (by kernel_rfl) ?a3 ?b3
      case a3 =>
        refine wpT_value (v := .int .i64 x) (w' := w4.drew) (by have h1 : (w4.drew).cell? ⟨b0, o0, none⟩ = some (.int .i64 x) := hca; go_simp) ⟨trivial, ?_⟩
        refine planH_take 6 (v := .int .i64 t1) rfl (by kernel_rfl) (by kernel_rfl) (by kernel_rfl) (fun _ _ _ h => h) rfl (fun W' hW => by go_simp) trivial ?_
        refine planH_take 9 (v := .int .i64 t2) rfl (by kernel_rfl) (by kernel_rfl) (by kernel_rfl) (fun _ _ _ h => h) rfl (fun W' hW => by go_simp) trivial ?_
        refine planH_one 11 rfl (by kernel_rfl) (by kernel_rfl) ?_
        refine wpT_callE (args := #[.pointer (some ⟨w.heap.size, 0, none⟩), .int .i64 24]) rfl Try.call50 (by kernel_rfl) ?_
        refine (pick_any w.heap.size p4 24 w4.drew (R0.out.drewN 1) (by omega) (by omega)).mono ?_
        rintro e w7 ⟨u3, rfl, u30, u31, -, hb7, hs7, hr7⟩
        have u32 := u31 (by omega)
        have hvs : w4.drew.heap.size = w4.heap.size := rfl
        have h7s := hb7.size
        have hS7 : w7.cell? ⟨b0, o0, none⟩ = some (.int .i64 x) := (World.cell?_of_block (hb7.block b0 (by omega) (by omega))).trans hca
        have hd1 : IntKind.i64.wrap (u3.tdiv 23) = u3 / 23 := by rw [Int.tdiv_eq_ediv_of_nonneg u30, IntWalk.i64_in _ (by omega)]
        obtain ⟨t3, ht3⟩ : ∃ t3, IntKind.i64.wrap (t2 + u3 / 23) = t3 := ⟨_, rfl⟩
        have HT3 := Lib.hid (show I64 t3 by rw [← ht3]; exact i64_wrapE _)
        have HI7 := Lib.hid (IW.but (w := w4.drew) (w' := w7) (C := w4.heap.size) (R := w.heap.size) (I0.out.drewN 1) hb7 (by omega) (.inl (by omega)))
        have HJ7 := Lib.hid (IW.but (w := w4.drew) (w' := w7) (C := w4.heap.size) (R := w.heap.size) (J0.out.drewN 1) hb7 (Nat.le_refl _) (.inl (by omega)))
        have HB7 := Lib.hid ((below_drawN B0.out 1).trans (hb7.toBelow (B := w.heap.size) (by omega) (Nat.le_refl _)))
        obtain ⟨b1, o1, eq1, hlo1, hhi1, hcs1⟩ := HJ7.out.2.2.2 h0l
        obtain ⟨rfl, rfl⟩ : b0 = b1 ∧ o0 = o1 := by injection eq1 with e; injection e with e1 e2; exact ⟨e1, e2⟩
        have hfr : w7.frozen? ⟨b0, o0, none⟩ = false := (hcs1 0 h0l).2
        have HC7 : Hid (Cells w7 b0 o0 zb) := hcs1
        refine ⟨_, rfl, trivial, ?_⟩
        clear hb7 hr7 hs7 hcs1 eq1
        refine planH_take 12 (v := .int .i64 (u3 / 23)) rfl (by kernel_rfl) (by kernel_rfl) (by kernel_rfl) (fun _ _ _ h => h) rfl (fun W' hW => by go_simp) trivial ?_
        refine planH_take 13 (v := .int .i64 t3) rfl (by kernel_rfl) (by kernel_rfl) (by kernel_rfl) (fun _ _ _ h => h) rfl (fun W' hW => by go_simp) trivial ?_
        refine planH_take 14 (v := .pointer (some ⟨b0, o0, none⟩)) rfl (by kernel_rfl) (by kernel_rfl) (by kernel_rfl) (fun _ _ _ h => h) rfl (fun W' hW => by go_simp) trivial ?_
        refine planH_one 15 rfl (by kernel_rfl) (by kernel_rfl) ?_
        refine wpT_skipE (w' := w7.setCell ⟨b0, o0, none⟩ (.int .i64 t3)) (by go_simp) ⟨trivial, ?_⟩
        have HC8 := Lib.hid (HC7.out.set_ 0 h0l t3)
        rw [Nat.add_zero] at HC8
        have hsz8 : (w7.setCell ⟨b0, o0, none⟩ (.int .i64 t3)).heap.size = w7.heap.size := by simp [World.setCell]
        have HI8 := Lib.hid (HI7.out.but (R := w.heap.size) (But.of ((Below.refl w3.heap.size w7).setCell (p := ⟨b0, o0, none⟩) hlo (.int .i64 t3))) (Nat.le_refl _) (.inl (by omega)))
        have HJ8 := Lib.hid (HC8.out.iw (n := N) (lo := w3.heap.size) (hi := (w7.setCell ⟨b0, o0, none⟩ (.int .i64 t3)).heap.size) (by rw [List.length_set]; exact HZB.out) hlo (by omega) (Nat.le_refl _) (by omega) (setI64E J0.out.2.1 HT3.out))
        have HB8 : Hid (Below w.heap.size w (w7.setCell ⟨b0, o0, none⟩ (.int .i64 t3))) := HB7.out.setCell (p := ⟨b0, o0, none⟩) (show w.heap.size ≤ b0 by omega) _
        have HL8 : Hid ((zb.set 0 t3).length = N) := by show _ = _; rw [List.length_set]; exact HZB.out
        refine wpAnyH_done (by kernel_rfl) ?_ _
        generalize w7.setCell ⟨b0, o0, none⟩ (.int .i64 t3) = w8 at HC8 hsz8 HI8 HJ8 HB8 ⊢
        clear HC7 HC8 HI7 HJ7 HB7 hfr hS7 hca
        go_simp
        go_wp2
        go_ret2
        exact twoPost_of HZA.out HL8.out (by omega) (by omega) HI8.out HJ8.out (by omega) (by omega) HB8.out rfl rfl HCA.out HCB.out
      case b3 =>
        refine wpT_callE (args := #[.pointer (some ⟨w.heap.size, 0, none⟩), .int .i64 24]) rfl Try.call50 (by kernel_rfl) ?_
        refine (pick_any w.heap.size p4 24 w4.drew (R0.out.drewN 1) (by omega) (by omega)).mono ?_
        rintro e w7 ⟨u3, rfl, u30, u31, -, hb7, hs7, hr7⟩
        have u32 := u31 (by omega)
        have hvs : w4.drew.heap.size = w4.heap.size := rfl
        have h7s := hb7.size
        have hS7 : w7.cell? ⟨b0, o0, none⟩ = some (.int .i64 x) := (World.cell?_of_block (hb7.block b0 (by omega) (by omega))).trans hca
        have hd1 : IntKind.i64.wrap (u3.tdiv 23) = u3 / 23 := by rw [Int.tdiv_eq_ediv_of_nonneg u30, IntWalk.i64_in _ (by omega)]
        obtain ⟨t3, ht3⟩ : ∃ t3, IntKind.i64.wrap (t2 + u3 / 23) = t3 := ⟨_, rfl⟩
        have HT3 := Lib.hid (show I64 t3 by rw [← ht3]; exact i64_wrapE _)
        have HI7 := Lib.hid (IW.but (w := w4.drew) (w' := w7) (C := w4.heap.size) (R := w.heap.size) (I0.out.drewN 1) hb7 (by omega) (.inl (by omega)))
        have HJ7 := Lib.hid (IW.but (w := w4.drew) (w' := w7) (C := w4.heap.size) (R := w.heap.size) (J0.out.drewN 1) hb7 (Nat.le_refl _) (.inl (by omega)))
        have HB7 := Lib.hid ((below_drawN B0.out 1).trans (hb7.toBelow (B := w.heap.size) (by omega) (Nat.le_refl _)))
        obtain ⟨b1, o1, eq1, hlo1, hhi1, hcs1⟩ := HJ7.out.2.2.2 h0l
        obtain ⟨rfl, rfl⟩ : b0 = b1 ∧ o0 = o1 := by injection eq1 with e; injection e with e1 e2; exact ⟨e1, e2⟩
        have hfr : w7.frozen? ⟨b0, o0, none⟩ = false := (hcs1 0 h0l).2
        have HC7 : Hid (Cells w7 b0 o0 zb) := hcs1
        refine ⟨_, rfl, trivial, ?_⟩
        clear hb7 hr7 hs7 hcs1 eq1
        refine planH_take 12 (v := .int .i64 (u3 / 23)) rfl (by kernel_rfl) (by kernel_rfl) (by kernel_rfl) (fun _ _ _ h => h) rfl (fun W' hW => by go_simp) trivial ?_
        refine planH_one 3 rfl (by kernel_rfl) (by kernel_rfl) ?_
        refine wpT_value (v := .int .i64 x) (w' := w7) (by have h1 : (w7).cell? ⟨b0, o0, none⟩ = some (.int .i64 x) := hS7; go_simp) ⟨trivial, ?_⟩
        refine planH_take 6 (v := .int .i64 t1) rfl (by kernel_rfl) (by kernel_rfl) (by kernel_rfl) (fun _ _ _ h => h) rfl (fun W' hW => by go_simp) trivial ?_
        refine planH_take 9 (v := .int .i64 t2) rfl (by kernel_rfl) (by kernel_rfl) (by kernel_rfl) (fun _ _ _ h => h) rfl (fun W' hW => by go_simp) trivial ?_
        refine planH_take 13 (v := .int .i64 t3) rfl (by kernel_rfl) (by kernel_rfl) (by kernel_rfl) (fun _ _ _ h => h) rfl (fun W' hW => by go_simp) trivial ?_
        refine planH_take 14 (v := .pointer (some ⟨b0, o0, none⟩)) rfl (by kernel_rfl) (by kernel_rfl) (by kernel_rfl) (fun _ _ _ h => h) rfl (fun W' hW => by go_simp) trivial ?_
        refine planH_one 15 rfl (by kernel_rfl) (by kernel_rfl) ?_
        refine wpT_skipE (w' := w7.setCell ⟨b0, o0, none⟩ (.int .i64 t3)) (by go_simp) ⟨trivial, ?_⟩
        have HC8 := Lib.hid (HC7.out.set_ 0 h0l t3)
        rw [Nat.add_zero] at HC8
        have hsz8 : (w7.setCell ⟨b0, o0, none⟩ (.int .i64 t3)).heap.size = w7.heap.size := by simp [World.setCell]
        have HI8 := Lib.hid (HI7.out.but (R := w.heap.size) (But.of ((Below.refl w3.heap.size w7).setCell (p := ⟨b0, o0, none⟩) hlo (.int .i64 t3))) (Nat.le_refl _) (.inl (by omega)))
        have HJ8 := Lib.hid (HC8.out.iw (n := N) (lo := w3.heap.size) (hi := (w7.setCell ⟨b0, o0, none⟩ (.int .i64 t3)).heap.size) (by rw [List.length_set]; exact HZB.out) hlo (by omega) (Nat.le_refl _) (by omega) (setI64E J0.out.2.1 HT3.out))
        have HB8 : Hid (Below w.heap.size w (w7.setCell ⟨b0, o0, none⟩ (.int .i64 t3))) := HB7.out.setCell (p := ⟨b0, o0, none⟩) (show w.heap.size ≤ b0 by omega) _
        have HL8 : Hid ((zb.set 0 t3).length = N) := by show _ = _; rw [List.length_set]; exact HZB.out
        refine wpAnyH_done (by kernel_rfl) ?_ _
        generalize w7.setCell ⟨b0, o0, none⟩ (.int .i64 t3) = w8 at HC8 hsz8 HI8 HJ8 HB8 ⊢
        clear HC7 HC8 HI7 HJ7 HB7 hfr hS7 hca
        go_simp
        go_wp2
        go_ret2
        exact twoPost_of HZA.out HL8.out (by omega) (by omega) HI8.out HJ8.out (by omega) (by omega) HB8.out rfl rfl HCA.out HCB.out

theorem meet_rowB {a b out : List Int} (h : meetM a b = some out) : rowB out = true := by
  exact (evenIs_true.1 (meet_law h).2.2.1).1

set_option maxHeartbeats 1500000 in
set_option maxRecDepth 100000 in
theorem lawFnMeetEven_any (A0 : Option Addr) (c0 : Nat) (bs : List Int) (w : World) (h0 : BR w w.heap.size A0 bs) (hc : bs.length ≤ c0) (hc2 : c0 ≤ 9000000000000000000) :
    Calls Try.prog 8 #[.slice A0 bs.length c0] w fun e w' => e = .returned (.bool true) ∧ Below w.heap.size w w' := by
  by_cases hbig : (1048576 : Int) < (bs.length : Int)
  · clear h0
    go_enter Try.func8, Try.ntmps8
    go_wp2
    go_ret
    exact ⟨rfl, Below.refl _ _⟩
  have H0 := Lib.hid h0
  clear h0
  have BB := Lib.hid (Below.refl w.heap.size w)
  go_enter Try.func8, Try.ntmps8
  go_wp2_with fail
  refine (DrawEvenMeet_any _ _ bs _ H0.out hc hc2).mono ?_
  rintro e w1 ⟨A, c, za, B, d, zb, rfl, hza, hzb, iwa, iwb, bb⟩
  replace BB := Lib.hid (below_then BB.out (Nat.le_refl _) bb)
  have ZA := Lib.hid iwa.toAll
  have ZB := Lib.hid iwb.toAll
  clear bb
  clear iwa iwb hza hzb
  go_wp2_with fail
  refine (implEvenMeet_any _ _ za _ _ zb _ ZA.out.toAll ZB.out.toAll).mono ?_
  rintro e w2 ⟨A2, c2, rfl, iw, bb⟩
  replace BB := Lib.hid (below_then BB.out (Nat.le_refl _) bb)
  replace ZA := Lib.hid (ZA.out.grow bb)
  replace ZB := Lib.hid (ZB.out.grow bb)
  have G := Lib.hid iw.toAll
  clear bb
  clear iw
  go_wp2_with fail
  refine (specEvenMeet_any _ _ za _ _ zb _ ZA.out.toAll ZB.out.toAll).mono ?_
  rintro e w3 ⟨A3, c3, rfl, iw, bb⟩
  replace BB := Lib.hid (below_then BB.out (Nat.le_refl _) bb)
  replace ZA := Lib.hid (ZA.out.grow bb)
  replace ZB := Lib.hid (ZB.out.grow bb)
  replace G := Lib.hid (G.out.grow bb)
  have V := Lib.hid iw.toAll
  clear bb
  clear iw
  obtain ⟨o, hm⟩ : ∃ o, meetM za zb = o := ⟨_, rfl⟩
  rw [hm] at G V
  rw [hm]
  cases o with
  | none =>
    clear hm
    replace G : Hid (IR w3 _ _ A2 []) := G
    replace V : Hid (IR w3 _ _ A3 []) := V
    go_wp2_with fail
    refine (sameInts_b _ _ _ _ _ _ _ _ _ _ [] _ G.out V.out rfl rfl).mono ?_
    rintro e w4 ⟨rfl, bb⟩
    replace BB := Lib.hid (below_then BB.out (Nat.le_refl _) bb)
    replace G := Lib.hid (G.out.grow bb)
    replace V := Lib.hid (V.out.grow bb)
    clear bb
    go_wp2_with fail
    refine (sameInts_b _ _ _ _ _ _ _ _ _ _ [] _ G.out V.out rfl rfl).mono ?_
    rintro e w5 ⟨rfl, bb⟩
    replace BB := Lib.hid (below_then BB.out (Nat.le_refl _) bb)
    replace G := Lib.hid (G.out.grow bb)
    replace V := Lib.hid (V.out.grow bb)
    clear bb
    go_wp2
    go_ret
    exact ⟨rfl, BB.out⟩
  | some out =>
    have e1 : (some out).getD [] = out := rfl
    rw [e1]
    replace G : Hid (IR w3 _ _ A2 out) := G
    replace V : Hid (IR w3 _ _ A3 out) := V
    have HM := Lib.hid hm
    clear hm e1
    go_wp2_with fail
    refine (sameInts_b _ _ _ _ _ _ _ _ _ _ out _ G.out V.out rfl rfl).mono ?_
    rintro e w4 ⟨rfl, bb⟩
    replace BB := Lib.hid (below_then BB.out (Nat.le_refl _) bb)
    replace ZA := Lib.hid (ZA.out.grow bb)
    replace ZB := Lib.hid (ZB.out.grow bb)
    replace G := Lib.hid (G.out.grow bb)
    replace V := Lib.hid (V.out.grow bb)
    clear bb
    clear V
    have FM := Lib.hid (meet_law HM.out).1
    have HF := Lib.hid (meet_law HM.out).2.1
    have HE1 := Lib.hid (meet_law HM.out).2.2.1
    have HE2 := Lib.hid (meet_law HM.out).2.2.2
    have hl12 := (rowB_true.1 (meet_rowB HM.out)).2
    clear HM
    go_wp2_with fail
    refine (implEvenMeet_any _ _ zb _ _ za _ ZB.out.toAll ZA.out.toAll).mono ?_
    rintro e w5 ⟨A5, c5, rfl, iw, bb⟩
    replace BB := Lib.hid (below_then BB.out (Nat.le_refl _) bb)
    replace ZA := Lib.hid (ZA.out.grow bb)
    replace ZB := Lib.hid (ZB.out.grow bb)
    replace G := Lib.hid (G.out.grow bb)
    have X := Lib.hid iw.toAll
    clear bb
    clear iw
    rw [FM.out] at X
    rw [FM.out]
    have e1 : (some out).getD [] = out := rfl
    rw [e1]
    replace X : Hid (IR w5 _ _ A5 out) := X
    clear e1
    go_wp2
    go_loopw [11] (fun x wr => ∃ j : Nat, 1 ≤ j ∧ j ≤ out.length ∧ x = .int .i64 (j : Int) ∧ Below w5.heap.size w5 wr) (fun x _ => out.length - (intOf x).toNat)
    case atStart => exact ⟨1, Nat.le_refl _, by omega, rfl, Below.refl _ _⟩
    case round =>
      obtain ⟨j, hj1, hjl, rfl, hbl⟩ := hrel
      have HBL := Lib.hid hbl
      clear hbl
      by_cases hlt : j < out.length
      · have hlt' : (j : Int) < (out.length : Int) := by omega
        obtain ⟨k, hk⟩ : ∃ k : Nat, j = k + 1 := ⟨j - 1, by omega⟩
        have hkl : k < out.length := by omega
        obtain ⟨b, off, eqa, _, _, hc1⟩ := (G.out.grow HBL.out).at_ hlt
        obtain ⟨b', off', eqb, _, _, hc2⟩ := (G.out.grow HBL.out).at_ hkl
        subst eqa
        obtain ⟨rfl, rfl⟩ : b = b' ∧ off = off' := by injection eqb with e; injection e with e1 e2; exact ⟨e1, e2⟩
        have hle := HF.out k (by omega)
        rw [← hk, getD_in hlt, getD_in hkl] at hle
        obtain ⟨x, hx⟩ : ∃ x, out[j] = x := ⟨_, rfl⟩
        obtain ⟨y, hy⟩ : ∃ y, out[k] = y := ⟨_, rfl⟩
        rw [hx] at hc1 hle
        rw [hy] at hc2 hle
        have hjk : (j : Int) - 1 = (k : Int) := by omega
        have sK : IntKind.i64.wrap (k : Int) = (k : Int) := IntWalk.i64_in _ (by omega)
        have k0 : (0 : Int) ≤ (k : Int) := by omega
        have j0 : (0 : Int) ≤ (j : Int) := by omega
        have kl : (k : Int) < (out.length : Int) := by omega
        have hng : ¬ (y < x) := by omega
        have hd : decide (y < x) = false := decide_eq_false hng
        have HK := Lib.hid hk
        clear hx hy eqb hk
        go_wp2
        go_quiet (fail)
        go_wp2
        go_roundw
        case rel => exact ⟨j + 1, by omega, by omega, by go_num, below_drawN HBL.out _⟩
        case measure => simp [intOf]; omega
      · obtain rfl : j = out.length := by omega
        have hlt' : ¬ (out.length : Int) < (out.length : Int) := by omega
        replace BB := Lib.hid (below_then BB.out (Nat.le_refl _) HBL.out)
        have HX1 := Lib.hid (X.out.grow HBL.out)
        have HG1 := Lib.hid (G.out.grow HBL.out)
        have HA1 := Lib.hid (ZA.out.grow HBL.out)
        have HB1 := Lib.hid (ZB.out.grow HBL.out)
        clear X G ZA ZB HBL
        go_wp2_with fail
        refine (sameInts_b _ _ _ _ _ _ _ _ _ _ out _ HX1.out HG1.out rfl rfl).mono ?_
        rintro e w5 ⟨rfl, bb⟩
        replace BB := Lib.hid (below_then BB.out (Nat.le_refl _) bb)
        have HG2 := Lib.hid (HG1.out.grow bb)
        have HA2 := Lib.hid (HA1.out.grow bb)
        have HB2 := Lib.hid (HB1.out.grow bb)
        clear bb
        go_wp2_with fail
        refine (implEvenIs_any _ _ out _ _ za _ HG2.out.toAll HA2.out.toAll).mono ?_
        rintro e w6 ⟨rfl, bb⟩
        rw [HE1.out]
        replace BB := Lib.hid (below_then BB.out (Nat.le_refl _) bb)
        have HG3 := Lib.hid (HG2.out.grow bb)
        have HB3 := Lib.hid (HB2.out.grow bb)
        clear bb
        go_wp2_with fail
        refine (implEvenIs_any _ _ out _ _ zb _ HG3.out.toAll HB3.out.toAll).mono ?_
        rintro e w7 ⟨rfl, bb⟩
        rw [HE2.out]
        replace BB := Lib.hid (below_then BB.out (Nat.le_refl _) bb)
        clear bb
        go_wp2
        go_ret
        exact ⟨rfl, BB.out⟩
end Go.Proofs.Ytkghpmjbclnojab
