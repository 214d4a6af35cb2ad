/-
  The draw of two rows of which one is often more even (l92Even, DrawEvenIs). Conditions: the code's bytes are there.
-/
import Derived.Test.YtkghpmjbclnojaaDrawTwo
import Derived.Test.YtkghpmjbclnojaaEvA
import Derived.Test.YtkghpmjbclnojaaEvC
namespace Go.Proofs.Ytkghpmjbclnojaa
open Go.RowKit

theorem i64_wrapE (x : Int) : I64 (IntKind.i64.wrap x) := by
  rw [IntWalk.i64_left]
  have := wrap64_i64 x
  exact this
section
variable {P : Program} {Q : Exit → Act → World → Prop}
set_option maxRecDepth 100000 in
theorem wpT_enterE {o : Oper} {a : Act} {w w' : World} {K : Act → World → Prop} {f : FuncId} {args : Array Value} (hr : (execOp a.eval o).run P w = .ok (.enter f args) w')
    (h : Calls P f args w' fun e w'' => ∃ v, e = .returned v ∧ K (a.put o.dst v) w'') : WpT P o a w K Q := by
  refine ⟨?_⟩
  unfold Oper.wp
  rw [hr]
  exact h.mono fun e w' ⟨v, he, hK⟩ => by subst he; exact hK
set_option maxRecDepth 100000 in
theorem wpT_callE {o : Oper} {a : Act} {w : World} {K : Act → World → Prop} {f : FuncId} {ags : Array Operand} {ts : Array TypeId} {args : Array Value} (ho : o.op = .call { callee := .value (.func f), args := ags, argTypes := ts }) (hen : ∀ args w, (callFunc f args).run P w = .ok (.enter f args) w) (ha : ags.map a.eval = args)
    (h : Calls P f args w fun e w' => ∃ v, e = .returned v ∧ K (a.put o.dst v) w') : WpT P o a w K Q := by
  refine wpT_enterE (f := f) (args := args) ?_ h
  unfold execOp
  simp [ho, go_sem, ha, hen]
end

theorem setI64E {zs : List Int} {k : Nat} {x : Int} (hz : ∀ z, z ∈ zs → I64 z) (hx : I64 x) : ∀ z, z ∈ zs.set k x → I64 z := by
  intro z h
  rcases List.mem_or_eq_of_mem_set h with h | rfl
  · exact hz z h
  · exact hx

set_option maxRecDepth 100000 in
set_option maxHeartbeats 8000000 in
theorem l92Even_any (A : Option Addr) (c : Nat) (bs : List Int) (w : World) (h : BR w w.heap.size A bs) (hc : bs.length ≤ c) (hc2 : c ≤ 9000000000000000000) :
    Calls Try.prog 66 #[.slice A bs.length c] w (TwoPost w 9) := by
  have H := Lib.hid h
  clear h
  go_enter Try.func66, Try.ntmps66
  go_wp2_with fail
  refine (l6Open_any A c bs _ H.out hc hc2).mono ?_
  rintro e w1 ⟨rfl, hr, hb⟩
  have B0 := Lib.hid hb; have R0 := Lib.hid hr
  have hs := hb.size
  clear hb hr
  go_wp2_with fail
  refine (pick_any w.heap.size 0 _ _ R0.out (by omega) (by omega)).mono ?_
  rintro e w2 ⟨v0, rfl, v00, v01, -, hb, hsz, hr⟩
  have v02 := v01 (by omega)
  replace B0 := Lib.hid (B0.out.trans (hb.toBelow hs (Nat.le_refl _)))
  replace R0 := Lib.hid hr
  have hs2 := B0.out.size
  have hR2 : w.heap.size < w2.heap.size := R0.out.lt
  clear hb hsz hr hs v01
  obtain ⟨N, hN⟩ : ∃ N : Nat, 1 + v0 = (N : Int) := ⟨(1 + v0).toNat, by omega⟩
  have hN1 : 1 ≤ N := by omega
  have hN7 : N ≤ 7 := by omega
  have sN : IntKind.i64.wrap (1 + v0) = (N : Int) := by rw [hN]; exact IntWalk.i64_in _ (by omega)
  have sN2 : 1 + v0 = (N : Int) := hN
  go_wp2_with fail
  refine (l91Row_n w.heap.size _ N _ R0.out (by omega) (by omega) (by omega)).mono ?_
  rintro e w3 ⟨A2, c2, za, p2, rfl, hz, hi, hb, hr, hp2, hcap⟩
  have HZA := Lib.hid hz
  have HCA := Lib.hid hcap
  have I0 := Lib.hid hi
  replace B0 := Lib.hid (B0.out.trans (hb.toBelow hs2 (Nat.le_refl _)))
  replace R0 := Lib.hid hr
  have hs3 := B0.out.size
  clear hi hb hr hz hcap
  go_wp2_with fail
  refine (pick_any w.heap.size _ _ _ R0.out (by omega) (by omega)).mono ?_
  rintro e w4 ⟨v3, rfl, v30, v31, -, hb, hsz, hr⟩
  have v32 := v31 (by omega)
  replace I0 := Lib.hid (I0.out.but hb (by have := I0.out.2.2.1; omega) (.inl (by omega)))
  have hs34 := hb.size
  replace B0 := Lib.hid (B0.out.trans (hb.toBelow hs3 (Nat.le_refl _)))
  replace R0 := Lib.hid hr
  have hs4 := B0.out.size
  have hR4 : w.heap.size < w4.heap.size := R0.out.lt
  clear hb hsz hr v31
  obtain ⟨K, hK⟩ : ∃ K : Nat, v3 = (K : Int) := ⟨v3.toNat, by omega⟩
  subst hK
  obtain ⟨P, hP⟩ : ∃ P, p2 + 1 = P := ⟨_, rfl⟩
  rw [hP] at R0
  have hP9 : P ≤ 1000 := by omega
  clear hP
  have hK5 : K ≤ 4 := by omega
  have IA := Lib.hid (I0.out.wide (lo' := w.heap.size + 1) (hi' := w4.heap.size) (by omega) (by omega) (Nat.le_refl _))
  go_wp2
  clear sN sN2 hN
  go_loopw [7, 9] (fun v i wr => ∃ (k : Nat) (Aa : Option Addr) (ca : Nat) (a : List Int) (p' : Nat), k ≤ K ∧ i = .int .i64 k ∧ v = .slice Aa N ca ∧ a.length = N ∧ CapOk N ca ∧ IW wr (w.heap.size + 1) wr.heap.size Aa a ∧ But w4.heap.size w.heap.size w4 wr ∧ Rd wr w.heap.size p' ∧ p' ≤ P + 3 * k) (fun _ i _ => K - (intOf i).toNat)
  case atStart => exact ⟨0, A2, c2, za, P, Nat.zero_le _, rfl, rfl, HZA.out, HCA.out, IA.out, But.refl _ _ _, R0.out, by omega⟩
  case round =>
    clear IA
    obtain ⟨k, Aa, ca, a, p', hk, rfl, rfl, hal, hcap, hi, hb, hr, hp'⟩ := hrel
    have HI := Lib.hid hi; have HB := Lib.hid hb; have HR := Lib.hid hr; have HN := Lib.hid hal; have HCP := Lib.hid hcap
    have hsr := hb.size
    clear hi hb hr hal hcap
    by_cases hlt : k < K
    · have hlt' : (k : Int) < (K : Int) := by omega
      go_wp2_with fail
      refine (pick_any w.heap.size p' _ _ HR.out (by omega) (by omega)).mono ?_
      rintro e w5 ⟨u1, rfl, u10, u11, -, hb, hsz, hr⟩
      have u12 := u11 (by omega)
      replace HI := Lib.hid (HI.out.but hb (Nat.le_refl _) (.inl (by omega)))
      replace HB := Lib.hid (HB.out.then_ (Nat.le_refl _) hb)
      have h5r := hb.size
      replace HR := Lib.hid hr
      clear hb hsz hr u11
      go_wp2_with fail
      refine (pick_any w.heap.size (p' + 1) _ _ HR.out (by omega) (by omega)).mono ?_
      rintro e w6 ⟨u2, rfl, u20, u21, -, hb, hsz, hr⟩
      have u22 := u21 (by omega)
      replace HI := Lib.hid (HI.out.but hb (by omega) (.inl (by omega)))
      replace HB := Lib.hid (HB.out.then_ (Nat.le_refl _) hb)
      have h6r := hb.size
      replace HR := Lib.hid hr
      clear hb hsz hr u21
      obtain ⟨i, hi⟩ : ∃ i : Nat, u1 = (i : Int) := ⟨u1.toNat, by omega⟩
      obtain ⟨j, hj⟩ : ∃ j : Nat, u2 = (j : Int) := ⟨u2.toNat, by omega⟩
      subst hi; subst hj
      have hil : i < a.length := by rw [HN.out]; omega
      have hjl : j < a.length := by rw [HN.out]; omega
      obtain ⟨ba, oa, rfl, hba1, hba2, hcs⟩ := HI.out.2.2.2 (by omega)
      have hca := (hcs i hil).1
      have hcb := (hcs j hjl).1
      obtain ⟨x, hx⟩ : ∃ x, a[i] = x := ⟨_, rfl⟩
      obtain ⟨y, hy⟩ : ∃ y, a[j] = y := ⟨_, rfl⟩
      rw [hx] at hca
      rw [hy] at hcb
      obtain ⟨q, hq⟩ : ∃ q, IntKind.i64.wrap (y + 2) = q := ⟨_, rfl⟩
      have hi0 : (0 : Int) ≤ (i : Int) := by omega
      have hj0 : (0 : Int) ≤ (j : Int) := by omega
      have hiN : (i : Int) < (N : Int) := by omega
      have hjN : (j : Int) < (N : Int) := by omega
      have HX := Lib.hid hx; have HY := Lib.hid hy
      have HIL := Lib.hid hil; have HJL := Lib.hid hjl
      have HIA := Lib.hid (HI.out.toIR.grow ((Below.refl _ _).alloc (Nat.le_refl _) (.cells #[] 3)))
      clear hx hy hcs
      go_wp2_with (at_builtin; refine wpList_appendsI rfl _ _ rfl w6.heap.size _ [] a _ _ _ N ca HN.out.symm rfl rfl (OwnI.made w6) HIA.out (by have := HN.out; simp; omega) ?_; intro v1 W1 ho1 hb1; obtain ⟨A1, c1, rfl, hi1, hcap1⟩ := ho1.iwc (n := N) HN.out (by omega); have HI1 : Hid (IW W1 w6.heap.size W1.heap.size A1 a) := Lib.hid hi1; have HC1 := Lib.hid hcap1; have HBV := Lib.hid ((((Below.refl w6.heap.size w6).alloc (Nat.le_refl _) (.cells #[] 3)).trans hb1)); clear ho1 hb1 hi1 hcap1)
      have hca1 := (HBV.out.cell (p := ⟨ba, oa + i, none⟩) (show ba < w6.heap.size by omega)).trans hca
      have hcb1 := (HBV.out.cell (p := ⟨ba, oa + j, none⟩) (show ba < w6.heap.size by omega)).trans hcb
      have h1s := HBV.out.size
      have hR6 : w.heap.size < w6.heap.size := HR.out.lt
      have HB1 := Lib.hid (HB.out.then_ (Nat.le_refl _) (But.of (R := w.heap.size) HBV.out))
      have HR1 := Lib.hid (HR.out.below HBV.out hR6)
      clear hca hcb HIA
      have HC1c := HC1
      clear HC1
      go_wp2
      by_cases hqx : q ≤ x
      · have hqd : decide (q ≤ x) = true := decide_eq_true hqx
        refine wp_region_held_drew (S := (fun W' => W'.cell? ⟨ba, oa + i, none⟩ = some (.int .i64 x) ∧ W'.cell? ⟨ba, oa + j, none⟩ = some (.int .i64 y))) (by kernel_rfl) ⟨hca1, hcb1⟩ (fun hS => ?_)
        refine planH_take 0 (v := .slice (some ⟨ba, oa, none⟩) N ca) rfl (by kernel_rfl) (by kernel_rfl) (by kernel_rfl) (fun _ _ _ h => h) rfl (fun W' hW => by kernel_rfl) hS ?_
        refine planH_take 1 (v := .int .i64 (i : Int)) rfl (by kernel_rfl) (by kernel_rfl) (by kernel_rfl) (fun _ _ _ h => h) rfl (fun W' hW => by kernel_rfl) hS ?_
        refine planH_take 2 (v := .pointer (some ⟨ba, oa + i, none⟩)) rfl (by kernel_rfl) (by kernel_rfl) (by kernel_rfl) (fun _ _ _ h => h) rfl (fun W' hW => by go_simp) hS ?_
        refine planH_take 3 (v := .int .i64 x) rfl (by kernel_rfl) (by kernel_rfl) (by kernel_rfl) (fun _ _ _ h => h) rfl (fun W' hW => by have h1 := hW.1; go_simp) hS ?_
        refine planH_take 4 (v := .slice (some ⟨ba, oa, none⟩) N ca) rfl (by kernel_rfl) (by kernel_rfl) (by kernel_rfl) (fun _ _ _ h => h) rfl (fun W' hW => by kernel_rfl) hS ?_
        refine planH_take 5 (v := .int .i64 (j : Int)) rfl (by kernel_rfl) (by kernel_rfl) (by kernel_rfl) (fun _ _ _ h => h) rfl (fun W' hW => by kernel_rfl) hS ?_
        refine planH_take 6 (v := .pointer (some ⟨ba, oa + j, none⟩)) rfl (by kernel_rfl) (by kernel_rfl) (by kernel_rfl) (fun _ _ _ h => h) rfl (fun W' hW => by go_simp) hS ?_
        refine planH_take 7 (v := .int .i64 y) rfl (by kernel_rfl) (by kernel_rfl) (by kernel_rfl) (fun _ _ _ h => h) rfl (fun W' hW => by have h1 := hW.2; go_simp) hS ?_
        refine planH_take 8 (v := .int .i64 q) rfl (by kernel_rfl) (by kernel_rfl) (by kernel_rfl) (fun _ _ _ h => h) rfl (fun W' hW => by go_simp) hS ?_
        refine planH_take 9 (v := .bool true) rfl (by kernel_rfl) (by kernel_rfl) (by kernel_rfl) (fun _ _ _ h => h) rfl (fun W' hW => by go_simp) hS ?_
        refine planH_take 10 (v := .bool true) rfl (by kernel_rfl) (by kernel_rfl) (by kernel_rfl) (fun _ _ _ h => h) rfl (fun W' hW => by kernel_rfl) hS ?_
        refine planH_skip 11 rfl (by kernel_rfl) (by kernel_rfl) (by kernel_rfl) (fun _ _ _ h => h) (by kernel_rfl) hS ?_
        refine planH_skip 12 rfl (by kernel_rfl) (by kernel_rfl) (by kernel_rfl) (fun _ _ _ h => h) (by kernel_rfl) hS ?_
        refine planH_skip 13 rfl (by kernel_rfl) (by kernel_rfl) (by kernel_rfl) (fun _ _ _ h => h) (by kernel_rfl) hS ?_
        refine planH_take 14 (v := .bool true) rfl (by kernel_rfl) (by kernel_rfl) (by kernel_rfl) (fun _ _ _ h => h) rfl (fun W' hW => by go_simp) hS ?_
        refine wpAnyH_done (by kernel_rfl) ?_ _
        have HIV : Hid (IW W1.drew w6.heap.size W1.drew.heap.size A1 a) := HI1.out.drewN 1
        have HBV2 : Hid (But w4.heap.size w.heap.size w4 W1.drew) := HB1.out.trans (But.of (below_drawN (Below.refl _ _) 1))
        have HRV : Hid (Rd W1.drew w.heap.size (p' + 1 + 1)) := HR1.out.drewN 1
        have hvs : W1.drew.heap.size = W1.heap.size := rfl
        clear HI1 HB1 HR1 hS hca1 hcb1
        generalize W1.drew = V at HIV HBV2 HRV hvs ⊢
        go_simp
        obtain ⟨b1, o1, rfl, hlo, hhi, hcs⟩ := HIV.out.2.2.2 (by rw [HN.out]; exact hN1)
        have HC1 : Hid (Cells V b1 o1 a) := hcs
        obtain ⟨ci, fi⟩ := HC1.out i HIL.out
        rw [HX.out] at ci
        obtain ⟨x1, hx1⟩ : ∃ x1, IntKind.i64.wrap (x - 1) = x1 := ⟨_, rfl⟩
        have HX1 := Lib.hid (show I64 x1 by rw [← hx1]; exact i64_wrapE _)
        have HC2 := Lib.hid (HC1.out.set_ i HIL.out x1)
        have HJ2 := Lib.hid (show j < (a.set i x1).length by rw [List.length_set]; exact HJL.out)
        obtain ⟨ck, fk⟩ := HC2.out j HJ2.out
        obtain ⟨y1, hy1⟩ : ∃ y1, (a.set i x1)[j]'HJ2.out = y1 := ⟨_, rfl⟩
        rw [hy1] at ck
        obtain ⟨y2, hy2⟩ : ∃ y2, IntKind.i64.wrap (y1 + 1) = y2 := ⟨_, rfl⟩
        have HY2 := Lib.hid (show I64 y2 by rw [← hy2]; exact i64_wrapE _)
        have HC3 := Lib.hid (HC2.out.set_ j HJ2.out y2)
        have HZ3 := Lib.hid (setI64E (k := j) (setI64E (k := i) HIV.out.2.1 HX1.out) HY2.out)
        have HL3 : Hid (((a.set i x1).set j y2).length = N) := by show _ = _; rw [List.length_set, List.length_set]; exact HN.out
        have HB3 := Lib.hid ((HBV2.out.setOther (b := b1) (off := o1 + i) (by omega) (.int .i64 x1)).setOther (b := b1) (off := o1 + j) (by omega) (.int .i64 y2))
        have HR3 := Lib.hid (HRV.out.below (((Below.refl w6.heap.size V).setCell (p := ⟨b1, o1 + i, none⟩) hlo (.int .i64 x1)).setCell (p := ⟨b1, o1 + j, none⟩) hlo (.int .i64 y2)) (by omega))
        have HSZ : Hid (((V.setCell ⟨b1, o1 + i, none⟩ (.int .i64 x1)).setCell ⟨b1, o1 + j, none⟩ (.int .i64 y2)).heap.size = V.heap.size) := by show _ = _; simp [World.setCell]
        have HIW := Lib.hid (HC3.out.iw (n := N) (lo := w.heap.size + 1) (hi := ((V.setCell ⟨b1, o1 + i, none⟩ (.int .i64 x1)).setCell ⟨b1, o1 + j, none⟩ (.int .i64 y2)).heap.size) HL3.out (by omega) (by rw [HSZ.out]; exact hhi) (Nat.le_refl _) (by omega) HZ3.out)
        clear HC1 HC2 HC3 HBV2 HRV HZ3 hcs hy1
        go_wp2
        go_roundw
        case rel => exact ⟨k + 1, _, c1, (a.set i x1).set j y2, p' + 1 + 1, by omega, by go_num, rfl, HL3.out, HC1c.out, HIW.out, HB3.out, HR3.out, by omega⟩
        case measure => simp [intOf]; omega
      · have hqd : decide (q ≤ x) = false := decide_eq_false hqx
        refine wp_region_held_drew (S := (fun W' => W'.cell? ⟨ba, oa + i, none⟩ = some (.int .i64 x) ∧ W'.cell? ⟨ba, oa + j, none⟩ = some (.int .i64 y))) (by kernel_rfl) ⟨hca1, hcb1⟩ (fun hS => ?_)
        refine planH_take 0 (v := .slice (some ⟨ba, oa, none⟩) N ca) rfl (by kernel_rfl) (by kernel_rfl) (by kernel_rfl) (fun _ _ _ h => h) rfl (fun W' hW => by kernel_rfl) hS ?_
        refine planH_take 1 (v := .int .i64 (i : Int)) rfl (by kernel_rfl) (by kernel_rfl) (by kernel_rfl) (fun _ _ _ h => h) rfl (fun W' hW => by kernel_rfl) hS ?_
        refine planH_take 2 (v := .pointer (some ⟨ba, oa + i, none⟩)) rfl (by kernel_rfl) (by kernel_rfl) (by kernel_rfl) (fun _ _ _ h => h) rfl (fun W' hW => by go_simp) hS ?_
        refine planH_take 3 (v := .int .i64 x) rfl (by kernel_rfl) (by kernel_rfl) (by kernel_rfl) (fun _ _ _ h => h) rfl (fun W' hW => by have h1 := hW.1; go_simp) hS ?_
        refine planH_take 4 (v := .slice (some ⟨ba, oa, none⟩) N ca) rfl (by kernel_rfl) (by kernel_rfl) (by kernel_rfl) (fun _ _ _ h => h) rfl (fun W' hW => by kernel_rfl) hS ?_
        refine planH_take 5 (v := .int .i64 (j : Int)) rfl (by kernel_rfl) (by kernel_rfl) (by kernel_rfl) (fun _ _ _ h => h) rfl (fun W' hW => by kernel_rfl) hS ?_
        refine planH_take 6 (v := .pointer (some ⟨ba, oa + j, none⟩)) rfl (by kernel_rfl) (by kernel_rfl) (by kernel_rfl) (fun _ _ _ h => h) rfl (fun W' hW => by go_simp) hS ?_
        refine planH_take 7 (v := .int .i64 y) rfl (by kernel_rfl) (by kernel_rfl) (by kernel_rfl) (fun _ _ _ h => h) rfl (fun W' hW => by have h1 := hW.2; go_simp) hS ?_
        refine planH_take 8 (v := .int .i64 q) rfl (by kernel_rfl) (by kernel_rfl) (by kernel_rfl) (fun _ _ _ h => h) rfl (fun W' hW => by go_simp) hS ?_
        refine planH_take 9 (v := .bool false) rfl (by kernel_rfl) (by kernel_rfl) (by kernel_rfl) (fun _ _ _ h => h) rfl (fun W' hW => by go_simp) hS ?_
        refine planH_take 10 (v := .bool false) rfl (by kernel_rfl) (by kernel_rfl) (by kernel_rfl) (fun _ _ _ h => h) rfl (fun W' hW => by kernel_rfl) hS ?_
        refine planH_takeW 11 (v := .pointer (some ⟨w.heap.size, 0, none⟩)) rfl (by kernel_rfl) (by kernel_rfl) (by kernel_rfl) (fun _ _ _ h => h) (by kernel_rfl) (fun W' hW => by kernel_rfl) hS ?_
        refine planH_one 12 rfl (by kernel_rfl) (by kernel_rfl) ?_
        refine wpT_callE (args := #[.pointer (some ⟨w.heap.size, 0, none⟩), .int .i64 6]) rfl Try.call52 (by kernel_rfl) ?_
        refine (pick_any w.heap.size (p' + 1 + 1) 6 W1.drew (HR1.out.drewN 1) (by omega) (by omega)).mono ?_
        rintro e w7 ⟨u3, rfl, u30, u31, -, hb7, hs7, hr7⟩
        have hvs : W1.drew.heap.size = W1.heap.size := rfl
        have hS7 : w7.cell? ⟨ba, oa + i, none⟩ = some (.int .i64 x) ∧ w7.cell? ⟨ba, oa + j, none⟩ = some (.int .i64 y) := ⟨(World.cell?_of_block (hb7.block ba (by omega) (by omega))).trans hS.1, (World.cell?_of_block (hb7.block ba (by omega) (by omega))).trans hS.2⟩
        have h7s := hb7.size
        have HIV := Lib.hid (IW.but (w := W1.drew) (w' := w7) (lo := w6.heap.size) (hi := W1.heap.size) (C := W1.heap.size) (R := w.heap.size) (HI1.out.drewN 1) hb7 (Nat.le_refl _) (.inl (by omega)))
        replace HIV := Lib.hid (HIV.out.wide (Nat.le_refl _) (show W1.heap.size ≤ w7.heap.size by omega) (Nat.le_refl _))
        have HBV2 : Hid (But w4.heap.size w.heap.size w4 w7) := (HB1.out.trans (But.of (below_drawN (Below.refl _ _) 1))).trans (hb7.mono (by omega))
        have HRV := Lib.hid hr7
        refine ⟨_, rfl, hS7, ?_⟩
        clear HI1 HB1 HR1 hS hca1 hcb1 hb7 hr7 hs7
        by_cases h6 : u3 = 0
        · have h6b : (u3 == 0) = true := by simpa using h6
          refine planH_takeW 13 (v := .bool true) rfl (by kernel_rfl) (by kernel_rfl) (by kernel_rfl) (fun _ _ _ h => h) (by kernel_rfl) (fun W' hW => by go_simp) hS7 ?_
          refine planH_take 14 (v := .bool true) rfl (by kernel_rfl) (by kernel_rfl) (by kernel_rfl) (fun _ _ _ h => h) rfl (fun W' hW => by go_simp) hS7 ?_
          refine wpAnyH_done (by kernel_rfl) ?_ _
          clear hS7
          go_simp
          obtain ⟨b1, o1, rfl, hlo, hhi, hcs⟩ := HIV.out.2.2.2 (by rw [HN.out]; exact hN1)
          have HC1 : Hid (Cells w7 b1 o1 a) := hcs
          obtain ⟨ci, fi⟩ := HC1.out i HIL.out
          rw [HX.out] at ci
          obtain ⟨x1, hx1⟩ : ∃ x1, IntKind.i64.wrap (x - 1) = x1 := ⟨_, rfl⟩
          have HX1 := Lib.hid (show I64 x1 by rw [← hx1]; exact i64_wrapE _)
          have HC2 := Lib.hid (HC1.out.set_ i HIL.out x1)
          have HJ2 := Lib.hid (show j < (a.set i x1).length by rw [List.length_set]; exact HJL.out)
          obtain ⟨ck, fk⟩ := HC2.out j HJ2.out
          obtain ⟨y1, hy1⟩ : ∃ y1, (a.set i x1)[j]'HJ2.out = y1 := ⟨_, rfl⟩
          rw [hy1] at ck
          obtain ⟨y2, hy2⟩ : ∃ y2, IntKind.i64.wrap (y1 + 1) = y2 := ⟨_, rfl⟩
          have HY2 := Lib.hid (show I64 y2 by rw [← hy2]; exact i64_wrapE _)
          have HC3 := Lib.hid (HC2.out.set_ j HJ2.out y2)
          have HZ3 := Lib.hid (setI64E (k := j) (setI64E (k := i) HIV.out.2.1 HX1.out) HY2.out)
          have HL3 : Hid (((a.set i x1).set j y2).length = N) := by show _ = _; rw [List.length_set, List.length_set]; exact HN.out
          have HB3 := Lib.hid ((HBV2.out.setOther (b := b1) (off := o1 + i) (by omega) (.int .i64 x1)).setOther (b := b1) (off := o1 + j) (by omega) (.int .i64 y2))
          have HR3 := Lib.hid (HRV.out.below (((Below.refl w6.heap.size w7).setCell (p := ⟨b1, o1 + i, none⟩) hlo (.int .i64 x1)).setCell (p := ⟨b1, o1 + j, none⟩) hlo (.int .i64 y2)) (by omega))
          have HSZ : Hid (((w7.setCell ⟨b1, o1 + i, none⟩ (.int .i64 x1)).setCell ⟨b1, o1 + j, none⟩ (.int .i64 y2)).heap.size = w7.heap.size) := by show _ = _; simp [World.setCell]
          have HIW := Lib.hid (HC3.out.iw (n := N) (lo := w.heap.size + 1) (hi := ((w7.setCell ⟨b1, o1 + i, none⟩ (.int .i64 x1)).setCell ⟨b1, o1 + j, none⟩ (.int .i64 y2)).heap.size) HL3.out (by omega) (by rw [HSZ.out]; exact hhi) (Nat.le_refl _) (by omega) HZ3.out)
          clear HC1 HC2 HC3 HBV2 HRV HZ3 hcs hy1
          go_wp2
          go_roundw
          case rel => exact ⟨k + 1, _, c1, (a.set i x1).set j y2, p' + 1 + 1 + 1, by omega, by go_num, rfl, HL3.out, HC1c.out, HIW.out, HB3.out, HR3.out, by omega⟩
          case measure => simp [intOf]; omega
        · have h6b : (u3 == 0) = false := by simpa using h6
          refine planH_takeW 13 (v := .bool false) rfl (by kernel_rfl) (by kernel_rfl) (by kernel_rfl) (fun _ _ _ h => h) (by kernel_rfl) (fun W' hW => by go_simp) hS7 ?_
          refine planH_take 14 (v := .bool false) rfl (by kernel_rfl) (by kernel_rfl) (by kernel_rfl) (fun _ _ _ h => h) rfl (fun W' hW => by go_simp) hS7 ?_
          refine wpAnyH_done (by kernel_rfl) ?_ _
          clear hS7
          go_simp
          go_wp2
          go_roundw
          case rel => exact ⟨k + 1, A1, c1, a, p' + 1 + 1 + 1, by omega, by go_num, rfl, HN.out, HC1c.out, HIV.out.wide (by omega) (by have := HIV.out.2.2.1; omega) (Nat.le_refl _), HBV2.out, HRV.out, by omega⟩
          case measure => simp [intOf]; omega
    · obtain rfl : k = K := by omega
      clear hlt
      have IE := Lib.hid (I0.out.but HB.out (by omega) (.inl (by omega)))
      have BE := Lib.hid (B0.out.trans (HB.out.toBelow (by omega) (Nat.le_refl _)))
      have hse := BE.out.size
      have HRL : Hid (w.heap.size < wr.heap.size) := HR.out.lt
      clear I0 B0 R0
      go_wp2_with fail
      refine (pick_any w.heap.size p' _ _ HR.out (by omega) (by omega)).mono ?_
      rintro e w7 ⟨u9, rfl, u90, -, -, hb, hsz, hr⟩
      have hsz7 := hb.size
      replace IE := Lib.hid (IE.out.but hb (by omega) (.inl (by omega)))
      replace HI := Lib.hid (HI.out.but hb (Nat.le_refl _) (.inl (by omega)))
      replace BE := Lib.hid (BE.out.trans (hb.toBelow hse (Nat.le_refl _)))
      replace HR := Lib.hid hr
      have hse7 := BE.out.size
      clear hb hsz hr
      by_cases h90 : u9 = 0
      · subst h90
        go_wp2_with fail
        refine (l91Some_any w.heap.size _ 7 _ HR.out (by omega) (by omega)).mono ?_
        rintro e w8 ⟨A8, c8, z8, p8, rfl, hz8, hi, hb, hr, -, hcap⟩
        replace HI := Lib.hid (HI.out.but hb (by omega) (.inl (by omega)))
        have HI8 := Lib.hid hi
        have HC8 := Lib.hid hcap
        replace BE := Lib.hid (BE.out.trans (hb.toBelow hse7 (Nat.le_refl _)))
        clear hi hb hr hcap
        go_wp2
        go_ret2
        exact twoPost_of HN.out rfl (by omega) (by omega) HI.out HI8.out (by omega) (by omega) BE.out rfl rfl HCP.out HC8.out
      · have e0 : (u9 == 0) = false := by simpa using h90
        by_cases h91 : u9 = 1
        · subst h91
          go_wp2
          go_ret2
          exact twoPost_of HZA.out HN.out (by omega) (by omega) IE.out HI.out (by omega) (by omega) BE.out rfl rfl HCA.out HCP.out
        · have e1 : (u9 == 1) = false := by simpa using h91
          go_wp2
          go_ret2
          exact twoPost_of HN.out HZA.out (by omega) (by omega) HI.out IE.out (by omega) (by omega) BE.out rfl rfl HCP.out HCA.out

set_option maxHeartbeats 1000000 in
theorem DrawEvenIs_any (A : Option Addr) (c : Nat) (bs : List Int) (w : World) (h : BR w w.heap.size A bs) (hc : bs.length ≤ c) (hc2 : c ≤ 9000000000000000000) :
    Calls Try.prog 32 #[.slice A bs.length c] w (TwoPost w 9) := by
  have H := Lib.hid h
  clear h
  go_enter Try.func32, Try.ntmps32
  go_wp2_with fail
  refine (l92Even_any A c bs _ H.out hc hc2).mono ?_
  rintro e w1 ⟨A1, c1, zs, A2, c2, zs2, rfl, hz, hz2, hi, hi2, hb⟩
  have I0 := Lib.hid hi; have J0 := Lib.hid hi2; have B0 := Lib.hid hb
  clear hi hi2 hb
  go_wp2
  go_ret2
  exact ⟨A1, c1, zs, A2, c2, zs2, rfl, hz, hz2, I0.out, J0.out, B0.out⟩
end Go.Proofs.Ytkghpmjbclnojaa
