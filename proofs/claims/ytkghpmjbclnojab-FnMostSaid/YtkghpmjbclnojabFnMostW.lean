/-
  The law FnMost walked: for all codes it returns true, and nothing that lay before has turned. Conditions: none but those of its row.
-/
import Derived.Test.YtkghpmjbclnojabDrawOne
import Derived.Test.YtkghpmjbclnojabEvD
import Derived.Test.YtkghpmjbclnojabSame
namespace Go.Proofs.Ytkghpmjbclnojab
open Go.RowKit

section
variable {P : Program} {Q : Exit → Act → World → Prop}
set_option maxRecDepth 100000 in
theorem wpT_enter {o : Oper} {a : Act} {w w' : World} {K : Act → World → Prop} {f : FuncId} {args : Array Value} (hr : (execOp a.eval o).run P w = .ok (.enter f args) w')
    (h : Calls P f args w' fun e w'' => ∃ v, e = .returned v ∧ K (a.put o.dst v) w'') : WpT P o a w K Q := by
  refine ⟨?_⟩
  unfold Oper.wp
  rw [hr]
  exact h.mono fun e w' ⟨v, he, hK⟩ => by subst he; exact hK
set_option maxRecDepth 100000 in
theorem wpT_callF {o : Oper} {a : Act} {w : World} {K : Act → World → Prop} {f : FuncId} {ags : Array Operand} {ts : Array TypeId} {args : Array Value} (ho : o.op = .call { callee := .value (.func f), args := ags, argTypes := ts }) (hen : ∀ args w, (callFunc f args).run P w = .ok (.enter f args) w) (ha : ags.map a.eval = args)
    (h : Calls P f args w fun e w' => ∃ v, e = .returned v ∧ K (a.put o.dst v) w') : WpT P o a w K Q := by
  refine wpT_enter (f := f) (args := args) ?_ h
  unfold execOp
  simp [ho, go_sem, ha, hen]
end
set_option maxHeartbeats 1000000 in
theorem DrawEvenMost_any (A : Option Addr) (c : Nat) (bs : List Int) (w : World) (h : BR w w.heap.size A bs) (hc : bs.length ≤ c) (hc2 : c ≤ 9000000000000000000) :
    Calls Try.prog 21 #[.slice A bs.length c] w (OnePost w 10) := by
  have H := Lib.hid h
  clear h
  go_enter Try.func21, Try.ntmps21
  go_wp2_with fail
  refine (l91One_any A c bs _ H.out hc hc2).mono ?_
  rintro e w1 ⟨A1, c1, zs, rfl, hz, hi, hb⟩
  have I0 := Lib.hid hi; have B0 := Lib.hid hb; have HZ := Lib.hid hz
  clear hi hb hz
  go_wp2
  go_ret
  exact ⟨A1, c1, zs, rfl, HZ.out, I0.out, B0.out⟩

theorem most_law {zs out : List Int} (h : mostM zs = some out) : mostM out = some out ∧ evenIsB out zs = true ∧ rowB out = true ∧ out.getD 0 0 - out.getD (out.length - 1) 0 ≤ 1 := by
  unfold mostM at h
  by_cases hr : rowB zs = true
  · rw [if_pos hr] at h
    obtain rfl := Option.some.inj h
    have h0 := row_pos hr
    have hrm := most_row hr
    refine ⟨?_, evenIs_true.2 ⟨hrm, hr, most_ev h0⟩, hrm, ?_⟩
    · unfold mostM
      rw [if_pos hrm, most_most h0]
    · rw [most_len]
      exact most_ends h0
  · rw [if_neg hr] at h
    exact absurd h (by simp)

set_option maxHeartbeats 1500000 in
set_option maxRecDepth 100000 in
theorem lawFnMost_any (A0 : Option Addr) (c0 : Nat) (bs : List Int) (w : World) (h0 : BR w w.heap.size A0 bs) (hc : bs.length ≤ c0) (hc2 : c0 ≤ 9000000000000000000) :
    Calls Try.prog 5 #[.slice A0 bs.length c0] w fun e w' => e = .returned (.bool true) ∧ Below w.heap.size w w' := by
  by_cases hbig : (1048576 : Int) < (bs.length : Int)
  · clear h0
    go_enter Try.func5, Try.ntmps5
    go_wp2
    go_ret
    exact ⟨rfl, Below.refl _ _⟩
  have H0 := Lib.hid h0
  clear h0
  have BB := Lib.hid (Below.refl w.heap.size w)
  go_enter Try.func5, Try.ntmps5
  go_wp2_with fail
  refine (DrawEvenMost_any _ _ bs _ H0.out hc hc2).mono ?_
  rintro e w1 ⟨A, c, zs, rfl, hz, iw, bb⟩
  replace BB := Lib.hid (below_then BB.out (Nat.le_refl _) bb)
  have Z := Lib.hid iw.toAll
  clear bb
  clear iw hz
  go_wp2_with fail
  refine (implEvenMost_any _ _ zs _ Z.out.toAll).mono ?_
  rintro e w2 ⟨A2, c2, rfl, iw, bb⟩
  replace BB := Lib.hid (below_then BB.out (Nat.le_refl _) bb)
  replace Z := Lib.hid (Z.out.grow bb)
  have G := Lib.hid iw.toAll
  clear bb
  clear iw
  go_wp2_with fail
  refine (specEvenMost_any _ _ zs _ Z.out.toAll).mono ?_
  rintro e w3 ⟨A3, c3, rfl, iw, bb⟩
  replace BB := Lib.hid (below_then BB.out (Nat.le_refl _) bb)
  replace Z := Lib.hid (Z.out.grow bb)
  replace G := Lib.hid (G.out.grow bb)
  have V := Lib.hid iw.toAll
  clear bb
  clear iw
  obtain ⟨o, hm⟩ : ∃ o, mostM zs = o := ⟨_, rfl⟩
  rw [hm] at G V
  rw [hm]
  cases o with
  | none =>
    clear hm
    replace G : Hid (IR w3 _ _ A2 []) := G
    replace V : Hid (IR w3 _ _ A3 []) := V
    go_wp2_with fail
    refine (sameInts_b _ _ _ _ _ _ _ _ _ _ [] _ G.out V.out rfl rfl).mono ?_
    rintro e w4 ⟨rfl, bb⟩
    replace BB := Lib.hid (below_then BB.out (Nat.le_refl _) bb)
    replace G := Lib.hid (G.out.grow bb)
    replace V := Lib.hid (V.out.grow bb)
    clear bb
    go_wp2_with fail
    refine (sameInts_b _ _ _ _ _ _ _ _ _ _ [] _ G.out V.out rfl rfl).mono ?_
    rintro e w5 ⟨rfl, bb⟩
    replace BB := Lib.hid (below_then BB.out (Nat.le_refl _) bb)
    replace G := Lib.hid (G.out.grow bb)
    replace V := Lib.hid (V.out.grow bb)
    clear bb
    go_wp2
    go_ret
    exact ⟨rfl, BB.out⟩
  | some out =>
    have e1 : (some out).getD [] = out := rfl
    rw [e1]
    replace G : Hid (IR w3 _ _ A2 out) := G
    replace V : Hid (IR w3 _ _ A3 out) := V
    have HM := Lib.hid hm
    clear hm e1
    go_wp2_with fail
    refine (sameInts_b _ _ _ _ _ _ _ _ _ _ out _ G.out V.out rfl rfl).mono ?_
    rintro e w4 ⟨rfl, bb⟩
    replace BB := Lib.hid (below_then BB.out (Nat.le_refl _) bb)
    replace Z := Lib.hid (Z.out.grow bb)
    replace G := Lib.hid (G.out.grow bb)
    replace V := Lib.hid (V.out.grow bb)
    clear bb
    clear V
    have FM := Lib.hid (most_law HM.out).1
    have HE := Lib.hid (most_law HM.out).2.1
    obtain ⟨hl12, hb2⟩ := And.intro (rowB_true.1 (most_law HM.out).2.2.1).2 (rowB_true.1 (most_law HM.out).2.2.1).1
    have hends := (most_law HM.out).2.2.2
    have HB2 := Lib.hid hb2
    clear HM hb2
    go_wp2_with fail
    refine (implEvenMost_any _ _ out _ G.out.toAll).mono ?_
    rintro e w5 ⟨A5, c5, rfl, iw, bb⟩
    replace BB := Lib.hid (below_then BB.out (Nat.le_refl _) bb)
    replace Z := Lib.hid (Z.out.grow bb)
    replace G := Lib.hid (G.out.grow bb)
    have X := Lib.hid iw.toAll
    clear bb
    clear iw
    rw [FM.out] at X
    rw [FM.out]
    have e1 : (some out).getD [] = out := rfl
    rw [e1]
    replace X : Hid (IR w5 _ _ A5 out) := X
    clear e1
    obtain ⟨j, hj⟩ : ∃ j : Nat, out.length = j + 1 := ⟨out.length - 1, by omega⟩
    have h0l : 0 < out.length := by omega
    have hjl : j < out.length := by omega
    obtain ⟨bo, oo, rfl, _, _, hc1⟩ := G.out.at_ h0l
    obtain ⟨b', o', eq', _, _, hc2⟩ := G.out.at_ hjl
    obtain ⟨rfl, rfl⟩ : bo = b' ∧ oo = o' := by injection eq' with e; injection e with e1 e2; exact ⟨e1, e2⟩
    clear eq'
    have HX1 := Lib.hid (HB2.out _ (List.getElem_mem h0l))
    have HX2 := Lib.hid (HB2.out _ (List.getElem_mem hjl))
    rw [getD_in h0l, getD_in (show out.length - 1 < out.length by omega)] at hends
    obtain ⟨x, hx⟩ : ∃ x, out[0] = x := ⟨_, rfl⟩
    obtain ⟨y, hy⟩ : ∃ y, out[j] = y := ⟨_, rfl⟩
    have hlast : out[out.length - 1]'(by omega) = y := by rw [← hy]; congr 1; omega
    rw [hx] at hc1 HX1 hends
    rw [hlast] at hends
    rw [hy] at hc2 HX2
    rw [Nat.add_zero] at hc1
    have hd : decide (x - y ≤ 1) = true := decide_eq_true hends
    have s18 : IntKind.i64.wrap ((out.length : Int) - 1) = (j : Int) := by rw [IntWalk.i64_in _ (by omega)]; omega
    have s21 : IntKind.i64.wrap (x - y) = x - y := IntWalk.i64_in _ (by have := HX1.out; have := HX2.out; omega)
    have hbw : bo < w5.heap.size := by have := G.out.2.2.1; omega
    have j0 : (0 : Int) ≤ (j : Int) := by omega
    have jln : (j : Int) < (out.length : Int) := by omega
    have l0 : (0 : Int) < (out.length : Int) := by omega
    have HXW : Hid (IR w5.drew 0 w5.drew.heap.size A5 out) := X.out.toAll
    have HGW : Hid (IR w5.drew 0 w5.drew.heap.size (some ⟨bo, oo, none⟩) out) := G.out.toAll
    clear hx hy hlast HX1 HX2 HB2 hl12 FM
    have HJ := Lib.hid hj
    clear hj
    obtain ⟨W, hW⟩ : ∃ W, w5 = W := ⟨_, rfl⟩
    rw [hW] at BB Z G X hbw hc1 hc2 HXW HGW
    rw [hW]
    clear hW
    go_wp2
    refine wp_region_held_drew (S := (fun W' => W'.cell? ⟨bo, oo, none⟩ = some (.int .i64 x) ∧ W'.cell? ⟨bo, oo + j, none⟩ = some (.int .i64 y))) (by kernel_rfl) ⟨hc1, hc2⟩ (fun hS => ?_)
    refine planH_take 0 (v := .bool true) rfl (by kernel_rfl) (by kernel_rfl) (by kernel_rfl) (fun _ _ _ h => h) rfl (fun W' hW => by kernel_rfl) hS ?_
    refine planH_take 1 (v := .bool true) rfl (by kernel_rfl) (by kernel_rfl) (by kernel_rfl) (fun _ _ _ h => h) rfl (fun W' hW => by kernel_rfl) hS ?_
    refine planH_takeW 2 (v := .slice A5 out.length c5) rfl (by kernel_rfl) (by kernel_rfl) (by kernel_rfl) (fun _ _ _ h => h) (by kernel_rfl) (fun W' hW => by kernel_rfl) hS ?_
    refine planH_takeW 3 (v := .slice (some ⟨bo, oo, none⟩) out.length c2) rfl (by kernel_rfl) (by kernel_rfl) (by kernel_rfl) (fun _ _ _ h => h) (by kernel_rfl) (fun W' hW => by kernel_rfl) hS ?_
    refine planH_one 4 rfl (by kernel_rfl) (by kernel_rfl) ?_
    refine wpT_callF (args := #[.slice A5 out.length c5, .slice (some ⟨bo, oo, none⟩) out.length c2]) rfl Try.call19 (by kernel_rfl) ?_
    refine (sameInts_b _ _ _ _ _ _ _ _ _ _ out _ HXW.out HGW.out rfl rfl).mono ?_
    rintro e w20 ⟨rfl, bb⟩
    have hb20 : Below W.heap.size W w20 := ⟨bb.os, bb.tape, bb.output, bb.size, bb.block⟩
    have HB20 := Lib.hid hb20
    have hS20 : w20.cell? ⟨bo, oo, none⟩ = some (.int .i64 x) ∧ w20.cell? ⟨bo, oo + j, none⟩ = some (.int .i64 y) := ⟨(hb20.cell (p := ⟨bo, oo, none⟩) hbw).trans hc1, (hb20.cell (p := ⟨bo, oo + j, none⟩) hbw).trans hc2⟩
    have HG20 := Lib.hid (G.out.grow HB20.out)
    have HZ20 := Lib.hid (Z.out.grow HB20.out)
    clear bb hb20
    refine ⟨_, rfl, hS20, ?_⟩
    refine planH_take 5 (v := .bool true) rfl (by kernel_rfl) (by kernel_rfl) (by kernel_rfl) (fun _ _ _ h => h) rfl (fun W' hW => by go_simp) hS20 ?_
    refine planH_take 6 (v := .bool true) rfl (by kernel_rfl) (by kernel_rfl) (by kernel_rfl) (fun _ _ _ h => h) rfl (fun W' hW => by kernel_rfl) hS20 ?_
    refine planH_takeW 7 (v := .slice (some ⟨bo, oo, none⟩) out.length c2) rfl (by kernel_rfl) (by kernel_rfl) (by kernel_rfl) (fun _ _ _ h => h) (by kernel_rfl) (fun W' hW => by kernel_rfl) hS20 ?_
    refine planH_takeW 8 (v := .slice A zs.length c) rfl (by kernel_rfl) (by kernel_rfl) (by kernel_rfl) (fun _ _ _ h => h) (by kernel_rfl) (fun W' hW => by kernel_rfl) hS20 ?_
    refine planH_one 9 rfl (by kernel_rfl) (by kernel_rfl) ?_
    refine wpT_callF (args := #[.slice (some ⟨bo, oo, none⟩) out.length c2, .slice A zs.length c]) rfl Try.call11 (by kernel_rfl) ?_
    refine (implEvenIs_any _ _ out _ _ zs _ HG20.out.toAll HZ20.out.toAll).mono ?_
    rintro e w21 ⟨rfl, bb⟩
    rw [HE.out]
    have hb21 : Below W.heap.size W w21 := below_then HB20.out (Nat.le_refl _) bb
    have HB21 := Lib.hid hb21
    have hS21 : w21.cell? ⟨bo, oo, none⟩ = some (.int .i64 x) ∧ w21.cell? ⟨bo, oo + j, none⟩ = some (.int .i64 y) := ⟨(hb21.cell (p := ⟨bo, oo, none⟩) hbw).trans hc1, (hb21.cell (p := ⟨bo, oo + j, none⟩) hbw).trans hc2⟩
    clear bb hb21
    refine ⟨_, rfl, hS21, ?_⟩
    refine planH_take 10 (v := .bool true) rfl (by kernel_rfl) (by kernel_rfl) (by kernel_rfl) (fun _ _ _ h => h) rfl (fun W' hW => by go_simp) hS21 ?_
    refine planH_take 11 (v := .bool true) rfl (by kernel_rfl) (by kernel_rfl) (by kernel_rfl) (fun _ _ _ h => h) rfl (fun W' hW => by kernel_rfl) hS21 ?_
    refine planH_takeW 12 (v := .slice (some ⟨bo, oo, none⟩) out.length c2) rfl (by kernel_rfl) (by kernel_rfl) (by kernel_rfl) (fun _ _ _ h => h) (by kernel_rfl) (fun W' hW => by kernel_rfl) hS21 ?_
    refine planH_takeW 13 (v := .pointer (some ⟨bo, oo, none⟩)) rfl (by kernel_rfl) (by kernel_rfl) (by kernel_rfl) (fun _ _ _ h => h) (by kernel_rfl) (fun W' hW => by go_simp) hS21 ?_
    refine planH_takeW 14 (v := .int .i64 x) rfl (by kernel_rfl) (by kernel_rfl) (by kernel_rfl) (fun _ _ _ h => h) (by kernel_rfl) (fun W' hW => by have h1 := hW.1; go_simp) hS21 ?_
    refine planH_takeW 15 (v := .slice (some ⟨bo, oo, none⟩) out.length c2) rfl (by kernel_rfl) (by kernel_rfl) (by kernel_rfl) (fun _ _ _ h => h) (by kernel_rfl) (fun W' hW => by kernel_rfl) hS21 ?_
    refine planH_takeW 16 (v := .slice (some ⟨bo, oo, none⟩) out.length c2) rfl (by kernel_rfl) (by kernel_rfl) (by kernel_rfl) (fun _ _ _ h => h) (by kernel_rfl) (fun W' hW => by kernel_rfl) hS21 ?_
    refine planH_takeW 17 (v := .int .i64 (out.length : Int)) rfl (by kernel_rfl) (by kernel_rfl) (by kernel_rfl) (fun _ _ _ h => h) (by kernel_rfl) (fun W' hW => by go_simp) hS21 ?_
    refine planH_takeW 18 (v := .int .i64 (j : Int)) rfl (by kernel_rfl) (by kernel_rfl) (by kernel_rfl) (fun _ _ _ h => h) (by kernel_rfl) (fun W' hW => by go_simp) hS21 ?_
    refine planH_takeW 19 (v := .pointer (some ⟨bo, oo + j, none⟩)) rfl (by kernel_rfl) (by kernel_rfl) (by kernel_rfl) (fun _ _ _ h => h) (by kernel_rfl) (fun W' hW => by go_simp) hS21 ?_
    refine planH_takeW 20 (v := .int .i64 y) rfl (by kernel_rfl) (by kernel_rfl) (by kernel_rfl) (fun _ _ _ h => h) (by kernel_rfl) (fun W' hW => by have h1 := hW.2; go_simp) hS21 ?_
    refine planH_takeW 21 (v := .int .i64 (x - y)) rfl (by kernel_rfl) (by kernel_rfl) (by kernel_rfl) (fun _ _ _ h => h) (by kernel_rfl) (fun W' hW => by go_simp) hS21 ?_
    refine planH_takeW 22 (v := .bool true) rfl (by kernel_rfl) (by kernel_rfl) (by kernel_rfl) (fun _ _ _ h => h) (by kernel_rfl) (fun W' hW => by go_simp) hS21 ?_
    refine planH_take 23 (v := .bool true) rfl (by kernel_rfl) (by kernel_rfl) (by kernel_rfl) (fun _ _ _ h => h) rfl (fun W' hW => by go_simp) hS21 ?_
    refine planH_take 24 (v := .bool true) rfl (by kernel_rfl) (by kernel_rfl) (by kernel_rfl) (fun _ _ _ h => h) rfl (fun W' hW => by kernel_rfl) hS21 ?_
    refine wpAnyH_done (by kernel_rfl) ?_ _
    clear hS20 hS21
    go_simp
    go_wp2
    go_ret
    exact ⟨rfl, BB.out.trans (HB21.out.mono BB.out.size)⟩
end Go.Proofs.Ytkghpmjbclnojab
