/-
  The program's functions that make a row entry by entry: RowSum, RowHigh, RowLow, RowTimes, RowTilt, RowBack. Conditions: the rows' cells are there.
-/
import Derived.Test.YtbelelfoabmebaaImp2
import Derived.Test.YtbelelfoabmebaaSp2
namespace Go.Proofs.Ytbelelfoabmebaa
open Go.RowKit


def joinM (a b : List Int) (J : Int → Int → Int) : Option (List Int) := if twoB a b then chgM a (fun x => J a[x] (b.getD x.1 0)) else none

set_option maxHeartbeats 2000000 in
theorem joined_any (A0 : Option Addr) (c0 : Nat) (zs0 : List Int) (A1 : Option Addr) (c1 : Nat) (zs1 : List Int) (jf : FuncId) (J : Int → Int → Int) (w : World) (h0 : IR w 0 w.heap.size A0 zs0) (h1 : IR w 0 w.heap.size A1 zs1) (hJ : JoinFn jf J)
    (hen : ∀ args w, (callFunc jf args).run Try.prog w = .ok (.enter jf args) w) (hg : twoB zs0 zs1 = true → ∀ x : Fin zs0.length, I64 (J zs0[x] (zs1.getD x.1 0))) :
    Calls Try.prog 62 #[.slice A0 zs0.length c0, .slice A1 zs1.length c1, .func (.func jf) #[] #[]] w (RetSB w (joinM zs0 zs1 J)) := by
  have hmf : ∀ (fn : Fn) (first cap : Array Value) (w : World), (Instr.makeFunc fn first cap).run Try.prog w = .ok (.func fn first cap) w := fun _ _ _ _ => rfl
  have hb2 : Below w.heap.size w ((w.alloc (.cells #[.slice A1 zs1.length c1] 45)).alloc (.cells #[.func (.func jf) #[] #[]] 54)) := ((Below.refl _ w).alloc (Nat.le_refl _) _).alloc (by simp) _
  have B2 := Lib.hid hb2; have H0 := Lib.hid (h0.grow hb2); have H1 := Lib.hid (h1.grow hb2)
  have HJ := Lib.hid hJ; have HE := Lib.hid hen; have HG := Lib.hid hg
  clear hb2 h0 h1 hJ hen hg
  cases ht : twoB zs0 zs1 with
  | false =>
    have HM : Hid (joinM zs0 zs1 J = none) := by show _ = _; simp [joinM, ht]
    have HT := Lib.hid ht; clear ht
    go_enter Try.func62, Try.ntmps62
    go_wp2_with fail
    refine (isAlike_any _ _ zs0 _ _ zs1 _ _ _ _ _ H0.out H1.out).mono ?_; rintro e w3 ⟨rfl, b3⟩
    rw [HT.out]
    have B3 := Lib.hid b3; clear b3
    go_wp2
    go_ret2
    rw [HM.out]
    exact retSB_none (below_then B2.out (Nat.le_refl _) B3.out)
  | true =>
    have HM : Hid (joinM zs0 zs1 J = chgM zs0 (fun x => J zs0[x] (zs1.getD x.1 0))) := by show _ = _; simp [joinM, ht]
    have HT := Lib.hid ht; clear ht
    have HGG := Lib.hid (HG.out HT.out)
    go_enter Try.func62, Try.ntmps62
    go_wp2_with fail
    refine (isAlike_any _ _ zs0 _ _ zs1 _ _ _ _ _ H0.out H1.out).mono ?_; rintro e w3 ⟨rfl, b3⟩
    rw [HT.out]
    have q4 : w3.cell? ⟨w.heap.size, 0, none⟩ = some (.slice A1 zs1.length c1) := (b3.cell (p := ⟨w.heap.size, 0, none⟩) (by show w.heap.size < _; rw [World.size_alloc, World.size_alloc]; omega)).trans (by rw [World.cell?_alloc_past _ _ _ (by rw [World.size_alloc]; omega), World.cell?_alloc_at _ _ _ _ rfl]; rfl)
    have q5 : w3.cell? ⟨w.heap.size + 1, 0, none⟩ = some (.func (.func jf) #[] #[]) := (b3.cell (p := ⟨w.heap.size + 1, 0, none⟩) (by show w.heap.size + 1 < _; rw [World.size_alloc, World.size_alloc]; omega)).trans (by rw [World.cell?_alloc_at _ _ _ _ (by rw [World.size_alloc])]; rfl)
    have hs3 : w.heap.size + 1 < w3.heap.size := by have := b3.size; rw [World.size_alloc, World.size_alloc] at this; omega
    have hf : rowB zs0 = true → ChgFn w3 82 #[.pointer (some ⟨w.heap.size + 1, 0, none⟩), .pointer (some ⟨w.heap.size, 0, none⟩)] zs0 (fun x => J zs0[x] (zs1.getD x.1 0)) := by
      intro hr0 x W hb
      have ht := twoB_true HT.out
      have hx := row_get hr0 x
      exact joined1_any zs0[x] A1 c1 zs1 _ _ x.1 _ _ jf J W HJ.out HE.out ((hb.cell (p := ⟨w.heap.size + 1, 0, none⟩) hs3).trans q5) ((hb.cell (p := ⟨w.heap.size, 0, none⟩) (by show w.heap.size < _; omega)).trans q4) ((H1.out.grow b3).grow hb) (by have := x.2; omega) hx.1 hx.2 (rowB_true.1 ht.2.1).1
    have HF := Lib.hid hf; have B3 := Lib.hid b3; have H3 := Lib.hid (H0.out.grow b3)
    clear hf b3 q4 q5 hs3
    go_wp2_with fail
    refine (changed_any A0 c0 zs0 _ _ (fun x => J zs0[x] (zs1.getD x.1 0)) HGG.out w3 H3.out.toAll (enters_of Try.func82 (by kernel_rfl) rfl) HF.out).mono ?_
    rintro e w4 ⟨A', c', rfl, hi, hb⟩
    have HI := Lib.hid hi; have B4 := Lib.hid hb; clear hi hb
    go_wp2
    go_ret2
    rw [HM.out]
    exact ⟨A', c', rfl, HI.out.wide (Nat.le_trans B2.out.size B3.out.size) (Nat.le_refl _) (Nat.le_refl _), below_then (below_then B2.out (Nat.le_refl _) B3.out) (Nat.le_refl _) B4.out⟩

theorem sumJ : JoinFn 63 (fun x y => x + y) := by
  intro x y w hx1 hx2 hy1 hy2
  go_enter Try.func63, Try.ntmps63
  go_wp2
  go_ret
  exact ⟨rfl, rfl⟩
theorem joinM_sum (a b : List Int) : joinM a b (fun x y => x + y) = sumM a b := by
  unfold joinM sumM
  cases ht : twoB a b with
  | false => rfl
  | true =>
    have hr := (twoB_true ht).1
    show (if true = true then chgM a (sumG a b) else none) = _
    simp [chgM, hr]
set_option maxHeartbeats 400000 in
theorem implRowSum_any (A0 : Option Addr) (c0 : Nat) (zs0 : List Int) (A1 : Option Addr) (c1 : Nat) (zs1 : List Int) (w : World) (h0 : IR w 0 w.heap.size A0 zs0) (h1 : IR w 0 w.heap.size A1 zs1) :
    Calls Try.prog 25 #[.slice A0 zs0.length c0, .slice A1 zs1.length c1] w (RetSB w (sumM zs0 zs1)) := by
  have H := Lib.hid (joined_any A0 c0 zs0 A1 c1 zs1 63 _ w h0 h1 sumJ (enters_of Try.func63 (by kernel_rfl) rfl) (fun ht x => sumG_i64 ht x))
  have HJ := Lib.hid (joinM_sum zs0 zs1)
  clear h0 h1
  go_enter Try.func25, Try.ntmps25
  go_wp2_with fail
  refine H.out.mono ?_
  rw [HJ.out]
  rintro e w4 ⟨A', c', rfl, hi, hb⟩
  have HI := Lib.hid hi; have B4 := Lib.hid hb; clear hi hb
  go_wp2
  go_ret2
  exact ⟨A', c', rfl, HI.out, B4.out⟩

theorem highJ : JoinFn 71 (fun x y => if x < y then y else x) := by
  intro x y w hx1 hx2 hy1 hy2
  go_enter Try.func71, Try.ntmps71
  go_wp2
  all_goals go_ret
  all_goals exact ⟨by simp [*], rfl⟩
theorem joinM_high (a b : List Int) : joinM a b (fun x y => if x < y then y else x) = highM a b := by
  unfold joinM highM
  cases ht : twoB a b with
  | false => rfl
  | true =>
    have hr := (twoB_true ht).1
    show (if true = true then chgM a (highG a b) else none) = _
    simp [chgM, hr, rowB_chg hr (highG_fits ht)]
set_option maxHeartbeats 400000 in
theorem implRowHigh_any (A0 : Option Addr) (c0 : Nat) (zs0 : List Int) (A1 : Option Addr) (c1 : Nat) (zs1 : List Int) (w : World) (h0 : IR w 0 w.heap.size A0 zs0) (h1 : IR w 0 w.heap.size A1 zs1) :
    Calls Try.prog 36 #[.slice A0 zs0.length c0, .slice A1 zs1.length c1] w (RetSB w (highM zs0 zs1)) := by
  have H := Lib.hid (joined_any A0 c0 zs0 A1 c1 zs1 71 _ w h0 h1 highJ (enters_of Try.func71 (by kernel_rfl) rfl) (fun ht x => i64_of_fits (highG_fits ht x)))
  have HJ := Lib.hid (joinM_high zs0 zs1)
  clear h0 h1
  go_enter Try.func36, Try.ntmps36
  go_wp2_with fail
  refine H.out.mono ?_
  rw [HJ.out]
  rintro e w4 ⟨A', c', rfl, hi, hb⟩
  have HI := Lib.hid hi; have B4 := Lib.hid hb; clear hi hb
  go_wp2
  go_ret2
  exact ⟨A', c', rfl, HI.out, B4.out⟩

theorem lowJ : JoinFn 74 (fun x y => if y < x then y else x) := by
  intro x y w hx1 hx2 hy1 hy2
  go_enter Try.func74, Try.ntmps74
  go_wp2
  all_goals go_ret
  all_goals exact ⟨by simp [*], rfl⟩
theorem joinM_low (a b : List Int) : joinM a b (fun x y => if y < x then y else x) = lowM a b := by
  unfold joinM lowM
  cases ht : twoB a b with
  | false => rfl
  | true =>
    have hr := (twoB_true ht).1
    show (if true = true then chgM a (lowG a b) else none) = _
    simp [chgM, hr, rowB_chg hr (lowG_fits ht)]
set_option maxHeartbeats 400000 in
theorem implRowLow_any (A0 : Option Addr) (c0 : Nat) (zs0 : List Int) (A1 : Option Addr) (c1 : Nat) (zs1 : List Int) (w : World) (h0 : IR w 0 w.heap.size A0 zs0) (h1 : IR w 0 w.heap.size A1 zs1) :
    Calls Try.prog 40 #[.slice A0 zs0.length c0, .slice A1 zs1.length c1] w (RetSB w (lowM zs0 zs1)) := by
  have H := Lib.hid (joined_any A0 c0 zs0 A1 c1 zs1 74 _ w h0 h1 lowJ (enters_of Try.func74 (by kernel_rfl) rfl) (fun ht x => i64_of_fits (lowG_fits ht x)))
  have HJ := Lib.hid (joinM_low zs0 zs1)
  clear h0 h1
  go_enter Try.func40, Try.ntmps40
  go_wp2_with fail
  refine H.out.mono ?_
  rw [HJ.out]
  rintro e w4 ⟨A', c', rfl, hi, hb⟩
  have HI := Lib.hid hi; have B4 := Lib.hid hb; clear hi hb
  go_wp2
  go_ret2
  exact ⟨A', c', rfl, HI.out, B4.out⟩

end Go.Proofs.Ytbelelfoabmebaa
