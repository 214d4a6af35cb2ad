/-
  HillTop of the model and of the program: the first and the last place of the greatest entry of a hill. Conditions: the list's cells are there.
-/
import Derived.Test.YtnphmapiagiocaaHl1
import Derived.Test.YtnphmapiagiocaaImp4
import Derived.Test.YtnphmapiagiocaaLeast2
namespace Go.Proofs.Ytnphmapiagiocaa
open Go.RowKit Go.Shelf

theorem results3 {fn : Func} {t u v : Tmp} (h : fn.results = #[.tmp t, .tmp u, .tmp v]) (tmps : Array Value) (P : Program) (w : World) :
    (results fn tmps).run P w = .ok (.tuple #[tmps.getD t undef, tmps.getD u undef, tmps.getD v undef]) w := by
  simp only [results, h]
  simp
def topA (zs : List Int) : Int := if hillB zs then ((leastTo (negL zs) (negL zs).length).1 : Int) else 0
def topB (zs : List Int) : Int := if hillB zs then ((leastTo (negL zs) (negL zs).length).2 : Int) else 0
theorem top_no {zs : List Int} (h : hillB zs = false) : topA zs = 0 ∧ topB zs = 0 := by simp [topA, topB, h]
theorem top_yes {zs : List Int} (h : hillB zs = true) : topA zs = ((leastTo (negL zs) (negL zs).length).1 : Int) ∧ topB zs = ((leastTo (negL zs) (negL zs).length).2 : Int) := by simp [topA, topB, h]
theorem neg_get (zs : List Int) (k : Nat) (h : k < zs.length) : (negL zs)[k]'(by rw [neg_len]; exact h) = 0 - zs[k] := by simp [negL]
theorem times_neg {zs : List Int} (hr : rowB zs = true) : timesM zs (-1) = some (negL zs) := by
  have e : chgL zs (timesG zs (-1)) = negL zs := by
    apply List.ext_getElem
    · simp [chgL, negL]
    · intro j h1 h2
      rw [neg_len] at h2
      rw [neg_get zs j h2]
      simp [chgL, timesG]
  rw [timesM_of (by decide) hr]
  unfold chgM
  rw [hr, e, neg_row hr]
  rfl

set_option maxRecDepth 100000 in
set_option maxHeartbeats 2000000 in
theorem specHillTop_any (A : Option Addr) (c : Nat) (zs : List Int) (w : World) (h : IR w 0 w.heap.size A zs) :
    Calls Try.prog 34 #[.slice A zs.length c] w fun e w' => e = .returned (.tuple #[.int .i64 (topA zs), .int .i64 (topB zs), .bool (hillB zs)]) ∧ Below w.heap.size w w' := by
  have H := Lib.hid h; clear h
  cases hh : hillB zs with
  | false =>
    have HM := Lib.hid (top_no hh)
    have HR := Lib.hid hh; clear hh
    go_enter Try.func34, Try.ntmps34
    go_wp2_with fail
    refine (l4Hill_of _ _ _ _ zs _ H.out HR.out).mono ?_; rintro e w' ⟨rfl, rfl⟩
    go_wp2
    refine bodyPost_ret (results3 rfl _ _ _) rfl ?_
    rw [HM.out.1, HM.out.2]
    exact ⟨rfl, Below.refl _ _⟩
  | true =>
    have HM := Lib.hid (top_yes hh)
    have hr := (hill_true hh).2
    have hl := (rowB_true.1 hr).2
    have HRB := Lib.hid hr
    have HLN := Lib.hid (neg_len zs)
    have HR := Lib.hid hh; clear hh hr
    go_enter Try.func34, Try.ntmps34
    go_wp2_with fail
    refine (l4Hill_of _ _ _ _ zs _ H.out HR.out).mono ?_; rintro e w' ⟨rfl, rfl⟩
    go_wp2
    go_loopw [5, 6] (fun v i wr => ∃ k : Nat, k ≤ zs.length ∧ i = .int .i64 (k : Int) ∧ OwnI wr w.heap.size v ((negL zs).take k) ∧ Below w.heap.size w wr) (fun _ i _ => zs.length - (intOf i).toNat)
    case atStart => exact ⟨0, Nat.zero_le _, rfl, OwnI.made w, (Below.refl _ _).alloc (Nat.le_refl _) _⟩
    case round =>
      obtain ⟨k, hk, rfl, ho, hb⟩ := hrel
      have HO := Lib.hid ho; have HBl := Lib.hid hb
      clear ho hb
      by_cases hlt : k < zs.length
      · obtain ⟨b, off, rfl, _, _, hc⟩ := (H.out.below HBl.out H.out.2.2.1).at_ hlt
        obtain ⟨g1, g2⟩ := row_getD HRB.out k hlt
        rw [getD_in hlt] at g1 g2
        have HLn : Hid (((negL zs).take k).length < 17592186044416) := by show _ < _; rw [List.length_take]; omega
        have HT := Lib.hid (take_snoc (negL zs) k (by rw [HLN.out]; exact hlt))
        rw [neg_get zs k hlt] at HT
        obtain ⟨x, hx⟩ : ∃ x, zs[k] = x := ⟨_, rfl⟩
        rw [hx] at hc g1 g2 HT
        rw [show 0 - x = -x by omega] at HT
        have HY : Hid (I64 (-x)) := ⟨by omega, by omega⟩
        have hlt' : (k : Int) < (zs.length : Int) := by omega
        have hw0 : IntKind.i64.wrap (-x) = -x := IntWalk.i64_in _ (by omega)
        clear hx
        go_wp2_with (at_builtin; refine wpList_push rfl _ _ rfl w.heap.size _ _ rfl rfl HO.out HLn.out HY.out ?_; intro v1 w1 ho1 hb1)
        rw [HT.out] at ho1
        have HO1 := Lib.hid ho1; have HB1 := Lib.hid hb1
        clear ho1 hb1 hc
        go_roundw
        case rel => exact ⟨k + 1, by omega, by go_num, HO1.out, HBl.out.trans HB1.out⟩
        case measure => simp [intOf]; omega
      · obtain rfl : k = zs.length := by omega
        have ho := HO.out
        rw [List.take_of_length_le (by rw [HLN.out]; omega)] at ho
        obtain ⟨A', c', rfl, hiw⟩ := ho.iw (by rw [HLN.out]; omega)
        have HIW := Lib.hid hiw
        clear hiw ho HO
        go_wp2_with fail
        refine (l1Least_any _ _ _ _ _ _ HIW.out.toIR (neg_row HRB.out)).mono ?_; rintro e w2 ⟨rfl, b2⟩
        have B2 := Lib.hid b2; clear b2
        rw [← HM.out.1, ← HM.out.2]
        go_wp2
        refine bodyPost_ret (results3 rfl _ _ _) rfl ?_
        exact ⟨rfl, below_then HBl.out (Nat.le_refl _) B2.out⟩

set_option maxHeartbeats 1000000 in
theorem implHillTop_any (A : Option Addr) (c : Nat) (zs : List Int) (w : World) (h : IR w 0 w.heap.size A zs) :
    Calls Try.prog 33 #[.slice A zs.length c] w fun e w' => e = .returned (.tuple #[.int .i64 (topA zs), .int .i64 (topB zs), .bool (hillB zs)]) ∧ Below w.heap.size w w' := by
  have hb1 : Below w.heap.size w (w.alloc (.cells #[.slice A zs.length c] 52)) := (Below.refl _ w).alloc (Nat.le_refl _) _
  have H := Lib.hid (h.grow hb1).toAll; have B1 := Lib.hid hb1; clear h hb1
  cases hh : hillB zs with
  | false =>
    have HM := Lib.hid (top_no hh)
    have HR := Lib.hid hh; clear hh
    go_enter Try.func33, Try.ntmps33
    go_wp2_with fail
    refine (isHill_of _ _ _ _ zs _ H.out HR.out).mono ?_; rintro e w1 ⟨rfl, b1⟩
    have B2 := Lib.hid b1; clear b1
    go_wp2
    refine bodyPost_ret (results3 rfl _ _ _) rfl ?_
    rw [HM.out.1, HM.out.2]
    exact ⟨rfl, below_then B1.out (Nat.le_refl _) B2.out⟩
  | true =>
    have HM := Lib.hid (top_yes hh)
    have hr := (hill_true hh).2
    have HRB := Lib.hid hr
    have HT := Lib.hid (times_neg hr)
    have HR := Lib.hid hh; clear hh hr
    go_enter Try.func33, Try.ntmps33
    go_wp2_with fail
    refine (isHill_of _ _ _ _ zs _ H.out HR.out).mono ?_; rintro e w1 ⟨rfl, b1⟩
    have B2 := Lib.hid (below_then B1.out (Nat.le_refl _) b1); have H1 := Lib.hid (H.out.grow b1).toAll; clear b1
    go_wp2_with fail
    refine (implRowTimes_any _ _ zs _ _ H1.out).mono ?_
    rw [HT.out]
    rintro e w2 ⟨A', c', rfl, hi, b2⟩
    have HI := Lib.hid hi; have B3 := Lib.hid (below_then B2.out (Nat.le_refl _) b2); clear hi b2
    go_wp2_with fail
    refine (least_any _ _ (negL zs) _ HI.out.toAll (neg_row HRB.out)).mono ?_; rintro e w3 ⟨rfl, b3⟩
    have B4 := Lib.hid b3; clear b3
    rw [← HM.out.1, ← HM.out.2]
    go_wp2
    refine bodyPost_ret (results3 rfl _ _ _) rfl ?_
    exact ⟨rfl, below_then B3.out (Nat.le_refl _) B4.out⟩
end Go.Proofs.Ytnphmapiagiocaa
