/-
  The law FnBetween walked: for all codes it returns true, and nothing that lay before has turned. Conditions: none but those of its row.
-/
import Derived.Test.YtlgagdplnpeklaaDrawOne
import Derived.Test.YtlgagdplnpeklaaSame
import Derived.Test.YtlgagdplnpeklaaMath
import Derived.Test.YtlgagdplnpeklaaLnM
import Derived.Test.YtlgagdplnpeklaaDrawBetween
namespace Go.Proofs.Ytlgagdplnpeklaa
open Go.RowKit

set_option maxHeartbeats 4000000 in
set_option maxRecDepth 100000 in
theorem lawFnBetween_any (A0 : Option Addr) (c0 : Nat) (bs : List Int) (w : World) (h0 : BR w w.heap.size A0 bs) (hc : bs.length ≤ c0) (hc2 : c0 ≤ 9000000000000000000) :
    Calls Try.prog 14 #[.slice A0 bs.length c0] w fun e w' => e = .returned (.bool true) ∧ Below w.heap.size w w' := by
  by_cases hbig : (1048576 : Int) < (bs.length : Int)
  · clear h0
    go_enter Try.func14, Try.ntmps14
    go_wp2
    go_ret
    exact ⟨rfl, Below.refl _ _⟩
  have H0 := Lib.hid h0
  clear h0
  have BB := Lib.hid (Below.refl w.heap.size w)
  go_enter Try.func14, Try.ntmps14
  go_wp2_with fail
  refine (DrawLineBetween_any _ _ bs _ H0.out hc hc2).mono ?_
  rintro e w1 ⟨A, c, za, B, d, zb, rfl, hza, hzb, iwa, iwb, bb⟩
  replace BB := Lib.hid (below_then BB.out (Nat.le_refl _) bb)
  have ZA := Lib.hid iwa.toAll
  have ZB := Lib.hid iwb.toAll
  clear bb
  clear iwa iwb hza hzb
  go_wp2_with fail
  refine (implLineBetween_v _ _ za _ _ zb _ ZA.out.toAll ZB.out.toAll).mono ?_
  rintro e w2 ⟨rfl, bb⟩
  replace BB := Lib.hid (below_then BB.out (Nat.le_refl _) bb)
  replace ZA := Lib.hid (ZA.out.grow bb)
  replace ZB := Lib.hid (ZB.out.grow bb)
  clear bb
  go_wp2_with fail
  refine (specLineBetween_v _ _ za _ _ zb _ ZA.out.toAll ZB.out.toAll).mono ?_
  rintro e w3 ⟨rfl, bb⟩
  replace BB := Lib.hid (below_then BB.out (Nat.le_refl _) bb)
  replace ZA := Lib.hid (ZA.out.grow bb)
  replace ZB := Lib.hid (ZB.out.grow bb)
  clear bb
  obtain ⟨o, ho⟩ : ∃ o, betweenM za zb = o := ⟨_, rfl⟩
  rw [betwA, betwB, betwC, ho]
  cases o with
  | none =>
    clear ho
    have e1 : ((none : Option (Int × Int)).getD (0, 0)).1 = 0 := rfl
    have e2 : ((none : Option (Int × Int)).getD (0, 0)).2 = 0 := rfl
    have e3 : (none : Option (Int × Int)).isSome = false := rfl
    rw [e1, e2, e3]
    clear e1 e2 e3
    go_wp2
    go_ret
    exact ⟨rfl, BB.out⟩
  | some o2 =>
    obtain ⟨x, y⟩ := o2
    have HF := Lib.hid ho
    clear ho
    have e1 : ((some (x, y)).getD (0, 0)).1 = x := rfl
    have e2 : ((some (x, y)).getD (0, 0)).2 = y := rfl
    have e3 : (some (x, y)).isSome = true := rfl
    rw [e1, e2, e3]
    clear e1 e2 e3
    obtain ⟨hl, h0, ⟨s1, s2⟩, hL⟩ := betweenM_lies HF.out
    obtain ⟨hra, hrb⟩ := between_rows HF.out
    have HL := Lib.hid hl; have HLies := Lib.hid hL; have HRA := Lib.hid hra; have HRB := Lib.hid hrb
    have h12 : za.length ≤ 12 := (rowB_true.1 hra).2.2
    clear HF hl hL hra hrb
    go_wp2
    go_loop [11] (fun i => ∃ j : Nat, j ≤ za.length ∧ i = .int .i64 j) (fun i => za.length - (intOf i).toNat)
    case atStart => exact ⟨0, Nat.zero_le _, rfl⟩
    case round =>
      obtain ⟨j, hj, rfl⟩ := hrel
      by_cases hlt : j < za.length
      · have hlt2 : j < zb.length := by rw [← HL.out]; exact hlt
        obtain ⟨b1, o1, rfl, _, _, hca⟩ := ZA.out.at_ hlt
        obtain ⟨b2, o2, rfl, _, _, hcb⟩ := ZB.out.at_ hlt2
        obtain ⟨q1, q2⟩ := HLies.out j hlt
        obtain ⟨m1, m2⟩ := sk_bd (s := y) (by omega) (by omega) hlt h12
        obtain ⟨r1, r2⟩ := row_getD HRA.out j hlt
        obtain ⟨r3, r4⟩ := row_getD HRB.out j hlt2
        rw [getD_in hlt] at q1 r1 r2
        rw [getD_in hlt2] at q2 r3 r4
        have hlt' : (j : Int) < (za.length : Int) := by omega
        have hlt2' : (j : Int) < (zb.length : Int) := by omega
        have n1 : ¬ x + y * (j : Int) < za[j] := by omega
        have n2 : ¬ zb[j] < x + y * (j : Int) := by omega
        go_wp2
        go_round
        case rel => exact ⟨j + 1, by omega, by go_num⟩
        case measure => simp [intOf]; omega
      · obtain rfl : j = za.length := by omega
        go_wp2
        go_ret
        exact ⟨rfl, BB.out⟩
end Go.Proofs.Ytlgagdplnpeklaa
