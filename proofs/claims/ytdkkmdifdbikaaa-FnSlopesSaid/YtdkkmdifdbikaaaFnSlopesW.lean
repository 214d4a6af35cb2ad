/-
  The law FnSlopes walked: for all codes it returns true, and nothing that lay before has turned. Conditions: none but those of its row.
-/
import Derived.Test.YtdkkmdifdbikaaaDraw4
import Derived.Test.YtdkkmdifdbikaaaSame
import Derived.Test.YtdkkmdifdbikaaaColl
namespace Go.Proofs.Ytdkkmdifdbikaaa
open Go.RowKit

set_option maxHeartbeats 2000000 in
set_option maxRecDepth 100000 in
theorem lawFnSlopes_any (A0 : Option Addr) (c0 : Nat) (bs : List Int) (w : World) (h0 : BR w w.heap.size A0 bs) (hc : bs.length ≤ c0) (hc2 : c0 ≤ 9000000000000000000) :
    Calls Try.prog 3 #[.slice A0 bs.length c0] w fun e w' => e = .returned (.bool true) ∧ Below w.heap.size w w' := by
  by_cases hbig : (1048576 : Int) < (bs.length : Int)
  · clear h0
    go_enter Try.func3, Try.ntmps3
    go_wp2
    go_ret
    exact ⟨rfl, Below.refl _ _⟩
  have H0 := Lib.hid h0
  clear h0
  go_enter Try.func3, Try.ntmps3
  go_wp2_with fail
  refine (DrawRowSlopes_any _ _ bs _ H0.out hc hc2).mono ?_
  rintro e w1 ⟨A, c, zs, rfl, hz, iw, bb⟩
  have BB := Lib.hid bb
  have Z0 := Lib.hid iw
  have hz' : (zs.length : Int) ≤ 10 := by omega
  clear bb iw
  go_wp2_with fail
  refine (implRowSlopes_any _ _ zs _ Z0.out.toAll).mono ?_
  rintro e w2 ⟨A2, c2, rfl, iw, bb⟩
  replace BB := Lib.hid (below_then BB.out (Nat.le_refl _) bb)
  replace Z0 := Lib.hid (Z0.out.grow bb)
  have G0 := Lib.hid iw
  clear bb iw
  go_wp2_with fail
  refine (specRowSlopes_any _ _ _ _ zs _ Z0.out.toAll).mono ?_
  rintro e w3 ⟨A3, c3, rfl, iw, bb⟩
  replace BB := Lib.hid (below_then BB.out (Nat.le_refl _) bb)
  replace Z0 := Lib.hid (Z0.out.grow bb)
  replace G0 := Lib.hid (G0.out.grow bb)
  have W0 := Lib.hid iw
  clear bb iw
  cases hr : rowB zs with
  | false =>
    have hm : rowSlopesM zs = none := by simp [rowSlopesM, hr]
    rw [hm] at G0 W0
    have G1 : Hid (IR w3 0 w3.heap.size A2 []) := G0.out.toAll
    have W1 : Hid (IR w3 0 w3.heap.size A3 []) := W0.out.toAll
    clear G0 W0
    rw [hm]
    clear hm hr
    go_wp2_with fail
    refine (sameInts_b _ _ _ _ _ _ _ _ _ _ [] _ G1.out W1.out rfl rfl).mono ?_
    rintro e w4 ⟨rfl, bb⟩
    replace BB := Lib.hid (below_then BB.out (Nat.le_refl _) bb)
    replace G1 := Lib.hid (G1.out.grow bb)
    replace W1 := Lib.hid (W1.out.grow bb)
    clear bb
    go_wp2_with fail
    refine (sameInts_b _ _ _ _ _ _ _ _ _ _ [] _ G1.out W1.out rfl rfl).mono ?_
    rintro e w5 ⟨rfl, bb⟩
    replace BB := Lib.hid (below_then BB.out (Nat.le_refl _) bb)
    clear bb
    go_wp2
    go_ret
    exact ⟨rfl, BB.out⟩
  | true =>
    have hm : rowSlopesM zs = some (slopesL zs) := by simp [rowSlopesM, hr]
    rw [hm] at G0 W0
    have G1 : Hid (IR w3 0 w3.heap.size A2 (slopesL zs)) := G0.out.toAll
    have W1 : Hid (IR w3 0 w3.heap.size A3 (slopesL zs)) := W0.out.toAll
    clear G0 W0
    have hl := (rowB_true.1 hr).2
    have hsl := slopesL_len zs
    obtain ⟨n, hn⟩ : ∃ n, zs.length = n + 1 := ⟨zs.length - 1, by omega⟩
    have e1 : (some (slopesL zs)).getD [] = slopesL zs := rfl
    have e2 : (slopesL zs).length = n := by omega
    have HT : Hid (totL (slopesL zs) = zs[n]'(by omega) - zs[0]'(by omega)) := by
      have := totL_slopes zs hr n (by omega)
      rwa [List.take_of_length_le (by omega)] at this
    rw [hm]
    rw [e1, e2]
    clear hm hsl e1
    go_wp2_with fail
    refine (sameInts_b _ _ _ _ _ _ _ _ _ _ (slopesL zs) _ G1.out W1.out e2.symm e2.symm).mono ?_
    rintro e w4 ⟨rfl, bb⟩
    replace BB := Lib.hid (below_then BB.out (Nat.le_refl _) bb)
    replace G1 := Lib.hid (G1.out.grow bb)
    replace Z0 := Lib.hid (Z0.out.grow bb)
    clear bb
    obtain ⟨b, off, rfl, _, _, hc0⟩ := Z0.out.toIR.at_ (k := 0) (by omega)
    obtain ⟨b', off', e, _, _, hcn⟩ := Z0.out.toIR.at_ (k := n) (by omega)
    injection e with e; injection e with e3 e4 _; subst e3; subst e4
    have b0 := (rowB_true.1 hr).1 _ (List.getElem_mem (show 0 < zs.length by omega))
    have bn := (rowB_true.1 hr).1 _ (List.getElem_mem (show n < zs.length by omega))
    obtain ⟨x, hx⟩ : ∃ x, zs[0]'(by omega) = x := ⟨_, rfl⟩
    obtain ⟨y, hy⟩ : ∃ y, zs[n]'(by omega) = y := ⟨_, rfl⟩
    rw [hx, hy] at HT
    rw [hx, Nat.add_zero] at hc0
    rw [hy] at hcn
    rw [hx] at b0
    rw [hy] at bn
    obtain ⟨b01, b02⟩ := b0
    obtain ⟨bn1, bn2⟩ := bn
    have s1 : IntKind.i64.wrap (y - x) = y - x := IntWalk.i64_in _ (by omega)
    clear hx hy hr
    have t0 : ((n : Int) + 1 - 1) = (n : Int) := by omega
    have t1 : (n : Int).toNat = n := by omega
    have q0 : (0 : Int) ≤ (n : Int) := by omega
    have q1 : (n : Int) < (n : Int) + 1 := by omega
    have q2 : (0 : Int) < (n : Int) + 1 := by omega
    have s2 : IntKind.i64.wrap (n : Int) = (n : Int) := IntWalk.i64_in _ (by omega)
    have HTT : Hid (∀ m c, Calls Try.prog 22 #[.slice A2 n c] (w4.drewN m) fun e w' => e = .returned (.int .i64 (y - x)) ∧ w' = w4.drewN m) := by
      intro m c
      have := total_any A2 n c _ _ (slopesL zs) (w4.drewN m) (G1.out.drewN m) e2.symm
      rwa [HT.out] at this
    go_wp2
    go_quiet ((go_at_call 22; exact Calls.quiet_of_same (HTT.out _ _)))
    go_wp2
    go_ret
    exact ⟨rfl, below_drawN BB.out _⟩
end Go.Proofs.Ytdkkmdifdbikaaa
