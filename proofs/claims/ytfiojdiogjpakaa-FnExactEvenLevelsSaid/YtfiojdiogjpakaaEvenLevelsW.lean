/-
  The law FnExactEvenLevels walked: for all arguments it returns true, and nothing that lay before has turned. Conditions: none but those of its row.
-/
import Derived.Test.YtfiojdiogjpakaaEvD
import Derived.Test.YtfiojdiogjpakaaLawT
namespace Go.Proofs.Ytfiojdiogjpakaa
open Go.RowKit

theorem small_levels (a : List Int) : totN ((levelsM a).getD []) ((levelsM a).getD []).length ≤ 100000 := by
  unfold levelsM
  by_cases hr : rowB a = true
  · rw [if_pos hr]
    show totN (levelsL a) (levelsL a).length ≤ 100000
    have hlb := (rowB_true.1 hr).2
    have hl : ∀ x, x ∈ levelsL a → x.length ≤ 12 := fun x hx => by
      obtain ⟨i, k, -, -, h⟩ := levels_mem.1 hx
      rw [lev_len h]; omega
    have hn : (levelsL a).length ≤ 144 := by
      have h1 := levTo_len a a.length
      have h2 : a.length * a.length ≤ 12 * 12 := Nat.mul_le_mul (by omega) (by omega)
      show (levTo a a.length).length ≤ 144; omega
    have : ∀ k, k ≤ (levelsL a).length → totN (levelsL a) k ≤ 12 * k := by
      intro k
      induction k with
      | zero => intro _; exact Nat.le_refl _
      | succ k ih =>
        intro hk
        have h1 := ih (by omega)
        have h2 := hl _ (List.getElem_mem (show k < (levelsL a).length by omega))
        have e : totN (levelsL a) (k + 1) = totN (levelsL a) k + ((levelsL a).getD k []).length := rfl
        rw [e, show (levelsL a).getD k [] = (levelsL a)[k] by simp [List.getD, show k < (levelsL a).length by omega]]
        omega
    have := this _ (Nat.le_refl _)
    omega
  · rw [if_neg hr]; exact Nat.zero_le _

set_option maxHeartbeats 2000000 in
set_option maxRecDepth 100000 in
theorem lawEvenLevels_any (A0 : Option Addr) (c0 : Nat) (zs0 : List Int) (w : World) (h0 : IR w 0 w.heap.size A0 zs0) :
    Calls Try.prog 8 #[.slice A0 zs0.length c0] w fun e w' => e = .returned (.bool true) ∧ Below w.heap.size w w' := by
  by_cases hbig0 : (1048576 : Int) < (zs0.length : Int)
  · clear h0
    go_enter Try.func8, Try.ntmps8
    go_wp2
    go_ret
    exact ⟨rfl, Below.refl _ _⟩
  have H0 := Lib.hid h0
  have HL0 := Lib.hid (show (zs0.length : Int) ≤ 1048576 by omega)
  clear h0
  obtain ⟨out, hout⟩ : ∃ o, o = levelsM zs0 := ⟨_, rfl⟩
  have HO := Lib.hid hout; clear hout
  have BB := Lib.hid (Below.refl w.heap.size w)
  go_enter Try.func8, Try.ntmps8
  go_wp2_with fail
  refine (toIntS_any _ _ _ _ zs0 _ H0.out).mono ?_
  rintro e w1 ⟨rfl, iw, bb⟩
  have Z1 := Lib.hid bb.size
  replace H0 := Lib.hid (H0.out.grow bb)
  replace BB := Lib.hid (below_then BB.out (Nat.le_refl _) bb)
  have P0 := Lib.hid iw
  clear bb iw
  go_wp2_with fail
  refine (specEvenLevels_any _ _ zs0 _ P0.out.toAll).mono ?_
  rintro e w2 ⟨Aw, cw, rfl, iw, bb⟩
  have Z2 := Lib.hid bb.size
  replace H0 := Lib.hid (H0.out.grow bb)
  replace P0 := Lib.hid (P0.out.grow bb)
  replace BB := Lib.hid (below_then BB.out (Nat.le_refl _) bb)
  have W0 := Lib.hid iw.toAll
  clear bb iw
  clear P0
  go_wp2_with fail
  refine (toIntS_any _ _ _ _ zs0 _ H0.out).mono ?_
  rintro e w3 ⟨rfl, iw, bb⟩
  have Z3 := Lib.hid bb.size
  replace H0 := Lib.hid (H0.out.grow bb)
  replace W0 := Lib.hid (W0.out.grow bb)
  replace BB := Lib.hid (below_then BB.out (Nat.le_refl _) bb)
  have X0 := Lib.hid iw
  clear bb iw
  go_wp2_with fail
  refine (implEvenLevels_any _ _ zs0 _ X0.out.toAll).mono ?_
  rintro e w4 ⟨Ag, cg, rfl, -, iw, bb⟩
  have Z4 := Lib.hid bb.size
  replace H0 := Lib.hid (H0.out.grow bb)
  replace W0 := Lib.hid (W0.out.grow bb)
  replace X0 := Lib.hid (X0.out.grow bb)
  replace BB := Lib.hid (below_then BB.out (Nat.le_refl _) bb)
  have G0 := Lib.hid iw
  clear bb iw
  go_wp2_with fail
  refine (eqIntSS_b _ _ _ _ _ _ _ _ _ _ G0.out.toIRR W0.out).mono ?_
  rintro e w5 ⟨rfl, bb⟩
  have Z5 := Lib.hid bb.size
  replace H0 := Lib.hid (H0.out.grow bb)
  replace W0 := Lib.hid (W0.out.grow bb)
  replace X0 := Lib.hid (X0.out.grow bb)
  replace G0 := Lib.hid (G0.out.grow bb)
  replace BB := Lib.hid (below_then BB.out (Nat.le_refl _) bb)
  clear bb 
  go_wp2_with fail
  refine (toIntS_any _ _ _ _ zs0 _ H0.out).mono ?_
  rintro e w6 ⟨rfl, iw, bb⟩
  have Z6 := Lib.hid bb.size
  replace H0 := Lib.hid (H0.out.grow bb)
  replace W0 := Lib.hid (W0.out.grow bb)
  replace X0 := Lib.hid (X0.out.grow bb)
  replace G0 := Lib.hid (G0.out.grow bb)
  replace BB := Lib.hid (below_then BB.out (Nat.le_refl _) bb)
  have Y0 := Lib.hid iw
  clear bb iw
  go_wp2_with fail
  refine (eqIntS_b _ _ _ _ _ _ _ _ _ _ X0.out.toIR Y0.out.toIR).mono ?_
  rintro e w7 ⟨rfl, bb⟩
  have Z7 := Lib.hid bb.size
  replace H0 := Lib.hid (H0.out.grow bb)
  replace W0 := Lib.hid (W0.out.grow bb)
  replace X0 := Lib.hid (X0.out.grow bb)
  replace G0 := Lib.hid (G0.out.grow bb)
  replace Y0 := Lib.hid (Y0.out.grow bb)
  replace BB := Lib.hid (below_then BB.out (Nat.le_refl _) bb)
  clear bb 
  clear Y0
  have HG := Lib.hid (small_levels zs0)
  go_wp2_with fail
  refine (markIntS_any _ _ _ _ zs0 (1 : Int) (by have := HL0.out; have := HG.out; omega) (by have := HL0.out; have := HG.out; omega) _ X0.out).mono ?_
  rintro e w8 ⟨rfl, iw, oo⟩
  replace H0 := Lib.hid (H0.out.only oo (by have := Z1.out; have := Z2.out; have := Z3.out; have := Z4.out; have := Z5.out; have := Z6.out; have := Z7.out; omega))
  replace W0 := Lib.hid (W0.out.only oo (by have := Z1.out; have := Z2.out; have := Z3.out; have := Z4.out; have := Z5.out; have := Z6.out; have := Z7.out; omega))
  replace G0 := Lib.hid (G0.out.only oo (by have := Z1.out; have := Z2.out; have := Z3.out; have := Z4.out; have := Z5.out; have := Z6.out; have := Z7.out; omega))
  replace BB := Lib.hid (below_only BB.out oo (by have := Z1.out; have := Z2.out; have := Z3.out; have := Z4.out; have := Z5.out; have := Z6.out; have := Z7.out; omega))
  have Z8 := Lib.hid (Nat.le_of_eq oo.size.symm)
  replace X0 := Lib.hid iw
  clear oo iw
  have hp0 : (0 : Int) ≤ (zs0.length : Int) := Int.natCast_nonneg _
  go_wp2_with fail
  refine (eqIntSS_b _ _ _ _ _ _ _ _ _ _ G0.out.toIRR W0.out).mono ?_
  rintro e w9 ⟨rfl, bb⟩
  have Z9 := Lib.hid bb.size
  replace H0 := Lib.hid (H0.out.grow bb)
  replace W0 := Lib.hid (W0.out.grow bb)
  replace X0 := Lib.hid (X0.out.grow bb)
  replace G0 := Lib.hid (G0.out.grow bb)
  replace BB := Lib.hid (below_then BB.out (Nat.le_refl _) bb)
  clear bb 
  clear X0
  go_wp2_with fail
  refine (markIntSS_any _ _ _ _ ((levelsM zs0).getD []) 1 (by have := HL0.out; have := HG.out; omega) (by have := HL0.out; have := HG.out; omega) _ G0.out).mono ?_
  rintro e w10 ⟨rfl, iw, oo⟩
  replace H0 := Lib.hid (H0.out.only oo (by have := Z1.out; have := Z2.out; have := Z3.out; have := Z4.out; have := Z5.out; have := Z6.out; have := Z7.out; have := Z8.out; have := Z9.out; omega))
  replace W0 := Lib.hid (W0.out.only oo (by have := Z1.out; have := Z2.out; have := Z3.out; have := Z4.out; have := Z5.out; have := Z6.out; have := Z7.out; have := Z8.out; have := Z9.out; omega))
  replace BB := Lib.hid (below_only BB.out oo (by have := Z1.out; have := Z2.out; have := Z3.out; have := Z4.out; have := Z5.out; have := Z6.out; have := Z7.out; have := Z8.out; have := Z9.out; omega))
  have Z10 := Lib.hid (Nat.le_of_eq oo.size.symm)
  replace G0 := Lib.hid iw
  clear oo iw
  go_wp2_with fail
  refine (heldIntSS_true _ _ _ _ ((levelsM zs0).getD []) 1 (by omega) (by have := HG.out; omega) _ G0.out.toIRR).mono ?_
  rintro e w11 ⟨rfl, rfl⟩
  go_wp2_with fail
  refine (toIntS_any _ _ _ _ zs0 _ H0.out).mono ?_
  rintro e w11 ⟨rfl, iw, bb⟩
  have Z11 := Lib.hid bb.size
  replace H0 := Lib.hid (H0.out.grow bb)
  replace W0 := Lib.hid (W0.out.grow bb)
  replace G0 := Lib.hid (G0.out.grow bb)
  replace BB := Lib.hid (below_then BB.out (Nat.le_refl _) bb)
  have V0 := Lib.hid iw
  clear bb iw
  go_wp2_with fail
  refine (implEvenLevels_any _ _ zs0 _ V0.out.toAll).mono ?_
  rintro e w12 ⟨Ah, ch, rfl, -, iw, bb⟩
  have Z12 := Lib.hid bb.size
  replace H0 := Lib.hid (H0.out.grow bb)
  replace W0 := Lib.hid (W0.out.grow bb)
  replace G0 := Lib.hid (G0.out.grow bb)
  replace V0 := Lib.hid (V0.out.grow bb)
  replace BB := Lib.hid (below_then BB.out (Nat.le_refl _) bb)
  have K0 := Lib.hid iw
  clear bb iw
  go_wp2_with fail
  refine (eqIntSS_b _ _ _ _ _ _ _ _ _ _ K0.out.toIRR W0.out).mono ?_
  rintro e w13 ⟨rfl, bb⟩
  have Z13 := Lib.hid bb.size
  replace H0 := Lib.hid (H0.out.grow bb)
  replace W0 := Lib.hid (W0.out.grow bb)
  replace G0 := Lib.hid (G0.out.grow bb)
  replace V0 := Lib.hid (V0.out.grow bb)
  replace K0 := Lib.hid (K0.out.grow bb)
  replace BB := Lib.hid (below_then BB.out (Nat.le_refl _) bb)
  clear bb 
  go_wp2_with fail
  refine (heldIntSS_true _ _ _ _ ((levelsM zs0).getD []) 1 (by omega) (by have := HG.out; omega) _ G0.out.toIRR).mono ?_
  rintro e w14 ⟨rfl, rfl⟩
  go_wp2_with fail
  go_ret
  exact ⟨rfl, BB.out⟩
end Go.Proofs.Ytfiojdiogjpakaa
