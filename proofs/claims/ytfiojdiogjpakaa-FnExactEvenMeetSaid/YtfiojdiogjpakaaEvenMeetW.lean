/-
  The law FnExactEvenMeet walked: for all arguments it returns true, and nothing that lay before has turned. Conditions: none but those of its row.
-/
import Derived.Test.YtfiojdiogjpakaaEvI
import Derived.Test.YtfiojdiogjpakaaLaw
namespace Go.Proofs.Ytfiojdiogjpakaa
open Go.RowKit

set_option maxHeartbeats 2000000 in
set_option maxRecDepth 100000 in
theorem lawEvenMeet_any (A0 : Option Addr) (c0 : Nat) (zs0 : List Int) (A1 : Option Addr) (c1 : Nat) (zs1 : List Int) (w : World) (h0 : IR w 0 w.heap.size A0 zs0) (h1 : IR w 0 w.heap.size A1 zs1) :
    Calls Try.prog 12 #[.slice A0 zs0.length c0, .slice A1 zs1.length c1] w fun e w' => e = .returned (.bool true) ∧ Below w.heap.size w w' := by
  by_cases hbig0 : (1048576 : Int) < (zs0.length : Int)
  · clear h0 h1
    go_enter Try.func12, Try.ntmps12
    go_wp2
    go_ret
    exact ⟨rfl, Below.refl _ _⟩
  by_cases hbig1 : (1048576 : Int) < (zs1.length : Int)
  · clear h0 h1
    go_enter Try.func12, Try.ntmps12
    go_wp2
    go_ret
    exact ⟨rfl, Below.refl _ _⟩
  have H0 := Lib.hid h0; have HL0 := Lib.hid (show (zs0.length : Int) ≤ 1048576 by omega)
  have H1 := Lib.hid h1; have HL1 := Lib.hid (show (zs1.length : Int) ≤ 1048576 by omega)
  clear h0 h1
  obtain ⟨out, hout⟩ : ∃ o, o = meetM zs0 zs1 := ⟨_, rfl⟩
  have HO := Lib.hid hout; clear hout
  have BB := Lib.hid (Below.refl w.heap.size w)
  go_enter Try.func12, Try.ntmps12
  go_wp2_with fail
  refine (toIntS_any _ _ _ _ zs0 _ H0.out).mono ?_
  rintro e w1 ⟨rfl, iw, bb⟩
  have Z1 := Lib.hid bb.size
  replace H0 := Lib.hid (H0.out.grow bb)
  replace H1 := Lib.hid (H1.out.grow bb)
  replace BB := Lib.hid (below_then BB.out (Nat.le_refl _) bb)
  have P0 := Lib.hid iw
  clear bb iw
  go_wp2_with fail
  refine (toIntS_any _ _ _ _ zs1 _ H1.out).mono ?_
  rintro e w2 ⟨rfl, iw, bb⟩
  have Z2 := Lib.hid bb.size
  replace H0 := Lib.hid (H0.out.grow bb)
  replace H1 := Lib.hid (H1.out.grow bb)
  replace P0 := Lib.hid (P0.out.grow bb)
  replace BB := Lib.hid (below_then BB.out (Nat.le_refl _) bb)
  have P1 := Lib.hid iw
  clear bb iw
  go_wp2_with fail
  refine (specEvenMeet_any _ _ zs0 _ _ zs1 _ P0.out.toAll P1.out.toAll).mono ?_
  rintro e w3 ⟨Aw, cw, rfl, iw, bb⟩
  have Z3 := Lib.hid bb.size
  replace H0 := Lib.hid (H0.out.grow bb)
  replace H1 := Lib.hid (H1.out.grow bb)
  replace P0 := Lib.hid (P0.out.grow bb)
  replace P1 := Lib.hid (P1.out.grow bb)
  replace BB := Lib.hid (below_then BB.out (Nat.le_refl _) bb)
  have W0 := Lib.hid iw.toAll
  clear bb iw
  clear P0
  clear P1
  go_wp2_with fail
  refine (toIntS_any _ _ _ _ zs0 _ H0.out).mono ?_
  rintro e w4 ⟨rfl, iw, bb⟩
  have Z4 := Lib.hid bb.size
  replace H0 := Lib.hid (H0.out.grow bb)
  replace H1 := Lib.hid (H1.out.grow bb)
  replace W0 := Lib.hid (W0.out.grow bb)
  replace BB := Lib.hid (below_then BB.out (Nat.le_refl _) bb)
  have X0 := Lib.hid iw
  clear bb iw
  go_wp2_with fail
  refine (toIntS_any _ _ _ _ zs1 _ H1.out).mono ?_
  rintro e w5 ⟨rfl, iw, bb⟩
  have Z5 := Lib.hid bb.size
  replace H0 := Lib.hid (H0.out.grow bb)
  replace H1 := Lib.hid (H1.out.grow bb)
  replace W0 := Lib.hid (W0.out.grow bb)
  replace X0 := Lib.hid (X0.out.grow bb)
  replace BB := Lib.hid (below_then BB.out (Nat.le_refl _) bb)
  have X1 := Lib.hid iw
  clear bb iw
  go_wp2_with fail
  refine (implEvenMeet_any _ _ zs0 _ _ zs1 _ X0.out.toAll X1.out.toAll).mono ?_
  rintro e w6 ⟨Ag, cg, rfl, iw, bb⟩
  have Z6 := Lib.hid bb.size
  replace H0 := Lib.hid (H0.out.grow bb)
  replace H1 := Lib.hid (H1.out.grow bb)
  replace W0 := Lib.hid (W0.out.grow bb)
  replace X0 := Lib.hid (X0.out.grow bb)
  replace X1 := Lib.hid (X1.out.grow bb)
  replace BB := Lib.hid (below_then BB.out (Nat.le_refl _) bb)
  have G0 := Lib.hid iw
  clear bb iw
  go_wp2_with fail
  refine (eqIntS_b _ _ _ _ _ _ _ _ _ _ G0.out.toIR W0.out).mono ?_
  rintro e w7 ⟨rfl, bb⟩
  have Z7 := Lib.hid bb.size
  replace H0 := Lib.hid (H0.out.grow bb)
  replace H1 := Lib.hid (H1.out.grow bb)
  replace W0 := Lib.hid (W0.out.grow bb)
  replace X0 := Lib.hid (X0.out.grow bb)
  replace X1 := Lib.hid (X1.out.grow bb)
  replace G0 := Lib.hid (G0.out.grow bb)
  replace BB := Lib.hid (below_then BB.out (Nat.le_refl _) bb)
  clear bb 
  go_wp2_with fail
  refine (toIntS_any _ _ _ _ zs0 _ H0.out).mono ?_
  rintro e w8 ⟨rfl, iw, bb⟩
  have Z8 := Lib.hid bb.size
  replace H0 := Lib.hid (H0.out.grow bb)
  replace H1 := Lib.hid (H1.out.grow bb)
  replace W0 := Lib.hid (W0.out.grow bb)
  replace X0 := Lib.hid (X0.out.grow bb)
  replace X1 := Lib.hid (X1.out.grow bb)
  replace G0 := Lib.hid (G0.out.grow bb)
  replace BB := Lib.hid (below_then BB.out (Nat.le_refl _) bb)
  have Y0 := Lib.hid iw
  clear bb iw
  go_wp2_with fail
  refine (eqIntS_b _ _ _ _ _ _ _ _ _ _ X0.out.toIR Y0.out.toIR).mono ?_
  rintro e w9 ⟨rfl, bb⟩
  have Z9 := Lib.hid bb.size
  replace H0 := Lib.hid (H0.out.grow bb)
  replace H1 := Lib.hid (H1.out.grow bb)
  replace W0 := Lib.hid (W0.out.grow bb)
  replace X0 := Lib.hid (X0.out.grow bb)
  replace X1 := Lib.hid (X1.out.grow bb)
  replace G0 := Lib.hid (G0.out.grow bb)
  replace Y0 := Lib.hid (Y0.out.grow bb)
  replace BB := Lib.hid (below_then BB.out (Nat.le_refl _) bb)
  clear bb 
  clear Y0
  go_wp2_with fail
  refine (toIntS_any _ _ _ _ zs1 _ H1.out).mono ?_
  rintro e w10 ⟨rfl, iw, bb⟩
  have Z10 := Lib.hid bb.size
  replace H0 := Lib.hid (H0.out.grow bb)
  replace H1 := Lib.hid (H1.out.grow bb)
  replace W0 := Lib.hid (W0.out.grow bb)
  replace X0 := Lib.hid (X0.out.grow bb)
  replace X1 := Lib.hid (X1.out.grow bb)
  replace G0 := Lib.hid (G0.out.grow bb)
  replace BB := Lib.hid (below_then BB.out (Nat.le_refl _) bb)
  have Y1 := Lib.hid iw
  clear bb iw
  go_wp2_with fail
  refine (eqIntS_b _ _ _ _ _ _ _ _ _ _ X1.out.toIR Y1.out.toIR).mono ?_
  rintro e w11 ⟨rfl, bb⟩
  have Z11 := Lib.hid bb.size
  replace H0 := Lib.hid (H0.out.grow bb)
  replace H1 := Lib.hid (H1.out.grow bb)
  replace W0 := Lib.hid (W0.out.grow bb)
  replace X0 := Lib.hid (X0.out.grow bb)
  replace X1 := Lib.hid (X1.out.grow bb)
  replace G0 := Lib.hid (G0.out.grow bb)
  replace Y1 := Lib.hid (Y1.out.grow bb)
  replace BB := Lib.hid (below_then BB.out (Nat.le_refl _) bb)
  clear bb 
  clear Y1
  go_wp2_with fail
  refine (markIntS_any _ _ _ _ zs0 (1 : Int) (by have := HL0.out; have := HL1.out; have := G0.out.1; omega) (by have := HL0.out; have := HL1.out; have := G0.out.1; omega) _ X0.out).mono ?_
  rintro e w12 ⟨rfl, iw, oo⟩
  replace H0 := Lib.hid (H0.out.only oo (by have := Z1.out; have := Z2.out; have := Z3.out; have := Z4.out; have := Z5.out; have := Z6.out; have := Z7.out; have := Z8.out; have := Z9.out; have := Z10.out; have := Z11.out; omega))
  replace H1 := Lib.hid (H1.out.only oo (by have := Z1.out; have := Z2.out; have := Z3.out; have := Z4.out; have := Z5.out; have := Z6.out; have := Z7.out; have := Z8.out; have := Z9.out; have := Z10.out; have := Z11.out; omega))
  replace W0 := Lib.hid (W0.out.only oo (by have := Z1.out; have := Z2.out; have := Z3.out; have := Z4.out; have := Z5.out; have := Z6.out; have := Z7.out; have := Z8.out; have := Z9.out; have := Z10.out; have := Z11.out; omega))
  replace X1 := Lib.hid (X1.out.only oo (by have := Z1.out; have := Z2.out; have := Z3.out; have := Z4.out; have := Z5.out; have := Z6.out; have := Z7.out; have := Z8.out; have := Z9.out; have := Z10.out; have := Z11.out; omega))
  replace G0 := Lib.hid (G0.out.only oo (by have := Z1.out; have := Z2.out; have := Z3.out; have := Z4.out; have := Z5.out; have := Z6.out; have := Z7.out; have := Z8.out; have := Z9.out; have := Z10.out; have := Z11.out; omega))
  replace BB := Lib.hid (below_only BB.out oo (by have := Z1.out; have := Z2.out; have := Z3.out; have := Z4.out; have := Z5.out; have := Z6.out; have := Z7.out; have := Z8.out; have := Z9.out; have := Z10.out; have := Z11.out; omega))
  have Z12 := Lib.hid (Nat.le_of_eq oo.size.symm)
  replace X0 := Lib.hid iw
  clear oo iw
  go_wp2_with fail
  refine (markIntS_any _ _ _ _ zs1 ((1 + (zs0.length : Int)) : Int) (by have := HL0.out; have := HL1.out; have := G0.out.1; omega) (by have := HL0.out; have := HL1.out; have := G0.out.1; omega) _ X1.out).mono ?_
  rintro e w13 ⟨rfl, iw, oo⟩
  replace H0 := Lib.hid (H0.out.only oo (by have := Z1.out; have := Z2.out; have := Z3.out; have := Z4.out; have := Z5.out; have := Z6.out; have := Z7.out; have := Z8.out; have := Z9.out; have := Z10.out; have := Z11.out; have := Z12.out; omega))
  replace H1 := Lib.hid (H1.out.only oo (by have := Z1.out; have := Z2.out; have := Z3.out; have := Z4.out; have := Z5.out; have := Z6.out; have := Z7.out; have := Z8.out; have := Z9.out; have := Z10.out; have := Z11.out; have := Z12.out; omega))
  replace W0 := Lib.hid (W0.out.only oo (by have := Z1.out; have := Z2.out; have := Z3.out; have := Z4.out; have := Z5.out; have := Z6.out; have := Z7.out; have := Z8.out; have := Z9.out; have := Z10.out; have := Z11.out; have := Z12.out; omega))
  replace X0 := Lib.hid (X0.out.only oo (by have := Z1.out; have := Z2.out; have := Z3.out; have := Z4.out; have := Z5.out; have := Z6.out; have := Z7.out; have := Z8.out; have := Z9.out; have := Z10.out; have := Z11.out; have := Z12.out; omega))
  replace G0 := Lib.hid (G0.out.only oo (by have := Z1.out; have := Z2.out; have := Z3.out; have := Z4.out; have := Z5.out; have := Z6.out; have := Z7.out; have := Z8.out; have := Z9.out; have := Z10.out; have := Z11.out; have := Z12.out; omega))
  replace BB := Lib.hid (below_only BB.out oo (by have := Z1.out; have := Z2.out; have := Z3.out; have := Z4.out; have := Z5.out; have := Z6.out; have := Z7.out; have := Z8.out; have := Z9.out; have := Z10.out; have := Z11.out; have := Z12.out; omega))
  have Z13 := Lib.hid (Nat.le_of_eq oo.size.symm)
  replace X1 := Lib.hid iw
  clear oo iw
  have hn0 : (0 : Int) ≤ (zs0.length : Int) := Int.natCast_nonneg _
  have hn1 : (0 : Int) ≤ (zs1.length : Int) := Int.natCast_nonneg _
  go_wp2_with fail
  refine (eqIntS_b _ _ _ _ _ _ _ _ _ _ G0.out.toIR W0.out).mono ?_
  rintro e w14 ⟨rfl, bb⟩
  have Z14 := Lib.hid bb.size
  replace H0 := Lib.hid (H0.out.grow bb)
  replace H1 := Lib.hid (H1.out.grow bb)
  replace W0 := Lib.hid (W0.out.grow bb)
  replace X0 := Lib.hid (X0.out.grow bb)
  replace X1 := Lib.hid (X1.out.grow bb)
  replace G0 := Lib.hid (G0.out.grow bb)
  replace BB := Lib.hid (below_then BB.out (Nat.le_refl _) bb)
  clear bb 
  clear X0
  clear X1
  go_wp2_with fail
  refine (markIntS_any _ _ _ _ ((meetM zs0 zs1).getD []) 1 (by have := HL0.out; have := HL1.out; have := G0.out.1; omega) (by have := HL0.out; have := HL1.out; have := G0.out.1; omega) _ G0.out).mono ?_
  rintro e w15 ⟨rfl, iw, oo⟩
  replace H0 := Lib.hid (H0.out.only oo (by have := Z1.out; have := Z2.out; have := Z3.out; have := Z4.out; have := Z5.out; have := Z6.out; have := Z7.out; have := Z8.out; have := Z9.out; have := Z10.out; have := Z11.out; have := Z12.out; have := Z13.out; have := Z14.out; omega))
  replace H1 := Lib.hid (H1.out.only oo (by have := Z1.out; have := Z2.out; have := Z3.out; have := Z4.out; have := Z5.out; have := Z6.out; have := Z7.out; have := Z8.out; have := Z9.out; have := Z10.out; have := Z11.out; have := Z12.out; have := Z13.out; have := Z14.out; omega))
  replace W0 := Lib.hid (W0.out.only oo (by have := Z1.out; have := Z2.out; have := Z3.out; have := Z4.out; have := Z5.out; have := Z6.out; have := Z7.out; have := Z8.out; have := Z9.out; have := Z10.out; have := Z11.out; have := Z12.out; have := Z13.out; have := Z14.out; omega))
  replace BB := Lib.hid (below_only BB.out oo (by have := Z1.out; have := Z2.out; have := Z3.out; have := Z4.out; have := Z5.out; have := Z6.out; have := Z7.out; have := Z8.out; have := Z9.out; have := Z10.out; have := Z11.out; have := Z12.out; have := Z13.out; have := Z14.out; omega))
  have Z15 := Lib.hid (Nat.le_of_eq oo.size.symm)
  replace G0 := Lib.hid iw
  clear oo iw
  go_wp2_with fail
  refine (heldIntS_true _ _ _ _ _ 1 (by omega) (by omega) _ G0.out.toIR).mono ?_
  rintro e w16 ⟨rfl, rfl⟩
  go_wp2_with fail
  refine (toIntS_any _ _ _ _ zs0 _ H0.out).mono ?_
  rintro e w16 ⟨rfl, iw, bb⟩
  have Z16 := Lib.hid bb.size
  replace H0 := Lib.hid (H0.out.grow bb)
  replace H1 := Lib.hid (H1.out.grow bb)
  replace W0 := Lib.hid (W0.out.grow bb)
  replace G0 := Lib.hid (G0.out.grow bb)
  replace BB := Lib.hid (below_then BB.out (Nat.le_refl _) bb)
  have V0 := Lib.hid iw
  clear bb iw
  go_wp2_with fail
  refine (toIntS_any _ _ _ _ zs1 _ H1.out).mono ?_
  rintro e w17 ⟨rfl, iw, bb⟩
  have Z17 := Lib.hid bb.size
  replace H0 := Lib.hid (H0.out.grow bb)
  replace H1 := Lib.hid (H1.out.grow bb)
  replace W0 := Lib.hid (W0.out.grow bb)
  replace G0 := Lib.hid (G0.out.grow bb)
  replace V0 := Lib.hid (V0.out.grow bb)
  replace BB := Lib.hid (below_then BB.out (Nat.le_refl _) bb)
  have V1 := Lib.hid iw
  clear bb iw
  go_wp2_with fail
  refine (implEvenMeet_any _ _ zs0 _ _ zs1 _ V0.out.toAll V1.out.toAll).mono ?_
  rintro e w18 ⟨Ah, ch, rfl, iw, bb⟩
  have Z18 := Lib.hid bb.size
  replace H0 := Lib.hid (H0.out.grow bb)
  replace H1 := Lib.hid (H1.out.grow bb)
  replace W0 := Lib.hid (W0.out.grow bb)
  replace G0 := Lib.hid (G0.out.grow bb)
  replace V0 := Lib.hid (V0.out.grow bb)
  replace V1 := Lib.hid (V1.out.grow bb)
  replace BB := Lib.hid (below_then BB.out (Nat.le_refl _) bb)
  have K0 := Lib.hid iw
  clear bb iw
  go_wp2_with fail
  refine (eqIntS_b _ _ _ _ _ _ _ _ _ _ K0.out.toIR W0.out).mono ?_
  rintro e w19 ⟨rfl, bb⟩
  have Z19 := Lib.hid bb.size
  replace H0 := Lib.hid (H0.out.grow bb)
  replace H1 := Lib.hid (H1.out.grow bb)
  replace W0 := Lib.hid (W0.out.grow bb)
  replace G0 := Lib.hid (G0.out.grow bb)
  replace V0 := Lib.hid (V0.out.grow bb)
  replace V1 := Lib.hid (V1.out.grow bb)
  replace K0 := Lib.hid (K0.out.grow bb)
  replace BB := Lib.hid (below_then BB.out (Nat.le_refl _) bb)
  clear bb 
  go_wp2_with fail
  refine (heldIntS_true _ _ _ _ _ 1 (by omega) (by omega) _ G0.out.toIR).mono ?_
  rintro e w20 ⟨rfl, rfl⟩
  go_wp2_with fail
  go_ret
  exact ⟨rfl, BB.out⟩
end Go.Proofs.Ytfiojdiogjpakaa
