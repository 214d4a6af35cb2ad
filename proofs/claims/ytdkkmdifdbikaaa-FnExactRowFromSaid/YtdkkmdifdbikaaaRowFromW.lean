/-
  The law FnExactRowFrom walked: for all arguments it returns true, and nothing that lay before has turned. Conditions: none but those of its row.
-/
import Derived.Test.YtdkkmdifdbikaaaFrom2
namespace Go.Proofs.Ytdkkmdifdbikaaa
open Go.RowKit

set_option maxHeartbeats 2000000 in
set_option maxRecDepth 100000 in
theorem lawRowFrom_any (x0 : Int) (A1 : Option Addr) (c1 : Nat) (zs1 : List Int) (w : World) (hx0 : I64 x0) (h1 : IR w 0 w.heap.size A1 zs1) :
    Calls Try.prog 7 #[.int .i64 x0, .slice A1 zs1.length c1] w fun e w' => e = .returned (.bool true) ∧ Below w.heap.size w w' := by
  have HX0 := Lib.hid hx0; clear hx0
  by_cases hbig1 : (1048576 : Int) < (zs1.length : Int)
  · clear h1
    go_enter Try.func7, Try.ntmps7
    go_wp2
    go_ret
    exact ⟨rfl, Below.refl _ _⟩
  have H1 := Lib.hid h1; have HL1 := Lib.hid (show (zs1.length : Int) ≤ 1048576 by omega)
  clear h1
  obtain ⟨out, hout⟩ : ∃ o, o = fromM x0 zs1 := ⟨_, rfl⟩
  have HO := Lib.hid hout; clear hout
  have BB := Lib.hid (Below.refl w.heap.size w)
  go_enter Try.func7, Try.ntmps7
  go_wp2_with fail
  refine (toIntS_any _ _ _ _ zs1 _ H1.out).mono ?_
  rintro e w1 ⟨rfl, iw, bb⟩
  have Z1 := Lib.hid bb.size
  replace H1 := Lib.hid (H1.out.grow bb)
  replace BB := Lib.hid (below_then BB.out (Nat.le_refl _) bb)
  have P1 := Lib.hid iw
  clear bb iw
  go_wp2_with fail
  refine (specRowFrom_any _ _ _ zs1 _ HX0.out P1.out.toAll (by have := HL1.out; omega)).mono ?_
  rintro e w2 ⟨Aw, cw, rfl, iw, bb⟩
  have Z2 := Lib.hid bb.size
  replace H1 := Lib.hid (H1.out.grow bb)
  replace P1 := Lib.hid (P1.out.grow bb)
  replace BB := Lib.hid (below_then BB.out (Nat.le_refl _) bb)
  have W0 := Lib.hid iw.toAll
  clear bb iw
  clear P1
  go_wp2_with fail
  refine (toIntS_any _ _ _ _ zs1 _ H1.out).mono ?_
  rintro e w3 ⟨rfl, iw, bb⟩
  have Z3 := Lib.hid bb.size
  replace H1 := Lib.hid (H1.out.grow bb)
  replace W0 := Lib.hid (W0.out.grow bb)
  replace BB := Lib.hid (below_then BB.out (Nat.le_refl _) bb)
  have X1 := Lib.hid iw
  clear bb iw
  go_wp2_with fail
  refine (implRowFrom_any _ _ _ zs1 _ HX0.out X1.out.toAll).mono ?_
  rintro e w4 ⟨Ag, cg, rfl, iw, bb⟩
  have Z4 := Lib.hid bb.size
  replace H1 := Lib.hid (H1.out.grow bb)
  replace W0 := Lib.hid (W0.out.grow bb)
  replace X1 := Lib.hid (X1.out.grow bb)
  replace BB := Lib.hid (below_then BB.out (Nat.le_refl _) bb)
  have G0 := Lib.hid iw
  clear bb iw
  go_wp2_with fail
  refine (eqIntS_b _ _ _ _ _ _ _ _ _ _ G0.out.toIR W0.out).mono ?_
  rintro e w5 ⟨rfl, bb⟩
  have Z5 := Lib.hid bb.size
  replace H1 := Lib.hid (H1.out.grow bb)
  replace W0 := Lib.hid (W0.out.grow bb)
  replace X1 := Lib.hid (X1.out.grow bb)
  replace G0 := Lib.hid (G0.out.grow bb)
  replace BB := Lib.hid (below_then BB.out (Nat.le_refl _) bb)
  clear bb 
  go_wp2_with fail
  refine (toIntS_any _ _ _ _ zs1 _ H1.out).mono ?_
  rintro e w6 ⟨rfl, iw, bb⟩
  have Z6 := Lib.hid bb.size
  replace H1 := Lib.hid (H1.out.grow bb)
  replace W0 := Lib.hid (W0.out.grow bb)
  replace X1 := Lib.hid (X1.out.grow bb)
  replace G0 := Lib.hid (G0.out.grow bb)
  replace BB := Lib.hid (below_then BB.out (Nat.le_refl _) bb)
  have Y1 := Lib.hid iw
  clear bb iw
  go_wp2_with fail
  refine (eqIntS_b _ _ _ _ _ _ _ _ _ _ X1.out.toIR Y1.out.toIR).mono ?_
  rintro e w7 ⟨rfl, bb⟩
  have Z7 := Lib.hid bb.size
  replace H1 := Lib.hid (H1.out.grow bb)
  replace W0 := Lib.hid (W0.out.grow bb)
  replace X1 := Lib.hid (X1.out.grow bb)
  replace G0 := Lib.hid (G0.out.grow bb)
  replace Y1 := Lib.hid (Y1.out.grow bb)
  replace BB := Lib.hid (below_then BB.out (Nat.le_refl _) bb)
  clear bb 
  clear Y1
  go_wp2_with fail
  refine (markIntS_any _ _ _ _ zs1 (1 : Int) (by have := HL1.out; have := G0.out.1; omega) (by have := HL1.out; have := G0.out.1; omega) _ X1.out).mono ?_
  rintro e w8 ⟨rfl, iw, oo⟩
  replace H1 := Lib.hid (H1.out.only oo (by have := Z1.out; have := Z2.out; have := Z3.out; have := Z4.out; have := Z5.out; have := Z6.out; have := Z7.out; omega))
  replace W0 := Lib.hid (W0.out.only oo (by have := Z1.out; have := Z2.out; have := Z3.out; have := Z4.out; have := Z5.out; have := Z6.out; have := Z7.out; omega))
  replace G0 := Lib.hid (G0.out.only oo (by have := Z1.out; have := Z2.out; have := Z3.out; have := Z4.out; have := Z5.out; have := Z6.out; have := Z7.out; omega))
  replace BB := Lib.hid (below_only BB.out oo (by have := Z1.out; have := Z2.out; have := Z3.out; have := Z4.out; have := Z5.out; have := Z6.out; have := Z7.out; omega))
  have Z8 := Lib.hid (Nat.le_of_eq oo.size.symm)
  replace X1 := Lib.hid iw
  clear oo iw
  have hn1 : (0 : Int) ≤ (zs1.length : Int) := Int.natCast_nonneg _
  go_wp2_with fail
  refine (eqIntS_b _ _ _ _ _ _ _ _ _ _ G0.out.toIR W0.out).mono ?_
  rintro e w9 ⟨rfl, bb⟩
  have Z9 := Lib.hid bb.size
  replace H1 := Lib.hid (H1.out.grow bb)
  replace W0 := Lib.hid (W0.out.grow bb)
  replace X1 := Lib.hid (X1.out.grow bb)
  replace G0 := Lib.hid (G0.out.grow bb)
  replace BB := Lib.hid (below_then BB.out (Nat.le_refl _) bb)
  clear bb 
  clear X1
  go_wp2_with fail
  refine (markIntS_any _ _ _ _ ((fromM x0 zs1).getD []) 1 (by have := HL1.out; have := G0.out.1; omega) (by have := HL1.out; have := G0.out.1; omega) _ G0.out).mono ?_
  rintro e w10 ⟨rfl, iw, oo⟩
  replace H1 := Lib.hid (H1.out.only oo (by have := Z1.out; have := Z2.out; have := Z3.out; have := Z4.out; have := Z5.out; have := Z6.out; have := Z7.out; have := Z8.out; have := Z9.out; omega))
  replace W0 := Lib.hid (W0.out.only oo (by have := Z1.out; have := Z2.out; have := Z3.out; have := Z4.out; have := Z5.out; have := Z6.out; have := Z7.out; have := Z8.out; have := Z9.out; omega))
  replace BB := Lib.hid (below_only BB.out oo (by have := Z1.out; have := Z2.out; have := Z3.out; have := Z4.out; have := Z5.out; have := Z6.out; have := Z7.out; have := Z8.out; have := Z9.out; omega))
  have Z10 := Lib.hid (Nat.le_of_eq oo.size.symm)
  replace G0 := Lib.hid iw
  clear oo iw
  go_wp2_with fail
  refine (heldIntS_true _ _ _ _ _ 1 (by omega) (by omega) _ G0.out.toIR).mono ?_
  rintro e w11 ⟨rfl, rfl⟩
  go_wp2_with fail
  refine (toIntS_any _ _ _ _ zs1 _ H1.out).mono ?_
  rintro e w11 ⟨rfl, iw, bb⟩
  have Z11 := Lib.hid bb.size
  replace H1 := Lib.hid (H1.out.grow bb)
  replace W0 := Lib.hid (W0.out.grow bb)
  replace G0 := Lib.hid (G0.out.grow bb)
  replace BB := Lib.hid (below_then BB.out (Nat.le_refl _) bb)
  have V1 := Lib.hid iw
  clear bb iw
  go_wp2_with fail
  refine (implRowFrom_any _ _ _ zs1 _ HX0.out V1.out.toAll).mono ?_
  rintro e w12 ⟨Ah, ch, rfl, iw, bb⟩
  have Z12 := Lib.hid bb.size
  replace H1 := Lib.hid (H1.out.grow bb)
  replace W0 := Lib.hid (W0.out.grow bb)
  replace G0 := Lib.hid (G0.out.grow bb)
  replace V1 := Lib.hid (V1.out.grow bb)
  replace BB := Lib.hid (below_then BB.out (Nat.le_refl _) bb)
  have K0 := Lib.hid iw
  clear bb iw
  go_wp2_with fail
  refine (eqIntS_b _ _ _ _ _ _ _ _ _ _ K0.out.toIR W0.out).mono ?_
  rintro e w13 ⟨rfl, bb⟩
  have Z13 := Lib.hid bb.size
  replace H1 := Lib.hid (H1.out.grow bb)
  replace W0 := Lib.hid (W0.out.grow bb)
  replace G0 := Lib.hid (G0.out.grow bb)
  replace V1 := Lib.hid (V1.out.grow bb)
  replace K0 := Lib.hid (K0.out.grow bb)
  replace BB := Lib.hid (below_then BB.out (Nat.le_refl _) bb)
  clear bb 
  go_wp2_with fail
  refine (heldIntS_true _ _ _ _ _ 1 (by omega) (by omega) _ G0.out.toIR).mono ?_
  rintro e w14 ⟨rfl, rfl⟩
  go_wp2_with fail
  go_ret
  exact ⟨rfl, BB.out⟩
end Go.Proofs.Ytdkkmdifdbikaaa
