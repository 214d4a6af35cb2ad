/-
  The law FnExactTableOf walked: for all arguments it returns true, and nothing that lay before has turned. Conditions: none but those of its row.
-/
import Derived.Test.YthpngbajhbckpaaTsA
import Derived.Test.YthpngbajhbckpaaTabX
import Derived.Test.YthpngbajhbckpaaTbO
import Derived.Test.YthpngbajhbckpaaLawT
namespace Go.Proofs.Ythpngbajhbckpaa
open Go.RowKit

set_option maxHeartbeats 2000000 in
set_option maxRecDepth 100000 in
theorem lawTableOf_any (x0 : Int) (x1 : Int) (A2 : Option Addr) (c2 : Nat) (zs2 : List Int) (w : World) (hx0 : I64 x0) (hx1 : I64 x1) (h2 : IR w 0 w.heap.size A2 zs2) :
    Calls Try.prog 4 #[.int .i64 x0, .int .i64 x1, .slice A2 zs2.length c2] w fun e w' => e = .returned (.bool true) ∧ Below w.heap.size w w' := by
  have HX0 := Lib.hid hx0; clear hx0
  have HX1 := Lib.hid hx1; clear hx1
  by_cases hbig2 : (1048576 : Int) < (zs2.length : Int)
  · clear h2
    go_enter Try.func4, Try.ntmps4
    go_wp2
    go_ret
    exact ⟨rfl, Below.refl _ _⟩
  have H2 := Lib.hid h2
  have HL2 := Lib.hid (show (zs2.length : Int) ≤ 1048576 by omega)
  clear h2
  obtain ⟨out, hout⟩ : ∃ o, o = ofM x0 x1 zs2 := ⟨_, rfl⟩
  have HO := Lib.hid hout; clear hout
  have BB := Lib.hid (Below.refl w.heap.size w)
  go_enter Try.func4, Try.ntmps4
  go_wp2_with fail
  refine (toIntS_any _ _ _ _ zs2 _ H2.out).mono ?_
  rintro e w1 ⟨rfl, iw, bb⟩
  have Z1 := Lib.hid bb.size
  replace H2 := Lib.hid (H2.out.grow bb)
  replace BB := Lib.hid (below_then BB.out (Nat.le_refl _) bb)
  have P2 := Lib.hid iw
  clear bb iw
  go_wp2_with fail
  refine (specTableOf_r _ _ _ _ zs2 _ P2.out.toAll (Nat.le_refl _) (by have := P2.out.toAll.1; omega)).mono ?_
  rintro e w2 ⟨Aw, cw, rfl, iw, bb⟩
  have Z2 := Lib.hid bb.size
  replace H2 := Lib.hid (H2.out.grow bb)
  replace P2 := Lib.hid (P2.out.grow bb)
  replace BB := Lib.hid (below_then BB.out (Nat.le_refl _) bb)
  have W0 := Lib.hid iw.toAll
  clear bb iw
  clear P2
  go_wp2_with fail
  refine (toIntS_any _ _ _ _ zs2 _ H2.out).mono ?_
  rintro e w3 ⟨rfl, iw, bb⟩
  have Z3 := Lib.hid bb.size
  replace H2 := Lib.hid (H2.out.grow bb)
  replace W0 := Lib.hid (W0.out.grow bb)
  replace BB := Lib.hid (below_then BB.out (Nat.le_refl _) bb)
  have X2 := Lib.hid iw
  clear bb iw
  go_wp2_with fail
  refine (implTableOf_any _ _ _ _ zs2 _ X2.out.toAll).mono ?_
  rintro e w4 ⟨Ag, cg, rfl, -, iw, bb⟩
  have Z4 := Lib.hid bb.size
  replace H2 := Lib.hid (H2.out.grow bb)
  replace W0 := Lib.hid (W0.out.grow bb)
  replace X2 := Lib.hid (X2.out.grow bb)
  replace BB := Lib.hid (below_then BB.out (Nat.le_refl _) bb)
  have G0 := Lib.hid iw
  clear bb iw
  go_wp2_with fail
  refine (eqIntSS_b _ _ _ _ _ _ _ _ _ _ G0.out.toIRR W0.out).mono ?_
  rintro e w5 ⟨rfl, bb⟩
  have Z5 := Lib.hid bb.size
  replace H2 := Lib.hid (H2.out.grow bb)
  replace W0 := Lib.hid (W0.out.grow bb)
  replace X2 := Lib.hid (X2.out.grow bb)
  replace G0 := Lib.hid (G0.out.grow bb)
  replace BB := Lib.hid (below_then BB.out (Nat.le_refl _) bb)
  clear bb 
  go_wp2_with fail
  refine (toIntS_any _ _ _ _ zs2 _ H2.out).mono ?_
  rintro e w6 ⟨rfl, iw, bb⟩
  have Z6 := Lib.hid bb.size
  replace H2 := Lib.hid (H2.out.grow bb)
  replace W0 := Lib.hid (W0.out.grow bb)
  replace X2 := Lib.hid (X2.out.grow bb)
  replace G0 := Lib.hid (G0.out.grow bb)
  replace BB := Lib.hid (below_then BB.out (Nat.le_refl _) bb)
  have Y2 := Lib.hid iw
  clear bb iw
  go_wp2_with fail
  refine (eqIntS_b _ _ _ _ _ _ _ _ _ _ X2.out.toIR Y2.out.toIR).mono ?_
  rintro e w7 ⟨rfl, bb⟩
  have Z7 := Lib.hid bb.size
  replace H2 := Lib.hid (H2.out.grow bb)
  replace W0 := Lib.hid (W0.out.grow bb)
  replace X2 := Lib.hid (X2.out.grow bb)
  replace G0 := Lib.hid (G0.out.grow bb)
  replace Y2 := Lib.hid (Y2.out.grow bb)
  replace BB := Lib.hid (below_then BB.out (Nat.le_refl _) bb)
  clear bb 
  clear Y2
  have HG := Lib.hid (small_of x0 x1 zs2)
  go_wp2_with fail
  refine (markIntS_any _ _ _ _ zs2 (1 : Int) (by have := HL2.out; have := HG.out; omega) (by have := HL2.out; have := HG.out; omega) _ X2.out).mono ?_
  rintro e w8 ⟨rfl, iw, oo⟩
  replace H2 := Lib.hid (H2.out.only oo (by have := Z1.out; have := Z2.out; have := Z3.out; have := Z4.out; have := Z5.out; have := Z6.out; have := Z7.out; omega))
  replace W0 := Lib.hid (W0.out.only oo (by have := Z1.out; have := Z2.out; have := Z3.out; have := Z4.out; have := Z5.out; have := Z6.out; have := Z7.out; omega))
  replace G0 := Lib.hid (G0.out.only oo (by have := Z1.out; have := Z2.out; have := Z3.out; have := Z4.out; have := Z5.out; have := Z6.out; have := Z7.out; omega))
  replace BB := Lib.hid (below_only BB.out oo (by have := Z1.out; have := Z2.out; have := Z3.out; have := Z4.out; have := Z5.out; have := Z6.out; have := Z7.out; omega))
  have Z8 := Lib.hid (Nat.le_of_eq oo.size.symm)
  replace X2 := Lib.hid iw
  clear oo iw
  have hp2 : (0 : Int) ≤ (zs2.length : Int) := Int.natCast_nonneg _
  go_wp2_with fail
  refine (eqIntSS_b _ _ _ _ _ _ _ _ _ _ G0.out.toIRR W0.out).mono ?_
  rintro e w9 ⟨rfl, bb⟩
  have Z9 := Lib.hid bb.size
  replace H2 := Lib.hid (H2.out.grow bb)
  replace W0 := Lib.hid (W0.out.grow bb)
  replace X2 := Lib.hid (X2.out.grow bb)
  replace G0 := Lib.hid (G0.out.grow bb)
  replace BB := Lib.hid (below_then BB.out (Nat.le_refl _) bb)
  clear bb 
  clear X2
  go_wp2_with fail
  refine (markIntSS_any _ _ _ _ ((ofM x0 x1 zs2).getD []) 1 (by have := HL2.out; have := HG.out; omega) (by have := HL2.out; have := HG.out; omega) _ G0.out).mono ?_
  rintro e w10 ⟨rfl, iw, oo⟩
  replace H2 := Lib.hid (H2.out.only oo (by have := Z1.out; have := Z2.out; have := Z3.out; have := Z4.out; have := Z5.out; have := Z6.out; have := Z7.out; have := Z8.out; have := Z9.out; omega))
  replace W0 := Lib.hid (W0.out.only oo (by have := Z1.out; have := Z2.out; have := Z3.out; have := Z4.out; have := Z5.out; have := Z6.out; have := Z7.out; have := Z8.out; have := Z9.out; omega))
  replace BB := Lib.hid (below_only BB.out oo (by have := Z1.out; have := Z2.out; have := Z3.out; have := Z4.out; have := Z5.out; have := Z6.out; have := Z7.out; have := Z8.out; have := Z9.out; omega))
  have Z10 := Lib.hid (Nat.le_of_eq oo.size.symm)
  replace G0 := Lib.hid iw
  clear oo iw
  go_wp2_with fail
  refine (heldIntSS_true _ _ _ _ ((ofM x0 x1 zs2).getD []) 1 (by omega) (by have := HG.out; omega) _ G0.out.toIRR).mono ?_
  rintro e w11 ⟨rfl, rfl⟩
  go_wp2_with fail
  refine (toIntS_any _ _ _ _ zs2 _ H2.out).mono ?_
  rintro e w11 ⟨rfl, iw, bb⟩
  have Z11 := Lib.hid bb.size
  replace H2 := Lib.hid (H2.out.grow bb)
  replace W0 := Lib.hid (W0.out.grow bb)
  replace G0 := Lib.hid (G0.out.grow bb)
  replace BB := Lib.hid (below_then BB.out (Nat.le_refl _) bb)
  have V2 := Lib.hid iw
  clear bb iw
  go_wp2_with fail
  refine (implTableOf_any _ _ _ _ zs2 _ V2.out.toAll).mono ?_
  rintro e w12 ⟨Ah, ch, rfl, -, iw, bb⟩
  have Z12 := Lib.hid bb.size
  replace H2 := Lib.hid (H2.out.grow bb)
  replace W0 := Lib.hid (W0.out.grow bb)
  replace G0 := Lib.hid (G0.out.grow bb)
  replace V2 := Lib.hid (V2.out.grow bb)
  replace BB := Lib.hid (below_then BB.out (Nat.le_refl _) bb)
  have K0 := Lib.hid iw
  clear bb iw
  go_wp2_with fail
  refine (eqIntSS_b _ _ _ _ _ _ _ _ _ _ K0.out.toIRR W0.out).mono ?_
  rintro e w13 ⟨rfl, bb⟩
  have Z13 := Lib.hid bb.size
  replace H2 := Lib.hid (H2.out.grow bb)
  replace W0 := Lib.hid (W0.out.grow bb)
  replace G0 := Lib.hid (G0.out.grow bb)
  replace V2 := Lib.hid (V2.out.grow bb)
  replace K0 := Lib.hid (K0.out.grow bb)
  replace BB := Lib.hid (below_then BB.out (Nat.le_refl _) bb)
  clear bb 
  go_wp2_with fail
  refine (heldIntSS_true _ _ _ _ ((ofM x0 x1 zs2).getD []) 1 (by omega) (by have := HG.out; omega) _ G0.out.toIRR).mono ?_
  rintro e w14 ⟨rfl, rfl⟩
  go_wp2_with fail
  go_ret
  exact ⟨rfl, BB.out⟩
end Go.Proofs.Ythpngbajhbckpaa
