/-
  The law FnExactSplitFirst walked: for all arguments it returns true, and nothing that lay before has turned. Conditions: none but those of its row.
-/
import Derived.Test.YtkkalkcoablbkaaScE
import Derived.Test.YtkkalkcoablbkaaLaw
namespace Go.Proofs.Ytkkalkcoablbkaa
open Go.RowKit

set_option maxHeartbeats 2000000 in
set_option maxRecDepth 100000 in
theorem lawSplitFirst_any (A0 : Option Addr) (c0 : Nat) (zs0 : List Int) (s1 : ByteArray) (x2 : Int) (w : World) (h0 : IR w 0 w.heap.size A0 zs0) (_hs1 : s1.size ≤ maxLen) (hx2 : I64 x2) :
    Calls Try.prog 5 #[.slice A0 zs0.length c0, .string s1, .int .i64 x2] w fun e w' => e = .returned (.bool true) ∧ Below w.heap.size w w' := by
  have HX2 := Lib.hid hx2; clear hx2
  by_cases hbig0 : (1048576 : Int) < (zs0.length : Int)
  · clear h0
    go_enter Try.func5, Try.ntmps5
    go_wp2
    go_ret
    exact ⟨rfl, Below.refl _ _⟩
  by_cases hbig1 : (1048576 : Int) < (s1.size : Int)
  · clear h0
    go_enter Try.func5, Try.ntmps5
    go_wp2
    go_ret
    exact ⟨rfl, Below.refl _ _⟩
  have H0 := Lib.hid h0; have HL0 := Lib.hid (show (zs0.length : Int) ≤ 1048576 by omega)
  clear h0
  obtain ⟨out, hout⟩ : ∃ o, o = splitFirstM zs0 s1 x2 := ⟨_, rfl⟩
  have HO := Lib.hid hout; clear hout
  have BB := Lib.hid (Below.refl w.heap.size w)
  go_enter Try.func5, Try.ntmps5
  go_wp2_with fail
  refine (toIntS_any _ _ _ _ zs0 _ H0.out).mono ?_
  rintro e w1 ⟨rfl, iw, bb⟩
  have Z1 := Lib.hid bb.size
  replace H0 := Lib.hid (H0.out.grow bb)
  replace BB := Lib.hid (below_then BB.out (Nat.le_refl _) bb)
  have P0 := Lib.hid iw
  clear bb iw
  go_wp2_with fail
  refine (specSplitFirst_any _ _ zs0 s1 x2 HX2.out _ P0.out.toAll).mono ?_
  rintro e w2 ⟨Aw, cw, rfl, iw, bb⟩
  have Z2 := Lib.hid bb.size
  replace H0 := Lib.hid (H0.out.grow bb)
  replace P0 := Lib.hid (P0.out.grow bb)
  replace BB := Lib.hid (below_then BB.out (Nat.le_refl _) bb)
  have W0 := Lib.hid iw.toAll
  clear bb iw
  clear P0
  go_wp2_with fail
  refine (toIntS_any _ _ _ _ zs0 _ H0.out).mono ?_
  rintro e w3 ⟨rfl, iw, bb⟩
  have Z3 := Lib.hid bb.size
  replace H0 := Lib.hid (H0.out.grow bb)
  replace W0 := Lib.hid (W0.out.grow bb)
  replace BB := Lib.hid (below_then BB.out (Nat.le_refl _) bb)
  have X0 := Lib.hid iw
  clear bb iw
  go_wp2_with fail
  refine (implSplitFirst_any _ _ zs0 s1 x2 HX2.out _ X0.out.toAll ⟨Nat.le_refl _, by have := HL0.out; unfold maxLen; omega⟩).mono ?_
  rintro e w4 ⟨Ag, cg, rfl, iw, bb⟩
  have Z4 := Lib.hid bb.size
  replace H0 := Lib.hid (H0.out.grow bb)
  replace W0 := Lib.hid (W0.out.grow bb)
  replace X0 := Lib.hid (X0.out.grow bb)
  replace BB := Lib.hid (below_then BB.out (Nat.le_refl _) bb)
  have G0 := Lib.hid iw
  clear bb iw
  go_wp2_with fail
  refine (eqIntS_b _ _ _ _ _ _ _ _ _ _ G0.out.toIR W0.out).mono ?_
  rintro e w5 ⟨rfl, bb⟩
  have Z5 := Lib.hid bb.size
  replace H0 := Lib.hid (H0.out.grow bb)
  replace W0 := Lib.hid (W0.out.grow bb)
  replace X0 := Lib.hid (X0.out.grow bb)
  replace G0 := Lib.hid (G0.out.grow bb)
  replace BB := Lib.hid (below_then BB.out (Nat.le_refl _) bb)
  clear bb 
  go_wp2_with fail
  refine (toIntS_any _ _ _ _ zs0 _ H0.out).mono ?_
  rintro e w6 ⟨rfl, iw, bb⟩
  have Z6 := Lib.hid bb.size
  replace H0 := Lib.hid (H0.out.grow bb)
  replace W0 := Lib.hid (W0.out.grow bb)
  replace X0 := Lib.hid (X0.out.grow bb)
  replace G0 := Lib.hid (G0.out.grow bb)
  replace BB := Lib.hid (below_then BB.out (Nat.le_refl _) bb)
  have Y0 := Lib.hid iw
  clear bb iw
  go_wp2_with fail
  refine (eqIntS_b _ _ _ _ _ _ _ _ _ _ X0.out.toIR Y0.out.toIR).mono ?_
  rintro e w7 ⟨rfl, bb⟩
  have Z7 := Lib.hid bb.size
  replace H0 := Lib.hid (H0.out.grow bb)
  replace W0 := Lib.hid (W0.out.grow bb)
  replace X0 := Lib.hid (X0.out.grow bb)
  replace G0 := Lib.hid (G0.out.grow bb)
  replace Y0 := Lib.hid (Y0.out.grow bb)
  replace BB := Lib.hid (below_then BB.out (Nat.le_refl _) bb)
  clear bb 
  clear Y0
  go_wp2_with fail
  refine (markIntS_any _ _ _ _ zs0 (1 : Int) (by have := HL0.out; have := G0.out.1; omega) (by have := HL0.out; have := G0.out.1; omega) _ X0.out).mono ?_
  rintro e w8 ⟨rfl, iw, oo⟩
  replace H0 := Lib.hid (H0.out.only oo (by have := Z1.out; have := Z2.out; have := Z3.out; have := Z4.out; have := Z5.out; have := Z6.out; have := Z7.out; omega))
  replace W0 := Lib.hid (W0.out.only oo (by have := Z1.out; have := Z2.out; have := Z3.out; have := Z4.out; have := Z5.out; have := Z6.out; have := Z7.out; omega))
  replace G0 := Lib.hid (G0.out.only oo (by have := Z1.out; have := Z2.out; have := Z3.out; have := Z4.out; have := Z5.out; have := Z6.out; have := Z7.out; omega))
  replace BB := Lib.hid (below_only BB.out oo (by have := Z1.out; have := Z2.out; have := Z3.out; have := Z4.out; have := Z5.out; have := Z6.out; have := Z7.out; omega))
  have Z8 := Lib.hid (Nat.le_of_eq oo.size.symm)
  replace X0 := Lib.hid iw
  clear oo iw
  have hn0 : (0 : Int) ≤ (zs0.length : Int) := Int.natCast_nonneg _
  go_wp2_with fail
  refine (eqIntS_b _ _ _ _ _ _ _ _ _ _ G0.out.toIR W0.out).mono ?_
  rintro e w9 ⟨rfl, bb⟩
  have Z9 := Lib.hid bb.size
  replace H0 := Lib.hid (H0.out.grow bb)
  replace W0 := Lib.hid (W0.out.grow bb)
  replace X0 := Lib.hid (X0.out.grow bb)
  replace G0 := Lib.hid (G0.out.grow bb)
  replace BB := Lib.hid (below_then BB.out (Nat.le_refl _) bb)
  clear bb 
  clear X0
  go_wp2_with fail
  refine (markIntS_any _ _ _ _ ((splitFirstM zs0 s1 x2).getD []) 1 (by have := HL0.out; have := G0.out.1; omega) (by have := HL0.out; have := G0.out.1; omega) _ G0.out).mono ?_
  rintro e w10 ⟨rfl, iw, oo⟩
  replace H0 := Lib.hid (H0.out.only oo (by have := Z1.out; have := Z2.out; have := Z3.out; have := Z4.out; have := Z5.out; have := Z6.out; have := Z7.out; have := Z8.out; have := Z9.out; omega))
  replace W0 := Lib.hid (W0.out.only oo (by have := Z1.out; have := Z2.out; have := Z3.out; have := Z4.out; have := Z5.out; have := Z6.out; have := Z7.out; have := Z8.out; have := Z9.out; omega))
  replace BB := Lib.hid (below_only BB.out oo (by have := Z1.out; have := Z2.out; have := Z3.out; have := Z4.out; have := Z5.out; have := Z6.out; have := Z7.out; have := Z8.out; have := Z9.out; omega))
  have Z10 := Lib.hid (Nat.le_of_eq oo.size.symm)
  replace G0 := Lib.hid iw
  clear oo iw
  go_wp2_with fail
  refine (heldIntS_true _ _ _ _ _ 1 (by omega) (by omega) _ G0.out.toIR).mono ?_
  rintro e w11 ⟨rfl, rfl⟩
  go_wp2_with fail
  refine (toIntS_any _ _ _ _ zs0 _ H0.out).mono ?_
  rintro e w11 ⟨rfl, iw, bb⟩
  have Z11 := Lib.hid bb.size
  replace H0 := Lib.hid (H0.out.grow bb)
  replace W0 := Lib.hid (W0.out.grow bb)
  replace G0 := Lib.hid (G0.out.grow bb)
  replace BB := Lib.hid (below_then BB.out (Nat.le_refl _) bb)
  have V0 := Lib.hid iw
  clear bb iw
  go_wp2_with fail
  refine (implSplitFirst_any _ _ zs0 s1 x2 HX2.out _ V0.out.toAll ⟨Nat.le_refl _, by have := HL0.out; unfold maxLen; omega⟩).mono ?_
  rintro e w12 ⟨Ah, ch, rfl, iw, bb⟩
  have Z12 := Lib.hid bb.size
  replace H0 := Lib.hid (H0.out.grow bb)
  replace W0 := Lib.hid (W0.out.grow bb)
  replace G0 := Lib.hid (G0.out.grow bb)
  replace V0 := Lib.hid (V0.out.grow bb)
  replace BB := Lib.hid (below_then BB.out (Nat.le_refl _) bb)
  have K0 := Lib.hid iw
  clear bb iw
  go_wp2_with fail
  refine (eqIntS_b _ _ _ _ _ _ _ _ _ _ K0.out.toIR W0.out).mono ?_
  rintro e w13 ⟨rfl, bb⟩
  have Z13 := Lib.hid bb.size
  replace H0 := Lib.hid (H0.out.grow bb)
  replace W0 := Lib.hid (W0.out.grow bb)
  replace G0 := Lib.hid (G0.out.grow bb)
  replace V0 := Lib.hid (V0.out.grow bb)
  replace K0 := Lib.hid (K0.out.grow bb)
  replace BB := Lib.hid (below_then BB.out (Nat.le_refl _) bb)
  clear bb 
  go_wp2_with fail
  refine (heldIntS_true _ _ _ _ _ 1 (by omega) (by omega) _ G0.out.toIR).mono ?_
  rintro e w14 ⟨rfl, rfl⟩
  go_wp2_with fail
  go_ret
  exact ⟨rfl, BB.out⟩
end Go.Proofs.Ytkkalkcoablbkaa
