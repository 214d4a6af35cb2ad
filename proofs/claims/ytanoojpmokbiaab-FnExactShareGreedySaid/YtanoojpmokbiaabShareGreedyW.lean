/-
  The law FnExactShareGreedy walked: for all arguments it returns true, and nothing that lay before has turned. Conditions: none but those of its row.
-/
import Derived.Test.YtanoojpmokbiaabGrE
import Derived.Test.YtanoojpmokbiaabLawT
namespace Go.Proofs.Ytanoojpmokbiaab
open Go.RowKit

set_option maxHeartbeats 2000000 in
set_option maxRecDepth 100000 in
theorem lawShareGreedy_any (A0 : Option Addr) (c0 : Nat) (t0 : List (List Int)) (x1 : Int) (w : World) (h0 : IRR w 0 w.heap.size A0 t0) (hx1 : I64 x1) :
    Calls Try.prog 3 #[.slice A0 t0.length c0, .int .i64 x1] w fun e w' => e = .returned (.bool true) ∧ Below w.heap.size w w' := by
  have HX1 := Lib.hid hx1; clear hx1
  have H0 := Lib.hid h0
  clear h0
  obtain ⟨out, hout⟩ : ∃ o, o = greedyM t0 x1 := ⟨_, rfl⟩
  have HO := Lib.hid hout; clear hout
  have BB := Lib.hid (Below.refl w.heap.size w)
  go_enter Try.func3, Try.ntmps3
  go_wp2_with fail
  refine (szIntSS_any _ _ _ _ t0 (1048576 : Int) (by omega) (by omega) _ H0.out).mono ?_
  rintro e w' ⟨r, rfl, rfl, hr⟩
  rcases hr with rfl | ⟨hr0, hr1⟩
  · go_wp2
    go_ret
    exact ⟨rfl, BB.out⟩
  subst hr1
  have HW0 := Lib.hid hr0
  have hn0 : ¬ (1048576 - ((t0.length : Int) + (totN t0 t0.length : Int)) : Int) < 0 := by omega
  go_wp2_with fail
  refine (toIntSS_any _ _ _ _ t0 (by have := HW0.out; omega) _ H0.out).mono ?_
  rintro e w1 ⟨AqP0, cqP0, rfl, -, iw, bb⟩
  have Z1 := Lib.hid bb.size
  replace H0 := Lib.hid (H0.out.grow bb)
  replace BB := Lib.hid (below_then BB.out (Nat.le_refl _) bb)
  have P0 := Lib.hid iw
  clear bb iw
  go_wp2_with fail
  refine (specShareGreedy_any _ _ _ _ t0 x1 _ P0.out.toAll).mono ?_
  rintro e w2 ⟨Aw, cw, rfl, iw, bb⟩
  have Z2 := Lib.hid bb.size
  replace H0 := Lib.hid (H0.out.grow bb)
  replace P0 := Lib.hid (P0.out.grow bb)
  replace BB := Lib.hid (below_then BB.out (Nat.le_refl _) bb)
  have W0 := Lib.hid iw.toAll
  clear bb iw
  clear P0
  go_wp2_with fail
  refine (toIntSS_any _ _ _ _ t0 (by have := HW0.out; omega) _ H0.out).mono ?_
  rintro e w3 ⟨AqX0, cqX0, rfl, -, iw, bb⟩
  have Z3 := Lib.hid bb.size
  replace H0 := Lib.hid (H0.out.grow bb)
  replace W0 := Lib.hid (W0.out.grow bb)
  replace BB := Lib.hid (below_then BB.out (Nat.le_refl _) bb)
  have X0 := Lib.hid iw
  clear bb iw
  go_wp2_with fail
  refine (implShareGreedy_any _ _ t0 x1 _ X0.out.toAll).mono ?_
  rintro e w4 ⟨Ag, cg, rfl, iw, bb⟩
  have Z4 := Lib.hid bb.size
  replace H0 := Lib.hid (H0.out.grow bb)
  replace W0 := Lib.hid (W0.out.grow bb)
  replace X0 := Lib.hid (X0.out.grow bb)
  replace BB := Lib.hid (below_then BB.out (Nat.le_refl _) bb)
  have G0 := Lib.hid iw
  clear bb iw
  go_wp2_with fail
  refine (eqIntS_b _ _ _ _ _ _ _ _ _ _ G0.out.toIR W0.out).mono ?_
  rintro e w5 ⟨rfl, bb⟩
  have Z5 := Lib.hid bb.size
  replace H0 := Lib.hid (H0.out.grow bb)
  replace W0 := Lib.hid (W0.out.grow bb)
  replace X0 := Lib.hid (X0.out.grow bb)
  replace G0 := Lib.hid (G0.out.grow bb)
  replace BB := Lib.hid (below_then BB.out (Nat.le_refl _) bb)
  clear bb 
  go_wp2_with fail
  refine (toIntSS_any _ _ _ _ t0 (by have := HW0.out; omega) _ H0.out).mono ?_
  rintro e w6 ⟨AqY0, cqY0, rfl, -, iw, bb⟩
  have Z6 := Lib.hid bb.size
  replace H0 := Lib.hid (H0.out.grow bb)
  replace W0 := Lib.hid (W0.out.grow bb)
  replace X0 := Lib.hid (X0.out.grow bb)
  replace G0 := Lib.hid (G0.out.grow bb)
  replace BB := Lib.hid (below_then BB.out (Nat.le_refl _) bb)
  have Y0 := Lib.hid iw
  clear bb iw
  go_wp2_with fail
  refine (eqIntSS_b _ _ _ _ _ _ _ _ _ _ X0.out.toIRR Y0.out.toIRR).mono ?_
  rintro e w7 ⟨rfl, bb⟩
  have Z7 := Lib.hid bb.size
  replace H0 := Lib.hid (H0.out.grow bb)
  replace W0 := Lib.hid (W0.out.grow bb)
  replace X0 := Lib.hid (X0.out.grow bb)
  replace G0 := Lib.hid (G0.out.grow bb)
  replace Y0 := Lib.hid (Y0.out.grow bb)
  replace BB := Lib.hid (below_then BB.out (Nat.le_refl _) bb)
  clear bb 
  clear Y0
  have HG := Lib.hid G0.out.1
  go_wp2_with fail
  refine (markIntSS_any _ _ _ _ t0 (1 : Int) (by have := HW0.out; have := HG.out; omega) (by have := HW0.out; have := HG.out; omega) _ X0.out).mono ?_
  rintro e w8 ⟨rfl, iw, oo⟩
  replace H0 := Lib.hid (H0.out.only oo (by have := Z1.out; have := Z2.out; have := Z3.out; have := Z4.out; have := Z5.out; have := Z6.out; have := Z7.out; omega))
  replace W0 := Lib.hid (W0.out.only oo (by have := Z1.out; have := Z2.out; have := Z3.out; have := Z4.out; have := Z5.out; have := Z6.out; have := Z7.out; omega))
  replace G0 := Lib.hid (G0.out.only oo (by have := Z1.out; have := Z2.out; have := Z3.out; have := Z4.out; have := Z5.out; have := Z6.out; have := Z7.out; omega))
  replace BB := Lib.hid (below_only BB.out oo (by have := Z1.out; have := Z2.out; have := Z3.out; have := Z4.out; have := Z5.out; have := Z6.out; have := Z7.out; omega))
  have Z8 := Lib.hid (Nat.le_of_eq oo.size.symm)
  replace X0 := Lib.hid iw
  clear oo iw
  have hp0 : (0 : Int) ≤ (totN t0 t0.length : Int) := Int.natCast_nonneg _
  go_wp2_with fail
  refine (eqIntS_b _ _ _ _ _ _ _ _ _ _ G0.out.toIR W0.out).mono ?_
  rintro e w9 ⟨rfl, bb⟩
  have Z9 := Lib.hid bb.size
  replace H0 := Lib.hid (H0.out.grow bb)
  replace W0 := Lib.hid (W0.out.grow bb)
  replace X0 := Lib.hid (X0.out.grow bb)
  replace G0 := Lib.hid (G0.out.grow bb)
  replace BB := Lib.hid (below_then BB.out (Nat.le_refl _) bb)
  clear bb 
  clear X0
  go_wp2_with fail
  refine (markIntS_any _ _ _ _ ((greedyM t0 x1).getD []) 1 (by have := HW0.out; have := HG.out; omega) (by have := HW0.out; have := HG.out; omega) _ G0.out).mono ?_
  rintro e w10 ⟨rfl, iw, oo⟩
  replace H0 := Lib.hid (H0.out.only oo (by have := Z1.out; have := Z2.out; have := Z3.out; have := Z4.out; have := Z5.out; have := Z6.out; have := Z7.out; have := Z8.out; have := Z9.out; omega))
  replace W0 := Lib.hid (W0.out.only oo (by have := Z1.out; have := Z2.out; have := Z3.out; have := Z4.out; have := Z5.out; have := Z6.out; have := Z7.out; have := Z8.out; have := Z9.out; omega))
  replace BB := Lib.hid (below_only BB.out oo (by have := Z1.out; have := Z2.out; have := Z3.out; have := Z4.out; have := Z5.out; have := Z6.out; have := Z7.out; have := Z8.out; have := Z9.out; omega))
  have Z10 := Lib.hid (Nat.le_of_eq oo.size.symm)
  replace G0 := Lib.hid iw
  clear oo iw
  go_wp2_with fail
  refine (heldIntS_true _ _ _ _ _ 1 (by omega) (by omega) _ G0.out.toIR).mono ?_
  rintro e w11 ⟨rfl, rfl⟩
  go_wp2_with fail
  refine (toIntSS_any _ _ _ _ t0 (by have := HW0.out; omega) _ H0.out).mono ?_
  rintro e w11 ⟨AqV0, cqV0, rfl, -, iw, bb⟩
  have Z11 := Lib.hid bb.size
  replace H0 := Lib.hid (H0.out.grow bb)
  replace W0 := Lib.hid (W0.out.grow bb)
  replace G0 := Lib.hid (G0.out.grow bb)
  replace BB := Lib.hid (below_then BB.out (Nat.le_refl _) bb)
  have V0 := Lib.hid iw
  clear bb iw
  go_wp2_with fail
  refine (implShareGreedy_any _ _ t0 x1 _ V0.out.toAll).mono ?_
  rintro e w12 ⟨Ah, ch, rfl, iw, bb⟩
  have Z12 := Lib.hid bb.size
  replace H0 := Lib.hid (H0.out.grow bb)
  replace W0 := Lib.hid (W0.out.grow bb)
  replace G0 := Lib.hid (G0.out.grow bb)
  replace V0 := Lib.hid (V0.out.grow bb)
  replace BB := Lib.hid (below_then BB.out (Nat.le_refl _) bb)
  have K0 := Lib.hid iw
  clear bb iw
  go_wp2_with fail
  refine (eqIntS_b _ _ _ _ _ _ _ _ _ _ K0.out.toIR W0.out).mono ?_
  rintro e w13 ⟨rfl, bb⟩
  have Z13 := Lib.hid bb.size
  replace H0 := Lib.hid (H0.out.grow bb)
  replace W0 := Lib.hid (W0.out.grow bb)
  replace G0 := Lib.hid (G0.out.grow bb)
  replace V0 := Lib.hid (V0.out.grow bb)
  replace K0 := Lib.hid (K0.out.grow bb)
  replace BB := Lib.hid (below_then BB.out (Nat.le_refl _) bb)
  clear bb 
  go_wp2_with fail
  refine (heldIntS_true _ _ _ _ _ 1 (by omega) (by omega) _ G0.out.toIR).mono ?_
  rintro e w14 ⟨rfl, rfl⟩
  go_wp2_with fail
  go_ret
  exact ⟨rfl, BB.out⟩
end Go.Proofs.Ytanoojpmokbiaab
