/-
  The law FnExactTableMerge walked: for all arguments it returns true, and nothing that lay before has turned. Conditions: none but those of its row.
-/
import Derived.Test.YthpngbajhbckpaaTsA
import Derived.Test.YthpngbajhbckpaaTabX
import Derived.Test.YthpngbajhbckpaaTbG
import Derived.Test.YthpngbajhbckpaaLawT
namespace Go.Proofs.Ythpngbajhbckpaa
open Go.RowKit

set_option maxHeartbeats 2000000 in
set_option maxRecDepth 100000 in
theorem lawTableMerge_any (A0 : Option Addr) (c0 : Nat) (t0 : List (List Int)) (A1 : Option Addr) (c1 : Nat) (t1 : List (List Int)) (w : World) (h0 : IRR w 0 w.heap.size A0 t0) (h1 : IRR w 0 w.heap.size A1 t1) :
    Calls Try.prog 7 #[.slice A0 t0.length c0, .slice A1 t1.length c1] w fun e w' => e = .returned (.bool true) ∧ Below w.heap.size w w' := by
  have H0 := Lib.hid h0
  have H1 := Lib.hid h1
  clear h0 h1
  obtain ⟨out, hout⟩ : ∃ o, o = mergeTM t0 t1 := ⟨_, rfl⟩
  have HO := Lib.hid hout; clear hout
  have BB := Lib.hid (Below.refl w.heap.size w)
  go_enter Try.func7, Try.ntmps7
  go_wp2_with fail
  refine (szIntSS_any _ _ _ _ t0 (1048576 : Int) (by omega) (by omega) _ H0.out).mono ?_
  rintro e w' ⟨r, rfl, rfl, hr⟩
  rcases hr with rfl | ⟨hr0, hr1⟩
  · go_wp2
    go_ret
    exact ⟨rfl, BB.out⟩
  subst hr1
  have HW0 := Lib.hid hr0
  have hn0 : ¬ (1048576 - ((t0.length : Int) + (totN t0 t0.length : Int)) : Int) < 0 := by omega
  go_wp2_with fail
  refine (szIntSS_any _ _ _ _ t1 (1048576 - ((t0.length : Int) + (totN t0 t0.length : Int)) : Int) (by have := HW0.out; omega) (by have := HW0.out; omega) _ H1.out).mono ?_
  rintro e w' ⟨r, rfl, rfl, hr⟩
  rcases hr with rfl | ⟨hr0, hr1⟩
  · go_wp2
    go_ret
    exact ⟨rfl, BB.out⟩
  subst hr1
  have HW1 := Lib.hid hr0
  have hn1 : ¬ (1048576 - ((t0.length : Int) + (totN t0 t0.length : Int)) - ((t1.length : Int) + (totN t1 t1.length : Int)) : Int) < 0 := by omega
  go_wp2_with fail
  refine (toIntSS_any _ _ _ _ t0 (by have := HW0.out; omega) _ H0.out).mono ?_
  rintro e w1 ⟨AqP0, cqP0, rfl, -, iw, bb⟩
  have Z1 := Lib.hid bb.size
  replace H0 := Lib.hid (H0.out.grow bb)
  replace H1 := Lib.hid (H1.out.grow bb)
  replace BB := Lib.hid (below_then BB.out (Nat.le_refl _) bb)
  have P0 := Lib.hid iw
  clear bb iw
  go_wp2_with fail
  refine (toIntSS_any _ _ _ _ t1 (by have := HW1.out; omega) _ H1.out).mono ?_
  rintro e w2 ⟨AqP1, cqP1, rfl, -, iw, bb⟩
  have Z2 := Lib.hid bb.size
  replace H0 := Lib.hid (H0.out.grow bb)
  replace H1 := Lib.hid (H1.out.grow bb)
  replace P0 := Lib.hid (P0.out.grow bb)
  replace BB := Lib.hid (below_then BB.out (Nat.le_refl _) bb)
  have P1 := Lib.hid iw
  clear bb iw
  go_wp2_with fail
  refine (specTableMerge_r _ _ t0 _ _ t1 _ P0.out.toAll P1.out.toAll).mono ?_
  rintro e w3 ⟨Aw, cw, rfl, iw, bb⟩
  have Z3 := Lib.hid bb.size
  replace H0 := Lib.hid (H0.out.grow bb)
  replace H1 := Lib.hid (H1.out.grow bb)
  replace P0 := Lib.hid (P0.out.grow bb)
  replace P1 := Lib.hid (P1.out.grow bb)
  replace BB := Lib.hid (below_then BB.out (Nat.le_refl _) bb)
  have W0 := Lib.hid iw.toAll
  clear bb iw
  clear P0
  clear P1
  go_wp2_with fail
  refine (toIntSS_any _ _ _ _ t0 (by have := HW0.out; omega) _ H0.out).mono ?_
  rintro e w4 ⟨AqX0, cqX0, rfl, -, iw, bb⟩
  have Z4 := Lib.hid bb.size
  replace H0 := Lib.hid (H0.out.grow bb)
  replace H1 := Lib.hid (H1.out.grow bb)
  replace W0 := Lib.hid (W0.out.grow bb)
  replace BB := Lib.hid (below_then BB.out (Nat.le_refl _) bb)
  have X0 := Lib.hid iw
  clear bb iw
  go_wp2_with fail
  refine (toIntSS_any _ _ _ _ t1 (by have := HW1.out; omega) _ H1.out).mono ?_
  rintro e w5 ⟨AqX1, cqX1, rfl, -, iw, bb⟩
  have Z5 := Lib.hid bb.size
  replace H0 := Lib.hid (H0.out.grow bb)
  replace H1 := Lib.hid (H1.out.grow bb)
  replace W0 := Lib.hid (W0.out.grow bb)
  replace X0 := Lib.hid (X0.out.grow bb)
  replace BB := Lib.hid (below_then BB.out (Nat.le_refl _) bb)
  have X1 := Lib.hid iw
  clear bb iw
  go_wp2_with fail
  refine (implTableMerge_any _ _ t0 _ _ t1 _ X0.out.toAll X1.out.toAll).mono ?_
  rintro e w6 ⟨Ag, cg, rfl, -, iw, bb⟩
  have Z6 := Lib.hid bb.size
  replace H0 := Lib.hid (H0.out.grow bb)
  replace H1 := Lib.hid (H1.out.grow bb)
  replace W0 := Lib.hid (W0.out.grow bb)
  replace X0 := Lib.hid (X0.out.grow bb)
  replace X1 := Lib.hid (X1.out.grow bb)
  replace BB := Lib.hid (below_then BB.out (Nat.le_refl _) bb)
  have G0 := Lib.hid iw
  clear bb iw
  go_wp2_with fail
  refine (eqIntSS_b _ _ _ _ _ _ _ _ _ _ G0.out.toIRR W0.out).mono ?_
  rintro e w7 ⟨rfl, bb⟩
  have Z7 := Lib.hid bb.size
  replace H0 := Lib.hid (H0.out.grow bb)
  replace H1 := Lib.hid (H1.out.grow bb)
  replace W0 := Lib.hid (W0.out.grow bb)
  replace X0 := Lib.hid (X0.out.grow bb)
  replace X1 := Lib.hid (X1.out.grow bb)
  replace G0 := Lib.hid (G0.out.grow bb)
  replace BB := Lib.hid (below_then BB.out (Nat.le_refl _) bb)
  clear bb 
  go_wp2_with fail
  refine (toIntSS_any _ _ _ _ t0 (by have := HW0.out; omega) _ H0.out).mono ?_
  rintro e w8 ⟨AqY0, cqY0, rfl, -, iw, bb⟩
  have Z8 := Lib.hid bb.size
  replace H0 := Lib.hid (H0.out.grow bb)
  replace H1 := Lib.hid (H1.out.grow bb)
  replace W0 := Lib.hid (W0.out.grow bb)
  replace X0 := Lib.hid (X0.out.grow bb)
  replace X1 := Lib.hid (X1.out.grow bb)
  replace G0 := Lib.hid (G0.out.grow bb)
  replace BB := Lib.hid (below_then BB.out (Nat.le_refl _) bb)
  have Y0 := Lib.hid iw
  clear bb iw
  go_wp2_with fail
  refine (eqIntSS_b _ _ _ _ _ _ _ _ _ _ X0.out.toIRR Y0.out.toIRR).mono ?_
  rintro e w9 ⟨rfl, bb⟩
  have Z9 := Lib.hid bb.size
  replace H0 := Lib.hid (H0.out.grow bb)
  replace H1 := Lib.hid (H1.out.grow bb)
  replace W0 := Lib.hid (W0.out.grow bb)
  replace X0 := Lib.hid (X0.out.grow bb)
  replace X1 := Lib.hid (X1.out.grow bb)
  replace G0 := Lib.hid (G0.out.grow bb)
  replace Y0 := Lib.hid (Y0.out.grow bb)
  replace BB := Lib.hid (below_then BB.out (Nat.le_refl _) bb)
  clear bb 
  clear Y0
  go_wp2_with fail
  refine (toIntSS_any _ _ _ _ t1 (by have := HW1.out; omega) _ H1.out).mono ?_
  rintro e w10 ⟨AqY1, cqY1, rfl, -, iw, bb⟩
  have Z10 := Lib.hid bb.size
  replace H0 := Lib.hid (H0.out.grow bb)
  replace H1 := Lib.hid (H1.out.grow bb)
  replace W0 := Lib.hid (W0.out.grow bb)
  replace X0 := Lib.hid (X0.out.grow bb)
  replace X1 := Lib.hid (X1.out.grow bb)
  replace G0 := Lib.hid (G0.out.grow bb)
  replace BB := Lib.hid (below_then BB.out (Nat.le_refl _) bb)
  have Y1 := Lib.hid iw
  clear bb iw
  go_wp2_with fail
  refine (eqIntSS_b _ _ _ _ _ _ _ _ _ _ X1.out.toIRR Y1.out.toIRR).mono ?_
  rintro e w11 ⟨rfl, bb⟩
  have Z11 := Lib.hid bb.size
  replace H0 := Lib.hid (H0.out.grow bb)
  replace H1 := Lib.hid (H1.out.grow bb)
  replace W0 := Lib.hid (W0.out.grow bb)
  replace X0 := Lib.hid (X0.out.grow bb)
  replace X1 := Lib.hid (X1.out.grow bb)
  replace G0 := Lib.hid (G0.out.grow bb)
  replace Y1 := Lib.hid (Y1.out.grow bb)
  replace BB := Lib.hid (below_then BB.out (Nat.le_refl _) bb)
  clear bb 
  clear Y1
  have HG := Lib.hid (small_merge t0 t1)
  go_wp2_with fail
  refine (markIntSS_any _ _ _ _ t0 (1 : Int) (by have := HW0.out; have := HW1.out; have := HG.out; omega) (by have := HW0.out; have := HW1.out; have := HG.out; omega) _ X0.out).mono ?_
  rintro e w12 ⟨rfl, iw, oo⟩
  replace H0 := Lib.hid (H0.out.only oo (by have := Z1.out; have := Z2.out; have := Z3.out; have := Z4.out; have := Z5.out; have := Z6.out; have := Z7.out; have := Z8.out; have := Z9.out; have := Z10.out; have := Z11.out; omega))
  replace H1 := Lib.hid (H1.out.only oo (by have := Z1.out; have := Z2.out; have := Z3.out; have := Z4.out; have := Z5.out; have := Z6.out; have := Z7.out; have := Z8.out; have := Z9.out; have := Z10.out; have := Z11.out; omega))
  replace W0 := Lib.hid (W0.out.only oo (by have := Z1.out; have := Z2.out; have := Z3.out; have := Z4.out; have := Z5.out; have := Z6.out; have := Z7.out; have := Z8.out; have := Z9.out; have := Z10.out; have := Z11.out; omega))
  replace X1 := Lib.hid (X1.out.only oo (by have := Z1.out; have := Z2.out; have := Z3.out; have := Z4.out; have := Z5.out; have := Z6.out; have := Z7.out; have := Z8.out; have := Z9.out; have := Z10.out; have := Z11.out; omega))
  replace G0 := Lib.hid (G0.out.only oo (by have := Z1.out; have := Z2.out; have := Z3.out; have := Z4.out; have := Z5.out; have := Z6.out; have := Z7.out; have := Z8.out; have := Z9.out; have := Z10.out; have := Z11.out; omega))
  replace BB := Lib.hid (below_only BB.out oo (by have := Z1.out; have := Z2.out; have := Z3.out; have := Z4.out; have := Z5.out; have := Z6.out; have := Z7.out; have := Z8.out; have := Z9.out; have := Z10.out; have := Z11.out; omega))
  have Z12 := Lib.hid (Nat.le_of_eq oo.size.symm)
  replace X0 := Lib.hid iw
  clear oo iw
  go_wp2_with fail
  refine (markIntSS_any _ _ _ _ t1 ((1 + (totN t0 t0.length : Int)) : Int) (by have := HW0.out; have := HW1.out; have := HG.out; omega) (by have := HW0.out; have := HW1.out; have := HG.out; omega) _ X1.out).mono ?_
  rintro e w13 ⟨rfl, iw, oo⟩
  replace H0 := Lib.hid (H0.out.only oo (by have := Z1.out; have := Z2.out; have := Z3.out; have := Z4.out; have := Z5.out; have := Z6.out; have := Z7.out; have := Z8.out; have := Z9.out; have := Z10.out; have := Z11.out; have := Z12.out; omega))
  replace H1 := Lib.hid (H1.out.only oo (by have := Z1.out; have := Z2.out; have := Z3.out; have := Z4.out; have := Z5.out; have := Z6.out; have := Z7.out; have := Z8.out; have := Z9.out; have := Z10.out; have := Z11.out; have := Z12.out; omega))
  replace W0 := Lib.hid (W0.out.only oo (by have := Z1.out; have := Z2.out; have := Z3.out; have := Z4.out; have := Z5.out; have := Z6.out; have := Z7.out; have := Z8.out; have := Z9.out; have := Z10.out; have := Z11.out; have := Z12.out; omega))
  replace X0 := Lib.hid (X0.out.only oo (by have := Z1.out; have := Z2.out; have := Z3.out; have := Z4.out; have := Z5.out; have := Z6.out; have := Z7.out; have := Z8.out; have := Z9.out; have := Z10.out; have := Z11.out; have := Z12.out; omega))
  replace G0 := Lib.hid (G0.out.only oo (by have := Z1.out; have := Z2.out; have := Z3.out; have := Z4.out; have := Z5.out; have := Z6.out; have := Z7.out; have := Z8.out; have := Z9.out; have := Z10.out; have := Z11.out; have := Z12.out; omega))
  replace BB := Lib.hid (below_only BB.out oo (by have := Z1.out; have := Z2.out; have := Z3.out; have := Z4.out; have := Z5.out; have := Z6.out; have := Z7.out; have := Z8.out; have := Z9.out; have := Z10.out; have := Z11.out; have := Z12.out; omega))
  have Z13 := Lib.hid (Nat.le_of_eq oo.size.symm)
  replace X1 := Lib.hid iw
  clear oo iw
  have hp0 : (0 : Int) ≤ (totN t0 t0.length : Int) := Int.natCast_nonneg _
  have hp1 : (0 : Int) ≤ (totN t1 t1.length : Int) := Int.natCast_nonneg _
  go_wp2_with fail
  refine (eqIntSS_b _ _ _ _ _ _ _ _ _ _ G0.out.toIRR W0.out).mono ?_
  rintro e w14 ⟨rfl, bb⟩
  have Z14 := Lib.hid bb.size
  replace H0 := Lib.hid (H0.out.grow bb)
  replace H1 := Lib.hid (H1.out.grow bb)
  replace W0 := Lib.hid (W0.out.grow bb)
  replace X0 := Lib.hid (X0.out.grow bb)
  replace X1 := Lib.hid (X1.out.grow bb)
  replace G0 := Lib.hid (G0.out.grow bb)
  replace BB := Lib.hid (below_then BB.out (Nat.le_refl _) bb)
  clear bb 
  clear X0
  clear X1
  go_wp2_with fail
  refine (markIntSS_any _ _ _ _ ((mergeTM t0 t1).getD []) 1 (by have := HW0.out; have := HW1.out; have := HG.out; omega) (by have := HW0.out; have := HW1.out; have := HG.out; omega) _ G0.out).mono ?_
  rintro e w15 ⟨rfl, iw, oo⟩
  replace H0 := Lib.hid (H0.out.only oo (by have := Z1.out; have := Z2.out; have := Z3.out; have := Z4.out; have := Z5.out; have := Z6.out; have := Z7.out; have := Z8.out; have := Z9.out; have := Z10.out; have := Z11.out; have := Z12.out; have := Z13.out; have := Z14.out; omega))
  replace H1 := Lib.hid (H1.out.only oo (by have := Z1.out; have := Z2.out; have := Z3.out; have := Z4.out; have := Z5.out; have := Z6.out; have := Z7.out; have := Z8.out; have := Z9.out; have := Z10.out; have := Z11.out; have := Z12.out; have := Z13.out; have := Z14.out; omega))
  replace W0 := Lib.hid (W0.out.only oo (by have := Z1.out; have := Z2.out; have := Z3.out; have := Z4.out; have := Z5.out; have := Z6.out; have := Z7.out; have := Z8.out; have := Z9.out; have := Z10.out; have := Z11.out; have := Z12.out; have := Z13.out; have := Z14.out; omega))
  replace BB := Lib.hid (below_only BB.out oo (by have := Z1.out; have := Z2.out; have := Z3.out; have := Z4.out; have := Z5.out; have := Z6.out; have := Z7.out; have := Z8.out; have := Z9.out; have := Z10.out; have := Z11.out; have := Z12.out; have := Z13.out; have := Z14.out; omega))
  have Z15 := Lib.hid (Nat.le_of_eq oo.size.symm)
  replace G0 := Lib.hid iw
  clear oo iw
  go_wp2_with fail
  refine (heldIntSS_true _ _ _ _ ((mergeTM t0 t1).getD []) 1 (by omega) (by have := HG.out; omega) _ G0.out.toIRR).mono ?_
  rintro e w16 ⟨rfl, rfl⟩
  go_wp2_with fail
  refine (toIntSS_any _ _ _ _ t0 (by have := HW0.out; omega) _ H0.out).mono ?_
  rintro e w16 ⟨AqV0, cqV0, rfl, -, iw, bb⟩
  have Z16 := Lib.hid bb.size
  replace H0 := Lib.hid (H0.out.grow bb)
  replace H1 := Lib.hid (H1.out.grow bb)
  replace W0 := Lib.hid (W0.out.grow bb)
  replace G0 := Lib.hid (G0.out.grow bb)
  replace BB := Lib.hid (below_then BB.out (Nat.le_refl _) bb)
  have V0 := Lib.hid iw
  clear bb iw
  go_wp2_with fail
  refine (toIntSS_any _ _ _ _ t1 (by have := HW1.out; omega) _ H1.out).mono ?_
  rintro e w17 ⟨AqV1, cqV1, rfl, -, iw, bb⟩
  have Z17 := Lib.hid bb.size
  replace H0 := Lib.hid (H0.out.grow bb)
  replace H1 := Lib.hid (H1.out.grow bb)
  replace W0 := Lib.hid (W0.out.grow bb)
  replace G0 := Lib.hid (G0.out.grow bb)
  replace V0 := Lib.hid (V0.out.grow bb)
  replace BB := Lib.hid (below_then BB.out (Nat.le_refl _) bb)
  have V1 := Lib.hid iw
  clear bb iw
  go_wp2_with fail
  refine (implTableMerge_any _ _ t0 _ _ t1 _ V0.out.toAll V1.out.toAll).mono ?_
  rintro e w18 ⟨Ah, ch, rfl, -, iw, bb⟩
  have Z18 := Lib.hid bb.size
  replace H0 := Lib.hid (H0.out.grow bb)
  replace H1 := Lib.hid (H1.out.grow bb)
  replace W0 := Lib.hid (W0.out.grow bb)
  replace G0 := Lib.hid (G0.out.grow bb)
  replace V0 := Lib.hid (V0.out.grow bb)
  replace V1 := Lib.hid (V1.out.grow bb)
  replace BB := Lib.hid (below_then BB.out (Nat.le_refl _) bb)
  have K0 := Lib.hid iw
  clear bb iw
  go_wp2_with fail
  refine (eqIntSS_b _ _ _ _ _ _ _ _ _ _ K0.out.toIRR W0.out).mono ?_
  rintro e w19 ⟨rfl, bb⟩
  have Z19 := Lib.hid bb.size
  replace H0 := Lib.hid (H0.out.grow bb)
  replace H1 := Lib.hid (H1.out.grow bb)
  replace W0 := Lib.hid (W0.out.grow bb)
  replace G0 := Lib.hid (G0.out.grow bb)
  replace V0 := Lib.hid (V0.out.grow bb)
  replace V1 := Lib.hid (V1.out.grow bb)
  replace K0 := Lib.hid (K0.out.grow bb)
  replace BB := Lib.hid (below_then BB.out (Nat.le_refl _) bb)
  clear bb 
  go_wp2_with fail
  refine (heldIntSS_true _ _ _ _ ((mergeTM t0 t1).getD []) 1 (by omega) (by have := HG.out; omega) _ G0.out.toIRR).mono ?_
  rintro e w20 ⟨rfl, rfl⟩
  go_wp2_with fail
  go_ret
  exact ⟨rfl, BB.out⟩
end Go.Proofs.Ythpngbajhbckpaa
