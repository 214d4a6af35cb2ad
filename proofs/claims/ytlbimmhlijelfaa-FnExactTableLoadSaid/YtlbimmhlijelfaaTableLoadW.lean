/-
  The law FnExactTableLoad walked: for all arguments it returns true, and nothing that lay before has turned. Conditions: none but those of its row.
-/
import Derived.Test.YtlbimmhlijelfaaLdX
import Derived.Test.YtlbimmhlijelfaaLdR
import Derived.Test.YtlbimmhlijelfaaLawT
namespace Go.Proofs.Ytlbimmhlijelfaa
open Go.RowKit

set_option maxHeartbeats 2000000 in
set_option maxRecDepth 100000 in
theorem lawTableLoad_any (A0 : Option Addr) (c0 : Nat) (t0 : List (List Int)) (A1 : Option Addr) (c1 : Nat) (zs1 : List Int) (A2 : Option Addr) (c2 : Nat) (zs2 : List Int) (w : World) (h0 : IRR w 0 w.heap.size A0 t0) (h1 : IR w 0 w.heap.size A1 zs1) (h2 : IR w 0 w.heap.size A2 zs2) :
    Calls Try.prog 3 #[.slice A0 t0.length c0, .slice A1 zs1.length c1, .slice A2 zs2.length c2] w fun e w' => e = .returned (.bool true) ∧ Below w.heap.size w w' := by
  by_cases hbig1 : (1048576 : Int) < (zs1.length : Int)
  · clear h0 h1 h2
    go_enter Try.func3, Try.ntmps3
    go_wp2
    go_ret
    exact ⟨rfl, Below.refl _ _⟩
  by_cases hbig2 : (1048576 : Int) < (zs2.length : Int)
  · clear h0 h1 h2
    go_enter Try.func3, Try.ntmps3
    go_wp2
    go_ret
    exact ⟨rfl, Below.refl _ _⟩
  have H0 := Lib.hid h0
  have H1 := Lib.hid h1
  have H2 := Lib.hid h2
  have HL1 := Lib.hid (show (zs1.length : Int) ≤ 1048576 by omega)
  have HL2 := Lib.hid (show (zs2.length : Int) ≤ 1048576 by omega)
  clear h0 h1 h2
  obtain ⟨out, hout⟩ : ∃ o, o = loadM t0 zs1 zs2 := ⟨_, rfl⟩
  have HO := Lib.hid hout; clear hout
  have BB := Lib.hid (Below.refl w.heap.size w)
  go_enter Try.func3, Try.ntmps3
  go_wp2_with fail
  refine (szIntSS_any _ _ _ _ t0 (1048576 : Int) (by omega) (by omega) _ H0.out).mono ?_
  rintro e w' ⟨r, rfl, rfl, hr⟩
  rcases hr with rfl | ⟨hr0, hr1⟩
  · go_wp2
    go_ret
    exact ⟨rfl, BB.out⟩
  subst hr1
  have HW0 := Lib.hid hr0
  have hn0 : ¬ (1048576 - ((t0.length : Int) + (totN t0 t0.length : Int)) : Int) < 0 := by omega
  go_wp2_with fail
  refine (toIntSS_any _ _ _ _ t0 (by have := HW0.out; omega) _ H0.out).mono ?_
  rintro e w1 ⟨AqP0, cqP0, rfl, -, iw, bb⟩
  have Z1 := Lib.hid bb.size
  replace H0 := Lib.hid (H0.out.grow bb)
  replace H1 := Lib.hid (H1.out.grow bb)
  replace H2 := Lib.hid (H2.out.grow bb)
  replace BB := Lib.hid (below_then BB.out (Nat.le_refl _) bb)
  have P0 := Lib.hid iw
  clear bb iw
  go_wp2_with fail
  refine (toIntS_any _ _ _ _ zs1 _ H1.out).mono ?_
  rintro e w2 ⟨rfl, iw, bb⟩
  have Z2 := Lib.hid bb.size
  replace H0 := Lib.hid (H0.out.grow bb)
  replace H1 := Lib.hid (H1.out.grow bb)
  replace H2 := Lib.hid (H2.out.grow bb)
  replace P0 := Lib.hid (P0.out.grow bb)
  replace BB := Lib.hid (below_then BB.out (Nat.le_refl _) bb)
  have P1 := Lib.hid iw
  clear bb iw
  go_wp2_with fail
  refine (toIntS_any _ _ _ _ zs2 _ H2.out).mono ?_
  rintro e w3 ⟨rfl, iw, bb⟩
  have Z3 := Lib.hid bb.size
  replace H0 := Lib.hid (H0.out.grow bb)
  replace H1 := Lib.hid (H1.out.grow bb)
  replace H2 := Lib.hid (H2.out.grow bb)
  replace P0 := Lib.hid (P0.out.grow bb)
  replace P1 := Lib.hid (P1.out.grow bb)
  replace BB := Lib.hid (below_then BB.out (Nat.le_refl _) bb)
  have P2 := Lib.hid iw
  clear bb iw
  go_wp2_with fail
  refine (specTableLoad_r _ _ t0 _ _ zs1 _ _ zs2 _ P0.out.toAll P1.out.toAll P2.out.toAll).mono ?_
  rintro e w4 ⟨Aw, cw, rfl, iw, bb⟩
  have Z4 := Lib.hid bb.size
  replace H0 := Lib.hid (H0.out.grow bb)
  replace H1 := Lib.hid (H1.out.grow bb)
  replace H2 := Lib.hid (H2.out.grow bb)
  replace P0 := Lib.hid (P0.out.grow bb)
  replace P1 := Lib.hid (P1.out.grow bb)
  replace P2 := Lib.hid (P2.out.grow bb)
  replace BB := Lib.hid (below_then BB.out (Nat.le_refl _) bb)
  have W0 := Lib.hid iw.toAll
  clear bb iw
  clear P0
  clear P1
  clear P2
  go_wp2_with fail
  refine (toIntSS_any _ _ _ _ t0 (by have := HW0.out; omega) _ H0.out).mono ?_
  rintro e w5 ⟨AqX0, cqX0, rfl, -, iw, bb⟩
  have Z5 := Lib.hid bb.size
  replace H0 := Lib.hid (H0.out.grow bb)
  replace H1 := Lib.hid (H1.out.grow bb)
  replace H2 := Lib.hid (H2.out.grow bb)
  replace W0 := Lib.hid (W0.out.grow bb)
  replace BB := Lib.hid (below_then BB.out (Nat.le_refl _) bb)
  have X0 := Lib.hid iw
  clear bb iw
  go_wp2_with fail
  refine (toIntS_any _ _ _ _ zs1 _ H1.out).mono ?_
  rintro e w6 ⟨rfl, iw, bb⟩
  have Z6 := Lib.hid bb.size
  replace H0 := Lib.hid (H0.out.grow bb)
  replace H1 := Lib.hid (H1.out.grow bb)
  replace H2 := Lib.hid (H2.out.grow bb)
  replace W0 := Lib.hid (W0.out.grow bb)
  replace X0 := Lib.hid (X0.out.grow bb)
  replace BB := Lib.hid (below_then BB.out (Nat.le_refl _) bb)
  have X1 := Lib.hid iw
  clear bb iw
  go_wp2_with fail
  refine (toIntS_any _ _ _ _ zs2 _ H2.out).mono ?_
  rintro e w7 ⟨rfl, iw, bb⟩
  have Z7 := Lib.hid bb.size
  replace H0 := Lib.hid (H0.out.grow bb)
  replace H1 := Lib.hid (H1.out.grow bb)
  replace H2 := Lib.hid (H2.out.grow bb)
  replace W0 := Lib.hid (W0.out.grow bb)
  replace X0 := Lib.hid (X0.out.grow bb)
  replace X1 := Lib.hid (X1.out.grow bb)
  replace BB := Lib.hid (below_then BB.out (Nat.le_refl _) bb)
  have X2 := Lib.hid iw
  clear bb iw
  go_wp2_with fail
  refine (implTableLoad_any _ _ t0 _ _ zs1 _ _ zs2 _ X0.out.toAll X1.out.toAll X2.out.toAll).mono ?_
  rintro e w8 ⟨Ag, cg, rfl, -, iw, bb⟩
  have Z8 := Lib.hid bb.size
  replace H0 := Lib.hid (H0.out.grow bb)
  replace H1 := Lib.hid (H1.out.grow bb)
  replace H2 := Lib.hid (H2.out.grow bb)
  replace W0 := Lib.hid (W0.out.grow bb)
  replace X0 := Lib.hid (X0.out.grow bb)
  replace X1 := Lib.hid (X1.out.grow bb)
  replace X2 := Lib.hid (X2.out.grow bb)
  replace BB := Lib.hid (below_then BB.out (Nat.le_refl _) bb)
  have G0 := Lib.hid iw
  clear bb iw
  go_wp2_with fail
  refine (eqIntSS_b _ _ _ _ _ _ _ _ _ _ G0.out.toIRR W0.out).mono ?_
  rintro e w9 ⟨rfl, bb⟩
  have Z9 := Lib.hid bb.size
  replace H0 := Lib.hid (H0.out.grow bb)
  replace H1 := Lib.hid (H1.out.grow bb)
  replace H2 := Lib.hid (H2.out.grow bb)
  replace W0 := Lib.hid (W0.out.grow bb)
  replace X0 := Lib.hid (X0.out.grow bb)
  replace X1 := Lib.hid (X1.out.grow bb)
  replace X2 := Lib.hid (X2.out.grow bb)
  replace G0 := Lib.hid (G0.out.grow bb)
  replace BB := Lib.hid (below_then BB.out (Nat.le_refl _) bb)
  clear bb 
  go_wp2_with fail
  refine (toIntSS_any _ _ _ _ t0 (by have := HW0.out; omega) _ H0.out).mono ?_
  rintro e w10 ⟨AqY0, cqY0, rfl, -, iw, bb⟩
  have Z10 := Lib.hid bb.size
  replace H0 := Lib.hid (H0.out.grow bb)
  replace H1 := Lib.hid (H1.out.grow bb)
  replace H2 := Lib.hid (H2.out.grow bb)
  replace W0 := Lib.hid (W0.out.grow bb)
  replace X0 := Lib.hid (X0.out.grow bb)
  replace X1 := Lib.hid (X1.out.grow bb)
  replace X2 := Lib.hid (X2.out.grow bb)
  replace G0 := Lib.hid (G0.out.grow bb)
  replace BB := Lib.hid (below_then BB.out (Nat.le_refl _) bb)
  have Y0 := Lib.hid iw
  clear bb iw
  go_wp2_with fail
  refine (eqIntSS_b _ _ _ _ _ _ _ _ _ _ X0.out.toIRR Y0.out.toIRR).mono ?_
  rintro e w11 ⟨rfl, bb⟩
  have Z11 := Lib.hid bb.size
  replace H0 := Lib.hid (H0.out.grow bb)
  replace H1 := Lib.hid (H1.out.grow bb)
  replace H2 := Lib.hid (H2.out.grow bb)
  replace W0 := Lib.hid (W0.out.grow bb)
  replace X0 := Lib.hid (X0.out.grow bb)
  replace X1 := Lib.hid (X1.out.grow bb)
  replace X2 := Lib.hid (X2.out.grow bb)
  replace G0 := Lib.hid (G0.out.grow bb)
  replace Y0 := Lib.hid (Y0.out.grow bb)
  replace BB := Lib.hid (below_then BB.out (Nat.le_refl _) bb)
  clear bb 
  clear Y0
  go_wp2_with fail
  refine (toIntS_any _ _ _ _ zs1 _ H1.out).mono ?_
  rintro e w12 ⟨rfl, iw, bb⟩
  have Z12 := Lib.hid bb.size
  replace H0 := Lib.hid (H0.out.grow bb)
  replace H1 := Lib.hid (H1.out.grow bb)
  replace H2 := Lib.hid (H2.out.grow bb)
  replace W0 := Lib.hid (W0.out.grow bb)
  replace X0 := Lib.hid (X0.out.grow bb)
  replace X1 := Lib.hid (X1.out.grow bb)
  replace X2 := Lib.hid (X2.out.grow bb)
  replace G0 := Lib.hid (G0.out.grow bb)
  replace BB := Lib.hid (below_then BB.out (Nat.le_refl _) bb)
  have Y1 := Lib.hid iw
  clear bb iw
  go_wp2_with fail
  refine (eqIntS_b _ _ _ _ _ _ _ _ _ _ X1.out.toIR Y1.out.toIR).mono ?_
  rintro e w13 ⟨rfl, bb⟩
  have Z13 := Lib.hid bb.size
  replace H0 := Lib.hid (H0.out.grow bb)
  replace H1 := Lib.hid (H1.out.grow bb)
  replace H2 := Lib.hid (H2.out.grow bb)
  replace W0 := Lib.hid (W0.out.grow bb)
  replace X0 := Lib.hid (X0.out.grow bb)
  replace X1 := Lib.hid (X1.out.grow bb)
  replace X2 := Lib.hid (X2.out.grow bb)
  replace G0 := Lib.hid (G0.out.grow bb)
  replace Y1 := Lib.hid (Y1.out.grow bb)
  replace BB := Lib.hid (below_then BB.out (Nat.le_refl _) bb)
  clear bb 
  clear Y1
  go_wp2_with fail
  refine (toIntS_any _ _ _ _ zs2 _ H2.out).mono ?_
  rintro e w14 ⟨rfl, iw, bb⟩
  have Z14 := Lib.hid bb.size
  replace H0 := Lib.hid (H0.out.grow bb)
  replace H1 := Lib.hid (H1.out.grow bb)
  replace H2 := Lib.hid (H2.out.grow bb)
  replace W0 := Lib.hid (W0.out.grow bb)
  replace X0 := Lib.hid (X0.out.grow bb)
  replace X1 := Lib.hid (X1.out.grow bb)
  replace X2 := Lib.hid (X2.out.grow bb)
  replace G0 := Lib.hid (G0.out.grow bb)
  replace BB := Lib.hid (below_then BB.out (Nat.le_refl _) bb)
  have Y2 := Lib.hid iw
  clear bb iw
  go_wp2_with fail
  refine (eqIntS_b _ _ _ _ _ _ _ _ _ _ X2.out.toIR Y2.out.toIR).mono ?_
  rintro e w15 ⟨rfl, bb⟩
  have Z15 := Lib.hid bb.size
  replace H0 := Lib.hid (H0.out.grow bb)
  replace H1 := Lib.hid (H1.out.grow bb)
  replace H2 := Lib.hid (H2.out.grow bb)
  replace W0 := Lib.hid (W0.out.grow bb)
  replace X0 := Lib.hid (X0.out.grow bb)
  replace X1 := Lib.hid (X1.out.grow bb)
  replace X2 := Lib.hid (X2.out.grow bb)
  replace G0 := Lib.hid (G0.out.grow bb)
  replace Y2 := Lib.hid (Y2.out.grow bb)
  replace BB := Lib.hid (below_then BB.out (Nat.le_refl _) bb)
  clear bb 
  clear Y2
  have HG := Lib.hid (small_load t0 zs1 zs2)
  go_wp2_with fail
  refine (markIntSS_any _ _ _ _ t0 (1 : Int) (by have := HL1.out; have := HL2.out; have := HW0.out; have := HG.out; omega) (by have := HL1.out; have := HL2.out; have := HW0.out; have := HG.out; omega) _ X0.out).mono ?_
  rintro e w16 ⟨rfl, iw, oo⟩
  replace H0 := Lib.hid (H0.out.only oo (by have := Z1.out; have := Z2.out; have := Z3.out; have := Z4.out; have := Z5.out; have := Z6.out; have := Z7.out; have := Z8.out; have := Z9.out; have := Z10.out; have := Z11.out; have := Z12.out; have := Z13.out; have := Z14.out; have := Z15.out; omega))
  replace H1 := Lib.hid (H1.out.only oo (by have := Z1.out; have := Z2.out; have := Z3.out; have := Z4.out; have := Z5.out; have := Z6.out; have := Z7.out; have := Z8.out; have := Z9.out; have := Z10.out; have := Z11.out; have := Z12.out; have := Z13.out; have := Z14.out; have := Z15.out; omega))
  replace H2 := Lib.hid (H2.out.only oo (by have := Z1.out; have := Z2.out; have := Z3.out; have := Z4.out; have := Z5.out; have := Z6.out; have := Z7.out; have := Z8.out; have := Z9.out; have := Z10.out; have := Z11.out; have := Z12.out; have := Z13.out; have := Z14.out; have := Z15.out; omega))
  replace W0 := Lib.hid (W0.out.only oo (by have := Z1.out; have := Z2.out; have := Z3.out; have := Z4.out; have := Z5.out; have := Z6.out; have := Z7.out; have := Z8.out; have := Z9.out; have := Z10.out; have := Z11.out; have := Z12.out; have := Z13.out; have := Z14.out; have := Z15.out; omega))
  replace X1 := Lib.hid (X1.out.only oo (by have := Z1.out; have := Z2.out; have := Z3.out; have := Z4.out; have := Z5.out; have := Z6.out; have := Z7.out; have := Z8.out; have := Z9.out; have := Z10.out; have := Z11.out; have := Z12.out; have := Z13.out; have := Z14.out; have := Z15.out; omega))
  replace X2 := Lib.hid (X2.out.only oo (by have := Z1.out; have := Z2.out; have := Z3.out; have := Z4.out; have := Z5.out; have := Z6.out; have := Z7.out; have := Z8.out; have := Z9.out; have := Z10.out; have := Z11.out; have := Z12.out; have := Z13.out; have := Z14.out; have := Z15.out; omega))
  replace G0 := Lib.hid (G0.out.only oo (by have := Z1.out; have := Z2.out; have := Z3.out; have := Z4.out; have := Z5.out; have := Z6.out; have := Z7.out; have := Z8.out; have := Z9.out; have := Z10.out; have := Z11.out; have := Z12.out; have := Z13.out; have := Z14.out; have := Z15.out; omega))
  replace BB := Lib.hid (below_only BB.out oo (by have := Z1.out; have := Z2.out; have := Z3.out; have := Z4.out; have := Z5.out; have := Z6.out; have := Z7.out; have := Z8.out; have := Z9.out; have := Z10.out; have := Z11.out; have := Z12.out; have := Z13.out; have := Z14.out; have := Z15.out; omega))
  have Z16 := Lib.hid (Nat.le_of_eq oo.size.symm)
  replace X0 := Lib.hid iw
  clear oo iw
  go_wp2_with fail
  refine (markIntS_any _ _ _ _ zs1 ((1 + (totN t0 t0.length : Int)) : Int) (by have := HL1.out; have := HL2.out; have := HW0.out; have := HG.out; omega) (by have := HL1.out; have := HL2.out; have := HW0.out; have := HG.out; omega) _ X1.out).mono ?_
  rintro e w17 ⟨rfl, iw, oo⟩
  replace H0 := Lib.hid (H0.out.only oo (by have := Z1.out; have := Z2.out; have := Z3.out; have := Z4.out; have := Z5.out; have := Z6.out; have := Z7.out; have := Z8.out; have := Z9.out; have := Z10.out; have := Z11.out; have := Z12.out; have := Z13.out; have := Z14.out; have := Z15.out; have := Z16.out; omega))
  replace H1 := Lib.hid (H1.out.only oo (by have := Z1.out; have := Z2.out; have := Z3.out; have := Z4.out; have := Z5.out; have := Z6.out; have := Z7.out; have := Z8.out; have := Z9.out; have := Z10.out; have := Z11.out; have := Z12.out; have := Z13.out; have := Z14.out; have := Z15.out; have := Z16.out; omega))
  replace H2 := Lib.hid (H2.out.only oo (by have := Z1.out; have := Z2.out; have := Z3.out; have := Z4.out; have := Z5.out; have := Z6.out; have := Z7.out; have := Z8.out; have := Z9.out; have := Z10.out; have := Z11.out; have := Z12.out; have := Z13.out; have := Z14.out; have := Z15.out; have := Z16.out; omega))
  replace W0 := Lib.hid (W0.out.only oo (by have := Z1.out; have := Z2.out; have := Z3.out; have := Z4.out; have := Z5.out; have := Z6.out; have := Z7.out; have := Z8.out; have := Z9.out; have := Z10.out; have := Z11.out; have := Z12.out; have := Z13.out; have := Z14.out; have := Z15.out; have := Z16.out; omega))
  replace X0 := Lib.hid (X0.out.only oo (by have := Z1.out; have := Z2.out; have := Z3.out; have := Z4.out; have := Z5.out; have := Z6.out; have := Z7.out; have := Z8.out; have := Z9.out; have := Z10.out; have := Z11.out; have := Z12.out; have := Z13.out; have := Z14.out; have := Z15.out; have := Z16.out; omega))
  replace X2 := Lib.hid (X2.out.only oo (by have := Z1.out; have := Z2.out; have := Z3.out; have := Z4.out; have := Z5.out; have := Z6.out; have := Z7.out; have := Z8.out; have := Z9.out; have := Z10.out; have := Z11.out; have := Z12.out; have := Z13.out; have := Z14.out; have := Z15.out; have := Z16.out; omega))
  replace G0 := Lib.hid (G0.out.only oo (by have := Z1.out; have := Z2.out; have := Z3.out; have := Z4.out; have := Z5.out; have := Z6.out; have := Z7.out; have := Z8.out; have := Z9.out; have := Z10.out; have := Z11.out; have := Z12.out; have := Z13.out; have := Z14.out; have := Z15.out; have := Z16.out; omega))
  replace BB := Lib.hid (below_only BB.out oo (by have := Z1.out; have := Z2.out; have := Z3.out; have := Z4.out; have := Z5.out; have := Z6.out; have := Z7.out; have := Z8.out; have := Z9.out; have := Z10.out; have := Z11.out; have := Z12.out; have := Z13.out; have := Z14.out; have := Z15.out; have := Z16.out; omega))
  have Z17 := Lib.hid (Nat.le_of_eq oo.size.symm)
  replace X1 := Lib.hid iw
  clear oo iw
  go_wp2_with fail
  refine (markIntS_any _ _ _ _ zs2 (((1 + (totN t0 t0.length : Int)) + (zs1.length : Int)) : Int) (by have := HL1.out; have := HL2.out; have := HW0.out; have := HG.out; omega) (by have := HL1.out; have := HL2.out; have := HW0.out; have := HG.out; omega) _ X2.out).mono ?_
  rintro e w18 ⟨rfl, iw, oo⟩
  replace H0 := Lib.hid (H0.out.only oo (by have := Z1.out; have := Z2.out; have := Z3.out; have := Z4.out; have := Z5.out; have := Z6.out; have := Z7.out; have := Z8.out; have := Z9.out; have := Z10.out; have := Z11.out; have := Z12.out; have := Z13.out; have := Z14.out; have := Z15.out; have := Z16.out; have := Z17.out; omega))
  replace H1 := Lib.hid (H1.out.only oo (by have := Z1.out; have := Z2.out; have := Z3.out; have := Z4.out; have := Z5.out; have := Z6.out; have := Z7.out; have := Z8.out; have := Z9.out; have := Z10.out; have := Z11.out; have := Z12.out; have := Z13.out; have := Z14.out; have := Z15.out; have := Z16.out; have := Z17.out; omega))
  replace H2 := Lib.hid (H2.out.only oo (by have := Z1.out; have := Z2.out; have := Z3.out; have := Z4.out; have := Z5.out; have := Z6.out; have := Z7.out; have := Z8.out; have := Z9.out; have := Z10.out; have := Z11.out; have := Z12.out; have := Z13.out; have := Z14.out; have := Z15.out; have := Z16.out; have := Z17.out; omega))
  replace W0 := Lib.hid (W0.out.only oo (by have := Z1.out; have := Z2.out; have := Z3.out; have := Z4.out; have := Z5.out; have := Z6.out; have := Z7.out; have := Z8.out; have := Z9.out; have := Z10.out; have := Z11.out; have := Z12.out; have := Z13.out; have := Z14.out; have := Z15.out; have := Z16.out; have := Z17.out; omega))
  replace X0 := Lib.hid (X0.out.only oo (by have := Z1.out; have := Z2.out; have := Z3.out; have := Z4.out; have := Z5.out; have := Z6.out; have := Z7.out; have := Z8.out; have := Z9.out; have := Z10.out; have := Z11.out; have := Z12.out; have := Z13.out; have := Z14.out; have := Z15.out; have := Z16.out; have := Z17.out; omega))
  replace X1 := Lib.hid (X1.out.only oo (by have := Z1.out; have := Z2.out; have := Z3.out; have := Z4.out; have := Z5.out; have := Z6.out; have := Z7.out; have := Z8.out; have := Z9.out; have := Z10.out; have := Z11.out; have := Z12.out; have := Z13.out; have := Z14.out; have := Z15.out; have := Z16.out; have := Z17.out; omega))
  replace G0 := Lib.hid (G0.out.only oo (by have := Z1.out; have := Z2.out; have := Z3.out; have := Z4.out; have := Z5.out; have := Z6.out; have := Z7.out; have := Z8.out; have := Z9.out; have := Z10.out; have := Z11.out; have := Z12.out; have := Z13.out; have := Z14.out; have := Z15.out; have := Z16.out; have := Z17.out; omega))
  replace BB := Lib.hid (below_only BB.out oo (by have := Z1.out; have := Z2.out; have := Z3.out; have := Z4.out; have := Z5.out; have := Z6.out; have := Z7.out; have := Z8.out; have := Z9.out; have := Z10.out; have := Z11.out; have := Z12.out; have := Z13.out; have := Z14.out; have := Z15.out; have := Z16.out; have := Z17.out; omega))
  have Z18 := Lib.hid (Nat.le_of_eq oo.size.symm)
  replace X2 := Lib.hid iw
  clear oo iw
  have hp0 : (0 : Int) ≤ (totN t0 t0.length : Int) := Int.natCast_nonneg _
  have hp1 : (0 : Int) ≤ (zs1.length : Int) := Int.natCast_nonneg _
  have hp2 : (0 : Int) ≤ (zs2.length : Int) := Int.natCast_nonneg _
  go_wp2_with fail
  refine (eqIntSS_b _ _ _ _ _ _ _ _ _ _ G0.out.toIRR W0.out).mono ?_
  rintro e w19 ⟨rfl, bb⟩
  have Z19 := Lib.hid bb.size
  replace H0 := Lib.hid (H0.out.grow bb)
  replace H1 := Lib.hid (H1.out.grow bb)
  replace H2 := Lib.hid (H2.out.grow bb)
  replace W0 := Lib.hid (W0.out.grow bb)
  replace X0 := Lib.hid (X0.out.grow bb)
  replace X1 := Lib.hid (X1.out.grow bb)
  replace X2 := Lib.hid (X2.out.grow bb)
  replace G0 := Lib.hid (G0.out.grow bb)
  replace BB := Lib.hid (below_then BB.out (Nat.le_refl _) bb)
  clear bb 
  clear X0
  clear X1
  clear X2
  go_wp2_with fail
  refine (markIntSS_any _ _ _ _ ((loadM t0 zs1 zs2).getD []) 1 (by have := HL1.out; have := HL2.out; have := HW0.out; have := HG.out; omega) (by have := HL1.out; have := HL2.out; have := HW0.out; have := HG.out; omega) _ G0.out).mono ?_
  rintro e w20 ⟨rfl, iw, oo⟩
  replace H0 := Lib.hid (H0.out.only oo (by have := Z1.out; have := Z2.out; have := Z3.out; have := Z4.out; have := Z5.out; have := Z6.out; have := Z7.out; have := Z8.out; have := Z9.out; have := Z10.out; have := Z11.out; have := Z12.out; have := Z13.out; have := Z14.out; have := Z15.out; have := Z16.out; have := Z17.out; have := Z18.out; have := Z19.out; omega))
  replace H1 := Lib.hid (H1.out.only oo (by have := Z1.out; have := Z2.out; have := Z3.out; have := Z4.out; have := Z5.out; have := Z6.out; have := Z7.out; have := Z8.out; have := Z9.out; have := Z10.out; have := Z11.out; have := Z12.out; have := Z13.out; have := Z14.out; have := Z15.out; have := Z16.out; have := Z17.out; have := Z18.out; have := Z19.out; omega))
  replace H2 := Lib.hid (H2.out.only oo (by have := Z1.out; have := Z2.out; have := Z3.out; have := Z4.out; have := Z5.out; have := Z6.out; have := Z7.out; have := Z8.out; have := Z9.out; have := Z10.out; have := Z11.out; have := Z12.out; have := Z13.out; have := Z14.out; have := Z15.out; have := Z16.out; have := Z17.out; have := Z18.out; have := Z19.out; omega))
  replace W0 := Lib.hid (W0.out.only oo (by have := Z1.out; have := Z2.out; have := Z3.out; have := Z4.out; have := Z5.out; have := Z6.out; have := Z7.out; have := Z8.out; have := Z9.out; have := Z10.out; have := Z11.out; have := Z12.out; have := Z13.out; have := Z14.out; have := Z15.out; have := Z16.out; have := Z17.out; have := Z18.out; have := Z19.out; omega))
  replace BB := Lib.hid (below_only BB.out oo (by have := Z1.out; have := Z2.out; have := Z3.out; have := Z4.out; have := Z5.out; have := Z6.out; have := Z7.out; have := Z8.out; have := Z9.out; have := Z10.out; have := Z11.out; have := Z12.out; have := Z13.out; have := Z14.out; have := Z15.out; have := Z16.out; have := Z17.out; have := Z18.out; have := Z19.out; omega))
  have Z20 := Lib.hid (Nat.le_of_eq oo.size.symm)
  replace G0 := Lib.hid iw
  clear oo iw
  go_wp2_with fail
  refine (heldIntSS_true _ _ _ _ ((loadM t0 zs1 zs2).getD []) 1 (by omega) (by have := HG.out; omega) _ G0.out.toIRR).mono ?_
  rintro e w21 ⟨rfl, rfl⟩
  go_wp2_with fail
  refine (toIntSS_any _ _ _ _ t0 (by have := HW0.out; omega) _ H0.out).mono ?_
  rintro e w21 ⟨AqV0, cqV0, rfl, -, iw, bb⟩
  have Z21 := Lib.hid bb.size
  replace H0 := Lib.hid (H0.out.grow bb)
  replace H1 := Lib.hid (H1.out.grow bb)
  replace H2 := Lib.hid (H2.out.grow bb)
  replace W0 := Lib.hid (W0.out.grow bb)
  replace G0 := Lib.hid (G0.out.grow bb)
  replace BB := Lib.hid (below_then BB.out (Nat.le_refl _) bb)
  have V0 := Lib.hid iw
  clear bb iw
  go_wp2_with fail
  refine (toIntS_any _ _ _ _ zs1 _ H1.out).mono ?_
  rintro e w22 ⟨rfl, iw, bb⟩
  have Z22 := Lib.hid bb.size
  replace H0 := Lib.hid (H0.out.grow bb)
  replace H1 := Lib.hid (H1.out.grow bb)
  replace H2 := Lib.hid (H2.out.grow bb)
  replace W0 := Lib.hid (W0.out.grow bb)
  replace G0 := Lib.hid (G0.out.grow bb)
  replace V0 := Lib.hid (V0.out.grow bb)
  replace BB := Lib.hid (below_then BB.out (Nat.le_refl _) bb)
  have V1 := Lib.hid iw
  clear bb iw
  go_wp2_with fail
  refine (toIntS_any _ _ _ _ zs2 _ H2.out).mono ?_
  rintro e w23 ⟨rfl, iw, bb⟩
  have Z23 := Lib.hid bb.size
  replace H0 := Lib.hid (H0.out.grow bb)
  replace H1 := Lib.hid (H1.out.grow bb)
  replace H2 := Lib.hid (H2.out.grow bb)
  replace W0 := Lib.hid (W0.out.grow bb)
  replace G0 := Lib.hid (G0.out.grow bb)
  replace V0 := Lib.hid (V0.out.grow bb)
  replace V1 := Lib.hid (V1.out.grow bb)
  replace BB := Lib.hid (below_then BB.out (Nat.le_refl _) bb)
  have V2 := Lib.hid iw
  clear bb iw
  go_wp2_with fail
  refine (implTableLoad_any _ _ t0 _ _ zs1 _ _ zs2 _ V0.out.toAll V1.out.toAll V2.out.toAll).mono ?_
  rintro e w24 ⟨Ah, ch, rfl, -, iw, bb⟩
  have Z24 := Lib.hid bb.size
  replace H0 := Lib.hid (H0.out.grow bb)
  replace H1 := Lib.hid (H1.out.grow bb)
  replace H2 := Lib.hid (H2.out.grow bb)
  replace W0 := Lib.hid (W0.out.grow bb)
  replace G0 := Lib.hid (G0.out.grow bb)
  replace V0 := Lib.hid (V0.out.grow bb)
  replace V1 := Lib.hid (V1.out.grow bb)
  replace V2 := Lib.hid (V2.out.grow bb)
  replace BB := Lib.hid (below_then BB.out (Nat.le_refl _) bb)
  have K0 := Lib.hid iw
  clear bb iw
  go_wp2_with fail
  refine (eqIntSS_b _ _ _ _ _ _ _ _ _ _ K0.out.toIRR W0.out).mono ?_
  rintro e w25 ⟨rfl, bb⟩
  have Z25 := Lib.hid bb.size
  replace H0 := Lib.hid (H0.out.grow bb)
  replace H1 := Lib.hid (H1.out.grow bb)
  replace H2 := Lib.hid (H2.out.grow bb)
  replace W0 := Lib.hid (W0.out.grow bb)
  replace G0 := Lib.hid (G0.out.grow bb)
  replace V0 := Lib.hid (V0.out.grow bb)
  replace V1 := Lib.hid (V1.out.grow bb)
  replace V2 := Lib.hid (V2.out.grow bb)
  replace K0 := Lib.hid (K0.out.grow bb)
  replace BB := Lib.hid (below_then BB.out (Nat.le_refl _) bb)
  clear bb 
  go_wp2_with fail
  refine (heldIntSS_true _ _ _ _ ((loadM t0 zs1 zs2).getD []) 1 (by omega) (by have := HG.out; omega) _ G0.out.toIRR).mono ?_
  rintro e w26 ⟨rfl, rfl⟩
  go_wp2_with fail
  go_ret
  exact ⟨rfl, BB.out⟩
end Go.Proofs.Ytlbimmhlijelfaa
