/-
  The law FnExactEvenSum walked: for all arguments it returns true, and nothing that lay before has turned. Conditions: none but those of its row.
-/
import Derived.Test.YtfiojdiogjpakaaEvJ
import Derived.Test.YtfiojdiogjpakaaLaw
namespace Go.Proofs.Ytfiojdiogjpakaa
open Go.RowKit

set_option maxHeartbeats 2000000 in
set_option maxRecDepth 100000 in
theorem lawEvenSum_any (A0 : Option Addr) (c0 : Nat) (zs0 : List Int) (A1 : Option Addr) (c1 : Nat) (zs1 : List Int) (w : World) (h0 : IR w 0 w.heap.size A0 zs0) (h1 : IR w 0 w.heap.size A1 zs1) :
    Calls Try.prog 11 #[.slice A0 zs0.length c0, .slice A1 zs1.length c1] w fun e w' => e = .returned (.bool true) ∧ Below w.heap.size w w' := by
  by_cases hbig0 : (1048576 : Int) < (zs0.length : Int)
  · clear h0 h1
    go_enter Try.func11, Try.ntmps11
    go_wp2
    go_ret
    exact ⟨rfl, Below.refl _ _⟩
  by_cases hbig1 : (1048576 : Int) < (zs1.length : Int)
  · clear h0 h1
    go_enter Try.func11, Try.ntmps11
    go_wp2
    go_ret
    exact ⟨rfl, Below.refl _ _⟩
  have H0 := Lib.hid h0; have HL0 := Lib.hid (show (zs0.length : Int) ≤ 1048576 by omega)
  have H1 := Lib.hid h1; have HL1 := Lib.hid (show (zs1.length : Int) ≤ 1048576 by omega)
  clear h0 h1
  have BB := Lib.hid (Below.refl w.heap.size w)
  go_enter Try.func11, Try.ntmps11
  go_wp2_with fail
  refine (toIntS_any _ _ _ _ zs0 _ H0.out).mono ?_
  rintro e w1 ⟨rfl, iw, bb⟩
  have Z1 := Lib.hid bb.size
  replace H0 := Lib.hid (H0.out.grow bb)
  replace H1 := Lib.hid (H1.out.grow bb)
  replace BB := Lib.hid (below_then BB.out (Nat.le_refl _) bb)
  have P0 := Lib.hid iw
  clear bb iw
  go_wp2_with fail
  refine (toIntS_any _ _ _ _ zs1 _ H1.out).mono ?_
  rintro e w2 ⟨rfl, iw, bb⟩
  have Z2 := Lib.hid bb.size
  replace H0 := Lib.hid (H0.out.grow bb)
  replace H1 := Lib.hid (H1.out.grow bb)
  replace P0 := Lib.hid (P0.out.grow bb)
  replace BB := Lib.hid (below_then BB.out (Nat.le_refl _) bb)
  have P1 := Lib.hid iw
  clear bb iw
  go_wp2_with fail
  refine (specEvenSum_any _ _ zs0 _ _ zs1 _ P0.out.toAll P1.out.toAll).mono ?_
  rintro e w3 ⟨rfl, bb⟩
  have Z3 := Lib.hid bb.size
  replace H0 := Lib.hid (H0.out.grow bb)
  replace H1 := Lib.hid (H1.out.grow bb)
  replace P0 := Lib.hid (P0.out.grow bb)
  replace P1 := Lib.hid (P1.out.grow bb)
  replace BB := Lib.hid (below_then BB.out (Nat.le_refl _) bb)
  clear bb 
  clear P0
  clear P1
  go_wp2_with fail
  refine (toIntS_any _ _ _ _ zs0 _ H0.out).mono ?_
  rintro e w4 ⟨rfl, iw, bb⟩
  have Z4 := Lib.hid bb.size
  replace H0 := Lib.hid (H0.out.grow bb)
  replace H1 := Lib.hid (H1.out.grow bb)
  replace BB := Lib.hid (below_then BB.out (Nat.le_refl _) bb)
  have X0 := Lib.hid iw
  clear bb iw
  go_wp2_with fail
  refine (toIntS_any _ _ _ _ zs1 _ H1.out).mono ?_
  rintro e w5 ⟨rfl, iw, bb⟩
  have Z5 := Lib.hid bb.size
  replace H0 := Lib.hid (H0.out.grow bb)
  replace H1 := Lib.hid (H1.out.grow bb)
  replace X0 := Lib.hid (X0.out.grow bb)
  replace BB := Lib.hid (below_then BB.out (Nat.le_refl _) bb)
  have X1 := Lib.hid iw
  clear bb iw
  go_wp2_with fail
  refine (implEvenSum_any _ _ zs0 _ _ zs1 _ X0.out.toAll X1.out.toAll).mono ?_
  rintro e w6 ⟨rfl, bb⟩
  have Z6 := Lib.hid bb.size
  replace H0 := Lib.hid (H0.out.grow bb)
  replace H1 := Lib.hid (H1.out.grow bb)
  replace X0 := Lib.hid (X0.out.grow bb)
  replace X1 := Lib.hid (X1.out.grow bb)
  replace BB := Lib.hid (below_then BB.out (Nat.le_refl _) bb)
  clear bb 
  go_wp2_with fail
  refine (toIntS_any _ _ _ _ zs0 _ H0.out).mono ?_
  rintro e w7 ⟨rfl, iw, bb⟩
  have Z7 := Lib.hid bb.size
  replace H0 := Lib.hid (H0.out.grow bb)
  replace H1 := Lib.hid (H1.out.grow bb)
  replace X0 := Lib.hid (X0.out.grow bb)
  replace X1 := Lib.hid (X1.out.grow bb)
  replace BB := Lib.hid (below_then BB.out (Nat.le_refl _) bb)
  have Y0 := Lib.hid iw
  clear bb iw
  go_wp2_with fail
  refine (eqIntS_b _ _ _ _ _ _ _ _ _ _ X0.out.toIR Y0.out.toIR).mono ?_
  rintro e w8 ⟨rfl, bb⟩
  have Z8 := Lib.hid bb.size
  replace H0 := Lib.hid (H0.out.grow bb)
  replace H1 := Lib.hid (H1.out.grow bb)
  replace X0 := Lib.hid (X0.out.grow bb)
  replace X1 := Lib.hid (X1.out.grow bb)
  replace Y0 := Lib.hid (Y0.out.grow bb)
  replace BB := Lib.hid (below_then BB.out (Nat.le_refl _) bb)
  clear bb 
  clear Y0
  go_wp2_with fail
  refine (toIntS_any _ _ _ _ zs1 _ H1.out).mono ?_
  rintro e w9 ⟨rfl, iw, bb⟩
  have Z9 := Lib.hid bb.size
  replace H0 := Lib.hid (H0.out.grow bb)
  replace H1 := Lib.hid (H1.out.grow bb)
  replace X0 := Lib.hid (X0.out.grow bb)
  replace X1 := Lib.hid (X1.out.grow bb)
  replace BB := Lib.hid (below_then BB.out (Nat.le_refl _) bb)
  have Y1 := Lib.hid iw
  clear bb iw
  go_wp2_with fail
  refine (eqIntS_b _ _ _ _ _ _ _ _ _ _ X1.out.toIR Y1.out.toIR).mono ?_
  rintro e w10 ⟨rfl, bb⟩
  have Z10 := Lib.hid bb.size
  replace H0 := Lib.hid (H0.out.grow bb)
  replace H1 := Lib.hid (H1.out.grow bb)
  replace X0 := Lib.hid (X0.out.grow bb)
  replace X1 := Lib.hid (X1.out.grow bb)
  replace Y1 := Lib.hid (Y1.out.grow bb)
  replace BB := Lib.hid (below_then BB.out (Nat.le_refl _) bb)
  clear bb 
  clear Y1
  go_wp2_with fail
  go_ret
  exact ⟨rfl, BB.out⟩
end Go.Proofs.Ytfiojdiogjpakaa
