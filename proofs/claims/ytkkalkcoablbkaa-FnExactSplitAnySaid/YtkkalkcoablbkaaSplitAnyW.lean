/-
  The law FnExactSplitAny walked: for all arguments it returns true, and nothing that lay before has turned. Conditions: none but those of its row.
-/
import Derived.Test.YtkkalkcoablbkaaScE
import Derived.Test.YtkkalkcoablbkaaLaw
namespace Go.Proofs.Ytkkalkcoablbkaa
open Go.RowKit

set_option maxHeartbeats 2000000 in
set_option maxRecDepth 100000 in
theorem lawSplitAny_any (A0 : Option Addr) (c0 : Nat) (zs0 : List Int) (s1 : ByteArray) (x2 : Int) (w : World) (h0 : IR w 0 w.heap.size A0 zs0) (_hs1 : s1.size ≤ maxLen) (hx2 : I64 x2) :
    Calls Try.prog 7 #[.slice A0 zs0.length c0, .string s1, .int .i64 x2] w fun e w' => e = .returned (.bool true) ∧ Below w.heap.size w w' := by
  have HX2 := Lib.hid hx2; clear hx2
  by_cases hbig0 : (1048576 : Int) < (zs0.length : Int)
  · clear h0
    go_enter Try.func7, Try.ntmps7
    go_wp2
    go_ret
    exact ⟨rfl, Below.refl _ _⟩
  by_cases hbig1 : (1048576 : Int) < (s1.size : Int)
  · clear h0
    go_enter Try.func7, Try.ntmps7
    go_wp2
    go_ret
    exact ⟨rfl, Below.refl _ _⟩
  have H0 := Lib.hid h0; have HL0 := Lib.hid (show (zs0.length : Int) ≤ 1048576 by omega)
  clear h0
  have BB := Lib.hid (Below.refl w.heap.size w)
  obtain ⟨u0, u1, u2, hvt⟩ := splitAnyV_tuple zs0 s1 x2
  have HVT := Lib.hid hvt; clear hvt
  go_enter Try.func7, Try.ntmps7
  go_wp2_with fail
  refine (toIntS_any _ _ _ _ zs0 _ H0.out).mono ?_
  rintro e w1 ⟨rfl, iw, bb⟩
  have Z1 := Lib.hid bb.size
  replace H0 := Lib.hid (H0.out.grow bb)
  replace BB := Lib.hid (below_then BB.out (Nat.le_refl _) bb)
  have P0 := Lib.hid iw
  clear bb iw
  go_wp2_with fail
  refine (specSplitAny_any _ _ zs0 s1 x2 HX2.out _ P0.out.toAll).mono ?_
  rintro e w2 ⟨rfl, bb⟩
  have Z2 := Lib.hid bb.size
  replace H0 := Lib.hid (H0.out.grow bb)
  replace P0 := Lib.hid (P0.out.grow bb)
  replace BB := Lib.hid (below_then BB.out (Nat.le_refl _) bb)
  clear bb 
  rw [HVT.out]
  clear P0
  go_wp2_with fail
  refine (toIntS_any _ _ _ _ zs0 _ H0.out).mono ?_
  rintro e w3 ⟨rfl, iw, bb⟩
  have Z3 := Lib.hid bb.size
  replace H0 := Lib.hid (H0.out.grow bb)
  replace BB := Lib.hid (below_then BB.out (Nat.le_refl _) bb)
  have X0 := Lib.hid iw
  clear bb iw
  go_wp2_with fail
  refine (implSplitAny_any _ _ zs0 s1 x2 HX2.out _ X0.out.toAll ⟨Nat.le_refl _, by have := HL0.out; unfold maxLen; omega⟩).mono ?_
  rintro e w4 ⟨rfl, bb⟩
  have Z4 := Lib.hid bb.size
  replace H0 := Lib.hid (H0.out.grow bb)
  replace X0 := Lib.hid (X0.out.grow bb)
  replace BB := Lib.hid (below_then BB.out (Nat.le_refl _) bb)
  clear bb 
  rw [HVT.out]
  go_wp2_with fail
  refine (toIntS_any _ _ _ _ zs0 _ H0.out).mono ?_
  rintro e w5 ⟨rfl, iw, bb⟩
  have Z5 := Lib.hid bb.size
  replace H0 := Lib.hid (H0.out.grow bb)
  replace X0 := Lib.hid (X0.out.grow bb)
  replace BB := Lib.hid (below_then BB.out (Nat.le_refl _) bb)
  have Y0 := Lib.hid iw
  clear bb iw
  go_wp2_with fail
  refine (eqIntS_b _ _ _ _ _ _ _ _ _ _ X0.out.toIR Y0.out.toIR).mono ?_
  rintro e w6 ⟨rfl, bb⟩
  have Z6 := Lib.hid bb.size
  replace H0 := Lib.hid (H0.out.grow bb)
  replace X0 := Lib.hid (X0.out.grow bb)
  replace Y0 := Lib.hid (Y0.out.grow bb)
  replace BB := Lib.hid (below_then BB.out (Nat.le_refl _) bb)
  clear bb 
  clear Y0
  go_wp2_with fail
  go_ret
  exact ⟨rfl, BB.out⟩
end Go.Proofs.Ytkkalkcoablbkaa
