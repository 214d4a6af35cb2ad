/-
  The law FnExactProofCrossed walked: for all arguments it returns true, and nothing that lay before has turned. Conditions: none but those of its row.
-/
import Derived.Test.YtanoojpmokbiaaaPcA
import Derived.Test.YtanoojpmokbiaaaPcB
import Derived.Test.YtanoojpmokbiaaaLawT
namespace Go.Proofs.Ytanoojpmokbiaaa
open Go.RowKit

set_option maxHeartbeats 2000000 in
set_option maxRecDepth 100000 in
theorem lawProofCrossed_any (A0 : Option Addr) (c0 : Nat) (t0 : List (List Int)) (w : World) (h0 : IRR w 0 w.heap.size A0 t0) :
    Calls Try.prog 3 #[.slice A0 t0.length c0] w fun e w' => e = .returned (.bool true) ∧ Below w.heap.size w w' := by
  have H0 := Lib.hid h0
  clear h0
  have BB := Lib.hid (Below.refl w.heap.size w)
  go_enter Try.func3, Try.ntmps3
  go_wp2_with fail
  refine (szIntSS_any _ _ _ _ t0 (1048576 : Int) (by omega) (by omega) _ H0.out).mono ?_
  rintro e w' ⟨r, rfl, rfl, hr⟩
  rcases hr with rfl | ⟨hr0, hr1⟩
  · go_wp2
    go_ret
    exact ⟨rfl, BB.out⟩
  subst hr1
  have HW0 := Lib.hid hr0
  have hn0 : ¬ (1048576 - ((t0.length : Int) + (totN t0 t0.length : Int)) : Int) < 0 := by omega
  go_wp2_with fail
  refine (toIntSS_any _ _ _ _ t0 (by have := HW0.out; omega) _ H0.out).mono ?_
  rintro e w1 ⟨AqP0, cqP0, rfl, -, iw, bb⟩
  have Z1 := Lib.hid bb.size
  replace H0 := Lib.hid (H0.out.grow bb)
  replace BB := Lib.hid (below_then BB.out (Nat.le_refl _) bb)
  have P0 := Lib.hid iw
  clear bb iw
  go_wp2_with fail
  refine (specProofCrossed_b _ _ t0 _ P0.out.toAll).mono ?_
  rintro e w2 ⟨rfl, bb⟩
  have Z2 := Lib.hid bb.size
  replace H0 := Lib.hid (H0.out.grow bb)
  replace P0 := Lib.hid (P0.out.grow bb)
  replace BB := Lib.hid (below_then BB.out (Nat.le_refl _) bb)
  clear bb 
  clear P0
  go_wp2_with fail
  refine (toIntSS_any _ _ _ _ t0 (by have := HW0.out; omega) _ H0.out).mono ?_
  rintro e w3 ⟨AqX0, cqX0, rfl, -, iw, bb⟩
  have Z3 := Lib.hid bb.size
  replace H0 := Lib.hid (H0.out.grow bb)
  replace BB := Lib.hid (below_then BB.out (Nat.le_refl _) bb)
  have X0 := Lib.hid iw
  clear bb iw
  go_wp2_with fail
  refine (implProofCrossed_b _ _ t0 _ X0.out.toAll).mono ?_
  rintro e w4 ⟨rfl, bb⟩
  have Z4 := Lib.hid bb.size
  replace H0 := Lib.hid (H0.out.grow bb)
  replace X0 := Lib.hid (X0.out.grow bb)
  replace BB := Lib.hid (below_then BB.out (Nat.le_refl _) bb)
  clear bb 
  go_wp2_with fail
  refine (toIntSS_any _ _ _ _ t0 (by have := HW0.out; omega) _ H0.out).mono ?_
  rintro e w5 ⟨AqY0, cqY0, rfl, -, iw, bb⟩
  have Z5 := Lib.hid bb.size
  replace H0 := Lib.hid (H0.out.grow bb)
  replace X0 := Lib.hid (X0.out.grow bb)
  replace BB := Lib.hid (below_then BB.out (Nat.le_refl _) bb)
  have Y0 := Lib.hid iw
  clear bb iw
  go_wp2_with fail
  refine (eqIntSS_b _ _ _ _ _ _ _ _ _ _ X0.out.toIRR Y0.out.toIRR).mono ?_
  rintro e w6 ⟨rfl, bb⟩
  have Z6 := Lib.hid bb.size
  replace H0 := Lib.hid (H0.out.grow bb)
  replace X0 := Lib.hid (X0.out.grow bb)
  replace Y0 := Lib.hid (Y0.out.grow bb)
  replace BB := Lib.hid (below_then BB.out (Nat.le_refl _) bb)
  clear bb 
  clear Y0
  go_wp2_with fail
  go_ret
  exact ⟨rfl, BB.out⟩
end Go.Proofs.Ytanoojpmokbiaaa
