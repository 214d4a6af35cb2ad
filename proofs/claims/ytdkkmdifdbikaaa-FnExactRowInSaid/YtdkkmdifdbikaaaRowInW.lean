/-
  The law FnExactRowIn holds: for every list of integers it returns true. Conditions: none but those of its row.
-/
import Derived.Test.YtdkkmdifdbikaaaImpl
namespace Go.Proofs.Ytdkkmdifdbikaaa
open Go.RowKit

set_option maxHeartbeats 1000000 in
theorem lawRowIn_any (A : Option Addr) (c : Nat) (zs : List Int) (w : World) (h : IR w w.heap.size A zs) :
    Calls Try.prog 5 #[.slice A zs.length c] w fun e w' => e = .returned (.bool true) ∧ Below w.heap.size w w' := by
  by_cases hbig : (1048576 : Int) < (zs.length : Int)
  · go_enter Try.func5, Try.ntmps5
    go_wp2
    go_ret
    exact ⟨rfl, Below.refl _ _⟩
  · go_enter Try.func5, Try.ntmps5
    have H0 := Lib.hid h
    clear h
    go_wp2_with fail
    refine (toIntS_any _ _ _ zs _ H0.out).mono ?_
    rintro e w1 ⟨rfl, i1, b1⟩
    have I1 := Lib.hid i1; have B1 := Lib.hid b1; have H1 := Lib.hid (H0.out.below b1 (.inl (Nat.le_refl _)) b1.size)
    clear i1 b1
    go_wp2_with fail
    refine (specRowIn_any _ _ _ zs _ I1.out.toIR).mono ?_
    rintro e w2 ⟨rfl, rfl⟩
    go_wp2_with fail
    refine (toIntS_any _ _ _ zs _ H1.out).mono ?_
    rintro e w2 ⟨rfl, i2, b2⟩
    have I2 := Lib.hid i2; have B2 := Lib.hid b2; have H2 := Lib.hid (H1.out.below b2 (.inr (Nat.le_refl _)) b2.size)
    clear i2 b2
    go_wp2_with fail
    refine (implRowIn_any _ _ zs _ I2.out.toIR).mono ?_
    rintro e w3 ⟨rfl, b3⟩
    have B3 := Lib.hid b3; have I3 := Lib.hid (I2.out.below b3 (Nat.le_refl _) b3.size); have H3 := Lib.hid (H2.out.below b3 (.inr (Nat.le_refl _)) b3.size)
    clear b3
    go_wp2_with fail
    refine (toIntS_any _ _ _ zs _ H3.out).mono ?_
    rintro e w4 ⟨rfl, i4, b4⟩
    have I4 := Lib.hid i4; have B4 := Lib.hid b4; have I5 := Lib.hid (I3.out.below b4 (Nat.le_refl _) b4.size)
    clear i4 b4
    go_wp2_with fail
    refine (eqIntS_true _ _ _ _ _ _ zs _ I5.out.toIR I4.out.toIR).mono ?_
    rintro e w5 ⟨rfl, m, rfl⟩
    go_wp2_with fail
    go_ret
    exact ⟨rfl, below_drawN (below_then (below_then (below_then B1.out (Nat.le_refl _) B2.out) (Nat.le_refl _) B3.out) (Nat.le_refl _) B4.out) m⟩
end Go.Proofs.Ytdkkmdifdbikaaa
