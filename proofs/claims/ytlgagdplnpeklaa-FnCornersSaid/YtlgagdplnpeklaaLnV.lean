/-
  What the model and the program tell as plain values, written out: LineFall, LineMeets, LineBetween. Conditions: the cells are there.
-/
import Derived.Test.YtlgagdplnpeklaaLnK
import Derived.Test.YtlgagdplnpeklaaLnJ
namespace Go.Proofs.Ytlgagdplnpeklaa
open Go.RowKit

def fallA (zs : List Int) (s : Int) : Int := (lineFallM zs s).getD 0
def fallB (zs : List Int) (s : Int) : Bool := (lineFallM zs s).isSome
def meetA (zs : List Int) (s : Int) : Int := ((lineMeetsM zs s).getD (0, 0)).1
def meetB (zs : List Int) (s : Int) : Int := ((lineMeetsM zs s).getD (0, 0)).2
def meetC (zs : List Int) (s : Int) : Bool := (lineMeetsM zs s).isSome
def betwA (a b : List Int) : Int := ((betweenM a b).getD (0, 0)).1
def betwB (a b : List Int) : Int := ((betweenM a b).getD (0, 0)).2
def betwC (a b : List Int) : Bool := (betweenM a b).isSome
theorem specLineFall_v (A : Option Addr) (c : Nat) (zs : List Int) (s : Int) (w : World) (h : IR w 0 w.heap.size A zs) :
    Calls Try.prog 24 #[.slice A zs.length c, .int .i64 s] w fun e w' => e = .returned (.tuple #[.int .i64 (fallA zs s), .bool (fallB zs s)]) ∧ Below w.heap.size w w' :=
  (specLineFall_any A c zs s w h).mono fun _ _ ⟨h1, h2⟩ => ⟨h1, by subst h2; exact Below.refl _ _⟩
theorem implLineFall_v (A : Option Addr) (c : Nat) (zs : List Int) (s : Int) (w : World) (h : IR w 0 w.heap.size A zs) :
    Calls Try.prog 21 #[.slice A zs.length c, .int .i64 s] w fun e w' => e = .returned (.tuple #[.int .i64 (fallA zs s), .bool (fallB zs s)]) ∧ Below w.heap.size w w' := implLineFall_any A c zs s w h
theorem specLineMeets_v (A : Option Addr) (c : Nat) (zs : List Int) (s : Int) (w : World) (h : IR w 0 w.heap.size A zs) :
    Calls Try.prog 31 #[.slice A zs.length c, .int .i64 s] w fun e w' => e = .returned (.tuple #[.int .i64 (meetA zs s), .int .i64 (meetB zs s), .bool (meetC zs s)]) ∧ Below w.heap.size w w' :=
  (specLineMeets_any A c zs s w h).mono fun _ _ ⟨h1, h2⟩ => ⟨h1, by subst h2; exact Below.refl _ _⟩
theorem implLineMeets_v (A : Option Addr) (c : Nat) (zs : List Int) (s : Int) (w : World) (h : IR w 0 w.heap.size A zs) :
    Calls Try.prog 30 #[.slice A zs.length c, .int .i64 s] w fun e w' => e = .returned (.tuple #[.int .i64 (meetA zs s), .int .i64 (meetB zs s), .bool (meetC zs s)]) ∧ Below w.heap.size w w' := implLineMeets_any A c zs s w h
theorem specLineBetween_v (A0 : Option Addr) (c0 : Nat) (zs0 : List Int) (A1 : Option Addr) (c1 : Nat) (zs1 : List Int) (w : World) (h0 : IR w 0 w.heap.size A0 zs0) (h1 : IR w 0 w.heap.size A1 zs1) :
    Calls Try.prog 45 #[.slice A0 zs0.length c0, .slice A1 zs1.length c1] w fun e w' => e = .returned (.tuple #[.int .i64 (betwA zs0 zs1), .int .i64 (betwB zs0 zs1), .bool (betwC zs0 zs1)]) ∧ Below w.heap.size w w' := specLineBetween_any A0 c0 zs0 A1 c1 zs1 w h0 h1
theorem implLineBetween_v (A0 : Option Addr) (c0 : Nat) (zs0 : List Int) (A1 : Option Addr) (c1 : Nat) (zs1 : List Int) (w : World) (h0 : IR w 0 w.heap.size A0 zs0) (h1 : IR w 0 w.heap.size A1 zs1) :
    Calls Try.prog 44 #[.slice A0 zs0.length c0, .slice A1 zs1.length c1] w fun e w' => e = .returned (.tuple #[.int .i64 (betwA zs0 zs1), .int .i64 (betwB zs0 zs1), .bool (betwC zs0 zs1)]) ∧ Below w.heap.size w w' := implLineBetween_any A0 c0 zs0 A1 c1 zs1 w h0 h1
end Go.Proofs.Ytlgagdplnpeklaa
