/-
  Draws of one list (l91One). Conditions: the code's bytes are there.
-/
import Derived.Test.YtkghpmjbclnojabDraw3
namespace Go.Proofs.Ytkghpmjbclnojab
open Go.RowKit

/-- The call returns a list of its own. -/
def OnePost (w : World) (most : Nat) (e : Ending) (w' : World) : Prop :=
  ∃ A c zs, e = .returned (.slice A zs.length c) ∧ (zs.length ≤ most ∧ CapOk zs.length c) ∧ IW w' w.heap.size w'.heap.size A zs ∧ Below w.heap.size w w'

set_option maxHeartbeats 1000000 in
theorem l91One_any (A : Option Addr) (c : Nat) (bs : List Int) (w : World) (h : BR w w.heap.size A bs) (hc : bs.length ≤ c) (hc2 : c ≤ 9000000000000000000) :
    Calls Try.prog 39 #[.slice A bs.length c] w (OnePost w 10) := by
  have H := Lib.hid h
  clear h
  go_enter Try.func39, Try.ntmps39
  go_wp2_with fail
  refine (l6Open_any A c bs _ H.out hc hc2).mono ?_
  rintro e w1 ⟨rfl, hr, hb⟩
  have B0 := Lib.hid hb; have R0 := Lib.hid hr
  have hs := hb.size
  clear hb hr
  go_wp2_with fail
  refine (l91Some_any w.heap.size 0 9 _ R0.out (by omega) (by omega)).mono ?_
  rintro e w2 ⟨A2, c2, zs, p', rfl, hz, hi, hb, hr, -, hcap⟩
  have I0 := Lib.hid (hi.wide hs (Nat.le_refl _) (Nat.le_refl _))
  replace B0 := Lib.hid (B0.out.trans (hb.toBelow hs (Nat.le_refl _)))
  have HZ := Lib.hid (And.intro hz hcap)
  clear hi hb hr hz hcap
  go_wp2
  go_ret
  exact ⟨A2, c2, zs, rfl, HZ.out, I0.out, B0.out⟩

/-- The call returns a number and a list of its own. -/
def NumListPost (w : World) (most : Nat) (e : Ending) (w' : World) : Prop :=
  ∃ x A c zs, e = .returned (.tuple #[.int .i64 x, .slice A zs.length c]) ∧ I64 x ∧ (zs.length ≤ most ∧ CapOk zs.length c) ∧ IW w' w.heap.size w'.heap.size A zs ∧ Below w.heap.size w w'

theorem numList_of {w w' : World} {n most c : Nat} {x : Int} {A : Option Addr} {zs : List Int} (hz : zs.length = n) (hn : n ≤ most) (hx : I64 x) (hi : IW w' w.heap.size w'.heap.size A zs) (hb : Below w.heap.size w w') (hcap : CapOk n c) : NumListPost w most (.returned (.tuple #[.int .i64 x, .slice A n c])) w' := by
  subst hz; exact ⟨x, A, c, zs, rfl, hx, ⟨hn, hcap⟩, hi, hb⟩

end Go.Proofs.Ytkghpmjbclnojab
