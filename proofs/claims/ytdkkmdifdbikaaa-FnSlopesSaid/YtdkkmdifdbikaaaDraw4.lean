/-
  What FnSlopes and FnFrom begin with: DrawRowSlopes and DrawRowFrom draw lists of their own. Conditions: the code's bytes are there.
-/
import Derived.Test.YtdkkmdifdbikaaaDraw3
namespace Go.Proofs.Ytdkkmdifdbikaaa
open Go.RowKit

/-- The call returns a list of its own. -/
def OnePost (w : World) (most : Nat) (e : Ending) (w' : World) : Prop :=
  ∃ A c zs, e = .returned (.slice A zs.length c) ∧ zs.length ≤ most ∧ IW w' w.heap.size w'.heap.size A zs ∧ Below w.heap.size w w'

set_option maxHeartbeats 1000000 in
theorem l91One_any (A : Option Addr) (c : Nat) (bs : List Int) (w : World) (h : BR w w.heap.size A bs) (hc : bs.length ≤ c) (hc2 : c ≤ 9000000000000000000) :
    Calls Try.prog 52 #[.slice A bs.length c] w (OnePost w 10) := by
  have H := Lib.hid h
  clear h
  go_enter Try.func52, Try.ntmps52
  go_wp2_with fail
  refine (l6Open_any A c bs _ H.out hc hc2).mono ?_
  rintro e w1 ⟨rfl, hr, hb⟩
  have B0 := Lib.hid hb; have R0 := Lib.hid hr
  have hs := hb.size
  clear hb hr
  go_wp2_with fail
  refine (l91Some_any w.heap.size 0 9 _ R0.out (by omega) (by omega)).mono ?_
  rintro e w2 ⟨A2, c2, zs, p', rfl, hz, hi, hb, hr, -⟩
  have I0 := Lib.hid (hi.wide hs (Nat.le_refl _) (Nat.le_refl _))
  replace B0 := Lib.hid (B0.out.trans (hb.toBelow hs (Nat.le_refl _)))
  have HZ := Lib.hid hz
  clear hi hb hr hz
  go_wp2
  go_ret
  exact ⟨A2, c2, zs, rfl, HZ.out, I0.out, B0.out⟩

set_option maxHeartbeats 1000000 in
theorem DrawRowSlopes_any (A : Option Addr) (c : Nat) (bs : List Int) (w : World) (h : BR w w.heap.size A bs) (hc : bs.length ≤ c) (hc2 : c ≤ 9000000000000000000) :
    Calls Try.prog 18 #[.slice A bs.length c] w (OnePost w 10) := by
  have H := Lib.hid h
  clear h
  go_enter Try.func18, Try.ntmps18
  go_wp2_with fail
  refine (l91One_any A c bs _ H.out hc hc2).mono ?_
  rintro e w1 ⟨A1, c1, zs, rfl, hz, hi, hb⟩
  have I0 := Lib.hid hi; have B0 := Lib.hid hb; have HZ := Lib.hid hz
  clear hi hb hz
  go_wp2
  go_ret
  exact ⟨A1, c1, zs, rfl, HZ.out, I0.out, B0.out⟩

/-- The call returns a number and a list of its own. -/
def NumListPost (w : World) (most : Nat) (e : Ending) (w' : World) : Prop :=
  ∃ x A c zs, e = .returned (.tuple #[.int .i64 x, .slice A zs.length c]) ∧ I64 x ∧ zs.length ≤ most ∧ IW w' w.heap.size w'.heap.size A zs ∧ Below w.heap.size w w'

theorem numList_of {w w' : World} {n most c : Nat} {x : Int} {A : Option Addr} {zs : List Int} (hz : zs.length = n) (hn : n ≤ most) (hx : I64 x) (hi : IW w' w.heap.size w'.heap.size A zs) (hb : Below w.heap.size w w') : NumListPost w most (.returned (.tuple #[.int .i64 x, .slice A n c])) w' := by
  subst hz; exact ⟨x, A, c, zs, rfl, hx, hn, hi, hb⟩

set_option maxRecDepth 100000 in
set_option maxHeartbeats 2000000 in
theorem DrawRowFrom_any (A : Option Addr) (c : Nat) (bs : List Int) (w : World) (h : BR w w.heap.size A bs) (hc : bs.length ≤ c) (hc2 : c ≤ 9000000000000000000) :
    Calls Try.prog 23 #[.slice A bs.length c] w (NumListPost w 13) := by
  have H := Lib.hid h
  clear h
  go_enter Try.func23, Try.ntmps23
  go_wp2_with fail
  refine (l6Open_any A c bs _ H.out hc hc2).mono ?_
  rintro e w1 ⟨rfl, hr, hb⟩
  have B0 := Lib.hid hb; have R0 := Lib.hid hr
  have hs := hb.size
  clear hb hr
  go_wp2_with fail
  refine (pick_any w.heap.size 0 _ _ R0.out (by omega) (by omega)).mono ?_
  rintro e w2 ⟨x, rfl, x0, x1, -, hb, hs2, hr⟩
  have x2 := x1 (by omega)
  replace B0 := Lib.hid (B0.out.trans (hb.toBelow hs (Nat.le_refl _)))
  replace R0 := Lib.hid hr
  have hs := B0.out.size
  clear hb hr x1 hs2
  go_wp2_with fail
  refine (pick_any w.heap.size _ _ _ R0.out (by omega) (by omega)).mono ?_
  rintro e w3 ⟨y, rfl, y0, y1, -, hb, hs2, hr⟩
  have y2 := y1 (by omega)
  replace B0 := Lib.hid (B0.out.trans (hb.toBelow hs (Nat.le_refl _)))
  replace R0 := Lib.hid hr
  have hs := B0.out.size
  clear hb hr y1 hs2
  have HX : Hid (I64 (x - 20 + y / 23 * 1000)) := ⟨by omega, by omega⟩
  go_wp2_with fail
  refine (pick_any w.heap.size _ _ _ R0.out (by omega) (by omega)).mono ?_
  rintro e w4 ⟨z, rfl, z0, z1, -, hb, hs2, hr⟩
  have z2 := z1 (by omega)
  replace B0 := Lib.hid (B0.out.trans (hb.toBelow hs (Nat.le_refl _)))
  replace R0 := Lib.hid hr
  have hs := B0.out.size
  clear hb hr z1 hs2
  go_wp2_with fail
  refine (pick_any w.heap.size _ _ _ R0.out (by omega) (by omega)).mono ?_
  rintro e w5 ⟨u, rfl, u0, u1, -, hb, hs2, hr⟩
  have u2 := u1 (by omega)
  replace B0 := Lib.hid (B0.out.trans (hb.toBelow hs (Nat.le_refl _)))
  replace R0 := Lib.hid hr
  have hs := B0.out.size
  clear hb hr u1 hs2
  have hn0 : 0 ≤ z + u / 23 * 4 := by omega
  obtain ⟨n, hn⟩ := Int.eq_ofNat_of_zero_le hn0
  have hn1 : n ≤ 13 := by omega
  have HN := Lib.hid hn
  go_wp2_with fail
  refine (l91Row_any w.heap.size _ n _ R0.out (by omega) (by omega)).mono ?_
  rintro e w6 ⟨A6, c6, zs, p', rfl, hz, hi, hb, hr, -⟩
  have I0 := Lib.hid (hi.wide hs (Nat.le_refl _) (Nat.le_refl _))
  replace B0 := Lib.hid (B0.out.trans (hb.toBelow hs (Nat.le_refl _)))
  have HZ := Lib.hid hz
  clear hi hb hr hz
  go_wp2
  go_ret2
  exact numList_of HZ.out hn1 HX.out I0.out B0.out
end Go.Proofs.Ytdkkmdifdbikaaa
