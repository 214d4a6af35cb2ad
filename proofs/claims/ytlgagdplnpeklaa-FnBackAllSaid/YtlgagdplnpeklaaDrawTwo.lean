/-
  Draws of two lists (l91Two). Conditions: the code's bytes are there.
-/
import Derived.Test.YtlgagdplnpeklaaDrawOne
namespace Go.Proofs.Ytlgagdplnpeklaa
open Go.RowKit

/-- The call returns two lists of its own. -/
def TwoPost (w : World) (most : Nat) (e : Ending) (w' : World) : Prop :=
  ∃ A c zs A' c' zs', e = .returned (.tuple #[.slice A zs.length c, .slice A' zs'.length c']) ∧ (zs.length ≤ most ∧ CapOk zs.length c) ∧ (zs'.length ≤ most ∧ CapOk zs'.length c') ∧ IW w' w.heap.size w'.heap.size A zs ∧ IW w' w.heap.size w'.heap.size A' zs' ∧ Below w.heap.size w w'
theorem twoPost_of {w w' : World} {n n' m c m' c' lo lo' hi hi' most : Nat} {A A' : Option Addr} {zs zs' : List Int} (hz : zs.length = n) (hz' : zs'.length = n') (hn : n ≤ most) (hn' : n' ≤ most)
    (hi1 : IW w' lo hi A zs) (hi2 : IW w' lo' hi' A' zs') (hlo : w.heap.size ≤ lo) (hlo' : w.heap.size ≤ lo') (hb : Below w.heap.size w w') (hm : m = n) (hm' : m' = n') (hk : CapOk m c) (hk' : CapOk m' c') : TwoPost w most (.returned (.tuple #[.slice A m c, .slice A' m' c'])) w' := by
  subst hm; subst hm'; subst hz; subst hz'
  exact ⟨A, c, zs, A', c', zs', rfl, ⟨hn, hk⟩, ⟨hn', hk'⟩, hi1.wide hlo hi1.2.2.1 (Nat.le_refl _), hi2.wide hlo' hi2.2.2.1 (Nat.le_refl _), hb⟩

theorem l91Bent_n (R p n : Nat) {N : Int} (w : World) (h : Rd w R p) (hp : p ≤ 900000000) (hn : n ≤ 1000) (hN : N = (n : Int)) :
    Calls Try.prog 82 #[.pointer (some ⟨R, 0, none⟩), .int .i64 N] w (DrawPost w R p (n - 1 + 1) (n + 2)) := by
  subst hN; exact l91Bent_any R p n w h hp hn
theorem l91Row_n (R p n : Nat) {N : Int} (w : World) (h : Rd w R p) (hp : p ≤ 900000000) (hn : n ≤ 1000) (hN : N = (n : Int)) :
    Calls Try.prog 73 #[.pointer (some ⟨R, 0, none⟩), .int .i64 N] w (DrawPost w R p n (2 * n + 1)) := by
  subst hN; exact l91Row_any R p n w h hp hn

set_option maxRecDepth 100000 in
set_option maxHeartbeats 2000000 in
theorem l91Two_any (A : Option Addr) (c : Nat) (bs : List Int) (w : World) (h : BR w w.heap.size A bs) (hc : bs.length ≤ c) (hc2 : c ≤ 9000000000000000000) :
    Calls Try.prog 54 #[.slice A bs.length c] w (TwoPost w 9) := by
  have H := Lib.hid h
  clear h
  go_enter Try.func54, Try.ntmps54
  go_wp2_with fail
  refine (l6Open_any A c bs _ H.out hc hc2).mono ?_
  rintro e w1 ⟨rfl, hr, hb⟩
  have B0 := Lib.hid hb; have R0 := Lib.hid hr
  have hs := hb.size
  clear hb hr
  go_wp2_with fail
  refine (l91Some_any w.heap.size 0 8 _ R0.out (by omega) (by omega)).mono ?_
  rintro e w2 ⟨A2, c2, zs, p2, rfl, hz, hi, hb, hr, hp2, hcap⟩
  have HK := Lib.hid hcap
  clear hcap
  have I0 := Lib.hid hi
  have hs1 : w.heap.size < w1.heap.size := R0.out.lt
  replace B0 := Lib.hid (B0.out.trans (hb.toBelow hs (Nat.le_refl _)))
  replace R0 := Lib.hid hr
  have hs2 := B0.out.size
  clear hi hb hr hs
  go_wp2_with fail
  refine (pick_any w.heap.size p2 _ _ R0.out (by omega) (by omega)).mono ?_
  rintro e w3 ⟨K, rfl, -, -, -, hb, hs, hr⟩
  replace I0 := Lib.hid (I0.out.but hb (Nat.le_refl _) (.inl hs1))
  replace B0 := Lib.hid (B0.out.trans (hb.toBelow hs2 (Nat.le_refl _)))
  replace R0 := Lib.hid hr
  have hs3 := B0.out.size
  clear hb hs hr
  by_cases hK : K = 0
  · subst hK
    go_wp2_with fail
    refine (l91Some_any w.heap.size _ 8 _ R0.out (by omega) (by omega)).mono ?_
    rintro e w4 ⟨A4, c4, zs4, p4, rfl, hz4, hi, hb, hr, -, hcap⟩
    have HK2 := Lib.hid hcap
    clear hcap
    have J0 := Lib.hid hi
    replace I0 := Lib.hid (I0.out.but hb (by have := I0.out.2.2.1; omega) (.inl hs1))
    replace B0 := Lib.hid (B0.out.trans (hb.toBelow hs3 (Nat.le_refl _)))
    clear hi hb hr
    go_wp2
    go_ret2
    exact twoPost_of rfl rfl hz hz4 I0.out J0.out (by omega) hs3 B0.out rfl rfl HK.out HK2.out
  · go_wp2_with fail
    refine (pick_any w.heap.size _ _ _ R0.out (by omega) (by omega)).mono ?_
    rintro e w4 ⟨L, rfl, -, -, -, hb, hs, hr⟩
    replace I0 := Lib.hid (I0.out.but hb (by have := I0.out.2.2.1; omega) (.inl hs1))
    replace B0 := Lib.hid (B0.out.trans (hb.toBelow hs3 (Nat.le_refl _)))
    replace R0 := Lib.hid hr
    have hs4 := B0.out.size
    clear hb hs hr
    by_cases h1 : (zs.length : Int) ≤ 1
    · by_cases hL : L = 0
      · subst hL
        go_wp2_with fail
        refine (l91Bent_n w.heap.size _ 1 _ R0.out (by omega) (by omega) rfl).mono ?_
        rintro e w5 ⟨A5, c5, zs5, p5, rfl, hz5, hi, hb, hr, -, hcap⟩
        have HK2 := Lib.hid hcap
        clear hcap
        have J0 := Lib.hid hi
        replace I0 := Lib.hid (I0.out.but hb (by have := I0.out.2.2.1; omega) (.inl hs1))
        replace B0 := Lib.hid (B0.out.trans (hb.toBelow hs4 (Nat.le_refl _)))
        clear hi hb hr
        go_wp2
        go_ret2
        exact twoPost_of rfl hz5 hz (by omega) I0.out J0.out (by omega) hs4 B0.out rfl rfl HK.out HK2.out
      · skip
        go_wp2_with fail
        refine (l91Row_n w.heap.size _ 1 _ R0.out (by omega) (by omega) rfl).mono ?_
        rintro e w5 ⟨A5, c5, zs5, p5, rfl, hz5, hi, hb, hr, -, hcap⟩
        have HK2 := Lib.hid hcap
        clear hcap
        have J0 := Lib.hid hi
        replace I0 := Lib.hid (I0.out.but hb (by have := I0.out.2.2.1; omega) (.inl hs1))
        replace B0 := Lib.hid (B0.out.trans (hb.toBelow hs4 (Nat.le_refl _)))
        clear hi hb hr
        go_wp2
        go_ret2
        exact twoPost_of rfl hz5 hz (by omega) I0.out J0.out (by omega) hs4 B0.out rfl rfl HK.out HK2.out
    · by_cases hL : L = 0
      · subst hL
        go_wp2_with fail
        refine (l91Bent_n w.heap.size _ zs.length _ R0.out (by omega) (by omega) rfl).mono ?_
        rintro e w5 ⟨A5, c5, zs5, p5, rfl, hz5, hi, hb, hr, -, hcap⟩
        have HK2 := Lib.hid hcap
        clear hcap
        have J0 := Lib.hid hi
        replace I0 := Lib.hid (I0.out.but hb (by have := I0.out.2.2.1; omega) (.inl hs1))
        replace B0 := Lib.hid (B0.out.trans (hb.toBelow hs4 (Nat.le_refl _)))
        clear hi hb hr
        go_wp2
        go_ret2
        exact twoPost_of rfl hz5 hz (by omega) I0.out J0.out (by omega) hs4 B0.out rfl rfl HK.out HK2.out
      · skip
        go_wp2_with fail
        refine (l91Row_n w.heap.size _ zs.length _ R0.out (by omega) (by omega) rfl).mono ?_
        rintro e w5 ⟨A5, c5, zs5, p5, rfl, hz5, hi, hb, hr, -, hcap⟩
        have HK2 := Lib.hid hcap
        clear hcap
        have J0 := Lib.hid hi
        replace I0 := Lib.hid (I0.out.but hb (by have := I0.out.2.2.1; omega) (.inl hs1))
        replace B0 := Lib.hid (B0.out.trans (hb.toBelow hs4 (Nat.le_refl _)))
        clear hi hb hr
        go_wp2
        go_ret2
        exact twoPost_of rfl hz5 hz (by omega) I0.out J0.out (by omega) hs4 B0.out rfl rfl HK.out HK2.out
end Go.Proofs.Ytlgagdplnpeklaa
