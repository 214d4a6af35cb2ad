/-
  Draws of two lists (l91Two). Conditions: the code's bytes are there.
-/
import Derived.Test.YtkghpmjbclnojaaDrawOne
namespace Go.Proofs.Ytkghpmjbclnojaa
open Go.RowKit

/-- The call returns two lists of its own. -/
def TwoPost (w : World) (most : Nat) (e : Ending) (w' : World) : Prop :=
  ∃ A c zs A' c' zs', e = .returned (.tuple #[.slice A zs.length c, .slice A' zs'.length c']) ∧ (zs.length ≤ most ∧ CapOk zs.length c) ∧ (zs'.length ≤ most ∧ CapOk zs'.length c') ∧ IW w' w.heap.size w'.heap.size A zs ∧ IW w' w.heap.size w'.heap.size A' zs' ∧ Below w.heap.size w w'
theorem twoPost_of {w w' : World} {n n' m c m' c' lo lo' hi hi' most : Nat} {A A' : Option Addr} {zs zs' : List Int} (hz : zs.length = n) (hz' : zs'.length = n') (hn : n ≤ most) (hn' : n' ≤ most)
    (hi1 : IW w' lo hi A zs) (hi2 : IW w' lo' hi' A' zs') (hlo : w.heap.size ≤ lo) (hlo' : w.heap.size ≤ lo') (hb : Below w.heap.size w w') (hm : m = n) (hm' : m' = n') (hk : CapOk m c) (hk' : CapOk m' c') : TwoPost w most (.returned (.tuple #[.slice A m c, .slice A' m' c'])) w' := by
  subst hm; subst hm'; subst hz; subst hz'
  exact ⟨A, c, zs, A', c', zs', rfl, ⟨hn, hk⟩, ⟨hn', hk'⟩, hi1.wide hlo hi1.2.2.1 (Nat.le_refl _), hi2.wide hlo' hi2.2.2.1 (Nat.le_refl _), hb⟩

theorem l91Bent_n (R p n : Nat) {N : Int} (w : World) (h : Rd w R p) (hp : p ≤ 900000000) (hn : n ≤ 1000) (hN : N = (n : Int)) :
    Calls Try.prog 85 #[.pointer (some ⟨R, 0, none⟩), .int .i64 N] w (DrawPost w R p (n - 1 + 1) (n + 2)) := by
  subst hN; exact l91Bent_any R p n w h hp hn
theorem l91Row_n (R p n : Nat) {N : Int} (w : World) (h : Rd w R p) (hp : p ≤ 900000000) (hn : n ≤ 1000) (hN : N = (n : Int)) :
    Calls Try.prog 86 #[.pointer (some ⟨R, 0, none⟩), .int .i64 N] w (DrawPost w R p n (2 * n + 1)) := by
  subst hN; exact l91Row_any R p n w h hp hn

end Go.Proofs.Ytkghpmjbclnojaa
