/-
  What the laws draw, first part: the reader is opened, rows are drawn entry by entry, lists are sorted and added up: each call returns a list of its own. Conditions: the reader has been asked at most 1,000,000,000 times.
-/
import Derived.Test.YtkkalkcoablbkaaPick
import Derived.Test.YtkkalkcoablbkaaFrom
namespace Go.Proofs.Ytkkalkcoablbkaa
open Go.RowKit

theorem OwnI.but {w w' : World} {base C R : Nat} {v : Value} {zs : List Int} (h : OwnI w base v zs) (hb : But C R w w') (hC : w.heap.size ≤ C) (hR : R < base) : OwnI w' base v zs := by
  obtain ⟨ho, hz, hs⟩ := h
  refine ⟨⟨ho.1, ?_⟩, hz, Nat.le_trans hs hb.size⟩
  rcases ho.2 with h0 | ⟨g, cap, cur, e, hg, hh, r⟩
  · exact .inl h0
  · exact .inr ⟨g, cap, cur, e, hg, (hb.block g (Nat.lt_of_lt_of_le (Array.getElem?_eq_some_iff.1 hh).1 hC) (by omega)).trans hh, r⟩
theorem IW.but {w w' : World} {lo hi C R : Nat} {A : Option Addr} {zs : List Int} (h : IW w lo hi A zs) (hb : But C R w w') (hC : hi ≤ C) (hR : R < lo ∨ hi ≤ R) : IW w' lo hi A zs :=
  h.keep hb.size fun k _ h2 => hb.block k (by omega) (by omega)
theorem IR.but {w w' : World} {lo hi C R : Nat} {A : Option Addr} {zs : List Int} (h : IR w lo hi A zs) (hb : But C R w w') (hC : hi ≤ C) (hR : R < lo ∨ hi ≤ R) : IR w' lo hi A zs :=
  h.keep hb.size fun p _ h2 => World.cell?_of_block (hb.block p.block (by omega) (by omega))

theorem Rd.made (w : World) (A : Option Addr) (n c : Nat) (bs : List Int) (t : TypeId) (h : BR w w.heap.size A bs) (hn : n = bs.length) : Rd (w.alloc (.cells #[.slice A n c, .int .i64 0] t)) w.heap.size 0 := by
  subst hn
  exact ⟨A, c, bs, by simp, by rw [World.cell?_alloc_at _ _ _ _ rfl]; rfl, by rw [World.cell?_alloc_at _ _ _ _ rfl]; rfl, World.frozen?_alloc_at _ _ _ _ rfl,
    h.but (R := w.heap.size) (But.of ((Below.refl w.heap.size w).alloc (Nat.le_refl _) _)) (Nat.le_refl _) (Nat.le_refl _)⟩
theorem BR.take {w : World} {hi : Nat} {A : Option Addr} {bs : List Int} (h : BR w hi A bs) (n : Nat) : BR w hi A (bs.take n) := by
  refine ⟨by have := h.1; simp; omega, fun z hz => h.2.1 z (List.mem_of_mem_take hz), h.2.2.1, fun hn => ?_⟩
  obtain ⟨b, off, e, h2, h3⟩ := h.2.2.2 (by simp at hn; omega)
  refine ⟨b, off, e, h2, fun j hj => ?_⟩
  have hj2 : j < bs.length := by simp at hj; omega
  rw [h3 j hj2]; simp

/-- The capacity c holds n entries, and is an int. -/
def CapOk (n c : Nat) : Prop := n ≤ c ∧ c ≤ 9223372036854775807
theorem OwnI.iwc {w : World} {base n : Nat} {v : Value} {zs : List Int} (h : OwnI w base v zs) (hn : zs.length = n) (hl : n ≤ 17592186044416) : ∃ A c, v = .slice A n c ∧ IW w base w.heap.size A zs ∧ CapOk n c := by
  obtain ⟨A, c, e, hi⟩ := h.iwn hn hl
  refine ⟨A, c, e, hi, ?_⟩
  rcases h.1.2 with ⟨e2, h0⟩ | ⟨g, cap, cur, e2, hg, hh, hn2, hcap, r⟩
  · rw [e] at e2; injection e2 with _ e3 e4
    subst e3; subst e4
    exact ⟨Nat.le_refl _, by omega⟩
  · rw [e] at e2; injection e2 with _ e3 e4
    subst e4
    exact ⟨by omega, by unfold maxLen at hcap; omega⟩

/-- The call draws a list of n integers of its own; the reader is asked at most k times. -/
def DrawPost (w : World) (R p n k : Nat) (e : Ending) (w' : World) : Prop :=
  ∃ A c zs p', e = .returned (.slice A n c) ∧ zs.length = n ∧ IW w' w.heap.size w'.heap.size A zs ∧ But w.heap.size R w w' ∧ Rd w' R p' ∧ p' ≤ p + k ∧ CapOk n c

theorem drawPost_of {w w' : World} {R p n m k c p' lo : Nat} {A : Option Addr} {zs : List Int} (hz : zs.length = n) (hi : IW w' lo w'.heap.size A zs) (hlo : w.heap.size ≤ lo) (hb : But w.heap.size R w w') (hr : Rd w' R p') (hp : p' ≤ p + k) (hm : m = n) (hcap : CapOk m c) : DrawPost w R p n k (.returned (.slice A m c)) w' := by
  subst hm; exact ⟨A, c, zs, p', rfl, hz, hi.wide hlo (Nat.le_refl _) (Nat.le_refl _), hb, hr, hp, hcap⟩

end Go.Proofs.Ytkkalkcoablbkaa
