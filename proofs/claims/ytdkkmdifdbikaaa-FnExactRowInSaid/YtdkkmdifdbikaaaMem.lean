/-
  Plain words for lists of integers in memory: a slice that reads as a list, a slice of the call's own that may be written, and what happens to both when the world grows. Conditions: none.
-/
import Derived.Test.YtdkkmdifdbikaaaRows
import Derived.WalkKit
import Derived.WalkSpells
import Derived.WalkLawsBesides
import Derived.Deep.QuietTactic
import Derived.BigQuiet
import Derived.Deep.LoopGhost
import Derived.Lib.Hide
namespace Go.Proofs.Ytdkkmdifdbikaaa
open Go.RowKit

/-- an int64. -/
def I64 (x : Int) : Prop := -9223372036854775808 ≤ x ∧ x ≤ 9223372036854775807

/-- The slice's cells read as the list; they lie below block B. -/
def IR (w : World) (B : Nat) (A : Option Addr) (zs : List Int) : Prop :=
  zs.length ≤ 17592186044416 ∧ (∀ z, z ∈ zs → I64 z) ∧ (0 < zs.length → ∃ b off, A = some ⟨b, off, none⟩ ∧ b < B ∧ b < w.heap.size ∧ ∀ (j : Nat) (h : j < zs.length), w.cell? ⟨b, off + j, none⟩ = some (.int .i64 zs[j]))

/-- The slice's cells are the call's own (blocks from B on), may be written, and read as the list. -/
def IW (w : World) (B : Nat) (A : Option Addr) (zs : List Int) : Prop :=
  zs.length ≤ 17592186044416 ∧ (∀ z, z ∈ zs → I64 z) ∧ (0 < zs.length → ∃ b off, A = some ⟨b, off, none⟩ ∧ B ≤ b ∧ b < w.heap.size ∧ ∀ (j : Nat) (h : j < zs.length), w.cell? ⟨b, off + j, none⟩ = some (.int .i64 zs[j]) ∧ w.frozen? ⟨b, off + j, none⟩ = false)

section
variable {w w' : World} {B B' : Nat} {A : Option Addr} {zs : List Int}
theorem IR.at_ {k : Nat} (h : IR w B A zs) (hk : k < zs.length) : ∃ b off, A = some ⟨b, off, none⟩ ∧ b < B ∧ b < w.heap.size ∧ w.cell? ⟨b, off + k, none⟩ = some (.int .i64 zs[k]) := by
  obtain ⟨b, off, e, h1, h2, h3⟩ := h.2.2 (by omega)
  exact ⟨b, off, e, h1, h2, h3 k hk⟩
theorem IR.i64 (h : IR w B A zs) {k : Nat} (hk : k < zs.length) : I64 zs[k] := h.2.1 _ (List.getElem_mem hk)
theorem IR.keep (h : IR w B A zs) (hs : w.heap.size ≤ w'.heap.size) (hk : ∀ p : Addr, p.block < B → p.block < w.heap.size → w'.cell? p = w.cell? p) : IR w' B A zs :=
  ⟨h.1, h.2.1, fun hn => by
    obtain ⟨b, off, e, h1, h2, h3⟩ := h.2.2 hn
    exact ⟨b, off, e, h1, by omega, fun j hj => (hk _ h1 h2).trans (h3 j hj)⟩⟩
theorem IR.more (h : IR w B A zs) (hB : B ≤ B') : IR w B' A zs :=
  ⟨h.1, h.2.1, fun hn => by
    obtain ⟨b, off, e, h1, h2, h3⟩ := h.2.2 hn
    exact ⟨b, off, e, by omega, h2, h3⟩⟩
theorem IR.size_ (h : IR w B A zs) : IR w w.heap.size A zs :=
  ⟨h.1, h.2.1, fun hn => by
    obtain ⟨b, off, e, h1, h2, h3⟩ := h.2.2 hn
    exact ⟨b, off, e, h2, h2, h3⟩⟩
theorem IR.below {C : Nat} (h : IR w B A zs) (hb : Below C w w') (hC : B ≤ C ∨ w.heap.size ≤ C) (hs : w.heap.size ≤ w'.heap.size) : IR w' B A zs :=
  h.keep hs fun p h1 h2 => hb.cell (p := p) (by omega)
theorem IR.drewN (h : IR w B A zs) (k : Nat) : IR (w.drewN k) B A zs := h
theorem IW.toIR (h : IW w B A zs) : IR w w.heap.size A zs :=
  ⟨h.1, h.2.1, fun hn => by
    obtain ⟨b, off, e, h1, h2, h3⟩ := h.2.2 hn
    exact ⟨b, off, e, h2, h2, fun j hj => (h3 j hj).1⟩⟩
theorem IW.drewN (h : IW w B A zs) (k : Nat) : IW (w.drewN k) B A zs := h
theorem IW.less (h : IW w B A zs) (hB : B' ≤ B) : IW w B' A zs :=
  ⟨h.1, h.2.1, fun hn => by
    obtain ⟨b, off, e, h1, h2, h3⟩ := h.2.2 hn
    exact ⟨b, off, e, by omega, h2, h3⟩⟩
theorem IW.below {C : Nat} (h : IW w B A zs) (hb : Below C w w') (hC : w.heap.size ≤ C) (hs : w.heap.size ≤ w'.heap.size) : IW w' B A zs :=
  ⟨h.1, h.2.1, fun hn => by
    obtain ⟨b, off, e, h1, h2, h3⟩ := h.2.2 hn
    exact ⟨b, off, e, h1, by omega, fun j hj => ⟨(hb.cell (p := ⟨b, off + j, none⟩) (by show b < C; omega)).trans (h3 j hj).1, (hb.frozen (p := ⟨b, off + j, none⟩) (by show b < C; omega)).trans (h3 j hj).2⟩⟩⟩
theorem IW.at_ {k : Nat} (h : IW w B A zs) (hk : k < zs.length) : ∃ b off, A = some ⟨b, off, none⟩ ∧ B ≤ b ∧ b < w.heap.size ∧ w.cell? ⟨b, off + k, none⟩ = some (.int .i64 zs[k]) ∧ w.frozen? ⟨b, off + k, none⟩ = false := by
  obtain ⟨b, off, e, h1, h2, h3⟩ := h.2.2 (by omega)
  exact ⟨b, off, e, h1, h2, (h3 k hk).1, (h3 k hk).2⟩
end

/-- The cells of a block, from off on, that may be written, and read as the list. -/
def Cells (w : World) (b off : Nat) (xs : List Int) : Prop := ∀ (j : Nat) (h : j < xs.length), w.cell? ⟨b, off + j, none⟩ = some (.int .i64 xs[j]) ∧ w.frozen? ⟨b, off + j, none⟩ = false
theorem Cells.set_ {w : World} {b off : Nat} {xs : List Int} (h : Cells w b off xs) (k : Nat) (hk : k < xs.length) (v : Int) :
    Cells (w.setCell ⟨b, off + k, none⟩ (.int .i64 v)) b off (xs.set k v) := fun j hj => by
  have hj' : j < xs.length := by simpa using hj
  refine ⟨?_, (World.frozen?_setCell _ _ _ _).trans (h j hj').2⟩
  by_cases e : j = k
  · subst e; rw [World.cell?_setCell_same' _ _ _ (by rw [(h j hj').1]; rfl)]; simp
  · rw [World.cell?_setCell_other _ _ _ _ (by intro e'; injection e' with _ e' _; exact e (by omega)), (h j hj').1]; simp [List.getElem_set, Ne.symm e]
theorem Cells.iw {w : World} {b off B : Nat} {zs : List Int} (h : Cells w b off zs) (hB : B ≤ b) (hs : b < w.heap.size)
    (hl : zs.length ≤ 17592186044416) (hz : ∀ z, z ∈ zs → I64 z) : IW w B (some ⟨b, off, none⟩) zs :=
  ⟨hl, hz, fun _ => ⟨b, off, rfl, hB, hs, h⟩⟩
theorem Cells.made (w : World) (n : Nat) (e : TypeId) : Cells (w.alloc (.cells (madeCells #[.int .i64 0] n) e)) w.heap.size 0 (List.replicate n 0) := fun j hj => by
  refine ⟨?_, World.frozen?_alloc_at _ _ _ _ rfl⟩
  rw [World.cell?_alloc_at _ _ _ _ rfl, ← Array.getElem?_toList, toList_madeCells_one]
  simp at hj; simp [hj]
/-- The first k of the list, then noughts. -/
def fillTo (zs : List Int) (k : Nat) : List Int := zs.take k ++ List.replicate (zs.length - k) 0
theorem fillTo_len (zs : List Int) (k : Nat) (hk : k ≤ zs.length) : (fillTo zs k).length = zs.length := by unfold fillTo; simp; omega
theorem fillTo_zero (zs : List Int) : fillTo zs 0 = List.replicate zs.length 0 := by simp [fillTo]
theorem fillTo_all (zs : List Int) : fillTo zs zs.length = zs := by simp [fillTo]
theorem fillTo_set (zs : List Int) (k : Nat) (hk : k < zs.length) : (fillTo zs k).set k zs[k] = fillTo zs (k + 1) := by
  unfold fillTo
  apply List.ext_getElem
  · simp; omega
  · intro j h1 h2
    simp at h1 h2
    have m1 : min k zs.length = k := by omega
    have m2 : min (k + 1) zs.length = k + 1 := by omega
    simp only [List.getElem_set, List.getElem_append, List.length_take, List.getElem_take, List.getElem_replicate, m1, m2]
    by_cases e : k = j
    · subst e; simp
    · by_cases e2 : j < k
      · simp [e, e2, show j < k + 1 by omega]
      · simp [e, e2, show ¬ j < k + 1 by omega]
theorem Cells.fill {w : World} {b off : Nat} {zs : List Int} {k : Nat} (h : Cells w b off (fillTo zs k)) (hk : k < zs.length) : Cells (w.setCell ⟨b, off + k, none⟩ (.int .i64 zs[k])) b off (fillTo zs (k + 1)) := by
  rw [← fillTo_set zs k hk]
  exact h.set_ k (by rw [fillTo_len _ _ (by omega)]; exact hk) _
theorem Cells.fillAt {w : World} {b off : Nat} {zs : List Int} {k : Nat} (h : Cells w b off (fillTo zs k)) (hk : k < zs.length) : (w.cell? ⟨b, off + k, none⟩ = some (.int .i64 ((fillTo zs k)[k]'(by rw [fillTo_len _ _ (by omega)]; exact hk)))) ∧ w.frozen? ⟨b, off + k, none⟩ = false :=
  h k _
theorem Cells.iw' {w : World} {b off B n : Nat} {zs : List Int} (h : Cells w b off zs) (hn : zs.length = n) (hB : B ≤ b) (hs : b < w.heap.size)
    (hl : n ≤ 17592186044416) (hz : ∀ z, z ∈ zs → I64 z) : IW w B (some ⟨b, off, none⟩) zs := h.iw hB hs (by omega) hz
theorem grownBy_set {a w : World} {g : Nat} (h : a.grownBy w (some g)) (off : Nat) (u : Value) : a.grownBy (w.setCell ⟨g, off, none⟩ u) (some g) where
  os := h.os
  tape := h.tape
  output := h.output
  size := by simpa [World.setCell] using h.size
  block k hk hne := by
    rw [Below.heap_setCell w ⟨g, off, none⟩ u k (fun e => hne (by rw [e]))]
    exact h.block k hk hne
theorem below_then {B : Nat} {a b c : World} (h : Below B a b) (hB : B ≤ a.heap.size) (k : Below b.heap.size b c) : Below B a c := h.trans (k.mono (Nat.le_trans hB h.size))
theorem below_drawN {B : Nat} {a w : World} (h : Below B a w) (n : Nat) : Below B a (w.drewN n) := ⟨h.os, h.tape, h.output, h.size, h.block⟩
end Go.Proofs.Ytdkkmdifdbikaaa
