/-
  Plain words for lists of integers in memory: a slice that reads as a list, a slice of the call's own that may be written, and what happens to both when the world grows. Conditions: none.
-/
import Derived.Test.YtanoojpmokbiaabRows
import Derived.WalkKit
import Derived.WalkSpells
import Derived.WalkLawsBesides
import Derived.Deep.QuietTactic
import Derived.BigQuiet
import Derived.Deep.LoopGhost
import Derived.Lib.Hide
namespace Go.Proofs.Ytanoojpmokbiaab
open Go.RowKit

/-- an int64. -/
def I64 (x : Int) : Prop := -9223372036854775808 ≤ x ∧ x ≤ 9223372036854775807

/-- The slice's cells read as the list; they lie in blocks from lo up to below hi. -/
def IR (w : World) (lo hi : Nat) (A : Option Addr) (zs : List Int) : Prop :=
  zs.length ≤ 17592186044416 ∧ (∀ z, z ∈ zs → I64 z) ∧ hi ≤ w.heap.size ∧ (0 < zs.length → ∃ b off, A = some ⟨b, off, none⟩ ∧ lo ≤ b ∧ b < hi ∧ ∀ (j : Nat) (h : j < zs.length), w.cell? ⟨b, off + j, none⟩ = some (.int .i64 zs[j]))

/-- The same, and the cells may be written. -/
def IW (w : World) (lo hi : Nat) (A : Option Addr) (zs : List Int) : Prop :=
  zs.length ≤ 17592186044416 ∧ (∀ z, z ∈ zs → I64 z) ∧ hi ≤ w.heap.size ∧ (0 < zs.length → ∃ b off, A = some ⟨b, off, none⟩ ∧ lo ≤ b ∧ b < hi ∧ ∀ (j : Nat) (h : j < zs.length), w.cell? ⟨b, off + j, none⟩ = some (.int .i64 zs[j]) ∧ w.frozen? ⟨b, off + j, none⟩ = false)

/-- From w to w' only blocks from lo up to below hi have been written; none has come, none has gone. -/
structure Only (lo hi : Nat) (w w' : World) : Prop where
  os : w'.os = w.os
  tape : w'.tape = w.tape
  output : w'.output = w.output
  size : w'.heap.size = w.heap.size
  block : ∀ k, ¬ (lo ≤ k ∧ k < hi) → w'.heap[k]? = w.heap[k]?

theorem Only.refl (lo hi : Nat) (w : World) : Only lo hi w w := ⟨rfl, rfl, rfl, rfl, fun _ _ => rfl⟩
theorem Only.set_ {lo hi : Nat} {a w : World} (h : Only lo hi a w) {b off : Nat} (h1 : lo ≤ b) (h2 : b < hi) (u : Value) : Only lo hi a (w.setCell ⟨b, off, none⟩ u) where
  os := h.os
  tape := h.tape
  output := h.output
  size := by simpa [World.setCell] using h.size
  block k hk := by
    rw [Below.heap_setCell w ⟨b, off, none⟩ u k (fun e => hk (by rw [e]; exact ⟨h1, h2⟩))]
    exact h.block k hk
theorem below_only {B lo hi : Nat} {a w w' : World} (h : Below B a w) (k : Only lo hi w w') (hB : B ≤ lo) : Below B a w' :=
  ⟨k.os.trans h.os, k.tape.trans h.tape, k.output.trans h.output, by rw [k.size]; exact h.size, fun i hi' => (k.block i (by omega)).trans (h.block i hi')⟩

section
variable {w w' : World} {lo hi lo' hi' : Nat} {A : Option Addr} {zs : List Int}
theorem IR.at_ {k : Nat} (h : IR w lo hi A zs) (hk : k < zs.length) : ∃ b off, A = some ⟨b, off, none⟩ ∧ b < hi ∧ b < w.heap.size ∧ w.cell? ⟨b, off + k, none⟩ = some (.int .i64 zs[k]) := by
  obtain ⟨b, off, e, h1, h2, h3⟩ := h.2.2.2 (by omega)
  have := h.2.2.1
  exact ⟨b, off, e, h2, by omega, h3 k hk⟩
theorem IR.i64 (h : IR w lo hi A zs) {k : Nat} (hk : k < zs.length) : I64 zs[k] := h.2.1 _ (List.getElem_mem hk)
theorem IR.keep (h : IR w lo hi A zs) (hs : w.heap.size ≤ w'.heap.size) (hk : ∀ p : Addr, lo ≤ p.block → p.block < hi → w'.cell? p = w.cell? p) : IR w' lo hi A zs :=
  ⟨h.1, h.2.1, Nat.le_trans h.2.2.1 hs, fun hn => by
    obtain ⟨b, off, e, h1, h2, h3⟩ := h.2.2.2 hn
    exact ⟨b, off, e, h1, h2, fun j hj => (hk _ h1 h2).trans (h3 j hj)⟩⟩
theorem IR.wide (h : IR w lo hi A zs) (hl : lo' ≤ lo) (hh : hi ≤ hi') (hs : hi' ≤ w.heap.size) : IR w lo' hi' A zs :=
  ⟨h.1, h.2.1, hs, fun hn => by
    obtain ⟨b, off, e, h1, h2, h3⟩ := h.2.2.2 hn
    exact ⟨b, off, e, by omega, by omega, h3⟩⟩
theorem IR.below {C : Nat} (h : IR w lo hi A zs) (hb : Below C w w') (hC : hi ≤ C) : IR w' lo hi A zs :=
  h.keep hb.size fun p _ h2 => hb.cell (p := p) (by omega)
theorem IR.grow (h : IR w lo hi A zs) (hb : Below w.heap.size w w') : IR w' lo hi A zs := h.below hb h.2.2.1
theorem IR.drewN (h : IR w lo hi A zs) (k : Nat) : IR (w.drewN k) lo hi A zs := h
theorem IR.only (h : IR w lo hi A zs) (ho : Only lo' hi' w w') (hd : hi ≤ lo' ∨ hi' ≤ lo) : IR w' lo hi A zs :=
  h.keep (by rw [ho.size]; exact Nat.le_refl _) fun p h1 h2 => World.cell?_of_block (ho.block p.block (by omega))
theorem IR.nil (w : World) (A : Option Addr) : IR w 0 0 A [] := ⟨by simp, by simp, Nat.zero_le _, fun h => absurd h (by simp)⟩
theorem IW.toIR (h : IW w lo hi A zs) : IR w lo hi A zs :=
  ⟨h.1, h.2.1, h.2.2.1, fun hn => by
    obtain ⟨b, off, e, h1, h2, h3⟩ := h.2.2.2 hn
    exact ⟨b, off, e, h1, h2, fun j hj => (h3 j hj).1⟩⟩
theorem IW.drewN (h : IW w lo hi A zs) (k : Nat) : IW (w.drewN k) lo hi A zs := h
theorem IW.wide (h : IW w lo hi A zs) (hl : lo' ≤ lo) (hh : hi ≤ hi') (hs : hi' ≤ w.heap.size) : IW w lo' hi' A zs :=
  ⟨h.1, h.2.1, hs, fun hn => by
    obtain ⟨b, off, e, h1, h2, h3⟩ := h.2.2.2 hn
    exact ⟨b, off, e, by omega, by omega, h3⟩⟩
theorem IW.keep (h : IW w lo hi A zs) (hs : w.heap.size ≤ w'.heap.size) (hk : ∀ k, lo ≤ k → k < hi → w'.heap[k]? = w.heap[k]?) : IW w' lo hi A zs :=
  ⟨h.1, h.2.1, Nat.le_trans h.2.2.1 hs, fun hn => by
    obtain ⟨b, off, e, h1, h2, h3⟩ := h.2.2.2 hn
    exact ⟨b, off, e, h1, h2, fun j hj => ⟨(World.cell?_of_block (hk b h1 h2)).trans (h3 j hj).1, (World.frozen?_of_block (hk b h1 h2)).trans (h3 j hj).2⟩⟩⟩
theorem IW.below {C : Nat} (h : IW w lo hi A zs) (hb : Below C w w') (hC : hi ≤ C) : IW w' lo hi A zs :=
  h.keep hb.size fun k _ h2 => hb.block k (by omega)
theorem IW.grow (h : IW w lo hi A zs) (hb : Below w.heap.size w w') : IW w' lo hi A zs := h.below hb h.2.2.1
theorem IW.only (h : IW w lo hi A zs) (ho : Only lo' hi' w w') (hd : hi ≤ lo' ∨ hi' ≤ lo) : IW w' lo hi A zs :=
  h.keep (by rw [ho.size]; exact Nat.le_refl _) fun k h1 h2 => ho.block k (by omega)
theorem IW.nil (w : World) (A : Option Addr) : IW w w.heap.size w.heap.size A [] := ⟨by simp, by simp, Nat.le_refl _, fun h => absurd h (by simp)⟩
end

/-- The cells of a block, from off on, that may be written, and read as the list. -/
def Cells (w : World) (b off : Nat) (xs : List Int) : Prop := ∀ (j : Nat) (h : j < xs.length), w.cell? ⟨b, off + j, none⟩ = some (.int .i64 xs[j]) ∧ w.frozen? ⟨b, off + j, none⟩ = false
theorem Cells.set_ {w : World} {b off : Nat} {xs : List Int} (h : Cells w b off xs) (k : Nat) (hk : k < xs.length) (v : Int) :
    Cells (w.setCell ⟨b, off + k, none⟩ (.int .i64 v)) b off (xs.set k v) := fun j hj => by
  have hj' : j < xs.length := by simpa using hj
  refine ⟨?_, (World.frozen?_setCell _ _ _ _).trans (h j hj').2⟩
  by_cases e : j = k
  · subst e; rw [World.cell?_setCell_same' _ _ _ (by rw [(h j hj').1]; rfl)]; simp
  · rw [World.cell?_setCell_other _ _ _ _ (by intro e'; injection e' with _ e' _; exact e (by omega)), (h j hj').1]; simp [Ne.symm e]
theorem Cells.iw {w : World} {b off lo hi n : Nat} {zs : List Int} (h : Cells w b off zs) (hn : zs.length = n) (hB : lo ≤ b) (hb : b < hi) (hs : hi ≤ w.heap.size)
    (hl : n ≤ 17592186044416) (hz : ∀ z, z ∈ zs → I64 z) : IW w lo hi (some ⟨b, off, none⟩) zs :=
  ⟨by omega, hz, hs, fun _ => ⟨b, off, rfl, hB, hb, h⟩⟩
theorem Cells.made (w : World) (n : Nat) (e : TypeId) : Cells (w.alloc (.cells (madeCells #[.int .i64 0] n) e)) w.heap.size 0 (List.replicate n 0) := fun j hj => by
  refine ⟨?_, World.frozen?_alloc_at _ _ _ _ rfl⟩
  rw [World.cell?_alloc_at _ _ _ _ rfl, ← Array.getElem?_toList, toList_madeCells_one]
  simp at hj; simp [hj]
/-- The first k of the list, then noughts. -/
def fillTo (zs : List Int) (k : Nat) : List Int := zs.take k ++ List.replicate (zs.length - k) 0
theorem fillTo_len (zs : List Int) (k : Nat) (hk : k ≤ zs.length) : (fillTo zs k).length = zs.length := by unfold fillTo; simp; omega
theorem fillTo_zero (zs : List Int) : fillTo zs 0 = List.replicate zs.length 0 := by simp [fillTo]
theorem fillTo_all (zs : List Int) : fillTo zs zs.length = zs := by simp [fillTo]
theorem fillTo_set (zs : List Int) (k : Nat) (hk : k < zs.length) : (fillTo zs k).set k zs[k] = fillTo zs (k + 1) := by
  unfold fillTo
  apply List.ext_getElem
  · simp; omega
  · intro j h1 h2
    simp at h1 h2
    have m1 : min k zs.length = k := by omega
    have m2 : min (k + 1) zs.length = k + 1 := by omega
    simp only [List.getElem_set, List.getElem_append, List.length_take, List.getElem_take, List.getElem_replicate, m1, m2]
    by_cases e : k = j
    · subst e; simp
    · by_cases e2 : j < k
      · simp [e, e2, show j < k + 1 by omega]
      · simp [e, e2, show ¬ j < k + 1 by omega]
theorem Cells.fill {w : World} {b off : Nat} {zs : List Int} {k : Nat} (h : Cells w b off (fillTo zs k)) (hk : k < zs.length) : Cells (w.setCell ⟨b, off + k, none⟩ (.int .i64 zs[k])) b off (fillTo zs (k + 1)) := by
  rw [← fillTo_set zs k hk]
  exact h.set_ k (by rw [fillTo_len _ _ (by omega)]; exact hk) _
theorem Cells.fillAt {w : World} {b off : Nat} {zs : List Int} {k : Nat} (h : Cells w b off (fillTo zs k)) (hk : k < zs.length) : (w.cell? ⟨b, off + k, none⟩ = some (.int .i64 ((fillTo zs k)[k]'(by rw [fillTo_len _ _ (by omega)]; exact hk)))) ∧ w.frozen? ⟨b, off + k, none⟩ = false :=
  h k _
theorem below_then {B : Nat} {a b c : World} (h : Below B a b) (hB : B ≤ a.heap.size) (k : Below b.heap.size b c) : Below B a c := h.trans (k.mono (Nat.le_trans hB h.size))
theorem below_drawN {B : Nat} {a w : World} (h : Below B a w) (n : Nat) : Below B a (w.drewN n) := ⟨h.os, h.tape, h.output, h.size, h.block⟩

/-- The call returns a list of its own. -/
def RetS (w : World) (zs : List Int) (e : Ending) (w' : World) : Prop := ∃ A c, e = .returned (.slice A zs.length c) ∧ IW w' w.heap.size w'.heap.size A zs ∧ Below w.heap.size w w'
/-- The call returns a list of its own and true, or an empty one and false. -/
def RetSB (w : World) (o : Option (List Int)) (e : Ending) (w' : World) : Prop := ∃ A c, e = .returned (.tuple #[.slice A (o.getD []).length c, .bool o.isSome]) ∧ IW w' w.heap.size w'.heap.size A (o.getD []) ∧ Below w.heap.size w w'
/-- The same, of a list that may be an argument. -/
def RetRB (w : World) (o : Option (List Int)) (e : Ending) (w' : World) : Prop := ∃ A c, e = .returned (.tuple #[.slice A (o.getD []).length c, .bool o.isSome]) ∧ IR w' 0 w'.heap.size A (o.getD []) ∧ Below w.heap.size w w'
theorem RetSB.toR {w : World} {o : Option (List Int)} {e : Ending} {w' : World} (h : RetSB w o e w') : RetRB w o e w' := by
  obtain ⟨A, c, he, hi, hb⟩ := h
  exact ⟨A, c, he, hi.toIR.wide (Nat.zero_le _) (Nat.le_refl _) (Nat.le_refl _), hb⟩
theorem IW.nil' (w : World) (lo : Nat) (A : Option Addr) : IW w lo w.heap.size A [] := ⟨by simp, by simp, Nat.le_refl _, fun h => absurd h (by simp)⟩
theorem retSB_none {w w' : World} {A : Option Addr} {c : Nat} (hb : Below w.heap.size w w') : RetSB w none (.returned (.tuple #[.slice A 0 c, .bool false])) w' := ⟨A, c, rfl, IW.nil' _ _ _, hb⟩
theorem retSB_some {w w' : World} {A : Option Addr} {n c : Nat} {zs : List Int} (hn : n = zs.length) (hi : IW w' w.heap.size w'.heap.size A zs) (hb : Below w.heap.size w w') : RetSB w (some zs) (.returned (.tuple #[.slice A n c, .bool true])) w' := by
  subst hn; exact ⟨A, c, rfl, hi, hb⟩
theorem retRB_some {w w' : World} {A : Option Addr} {n c : Nat} {zs : List Int} (hn : n = zs.length) (hi : IR w' 0 w'.heap.size A zs) (hb : Below w.heap.size w w') : RetRB w (some zs) (.returned (.tuple #[.slice A n c, .bool true])) w' := by
  subst hn; exact ⟨A, c, rfl, hi, hb⟩
theorem IR.toAll {w : World} {lo hi : Nat} {A : Option Addr} {zs : List Int} (h : IR w lo hi A zs) : IR w 0 w.heap.size A zs := h.wide (Nat.zero_le _) h.2.2.1 (Nat.le_refl _)
theorem IW.toAll {w : World} {lo hi : Nat} {A : Option Addr} {zs : List Int} (h : IW w lo hi A zs) : IR w 0 w.heap.size A zs := h.toIR.toAll
end Go.Proofs.Ytanoojpmokbiaab
