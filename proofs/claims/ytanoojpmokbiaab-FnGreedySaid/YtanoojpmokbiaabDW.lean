/-
  What the laws of chapter 5 draw: a table (l92Table). Conditions: the reader has been asked at most 800,000,000 times.
-/
import Derived.Test.YtanoojpmokbiaabDT
namespace Go.Proofs.Ytanoojpmokbiaab
open Go.RowKit

/-- The call draws a table of n rows; the reader is asked at most k times. -/
def TabPost (w : World) (R p k : Nat) (e : Ending) (w' : World) : Prop :=
  ∃ A n c zss p', e = .returned (.slice A n c) ∧ zss.length = n ∧ n ≤ c ∧ c ≤ 9223372036854775807 ∧ IRR w' w.heap.size w'.heap.size A zss ∧ But w.heap.size R w w' ∧ Rd w' R p' ∧ p' ≤ p + k

/-- From w to w' only the blocks R and S have been written, and some made. -/
structure ButT (R S : Nat) (w w' : World) : Prop where
  os : w'.os = w.os
  tape : w'.tape = w.tape
  output : w'.output = w.output
  size : w.heap.size ≤ w'.heap.size
  block : ∀ k, k < w.heap.size → k ≠ R → k ≠ S → w'.heap[k]? = w.heap[k]?
theorem ButT.refl (R S : Nat) (w : World) : ButT R S w w := ⟨rfl, rfl, rfl, Nat.le_refl _, fun _ _ _ _ => rfl⟩
theorem ButT.but {R S : Nat} {a b c : World} (h : ButT R S a b) (k : But b.heap.size R b c) : ButT R S a c :=
  ⟨k.os.trans h.os, k.tape.trans h.tape, k.output.trans h.output, Nat.le_trans h.size k.size, fun i hi h1 h2 => (k.block i (Nat.lt_of_lt_of_le hi h.size) h1).trans (h.block i hi h1 h2)⟩
theorem ButT.set_ {R S : Nat} {a b : World} (h : ButT R S a b) (o : Nat) (v : Value) : ButT R S a (b.setCell ⟨S, o, none⟩ v) :=
  ⟨h.os, h.tape, h.output, by simpa [World.setCell] using h.size, fun i hi h1 h2 => by rw [heap_setCell_other b ⟨S, o, none⟩ i v (fun e => h2 e)]; exact h.block i hi h1 h2⟩
theorem ButT.drewN {R S : Nat} {a b : World} (h : ButT R S a b) (n : Nat) : ButT R S a (b.drewN n) := ⟨h.os, h.tape, h.output, h.size, h.block⟩
theorem ButT.drew {R S : Nat} {a b : World} (h : ButT R S a b) : ButT R S a b.drew := ⟨h.os, h.tape, h.output, h.size, h.block⟩
theorem Rd.drew {w : World} {R p : Nat} (h : Rd w R p) : Rd w.drew R p := h
theorem ButT.toBut {R S C : Nat} {a b : World} (h : ButT R S a b) (hC : C ≤ a.heap.size) (hS : C ≤ S) : But C R a b := ⟨h.os, h.tape, h.output, h.size, fun k hk hR => h.block k (by omega) hR (by omega)⟩

/-- The drawn table as far as it goes: i rows. -/
def TI (w w1 w3 : World) (R P m : Nat) (i : Nat) (v : Value) (wr : World) : Prop :=
  ∃ p' zss F C, zss.length = i ∧ (∀ r, r ∈ zss → r.length = m) ∧ DT wr w.heap.size v zss F C ∧ But w.heap.size R w wr ∧ Rd wr R p' ∧ p' ≤ P + i * 60 ∧
    (∀ g, v.ownBlock = some g → g < w1.heap.size ∨ w3.heap.size ≤ g) ∧ (∀ k, w1.heap.size ≤ k → k < w3.heap.size → wr.heap[k]? = w3.heap[k]?) ∧ w3.heap.size ≤ wr.heap.size

/-- A drawn table; two of them. -/
def OneTPost (w : World) (e : Ending) (w' : World) : Prop := ∃ A c t, e = .returned (.slice A t.length c) ∧ IRR w' 0 w'.heap.size A t ∧ Below w.heap.size w w'
def TwoTPost (w : World) (e : Ending) (w' : World) : Prop := ∃ A c t A' c' u, e = .returned (.tuple #[.slice A t.length c, .slice A' u.length c']) ∧ IRR w' 0 w'.heap.size A t ∧ IRR w' 0 w'.heap.size A' u ∧ Below w.heap.size w w'


end Go.Proofs.Ytanoojpmokbiaab
