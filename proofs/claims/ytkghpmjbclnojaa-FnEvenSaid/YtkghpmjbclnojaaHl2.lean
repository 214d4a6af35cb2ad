/-
  HillRound of the program. Conditions: the list's cells are there.
-/
import Derived.Test.YtkghpmjbclnojaaHl1
import Derived.Test.YtkghpmjbclnojaaIter3
import Derived.Test.YtkghpmjbclnojaaHeld
namespace Go.Proofs.Ytkghpmjbclnojaa
open Go.RowKit Go.Shelf
attribute [local go_sem] Oper.semAt_some

section
variable {F : Fence} {n : Nat} {P : Program} {ops : Array Oper} {Q : Exit → Act → World → Prop} {md : Region.Mode} {S : World → Prop}
/-- Two may come up. -/
theorem anyS_pair (i j : Nat) {fuel : Nat} {listed : Array Bool} {a : Act} {w : World} (hr : Region.ready md ops listed = [i, j]) (hS : S w)
    (h1 : wpOpIn F n P ops Q i (anyS F n P md ops Q S fuel (listed.setIfInBounds i true)) a w) (h2 : wpOpIn F n P ops Q j (anyS F n P md ops Q S fuel (listed.setIfInBounds j true)) a w) : anyS F n P md ops Q S (fuel + 1) listed a w :=
  ⟨hS, fun h0 => (by rw [hr] at h0; cases h0), fun k hk => by
    rw [hr] at hk
    rcases List.mem_cons.1 hk with rfl | hk
    · exact h1
    · obtain rfl := List.mem_singleton.1 hk; exact h2⟩
end

theorem keeps_below {W W' : World} (hb : Below W.heap.size W W') : KeepsOthers W W' := KeepsOthers.of_grownBy (row := none) ⟨hb.os, hb.tape, hb.output, hb.size, fun k hk _ => hb.block k hk⟩ (fun j o e _ => by cases e)
theorem boxed_below {W W' : World} {g : Nat} {t : TypeId} {v : Value} (h : Boxed W g t v) (hb : Below W.heap.size W W') : Boxed W' g t v := (hb.block _ h.lt).trans h
/-- Blocks that begin at the places seen. -/
def blocksP (zs : List Int) (pre : List (Fin zs.length)) : Nat := pre.foldl (fun (s : Nat) (x : Fin zs.length) => s + if newB zs x.1 then 1 else 0) 0
theorem blocksP_snoc (zs : List Int) (pre : List (Fin zs.length)) (x : Fin zs.length) : blocksP zs (pre ++ [x]) = blocksP zs pre + if newB zs x.1 then 1 else 0 := by simp [blocksP]
theorem blocksP_take (zs : List Int) : ∀ k : Nat, k ≤ zs.length → blocksP zs ((List.finRange zs.length).take k) = blocksTo zs k := by
  intro k
  induction k with
  | zero => intro _; rfl
  | succ k ih =>
    intro hk
    rw [← finRange_succ (show k < zs.length by omega), blocksP_snoc, ih (by omega), blocksTo]
theorem blocksP_all (zs : List Int) : blocksP zs (List.finRange zs.length) = blocksTo zs zs.length := by
  have := blocksP_take zs zs.length (Nat.le_refl _)
  rwa [List.take_of_length_le (by simp)] at this
theorem blocksP_le (zs : List Int) (pre : List (Fin zs.length)) : blocksP zs pre ≤ pre.length := by
  unfold blocksP
  suffices h : ∀ s : Nat, pre.foldl (fun (s : Nat) (x : Fin zs.length) => s + if newB zs x.1 then 1 else 0) s ≤ s + pre.length by
    have := h 0; omega
  induction pre with
  | nil => intro s; simp
  | cons x pre ih =>
    intro s
    rw [List.foldl_cons, List.length_cons]
    have := ih (s + if newB zs x.1 then 1 else 0)
    have h1 : (if newB zs x.1 then 1 else 0) ≤ 1 := by split <;> omega
    omega
/-- The place does not break roundness. -/
def FineAt (zs : List Int) (x : Fin zs.length) : Prop := zs.getD x.1 0 ≠ 0 → atI zs (((x.1 : Nat) : Int) - 1) * atI zs (((x.1 : Nat) : Int) + 1) ≤ zs.getD x.1 0 * zs.getD x.1 0
def BadAt (zs : List Int) (x : Fin zs.length) : Prop := zs.getD x.1 0 * zs.getD x.1 0 < atI zs (((x.1 : Nat) : Int) - 1) * atI zs (((x.1 : Nat) : Int) + 1)
theorem round_done {zs : List Int} (hn : nnB zs = true) (h : ∀ x, x ∈ List.finRange zs.length → FineAt zs x) : decide ((blocksP zs (List.finRange zs.length) : Int) ≤ 1) = roundB zs := by
  rw [blocksP_all]
  by_cases hb : blocksTo zs zs.length ≤ 1
  · rw [decide_eq_true (by omega), round_yes hn hb fun i hi => h ⟨i, hi⟩ (List.mem_finRange _)]
  · rw [decide_eq_false (by omega), round_no1 hn (by omega)]

end Go.Proofs.Ytkghpmjbclnojaa
