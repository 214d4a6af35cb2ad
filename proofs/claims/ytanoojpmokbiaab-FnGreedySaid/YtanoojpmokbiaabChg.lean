/-
  row.changed: the row of what a function makes of each place and entry. Conditions: the row's cells are there; the function answers g and leaves what lay as it lay.
-/
import Derived.Test.YtanoojpmokbiaabColl
import Derived.Test.YtanoojpmokbiaabHeld
namespace Go.Proofs.Ytanoojpmokbiaab
open Go.RowKit Go.Shelf
attribute [local go_sem] Oper.semAt_some

/-- The list that changed makes. -/
def chgL (zs : List Int) (g : Fin zs.length → Int) : List Int := (List.finRange zs.length).map g
def chgM (zs : List Int) (g : Fin zs.length → Int) : Option (List Int) := if rowB zs then (if rowB (chgL zs g) then some (chgL zs g) else none) else none
/-- The cells behind the places of pre have been set. -/
def chgTo (zs : List Int) (g : Fin zs.length → Int) (pre : List (Fin zs.length)) : List Int := pre.foldl (fun xs x => xs.set x.1 (g x)) (List.replicate zs.length 0)
theorem chgTo_len (zs : List Int) (g : Fin zs.length → Int) (pre : List (Fin zs.length)) : (chgTo zs g pre).length = zs.length := by
  unfold chgTo
  generalize hx : List.replicate zs.length (0 : Int) = xs
  have hl : xs.length = zs.length := by rw [← hx]; simp
  clear hx
  induction pre generalizing xs with
  | nil => exact hl
  | cons x pre ih => exact ih (xs.set x.1 (g x)) (by simpa using hl)
theorem chgTo_snoc (zs : List Int) (g : Fin zs.length → Int) (pre : List (Fin zs.length)) (x : Fin zs.length) : chgTo zs g (pre ++ [x]) = (chgTo zs g pre).set x.1 (g x) := by
  simp [chgTo]
theorem chgTo_all (zs : List Int) (g : Fin zs.length → Int) : chgTo zs g (List.finRange zs.length) = chgL zs g := by
  have key : ∀ k, k ≤ zs.length → ∀ j (hj : j < zs.length), (chgTo zs g ((List.finRange zs.length).take k))[j]'(by rw [chgTo_len]; exact hj) = if j < k then g ⟨j, hj⟩ else 0 := by
    intro k
    induction k with
    | zero => intro _ j hj; simp [chgTo]
    | succ k ih =>
      intro hk j hj
      have e := finRange_succ (n := zs.length) (k := k) (by omega)
      have e2 := chgTo_snoc zs g ((List.finRange zs.length).take k) ⟨k, by omega⟩
      rw [e] at e2
      have := ih (by omega) j hj
      simp only [e2, List.getElem_set]
      by_cases hkj : k = j
      · subst hkj; simp
      · rw [if_neg hkj, this]
        by_cases h : j < k
        · rw [if_pos h, if_pos (by omega)]
        · rw [if_neg h, if_neg (by omega)]
  apply List.ext_getElem
  · rw [chgTo_len]; simp [chgL]
  · intro j h1 h2
    have hj : j < zs.length := by rwa [chgTo_len] at h1
    have := key zs.length (Nat.le_refl _) j hj
    rw [List.take_of_length_le (by simp)] at this
    rw [this, if_pos hj]; simp [chgL]

/-- What a function handed to changed does at a place: it answers g, and what lay before lies as it lay. -/
def ChgFn (w : World) (f : FuncId) (cap : Array Value) (zs : List Int) (g : Fin zs.length → Int) : Prop :=
  ∀ (x : Fin zs.length) (W : World), Below w.heap.size w W → Calls Try.prog f (#[.int .i64 ((x : Nat) : Int), .int .i64 zs[x]] ++ cap) W fun e W' => e = .returned (.int .i64 (g x)) ∧ Below W.heap.size W W'

theorem cells_fill {w : World} {b : Nat} {xs : List Int} (h : Cells w b 0 xs) (k : Nat) (hk : k < xs.length) (v : Int) : Cells (w.setCell ⟨b, k, none⟩ (.int .i64 v)) b 0 (xs.set k v) := by
  have := h.set_ k hk v
  rwa [Nat.zero_add] at this

/-- What changed holds between two rounds: the function's box, the box of the row that is made, the row's own cells. -/
def ChgMid (W : World) (F B : Nat) (f : FuncId) (cap : Array Value) (n : Nat) (xs : List Int) : Prop :=
  Boxed W F 78 (.func (.func f) #[] cap) ∧ Boxed W (B + 1) 56 (.slice (some ⟨B, 0, none⟩) n n) ∧ Cells W B 0 xs ∧ ∃ cs, W.heap[B]? = some (.cells cs 3 (0, 0))
theorem ChgMid.block {W W' : World} {F B n : Nat} {f : FuncId} {cap : Array Value} {xs : List Int} (h : ChgMid W F B f cap n xs) (hF : W'.heap[F]? = W.heap[F]?) (hB : W'.heap[B]? = W.heap[B]?) (hB1 : W'.heap[B + 1]? = W.heap[B + 1]?) : ChgMid W' F B f cap n xs :=
  ⟨hF.trans h.1, hB1.trans h.2.1, fun j hj => ⟨(World.cell?_of_block (w := W) (a := ⟨B, 0 + j, none⟩) hB).trans (h.2.2.1 j hj).1, (World.frozen?_of_block (w := W) (a := ⟨B, 0 + j, none⟩) hB).trans (h.2.2.1 j hj).2⟩, h.2.2.2.imp fun _ hc => hB.trans hc⟩
theorem ChgMid.below {W W' : World} {F B n : Nat} {f : FuncId} {cap : Array Value} {xs : List Int} (h : ChgMid W F B f cap n xs) (hb : Below W.heap.size W W') : ChgMid W' F B f cap n xs :=
  h.block (hb.block F h.1.lt) (hb.block B (by have := h.2.1.lt; omega)) (hb.block (B + 1) h.2.1.lt)
theorem ChgMid.set_ {W : World} {F B n : Nat} {f : FuncId} {cap : Array Value} {xs : List Int} (h : ChgMid W F B f cap n xs) (hF : F ≠ B) (k : Nat) (hk : k < xs.length) (v : Int) : ChgMid (W.setCell ⟨B, k, none⟩ (.int .i64 v)) F B f cap n (xs.set k v) := by
  obtain ⟨h1, h2, h3, cs, h4⟩ := h
  refine ⟨(Below.heap_setCell W ⟨B, k, none⟩ _ F hF).trans h1, (Below.heap_setCell W ⟨B, k, none⟩ _ (B + 1) (by simp)).trans h2, cells_fill h3 k hk v, ?_⟩
  simp [World.setCell, Array.getElem?_modify, h4]
theorem chgMid_own {β : Type} (C F B n : Nat) (f : FuncId) (cap : Array Value) (xs : β → List Int) : OwnFrom C (fun s W => ChgMid W F B f cap n (xs s)) := by
  rintro s X Y row h hg hrow
  have hne : ∀ (g : Nat) (cs : Array Value) (t : TypeId), X.heap[g]? = some (Obj.cells cs t (0, 0)) → Y.heap[g]? = X.heap[g]? := by
    intro g cs t hh
    refine hg.block g (Array.getElem?_eq_some_iff.1 hh).1 fun e => ?_
    obtain ⟨_, o, ho, hc⟩ := hrow g e.symm
    rw [hh] at ho; cases ho; cases hc
  obtain ⟨cs, h4⟩ := h.2.2.2
  exact h.block (hne _ _ _ h.1) (hne _ _ _ h4) (hne _ _ _ h.2.1)

end Go.Proofs.Ytanoojpmokbiaab
