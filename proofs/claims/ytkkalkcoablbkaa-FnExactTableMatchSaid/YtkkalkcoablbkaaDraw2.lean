/-
  What the laws draw, second part: lists added up (l3From) and sorted (l3Sorted). Conditions: the lists' cells are there.
-/
import Derived.Test.YtkkalkcoablbkaaDraw
import Derived.Test.YtkkalkcoablbkaaPart
import Derived.Deep.Upon
namespace Go.Proofs.Ytkkalkcoablbkaa
open Go.RowKit

theorem OwnI.shape {w : World} {base : Nat} {v : Value} {zs : List Int} (h : OwnI w base v zs) : ∃ A c, v = .slice A zs.length c ∧ zs.length ≤ c := by
  rcases h.1.2 with ⟨rfl, h0⟩ | ⟨g, cap, cur, rfl, hg, hh, hn, r⟩
  · have : zs = [] := by simpa using h0
    subst this
    exact ⟨none, 0, rfl, Nat.le_refl _⟩
  · exact ⟨_, cap, rfl, hn⟩

/-- append(v, ys...), whatever ys is. -/
theorem run_appendsI (w : World) (base : Nat) (v : Value) (zs ys : List Int) (hown : OwnI w base v zs) (A : Option Addr) (lo hi c : Nat) (h : IR w lo hi A ys) (hl : zs.length + ys.length ≤ 17592186044416) (ty : TypeId) :
    ∃ v' w', (Builtin.append_ #[22, 22] ty #[v, .slice A ys.length c]).run Try.prog w = .ok v' w' ∧ OwnI w' base v' (zs ++ ys) ∧ Below base w w' := by
  rcases Nat.eq_zero_or_pos ys.length with h0 | h0
  · have hy : ys = [] := List.eq_nil_of_length_eq_zero h0
    subst hy
    obtain ⟨A', c', rfl, hle⟩ := hown.shape
    obtain ⟨i0, hi, hz0, hz1, hz2⟩ := info_parts info_int
    refine ⟨_, _, run_append_nothing w 22 22 ty 3 i0 Try.underlying22 hi A' zs.length c' hle _ ?_, by simpa using hown, Below.refl _ _⟩
    cases A with
    | none => exact Src.ofNil w Try.underlying22 c
    | some a => exact Src.ofSlice w Try.underlying22 a 0 c [] (by simp) (by simp) (by simp)
  · obtain ⟨b, off, rfl, _, _, hc⟩ := h.2.2.2 h0
    exact run_appends w base v zs ys hown b off c hc hl h.2.1 ty

theorem wpList_appendsI {ops : Array Oper} {rest : List Oper} {o : Oper} {a : Act} {w : World} {Q : Exit → Act → World → Prop} (hgd : o.guard = none) (s x : Operand)
    (ho : o.op = .call { callee := .builtin .append, args := #[s, x], argTypes := #[22, 22] })
    (base : Nat) (v : Value) (zs ys : List Int) (A : Option Addr) (lo hi n c : Nat) (hn : n = ys.length) (hs : a.eval s = v) (hx : a.eval x = .slice A n c) (hown : OwnI w base v zs)
    (hr : IR w lo hi A ys) (hl : zs.length + ys.length ≤ 17592186044416)
    (h : ∀ v' w', OwnI w' base v' (zs ++ ys) → Below base w w' → wpList Try.prog ops Q rest (a.put o.dst v') w') : wpList Try.prog ops Q (o :: rest) a w := by
  subst hn
  refine wpList_plain hgd fun K hK => ?_
  obtain ⟨v', w', hrun, h2, h3⟩ := run_appendsI w base v zs ys hown A lo hi c hr hl o.type
  unfold Oper.wp execOp
  simp only [ho, resolve, invoke, builtin, Sem.run_bind, Sem.run_pure, Result.andThen_ok, List.map_toArray, List.map_cons, List.map_nil, hs, hx, hrun]
  exact hK _ _ (h v' w' h2 h3)

theorem setI64 {ys : List Int} {k : Nat} {v : Int} (h : ∀ y, y ∈ ys → I64 y) (hv : I64 v) : ∀ y, y ∈ ys.set k v → I64 y := fun y hy => by
  rcases List.mem_or_eq_of_mem_set hy with hy | rfl
  · exact h y hy
  · exact hv
/-- The call returns a list of its own; its capacity is known to hold it. -/
def RetSC (w : World) (zs : List Int) (e : Ending) (w' : World) : Prop := ∃ A c, e = .returned (.slice A zs.length c) ∧ CapOk zs.length c ∧ IW w' w.heap.size w'.heap.size A zs ∧ Below w.heap.size w w'
theorem retSC_of {w w' : World} {A : Option Addr} {n c : Nat} {zs : List Int} (hn : n = zs.length) (hc : CapOk n c) (hi : IW w' w.heap.size w'.heap.size A zs) (hb : Below w.heap.size w w') : RetSC w zs (.returned (.slice A n c)) w' := by
  subst hn; exact ⟨A, c, rfl, hc, hi, hb⟩
theorem retS_of {w w' : World} {A : Option Addr} {n c : Nat} {zs : List Int} (hn : n = zs.length) (hi : IW w' w.heap.size w'.heap.size A zs) (hb : Below w.heap.size w w') : RetS w zs (.returned (.slice A n c)) w' := by
  subst hn; exact ⟨A, c, rfl, hi, hb⟩

end Go.Proofs.Ytkkalkcoablbkaa
