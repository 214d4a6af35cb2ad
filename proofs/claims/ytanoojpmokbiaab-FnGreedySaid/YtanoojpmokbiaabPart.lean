/-
  RowPart of the model and of the program: both hand back the entries from one place up to another. Conditions: the row's cells are there; its capacity is at least its length.
-/
import Derived.Test.YtanoojpmokbiaabImp2
import Derived.WalkSpells
import Derived.ProofKit
namespace Go.Proofs.Ytanoojpmokbiaab
open Go.RowKit Go.ChangeShapes Go.WideShapes

def partOk (zs : List Int) (f t : Int) : Bool := rowB zs && inB 0 ((zs.length : Int) - 1) f && inB f ((zs.length : Int) - 1) t
def partL (zs : List Int) (f t : Nat) : List Int := (zs.take (t + 1)).drop f
def partM (zs : List Int) (f t : Int) : Option (List Int) := if partOk zs f t then some (partL zs f.toNat t.toNat) else none
theorem partL_len (zs : List Int) (f t : Nat) (h : t < zs.length) : (partL zs f t).length = t + 1 - f := by simp [partL]; omega
theorem partL_get (zs : List Int) (f t j : Nat) (h : t < zs.length) (hj : j < t + 1 - f) : (partL zs f t)[j]'(by rw [partL_len _ _ _ h]; exact hj) = zs[f + j]'(by omega) := by simp [partL]

theorem run_appends (w : World) (base : Nat) (v : Value) (zs ys : List Int) (hown : OwnI w base v zs) (b off c : Nat) (hc : ∀ (j : Nat) (h : j < ys.length), w.cell? ⟨b, off + j, none⟩ = some (.int .i64 ys[j])) (hl : zs.length + ys.length ≤ 17592186044416) (hy : ∀ y, y ∈ ys → I64 y) (ty : TypeId) :
    ∃ v' w', (Builtin.append_ #[24, 24] ty #[v, .slice (some ⟨b, off, none⟩) ys.length c]).run Try.prog w = .ok v' w' ∧ OwnI w' base v' (zs ++ ys) ∧ Below base w w' := by
  obtain ⟨i0, hi, hz0, hz1, hz2⟩ := info_parts info_int
  obtain ⟨v', w', hrun, h2, h3, _⟩ := run_append_own (P := Try.prog) w base 24 ty 3 i0 (.int .i64 0) 1 8 Try.underlying24 hi hz0 hz1 hz2 rfl (by decide) v zs.length (zs.map (Value.int .i64)) hown.1 ⟨b, off, none⟩ ys.length c (ys.map (Value.int .i64)) (by simp)
    (fun j u hj => by
      rw [List.getElem?_map] at hj
      by_cases hjl : j < ys.length
      · rw [List.getElem?_eq_getElem hjl] at hj
        simp at hj
        subst hj
        rw [add_plain]
        exact hc j hjl
      · rw [List.getElem?_eq_none (by omega)] at hj; cases hj) (by intro u hu; obtain ⟨y, _, rfl⟩ := List.mem_map.1 hu; rfl) (by unfold maxLen; omega) (by omega) hown.2.2
  refine ⟨v', w', hrun, ⟨by simpa using h2, ?_, Nat.le_trans hown.2.2 h3.size⟩, (Below.refl base w).grown h3 hown.2.2 fun k hk => (hown.1.lt k hk).1⟩
  intro z hz
  rcases List.mem_append.1 hz with hz | hz
  · exact hown.2.1 z hz
  · exact hy z hz

theorem wpList_appends {ops : Array Oper} {rest : List Oper} {o : Oper} {a : Act} {w : World} {Q : Exit → Act → World → Prop} (hgd : o.guard = none) (s x : Operand)
    (ho : o.op = .call { callee := .builtin .append, args := #[s, x], argTypes := #[24, 24] })
    (base : Nat) (v : Value) (zs ys : List Int) (b off m c : Nat) (hm : m = ys.length) (hs : a.eval s = v) (hx : a.eval x = .slice (some ⟨b, off, none⟩) m c) (hown : OwnI w base v zs)
    (hc : ∀ (j : Nat) (h : j < ys.length), w.cell? ⟨b, off + j, none⟩ = some (.int .i64 ys[j])) (hl : zs.length + ys.length ≤ 17592186044416) (hy : ∀ y, y ∈ ys → I64 y)
    (h : ∀ v' w', OwnI w' base v' (zs ++ ys) → Below base w w' → wpList Try.prog ops Q rest (a.put o.dst v') w') : wpList Try.prog ops Q (o :: rest) a w := by
  subst hm
  refine wpList_plain hgd fun K hK => ?_
  obtain ⟨v', w', hrun, h2, h3⟩ := run_appends w base v zs ys hown b off c hc hl hy o.type
  unfold Oper.wp execOp
  simp only [ho, resolve, invoke, builtin, Sem.run_bind, Sem.run_pure, Result.andThen_ok, List.map_toArray, List.map_cons, List.map_nil, hs, hx, hrun]
  exact hK _ _ (h v' w' h2 h3)

/-! ### The program's -/
set_option maxHeartbeats 1000000 in
theorem clone_any (b off n c lo hi : Nat) (ys : List Int) (w : World) (hn : n = ys.length) (hp : 0 < n) (h : IR w lo hi (some ⟨b, off, none⟩) ys) :
    Calls Try.prog 56 #[.slice (some ⟨b, off, none⟩) n c] w (RetS w ys) := by
  subst hn
  have HC : Hid (∀ (j : Nat) (h : j < ys.length), (w.alloc (.cells #[] 3)).cell? ⟨b, off + j, none⟩ = some (.int .i64 ys[j])) := by
    intro j hj
    obtain ⟨b', off', e, _, hbs, hcc⟩ := h.at_ hj
    injection e with e; injection e with e1 e2 _; subst e1; subst e2
    rw [World.cell?_alloc_past _ _ _ hbs]; exact hcc
  have HLe : Hid (([] : List Int).length + ys.length ≤ 17592186044416) := by have := h.1; show _ ≤ _; simp; omega
  have HYs := Lib.hid h.2.1
  have hnil := fun (w : World) => Lib.run_eql_slice_nil (P := Try.prog) w _ _ (some ⟨b, off, none⟩) ys.length c 0 0 Try.underlying24
  clear h
  go_enter Try.func56, Try.ntmps56
  go_wp2_with (at_builtin; refine wpList_appends rfl _ _ rfl w.heap.size _ [] ys b off ys.length c rfl rfl rfl (OwnI.made w) HC.out HLe.out HYs.out ?_; intro v1 w1 ho1 hb1; have HO1 := Lib.hid ho1; have HB1 := Lib.hid hb1; clear ho1 hb1; obtain ⟨A1, c1, rfl, hi1⟩ := HO1.out.iw (by simpa using HLe.out); have HI1 := Lib.hid hi1; clear hi1 HO1)
  go_ret
  exact ⟨A1, c1, rfl, HI1.out, ((Below.refl _ _).alloc (Nat.le_refl _) _).trans HB1.out⟩
end Go.Proofs.Ytanoojpmokbiaab
