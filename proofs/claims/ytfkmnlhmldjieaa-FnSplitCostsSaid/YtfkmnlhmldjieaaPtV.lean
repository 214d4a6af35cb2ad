/-
  Lists of values of one cell each that the call made itself, whatever their type: pushing, appending, reading. Conditions: the lists stay short.
-/
import Derived.Test.YtfkmnlhmldjieaaPush
import Derived.Test.YtfkmnlhmldjieaaTabA
import Derived.Test.YtfkmnlhmldjieaaDraw2
namespace Go.Proofs.Ytfkmnlhmldjieaa
open Go.RowKit

/-- t is a type of lists of slices of the type e. -/
structure EltK (t e : TypeId) : Prop where
  und : Try.prog.underlying t = some (.slice e)
  info : (Try.prog.info? e).map (fun i => (i.zero, i.size, i.bytes)) = some (some (.slice none 0 0), 1, 24)
/-- The list reads as these values. -/
def RV (w : World) (lo : Nat) (A : Option Addr) (us : List Value) : Prop := 0 < us.length → ∃ b o, A = some ⟨b, o, none⟩ ∧ lo ≤ b ∧ b < w.heap.size ∧ ∀ (j : Nat) (hj : j < us.length), w.cell? ⟨b, o + j, none⟩ = some us[j]
theorem RV.grow {w w' : World} {lo : Nat} {A : Option Addr} {us : List Value} (h : RV w lo A us) (hb : Below w.heap.size w w') : RV w' lo A us := fun h0 => by
  obtain ⟨b, o, e, h1, h2, h3⟩ := h h0
  exact ⟨b, o, e, h1, Nat.lt_of_lt_of_le h2 hb.size, fun j hj => (World.cell?_of_block (a := ⟨b, o + j, none⟩) (hb.block b h2)).trans (h3 j hj)⟩
theorem RV.lo {w : World} {lo lo' : Nat} {A : Option Addr} {us : List Value} (h : RV w lo A us) (hl : lo' ≤ lo) : RV w lo' A us := fun h0 => by
  obtain ⟨b, o, e, h1, h2, h3⟩ := h h0
  exact ⟨b, o, e, Nat.le_trans hl h1, h2, h3⟩
/-- The value is a list of the call's own (blocks from base on). -/
def OwnV (e : TypeId) (w : World) (base : Nat) (v : Value) (us : List Value) : Prop := w.ownsRow base e 1 v us.length us ∧ base ≤ w.heap.size
theorem OwnV.nil (e : TypeId) (w : World) (base : Nat) (h : base ≤ w.heap.size) : OwnV e w base (.slice none 0 0) [] := ⟨World.ownsRow_nil _ _ _ _, h⟩
theorem OwnV.made (e : TypeId) (w : World) : OwnV e (w.alloc (.cells #[] e)) w.heap.size (.slice (some ⟨w.heap.size, 0, none⟩) 0 0) [] :=
  ⟨World.ownsRow_made w #[] 0 (Nat.le_refl _) (by unfold maxLen; omega) rfl, by simp⟩
theorem OwnV.room (e : TypeId) (w : World) (cap : Nat) (cur : Array Value) (hm : cap ≤ maxLen) (hs : cur.size = cap) : OwnV e (w.alloc (.cells cur e)) w.heap.size (.slice (some ⟨w.heap.size, 0, none⟩) 0 cap) [] :=
  ⟨World.ownsRow_made w cur cap (Nat.le_refl _) hm (by omega), by simp⟩
theorem OwnV.below {e : TypeId} {w w' : World} {base C : Nat} {v : Value} {us : List Value} (h : OwnV e w base v us) (hb : Below C w w') (hC : w.heap.size ≤ C) : OwnV e w' base v us := by
  obtain ⟨ho, hs⟩ := h
  refine ⟨⟨ho.1, ?_⟩, Nat.le_trans hs hb.size⟩
  rcases ho.2 with h0 | ⟨g, cap, cur, e, hg, hh, r⟩
  · exact .inl h0
  · exact .inr ⟨g, cap, cur, e, hg, (hb.block g (Nat.lt_of_lt_of_le (Array.getElem?_eq_some_iff.1 hh).1 hC)).trans hh, r⟩
theorem OwnV.alloc {e : TypeId} {w : World} {base : Nat} {v : Value} {us : List Value} (h : OwnV e w base v us) {o : Obj} : OwnV e (w.alloc o) base v us :=
  h.below ((Below.refl w.heap.size w).alloc (Nat.le_refl _) o) (Nat.le_refl _)
theorem OwnV.rv {e : TypeId} {w : World} {base : Nat} {v : Value} {us : List Value} (h : OwnV e w base v us) : ∃ A c, v = .slice A us.length c ∧ RV w base A us ∧ us.length ≤ c ∧ c ≤ maxLen := by
  obtain ⟨ho, hb⟩ := h
  have hcell := ho
  rcases ho.2 with ⟨rfl, h0⟩ | ⟨g, cap, cur, rfl, hg, hh, hn, hcap, hs, ht⟩
  · exact ⟨none, 0, by rw [h0], fun h => absurd h (by omega), by omega, by unfold maxLen; omega⟩
  · refine ⟨some ⟨g, 0, none⟩, cap, rfl, fun _ => ⟨g, 0, rfl, hg, (Array.getElem?_eq_some_iff.1 hh).1, fun j hj => ?_⟩, hn, hcap⟩
    have := hcell.cellAt j (by omega)
    rw [Nat.zero_add, this]
    exact List.getElem?_eq_getElem hj

theorem run_appendsV {t e : TypeId} (hk : EltK t e) (w : World) (base : Nat) (v : Value) (us ns : List Value) (hown : OwnV e w base v us) (A : Option Addr) (lo c : Nat) (h : RV w lo A ns) (h1 : ∀ u ∈ ns, u.oneCell' = true) (hl : us.length + ns.length ≤ 1000000) (ty : TypeId) :
    ∃ v' w', (Builtin.append_ #[t, t] ty #[v, .slice A ns.length c]).run Try.prog w = .ok v' w' ∧ OwnV e w' base v' (us ++ ns) ∧ Below base w w' := by
  obtain ⟨i0, hi, hz0, hz1, hz2⟩ := info_parts hk.info
  by_cases h0 : 0 < ns.length
  · obtain ⟨b, o, rfl, _, _, h3⟩ := h h0
    obtain ⟨v', w', hrun, h2, h4, _⟩ := run_append_own (P := Try.prog) w base t ty e i0 (.slice none 0 0) 1 24 hk.und hi hz0 hz1 hz2 rfl (by decide) v us.length us hown.1 ⟨b, o, none⟩ ns.length c ns (by omega)
      (fun j u hj => by
        obtain ⟨hj1, rfl⟩ := List.getElem?_eq_some_iff.1 hj
        have e : (⟨b, o, none⟩ : Addr).add j = ⟨b, o + j, none⟩ := by unfold Addr.add; split <;> simp_all
        rw [e]; exact h3 j hj1) h1 (by unfold maxLen; omega) (by omega) hown.2
    exact ⟨v', w', hrun, ⟨by rw [List.length_append]; exact h2, Nat.le_trans hown.2 h4.size⟩, (Below.refl base w).grown h4 hown.2 fun k hk => (hown.1.lt k hk).1⟩
  · obtain rfl : ns = [] := List.eq_nil_of_length_eq_zero (by omega)
    obtain ⟨A', c', rfl, -, hle, -⟩ := hown.rv
    refine ⟨_, _, run_append_nothing w t t ty e i0 hk.und hi A' us.length c' hle _ ?_, by simpa using hown, Below.refl _ _⟩
    cases A with
    | none => exact Src.ofNil w hk.und c
    | some a => exact Src.ofSlice w hk.und a 0 c [] (by simp) (by simp) (by simp)
theorem wpList_appendsV {ops : Array Oper} {rest : List Oper} {o : Oper} {a : Act} {w : World} {Q : Exit → Act → World → Prop} {t e : TypeId} (hk : EltK t e) (hgd : o.guard = none) (s x : Operand)
    (ho : o.op = .call { callee := .builtin .append, args := #[s, x], argTypes := #[t, t] })
    (base : Nat) (v : Value) (us ns : List Value) (A : Option Addr) (lo n c : Nat) (hn : n = ns.length) (hs : a.eval s = v) (hx : a.eval x = .slice A n c) (hown : OwnV e w base v us)
    (hr : RV w lo A ns) (h1 : ∀ u ∈ ns, u.oneCell' = true) (hl : us.length + ns.length ≤ 1000000)
    (h : ∀ v' w', OwnV e w' base v' (us ++ ns) → Below base w w' → wpList Try.prog ops Q rest (a.put o.dst v') w') : wpList Try.prog ops Q (o :: rest) a w := by
  subst hn
  refine wpList_plain hgd fun K hK => ?_
  obtain ⟨v', w', hrun, h2, h3⟩ := run_appendsV hk w base v us ns hown A lo c hr h1 hl o.type
  unfold Oper.wp execOp
  simp only [ho, resolve, invoke, builtin, Sem.run_bind, Sem.run_pure, Result.andThen_ok, List.map_toArray, List.map_cons, List.map_nil, hs, hx, hrun]
  exact hK _ _ (h v' w' h2 h3)
theorem wpList_pushV {ops : Array Oper} {rest : List Oper} {o : Oper} {a : Act} {W : World} {Q : Exit → Act → World → Prop} {t e : TypeId} {u : Value} (hk : EltK t e) (hgd : o.guard = none) (s x : Operand)
    (ho : o.op = .call { callee := .builtin .append, args := #[s, x], argTypes := #[t, t] })
    (base : Nat) (v : Value) (us : List Value) (hs : a.eval s = v) (hx : a.eval x = .slice (some ⟨W.heap.size, 0, none⟩) 1 1) (hown : OwnV e W base v us)
    (h1 : u.oneCell' = true) (hl : us.length + 1 ≤ 1000000)
    (h : ∀ v' w', OwnV e w' base v' (us ++ [u]) → Below base W w' → wpList Try.prog ops Q rest (a.put o.dst v') w') : wpList Try.prog ops Q (o :: rest) a (W.alloc (.cells #[u] e)) := by
  refine wpList_appendsV hk hgd s x ho base v us [u] (some ⟨W.heap.size, 0, none⟩) 0 1 1 rfl hs hx hown.alloc (fun _ => ⟨W.heap.size, 0, rfl, Nat.zero_le _, by simp, fun j hj => ?_⟩) (fun u' hu => by rw [List.mem_singleton.1 hu]; exact h1) hl fun v' w' h2 h3 => h v' w' h2 (OwnI.push_of hown.2 h3)
  simp only [List.length_singleton] at hj
  obtain rfl : j = 0 := by omega
  rw [World.cell?_alloc_at _ _ _ _ rfl]; rfl
end Go.Proofs.Ytfkmnlhmldjieaa
