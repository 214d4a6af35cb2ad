/-
  Drawn tables in memory: a list of lists of the call's own, each row a list of its own in a block of its own; append of a row, append to the first row. Conditions: the lists stay short.
-/
import Derived.Test.YtanoojpmokbiaabTabA
import Derived.Test.YtanoojpmokbiaabDraw3
namespace Go.Proofs.Ytanoojpmokbiaab
open Go.RowKit

theorem wrap_i64 (x : Int) : I64 (IntKind.i64.wrap x) := by
  rw [IntWalk.i64_left]
  have := wrap64_i64 x
  exact this
theorem own_at {w : World} {base n c : Nat} {a : Addr} {zs : List Int} (h : OwnI w base (.slice (some a) n c) zs) : base ≤ a.block ∧ a.block < w.heap.size := by
  rcases h.1.2 with ⟨e, _⟩ | ⟨g, cap, cur, e, hg, hh, _⟩
  · cases e
  · injection e with e1 _ _
    injection e1 with e1
    subst e1
    exact ⟨hg, (Array.getElem?_eq_some_iff.1 hh).1⟩
theorem OwnI.len {w : World} {base n c : Nat} {A : Option Addr} {zs : List Int} (h : OwnI w base (.slice A n c) zs) : n = zs.length ∧ n ≤ c ∧ c ≤ 9223372036854775807 := by
  rcases h.1.2 with ⟨e, h0⟩ | ⟨g, cap, cur, e, hg, hh, hn, hcap, _⟩
  · injection e with _ e2 e3; subst e2; subst e3; exact ⟨h0.symm, Nat.le_refl _, by omega⟩
  · injection e with _ e2 e3; subst e2; subst e3; exact ⟨rfl, hn, by unfold maxLen at hcap; omega⟩
theorem OwnI.keepB {w w' : World} {base n c : Nat} {A : Option Addr} {zs : List Int} (h : OwnI w base (.slice A n c) zs) (hs : w.heap.size ≤ w'.heap.size) (hb : ∀ a, A = some a → w'.heap[a.block]? = w.heap[a.block]?) : OwnI w' base (.slice A n c) zs := by
  obtain ⟨ho, hz, hb0⟩ := h
  refine ⟨⟨ho.1, ?_⟩, hz, Nat.le_trans hb0 hs⟩
  rcases ho.2 with h0 | ⟨g, cap, cur, e, hg, hh, r⟩
  · exact .inl h0
  · refine .inr ⟨g, cap, cur, e, hg, ?_, r⟩
    injection e with e _ _
    exact (hb _ e).trans hh
theorem OwnI.mono {w : World} {base base' : Nat} {v : Value} {zs : List Int} (h : OwnI w base v zs) (hb : base' ≤ base) : OwnI w base' v zs := by
  obtain ⟨ho, hz, hb0⟩ := h
  refine ⟨⟨ho.1, ?_⟩, hz, by omega⟩
  rcases ho.2 with h0 | ⟨g, cap, cur, e, hg, hh, r⟩
  · exact .inl h0
  · exact .inr ⟨g, cap, cur, e, by omega, hh, r⟩
theorem OwnI.set_ {w : World} {base g n c : Nat} {zs : List Int} (h : OwnI w base (.slice (some ⟨g, 0, none⟩) n c) zs) (k : Nat) {x : Int} (hx : I64 x) : OwnI (w.setCell ⟨g, k, none⟩ (.int .i64 x)) base (.slice (some ⟨g, 0, none⟩) n c) (zs.set k x) := by
  obtain ⟨ho, hz, hb0⟩ := h
  refine ⟨⟨by simp, ?_⟩, setI64 hz hx, by simpa [World.setCell] using hb0⟩
  rcases ho.2 with ⟨e, _⟩ | ⟨g', cap, cur, e, hg, hh, hn, hcap, hsz, ht⟩
  · cases e
  · injection e with e1 e2 e3
    injection e1 with e1
    injection e1 with e1 _ _
    subst e1
    refine .inr ⟨g, cap, cur.setIfInBounds k (.int .i64 x), by rw [e2, e3, List.length_set], hg, heap_setCell_same w g k cur _ _ hh, by simpa using hn, hcap, by simpa using hsz, ?_⟩
    rw [List.length_set, Array.toList_setIfInBounds, List.map_set, ← ht, List.take_set]
theorem OwnI.cells {w : World} {base g n c : Nat} {zs : List Int} (h : OwnI w base (.slice (some ⟨g, 0, none⟩) n c) zs) {k : Nat} (hk : k < zs.length) : w.cell? ⟨g, k, none⟩ = some (.int .i64 zs[k]) ∧ w.frozen? ⟨g, k, none⟩ = false := by
  rcases h.1.2 with ⟨e, _⟩ | ⟨g', cap, cur, e, hg, hh, _⟩
  · cases e
  · have hc := h.1
    injection e with e1 e2 e3
    injection e1 with e1
    injection e1 with e1 _ _
    subst e1
    refine ⟨?_, by simp [World.frozen?, hh]⟩
    rw [h.len.1] at hc
    have := hc.cellAt k (by simpa using hk)
    simpa [hk] using this
theorem OwnI.some_ {w : World} {base n c : Nat} {A : Option Addr} {zs : List Int} (h : OwnI w base (.slice A n c) zs) (h0 : 0 < zs.length) : ∃ g, A = some ⟨g, 0, none⟩ ∧ base ≤ g ∧ g < w.heap.size := by
  rcases h.1.2 with ⟨e, h1⟩ | ⟨g, cap, cur, e, hg, hh, _⟩
  · omega
  · injection e with e _ _
    exact ⟨g, e, hg, (Array.getElem?_eq_some_iff.1 hh).1⟩

/-- A drawn table: the value is a list of lists of the call's own, row k is the list of its own at F k, and all blocks are different ones. -/
structure DT (w : World) (base : Nat) (v : Value) (zss : List (List Int)) (F : Nat → Option Addr) (C : Nat → Nat) : Prop where
  own : w.ownsRow base 24 1 v zss.length (rowsV zss F C)
  low : base ≤ w.heap.size
  row : ∀ (k : Nat) (hk : k < zss.length), OwnI w base (.slice (F k) zss[k].length (C k)) zss[k] ∧ ∀ a, F k = some a → v.ownBlock ≠ some a.block
  far : ∀ (j k : Nat), j < k → k < zss.length → ∀ a b, F j = some a → F k = some b → a.block ≠ b.block

theorem DT.made (w : World) : DT (w.alloc (.cells #[] 24)) w.heap.size (.slice (some ⟨w.heap.size, 0, none⟩) 0 0) [] (fun _ => none) (fun _ => 0) :=
  ⟨World.ownsRow_made w #[] 0 (Nat.le_refl _) (by unfold maxLen; omega) rfl, by simp, fun k hk => absurd hk (by simp), fun j k _ hk => absurd hk (by simp)⟩
theorem ownsRow_lt {w : World} {base : Nat} {e : TypeId} {s : Nat} {v : Value} {n : Nat} {xs : List Value} (h : w.ownsRow base e s v n xs) {g : Nat} (hg : v.ownBlock = some g) : base ≤ g ∧ g < w.heap.size := by
  rcases h.2 with ⟨rfl, _⟩ | ⟨g', cap, cur, rfl, hb, hh, _⟩
  · cases hg
  · simp only [Value.ownBlock] at hg
    injection hg with hg
    subst hg
    exact ⟨hb, (Array.getElem?_eq_some_iff.1 hh).1⟩
theorem DT.keepZ {w w' : World} {base : Nat} {v : Value} {zss : List (List Int)} {F : Nat → Option Addr} {C : Nat → Nat} (h : DT w base v zss F C) (hs : w.heap.size ≤ w'.heap.size) (Z : Nat → Prop) (hk : ∀ k, k < w.heap.size → ¬ Z k → w'.heap[k]? = w.heap[k]?)
    (hv : ∀ g, v.ownBlock = some g → ¬ Z g) (hF : ∀ k a, k < zss.length → F k = some a → ¬ Z a.block) : DT w' base v zss F C := by
  refine ⟨⟨h.own.1, ?_⟩, Nat.le_trans h.low hs, fun k hk' => ⟨(h.row k hk').1.keepB hs fun a ha => ?_, (h.row k hk').2⟩, h.far⟩
  · rcases h.own.2 with h0 | ⟨g, cap, cur, e, hg, hh, r⟩
    · exact .inl h0
    · exact .inr ⟨g, cap, cur, e, hg, (hk g (Array.getElem?_eq_some_iff.1 hh).1 (hv g (by rw [e]; rfl))).trans hh, r⟩
  · have h1 := (h.row k hk').1
    rw [ha] at h1
    exact hk _ (own_at h1).2 (hF k a hk' ha)

theorem run_pushD (w : World) (base : Nat) (v : Value) (zss : List (List Int)) (F : Nat → Option Addr) (C : Nat → Nat) (hD : DT w base v zss F C) (G : Nat) (A : Option Addr) (n c : Nat) (ys : List Int) (hc : w.cell? ⟨G, 0, none⟩ = some (.slice A n c)) (hn : n = ys.length)
    (hr : OwnI w base (.slice A n c) ys) (hne : ∀ a, A = some a → v.ownBlock ≠ some a.block ∧ ∀ k b, k < zss.length → F k = some b → b.block ≠ a.block) (hl : zss.length < 1000000) (ty : TypeId) :
    ∃ v' w', (Builtin.append_ #[22, 22] ty #[v, .slice (some ⟨G, 0, none⟩) 1 1]).run Try.prog w = .ok v' w' ∧ DT w' base v' (zss ++ [ys]) (fun k => if k = zss.length then A else F k) (fun k => if k = zss.length then c else C k) ∧ w.grownBy w' v.ownBlock ∧ (v'.ownBlock = v.ownBlock ∨ v'.ownBlock = some w.heap.size) := by
  subst hn
  obtain ⟨i0, hi0, hz0, hz1, hz2⟩ := info_parts info_row
  obtain ⟨v', w', hrun, e2, e3, _, e5⟩ := run_append_own_at (P := Try.prog) w base 22 ty 24 i0 (.slice none 0 0) 1 24 Try.underlying22 hi0 hz0 hz1 hz2 rfl (by decide) v zss.length (rowsV zss F C) hD.own ⟨G, 0, none⟩ 1 1 [.slice A ys.length c] rfl
    (fun j u hj => by
      match j, hj with
      | 0, hj => simp at hj; subst hj; simpa [Addr.add] using hc) (by simp [Value.oneCell']) (by unfold maxLen; omega) (by omega) hD.low
  have hlen : (zss ++ [ys]).length = zss.length + 1 := by simp
  have hnew : ∀ (a : Addr), a.block < w.heap.size → v.ownBlock ≠ some a.block → v'.ownBlock ≠ some a.block := fun a h1 h2 => by
    rcases e5 with e5 | e5
    · rw [e5]; exact h2
    · rw [e5]; intro h; injection h with h; omega
  refine ⟨v', w', hrun, ⟨?_, by have := e3.size; have := hD.low; omega, ?_, ?_⟩, e3, e5⟩
  · rw [hlen]
    have e : rowsV (zss ++ [ys]) (fun k => if k = zss.length then A else F k) (fun k => if k = zss.length then c else C k) = rowsV zss F C ++ [.slice A ys.length c] := by
      apply List.ext_getElem?
      intro k
      by_cases hk : k < zss.length
      · rw [rowsV_get _ _ _ _ (by rw [hlen]; omega), List.getElem?_append_left (by rw [rowsV_len]; exact hk), rowsV_get _ _ _ _ hk, if_neg (by omega), if_neg (by omega), List.getElem_append_left hk]
      · by_cases hk2 : k = zss.length
        · subst hk2
          rw [rowsV_get _ _ _ _ (by rw [hlen]; omega), List.getElem?_append_right (by rw [rowsV_len]; exact Nat.le_refl _), rowsV_len, if_pos rfl, if_pos rfl]
          simp
        · rw [List.getElem?_eq_none (by rw [rowsV_len, hlen]; omega), List.getElem?_eq_none (by simp [rowsV_len]; omega)]
    rw [e]
    exact e2
  · intro k hk
    rw [hlen] at hk
    by_cases hk2 : k = zss.length
    · subst hk2
      simp only [if_true]
      rw [show (zss ++ [ys])[zss.length]'(by rw [hlen]; omega) = ys by simp]
      refine ⟨hr.keepB e3.size fun a ha => ?_, fun a ha => ?_⟩
      · have h1 := hr; rw [ha] at h1
        exact e3.block _ (own_at h1).2 (Ne.symm (hne a ha).1)
      · have h1 := hr; rw [ha] at h1
        exact hnew a (own_at h1).2 (hne a ha).1
    · have hk3 : k < zss.length := by omega
      simp only [if_neg hk2]
      rw [show (zss ++ [ys])[k]'(by rw [hlen]; omega) = zss[k] from List.getElem_append_left hk3]
      obtain ⟨r1, r2⟩ := hD.row k hk3
      refine ⟨r1.keepB e3.size fun a ha => ?_, fun a ha => ?_⟩
      · have h1 := r1; rw [ha] at h1
        exact e3.block _ (own_at h1).2 (Ne.symm (r2 a ha))
      · have h1 := r1; rw [ha] at h1
        exact hnew a (own_at h1).2 (r2 a ha)
  · intro j k hj hk a b ha hb
    rw [hlen] at hk
    simp only [if_neg (show ¬ j = zss.length by omega)] at ha
    by_cases hk2 : k = zss.length
    · simp only [if_pos hk2] at hb
      exact (hne b hb).2 j a (by omega) ha
    · simp only [if_neg hk2] at hb
      exact hD.far j k hj (by omega) a b ha hb

/-- In a plain region. -/
theorem wpList_pushD {ops : Array Oper} {rest : List Oper} {o : Oper} {a : Act} {W : World} {Q : Exit → Act → World → Prop} {A : Option Addr} {n c : Nat} (hgd : o.guard = none) (s x : Operand)
    (ho : o.op = .call { callee := .builtin .append, args := #[s, x], argTypes := #[22, 22] })
    (base : Nat) (v : Value) (zss : List (List Int)) (F : Nat → Option Addr) (C : Nat → Nat) (hs : a.eval s = v) (hx : a.eval x = .slice (some ⟨W.heap.size, 0, none⟩) 1 1) (hD : DT W base v zss F C) (ys : List Int) (hn : n = ys.length)
    (hr : OwnI W base (.slice A n c) ys) (hne : ∀ a, A = some a → v.ownBlock ≠ some a.block ∧ ∀ k b, k < zss.length → F k = some b → b.block ≠ a.block) (hl : zss.length < 1000000)
    (h : ∀ v' w', DT w' base v' (zss ++ [ys]) (fun k => if k = zss.length then A else F k) (fun k => if k = zss.length then c else C k) → W.grownBy w' v.ownBlock → (v'.ownBlock = v.ownBlock ∨ ∀ g, v'.ownBlock = some g → W.heap.size ≤ g) → wpList Try.prog ops Q rest (a.put o.dst v') w') : wpList Try.prog ops Q (o :: rest) a (W.alloc (.cells #[.slice A n c] 24)) := by
  have hb : Below W.heap.size W (W.alloc (.cells #[.slice A n c] 24)) := (Below.refl _ W).alloc (Nat.le_refl _) _
  refine wpList_plain hgd fun K hK => ?_
  have hD2 : DT (W.alloc (.cells #[.slice A n c] 24)) base v zss F C := hD.keepZ hb.size (fun _ => False) (fun k hk _ => hb.block k hk) (fun _ _ => id) (fun _ _ _ _ => id)
  obtain ⟨v', w', hrun, h2, h3, h4⟩ := run_pushD _ base v zss F C hD2 W.heap.size A n c ys (by rw [World.cell?_alloc_at _ _ _ _ rfl]; rfl) hn (hr.keepB hb.size fun a ha => by
    have h1 := hr; rw [ha] at h1
    exact hb.block _ (own_at h1).2) hne hl o.type
  unfold Oper.wp execOp
  simp only [ho, resolve, invoke, builtin, Sem.run_bind, Sem.run_pure, Result.andThen_ok, List.map_toArray, List.map_cons, List.map_nil, hs, hx, hrun]
  refine hK _ _ (h v' w' h2 ⟨h3.os.trans hb.os, h3.tape.trans hb.tape, h3.output.trans hb.output, Nat.le_trans hb.size h3.size, fun k hk hne => (h3.block k (Nat.lt_of_lt_of_le hk hb.size) hne).trans (hb.block k hk)⟩ ?_)
  rcases h4 with h4 | h4
  · exact .inl h4
  · refine .inr fun g hg => ?_
    rw [h4] at hg
    injection hg with hg
    rw [← hg]
    exact hb.size

/-- Reads as the list of lists. -/
theorem DT.irr {w : World} {base : Nat} {v : Value} {zss : List (List Int)} {F : Nat → Option Addr} {C : Nat → Nat} (h : DT w base v zss F C) (hl : zss.length ≤ 1000000) (hr : ∀ r, r ∈ zss → r.length ≤ 1000000) : ∃ A c, v = .slice A zss.length c ∧ IRR w base w.heap.size A zss ∧ zss.length ≤ c ∧ c ≤ 9223372036854775807 := by
  have hcell := h.own
  rcases h.own.2 with ⟨rfl, h0⟩ | ⟨g, cap, cur, rfl, hgb, hh, hn, hcap, hs, ht⟩
  · have : zss = [] := List.eq_nil_of_length_eq_zero h0
    subst this
    exact ⟨none, 0, rfl, ⟨by simp, Nat.le_refl _, fun k hk => absurd hk (by simp)⟩, Nat.le_refl _, by omega⟩
  · refine ⟨some ⟨g, 0, none⟩, cap, rfl, ⟨by omega, Nat.le_refl _, fun k hk => ?_⟩, hn, by unfold maxLen at hcap; omega⟩
    obtain ⟨r1, r2⟩ := h.row k hk
    have hc := hcell.cellAt k (by simpa using hk)
    rw [rowsV_get _ _ _ _ hk] at hc
    refine ⟨g, 0, F k, C k, rfl, hgb, (Array.getElem?_eq_some_iff.1 hh).1, by simpa using hc, ⟨r1.len.2.1, r1.len.2.2⟩, ?_⟩
    obtain ⟨A', c', e, hiw⟩ := r1.iw (by have := hr _ (List.getElem_mem hk); omega)
    injection e with e _ _
    rw [e]
    exact hiw.toIR
theorem IRR.but {w w' : World} {lo hi C R : Nat} {A : Option Addr} {t : List (List Int)} (h : IRR w lo hi A t) (hb : But C R w w') (hC : hi ≤ C) (hR : R < lo) : IRR w' lo hi A t :=
  h.keep hb.size fun p h1 h2 => World.cell?_of_block (hb.block p.block (by omega) (by omega))
theorem DT.top {w : World} {base : Nat} {A : Option Addr} {n c : Nat} {zss : List (List Int)} {F : Nat → Option Addr} {C : Nat → Nat} (h : DT w base (.slice A n c) zss F C) (h0 : 0 < zss.length) : ∃ g, A = some ⟨g, 0, none⟩ ∧ w.cell? ⟨g, 0, none⟩ = some (.slice (F 0) (zss[0]).length (C 0)) := by
  rcases h.own.2 with ⟨e, h1⟩ | ⟨g, cap, cur, e, hgb, hh, hn, hcap, hs, ht⟩
  · omega
  · injection e with e1 e2 e3
    subst e1; subst e2; subst e3
    have hc0 := h.own.cellAt 0 (by simpa using h0)
    rw [rowsV_get _ _ _ _ h0] at hc0
    exact ⟨g, rfl, by simpa using hc0⟩
/-- Row 0 becomes longer: what append(out[0], 0), stored there again, leaves. -/
theorem DT.first {w w' : World} {base : Nat} {A : Option Addr} {n c : Nat} {zss : List (List Int)} {F : Nat → Option Addr} {C : Nat → Nat} (h : DT w base (.slice A n c) zss F C) (h0 : 0 < zss.length) (hl : zss.length ≤ 1000000) (hr : ∀ r, r ∈ zss → r.length < 1000000)
    {A' : Option Addr} {m' c' : Nat} {ys : List Int} (ho : OwnI w' base (.slice A' m' c') ys) (hy : ys.length ≤ 1000000) (hg : w.grownBy w' (Value.slice (F 0) (zss[0]).length (C 0)).ownBlock) (he : ∀ a, A' = some a → (∃ b, F 0 = some b ∧ b.block = a.block) ∨ w.heap.size ≤ a.block) :
    ∃ g, A = some ⟨g, 0, none⟩ ∧ g < w.heap.size ∧ base ≤ g ∧ w'.cell? ⟨g, 0, none⟩ = some (.slice (F 0) (zss[0]).length (C 0)) ∧ w'.frozen? ⟨g, 0, none⟩ = false ∧ IRR (w'.setCell ⟨g, 0, none⟩ (.slice A' m' c')) base w'.heap.size A (zss.set 0 ys) := by
  rcases h.own.2 with ⟨e, h1⟩ | ⟨g, cap, cur, e, hgb, hh, hn, hcap, hs, ht⟩
  · omega
  · injection e with e1 e2 e3
    subst e1; subst e2; subst e3
    have hgl := (Array.getElem?_eq_some_iff.1 hh).1
    have hg0 : some g ≠ (Value.slice (F 0) (zss[0]).length (C 0)).ownBlock := by
      intro e
      cases hF : F 0 with
      | none => rw [hF] at e; simp [Value.ownBlock] at e
      | some a => exact (h.row 0 h0).2 a hF (by rw [hF] at e; simpa [Value.ownBlock] using e)
    have hbg : w'.heap[g]? = w.heap[g]? := hg.block g hgl hg0
    have hc0 := h.own.cellAt 0 (by simpa using h0)
    rw [rowsV_get _ _ _ _ h0] at hc0
    have hcell0 : w'.cell? ⟨g, 0, none⟩ = some (.slice (F 0) (zss[0]).length (C 0)) := by
      rw [World.cell?_of_block (a := ⟨g, 0, none⟩) hbg]; simpa using hc0
    refine ⟨g, rfl, hgl, hgb, hcell0, by rw [World.frozen?_of_block (a := ⟨g, 0, none⟩) hbg]; simp [World.frozen?, hh], ⟨by simp; omega, by simp [World.setCell], fun k hk => ?_⟩⟩
    have hk' : k < zss.length := by simpa using hk
    have hout : ∀ b, b ≠ g → (w'.setCell ⟨g, 0, none⟩ (.slice A' m' c')).heap[b]? = w'.heap[b]? := fun b hb => heap_setCell_other w' ⟨g, 0, none⟩ b _ (fun e => hb e)
    have hirOf : ∀ (B : Option Addr) (mm cc : Nat) (us : List Int), OwnI w' base (.slice B mm cc) us → us.length ≤ 1000000 → (∀ a, B = some a → a.block ≠ g) → IR (w'.setCell ⟨g, 0, none⟩ (.slice A' m' c')) base w'.heap.size B us := fun B mm cc us hu hul hB => by
      have hu2 : OwnI (w'.setCell ⟨g, 0, none⟩ (.slice A' m' c')) base (.slice B mm cc) us := hu.keepB (by simp [World.setCell]) fun a ha => hout _ (hB a ha)
      obtain ⟨A3, c3, e, hiw⟩ := hu2.iw (by omega)
      injection e with e _ _
      rw [e]
      have := hiw.toIR
      rwa [show (w'.setCell ⟨g, 0, none⟩ (.slice A' m' c')).heap.size = w'.heap.size by simp [World.setCell]] at this
    by_cases hk0 : k = 0
    · subst hk0
      have e4 : (zss.set 0 ys)[0]'hk = ys := by simp
      rw [e4]
      refine ⟨g, 0, A', c', rfl, hgb, Nat.lt_of_lt_of_le hgl hg.size, ?_, ⟨by have := ho.len; omega, ho.len.2.2⟩, ?_⟩
      · rw [World.cell?_setCell_same' _ _ _ (by rw [hcell0]; rfl), ho.len.1]
      · refine hirOf _ _ _ _ ho hy fun a ha e5 => ?_
        rcases he a ha with ⟨b, e6, e7⟩ | e6
        · exact (h.row 0 h0).2 b e6 (by simp [Value.ownBlock, e7, e5])
        · omega
    · have e4 : (zss.set 0 ys)[k]'hk = zss[k] := by simp [Ne.symm hk0]
      rw [e4]
      obtain ⟨r1, r2⟩ := h.row k hk'
      have hck := h.own.cellAt k (by simpa using hk')
      rw [rowsV_get _ _ _ _ hk'] at hck
      refine ⟨g, 0, F k, C k, rfl, hgb, Nat.lt_of_lt_of_le hgl hg.size, ?_, ⟨r1.len.2.1, r1.len.2.2⟩, ?_⟩
      · rw [World.cell?_setCell_other _ _ _ _ (by simp), World.cell?_of_block (a := ⟨g, 0 + k, none⟩) hbg]; simpa using hck
      · refine hirOf _ _ _ _ (r1.keepB hg.size fun a ha => ?_) (by have := hr _ (List.getElem_mem hk'); omega) fun a ha e5 => r2 a ha (by simp [Value.ownBlock, e5])
        have h1 := r1; rw [ha] at h1
        refine hg.block _ (own_at h1).2 fun e6 => ?_
        cases hF : F 0 with
        | none => rw [hF] at e6; simp [Value.ownBlock] at e6
        | some a0 =>
          rw [hF] at e6
          simp only [Value.ownBlock] at e6
          injection e6 with e6
          exact h.far 0 k (by omega) hk' a0 a hF ha e6.symm

theorem grown_below {C : Nat} {w w' : World} {b : Option Nat} (h : w.grownBy w' b) (hb : ∀ g, b = some g → C ≤ g) (hC : C ≤ w.heap.size) : Below C w w' :=
  ⟨h.os, h.tape, h.output, h.size, fun k hk => h.block k (by omega) fun e => by have := hb k e.symm; omega⟩
/-- append(v, y), in a plain region: what else has turned. -/
theorem wpList_pushG {ops : Array Oper} {rest : List Oper} {o : Oper} {a : Act} {W : World} {y : Int} {Q : Exit → Act → World → Prop} (hgd : o.guard = none) (s x : Operand)
    (ho : o.op = .call { callee := .builtin .append, args := #[s, x], argTypes := #[24, 24] })
    (base : Nat) (v : Value) (zs : List Int) (hs : a.eval s = v) (hx : a.eval x = .slice (some ⟨W.heap.size, 0, none⟩) 1 1) (hown : OwnI W base v zs)
    (hl : zs.length < 1000000) (hy : I64 y)
    (h : ∀ v' w', OwnI w' base v' (zs ++ [y]) → W.grownBy w' v.ownBlock → (v'.ownBlock = v.ownBlock ∨ ∀ g, v'.ownBlock = some g → W.heap.size ≤ g) → wpList Try.prog ops Q rest (a.put o.dst v') w') : wpList Try.prog ops Q (o :: rest) a (W.alloc (.cells #[.int .i64 y] 3)) := by
  have hb : Below W.heap.size W (W.alloc (.cells #[.int .i64 y] 3)) := (Below.refl _ W).alloc (Nat.le_refl _) _
  refine wpList_plain hgd fun K hK => ?_
  obtain ⟨i0, hi, hz0, hz1, hz2⟩ := info_parts info_int
  have hown2 : OwnI (W.alloc (.cells #[.int .i64 y] 3)) base v zs := hown.alloc
  obtain ⟨v', w', hrun, h2, h3, _, h4⟩ := run_append_own_at (P := Try.prog) (W.alloc (.cells #[.int .i64 y] 3)) base 24 o.type 3 i0 (.int .i64 0) 1 8 Try.underlying24 hi hz0 hz1 hz2 rfl (by decide) v zs.length (zs.map (Value.int .i64)) hown2.1 ⟨W.heap.size, 0, none⟩ 1 1 [.int .i64 y] rfl
    (fun j u hj => by
      match j, hj with
      | 0, hj => simp at hj; subst hj; simp [Addr.add, World.cell?_alloc_at _ _ ⟨W.heap.size, 0, none⟩ _ rfl]) (by simp [Value.oneCell']) (by unfold maxLen; omega) (by omega) hown2.2.2
  unfold Oper.wp execOp
  simp only [ho, resolve, invoke, builtin, Sem.run_bind, Sem.run_pure, Result.andThen_ok, List.map_toArray, List.map_cons, List.map_nil, hs, hx, hrun]
  refine hK _ _ (h v' w' ⟨by simpa using h2, fun z hz => ?_, Nat.le_trans hown2.2.2 h3.size⟩ ⟨h3.os.trans hb.os, h3.tape.trans hb.tape, h3.output.trans hb.output, Nat.le_trans hb.size h3.size, fun k hk hne => (h3.block k (Nat.lt_of_lt_of_le hk hb.size) hne).trans (hb.block k hk)⟩ ?_)
  · rcases List.mem_append.1 hz with hz | hz
    · exact hown.2.1 z hz
    · obtain rfl := List.mem_singleton.1 hz; exact hy
  · rcases h4 with h4 | h4
    · exact .inl h4
    · refine .inr fun g hg => ?_
      rw [h4] at hg
      injection hg with hg
      rw [← hg]
      exact hb.size

/-- The call draws a list of n integers of its own, which may grow. -/
def DrawPostO (w : World) (R p n k : Nat) (e : Ending) (w' : World) : Prop :=
  ∃ A c zs p', e = .returned (.slice A n c) ∧ zs.length = n ∧ OwnI w' w.heap.size (.slice A n c) zs ∧ But w.heap.size R w w' ∧ Rd w' R p' ∧ p' ≤ p + k

set_option maxRecDepth 100000 in
set_option maxHeartbeats 4000000 in
theorem l91Row_own (R p n : Nat) (w : World) (h : Rd w R p) (hp : p ≤ 900000000) (hn : n ≤ 1000) :
    Calls Try.prog 55 #[.pointer (some ⟨R, 0, none⟩), .int .i64 (n : Int)] w (DrawPostO w R p n (2 * n + 1)) := by
  have H := Lib.hid h
  have hR := h.lt
  clear h
  go_enter Try.func55, Try.ntmps55
  go_wp2_with fail
  refine (pick_any R p _ _ (H.out.below ((Below.refl w.heap.size w).alloc (Nat.le_refl _) _) hR) (by omega) (by omega)).mono ?_
  rintro e w1 ⟨K, rfl, k0, k1, -, hb, hs, hr⟩
  have k2 := k1 (by omega)
  have hs1 : w.heap.size < w1.heap.size := by rw [hs]; simp
  have O1 := Lib.hid ((OwnI.made w).but hb (Nat.le_refl _) hR)
  have B1 := Lib.hid ((But.of (R := R) ((Below.refl w.heap.size w).alloc (Nat.le_refl _) (.cells #[] 3))).trans (hb.mono (by simp)))
  have R1 := Lib.hid hr
  clear hb hs hr k1
  go_wp2
  go_loopw [5, 7] (fun v i wr => ∃ (k p' : Nat) (zs : List Int), k ≤ n ∧ i = .int .i64 k ∧ zs.length = k ∧ OwnI wr w.heap.size v zs ∧ But w.heap.size R w wr ∧ Rd wr R p' ∧ p' ≤ p + (2 * k + 1)) (fun _ i _ => n - (intOf i).toNat)
  case atStart => exact ⟨0, p + 1, [], Nat.zero_le _, rfl, rfl, O1.out, B1.out, R1.out, by omega⟩
  case round =>
    obtain ⟨k, p', zs, hk, rfl, hz, ho, hb, hr, hp'⟩ := hrel
    have HO := Lib.hid ho; have HB := Lib.hid hb; have HR := Lib.hid hr
    clear ho hb hr
    by_cases hlt : k < n
    · have hlt' : (k : Int) < (n : Int) := by omega
      have HLL := Lib.hid (show zs.length < 17592186044416 by omega)
      by_cases hK0 : K = 0
      · subst hK0
        go_wp2_with fail
        refine (pick_any R p' _ _ HR.out (by omega) (by omega)).mono ?_
        rintro e w2 ⟨x, rfl, x0, x1, -, hb, hs, hr⟩
        have x2 := x1 (by omega)
        replace HO := Lib.hid (HO.out.but hb (Nat.le_refl _) hR)
        replace HB := Lib.hid (HB.out.then_ (Nat.le_refl _) hb)
        replace HR := Lib.hid hr
        have HY : Hid (I64 (x - 4)) := ⟨by omega, by omega⟩
        clear hb hs hr x1
        go_wp2_with (at_builtin; refine wpList_push rfl _ _ rfl w.heap.size _ _ rfl rfl HO.out HLL.out HY.out ?_; intro v1 w3 ho1 hb1; have HO1 := Lib.hid ho1; have HB1 := Lib.hid hb1; clear ho1 hb1)
        go_roundw
        case rel => exact ⟨k + 1, p' + 1, _, by omega, by go_num, by simp [hz], HO1.out, HB.out.trans (But.of HB1.out), HR.out.below HB1.out hR, by omega⟩
        case measure => simp [intOf]; omega
      · by_cases hK1 : K = 1
        · subst hK1
          go_wp2_with fail
          refine (pick_any R p' _ _ HR.out (by omega) (by omega)).mono ?_
          rintro e w2 ⟨x, rfl, x0, x1, -, hb, hs, hr⟩
          have x2 := x1 (by omega)
          replace HO := Lib.hid (HO.out.but hb (Nat.le_refl _) hR)
          replace HB := Lib.hid (HB.out.then_ (Nat.le_refl _) hb)
          replace HR := Lib.hid hr
          have HY : Hid (I64 (x - 20)) := ⟨by omega, by omega⟩
          clear hb hs hr x1
          go_wp2_with (at_builtin; refine wpList_push rfl _ _ rfl w.heap.size _ _ rfl rfl HO.out HLL.out HY.out ?_; intro v1 w3 ho1 hb1; have HO1 := Lib.hid ho1; have HB1 := Lib.hid hb1; clear ho1 hb1)
          go_roundw
          case rel => exact ⟨k + 1, p' + 1, _, by omega, by go_num, by simp [hz], HO1.out, HB.out.trans (But.of HB1.out), HR.out.below HB1.out hR, by omega⟩
          case measure => simp [intOf]; omega
        · skip
          have hK0' : ¬ K = 0 := by omega
          have hK1' : ¬ K = 1 := by omega
          go_wp2_with fail
          refine (pick_any R p' _ _ HR.out (by omega) (by omega)).mono ?_
          rintro e w2 ⟨x, rfl, x0, x1, -, hb, hs, hr⟩
          have x2 := x1 (by omega)
          replace HO := Lib.hid (HO.out.but hb (Nat.le_refl _) hR)
          replace HB := Lib.hid (HB.out.then_ (Nat.le_refl _) hb)
          replace HR := Lib.hid hr
          clear hb hs hr x1
          go_wp2_with fail
          refine (pick_any R (p' + 1) _ _ HR.out (by omega) (by omega)).mono ?_
          rintro e w4 ⟨y, rfl, y0, y1, -, hb, hs, hr⟩
          have y2 := y1 (by omega)
          replace HO := Lib.hid (HO.out.but hb (Nat.le_refl _) hR)
          replace HB := Lib.hid (HB.out.then_ (Nat.le_refl _) hb)
          replace HR := Lib.hid hr
          have HY : Hid (I64 (x + y / 5 * 9)) := ⟨by omega, by omega⟩
          clear hb hs hr y1
          go_wp2_with (at_builtin; refine wpList_push rfl _ _ rfl w.heap.size _ _ rfl rfl HO.out HLL.out HY.out ?_; intro v1 w3 ho1 hb1; have HO1 := Lib.hid ho1; have HB1 := Lib.hid hb1; clear ho1 hb1)
          go_roundw
          case rel => exact ⟨k + 1, p' + 1 + 1, _, by omega, by go_num, by simp [hz], HO1.out, HB.out.trans (But.of HB1.out), HR.out.below HB1.out hR, by omega⟩
          case measure => simp [intOf]; omega
    · obtain rfl : k = n := by omega
      have hown := HO.out
      obtain ⟨A', c', rfl, hiw, hcap⟩ := HO.out.iwc hz (by omega)
      have HOW := Lib.hid hown
      clear hown
      have HI := Lib.hid hiw; have HC := Lib.hid hcap
      clear hcap
      clear hiw HO
      have hlt' : ¬ (k : Int) < (k : Int) := by omega
      go_wp2
      go_ret
      exact ⟨A', c', zs, p', rfl, hz, HOW.out, HB.out, HR.out, hp'⟩
end Go.Proofs.Ytanoojpmokbiaab
