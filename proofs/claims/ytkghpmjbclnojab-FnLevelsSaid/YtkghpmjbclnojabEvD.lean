/-
  EvenLevels of the program: levelled, levels. Conditions: the lists' cells are there.
-/
import Derived.Test.YtkghpmjbclnojabEvC
import Derived.Test.YtkghpmjbclnojabEvB
import Derived.Laws.IdiomCopy
import Derived.Test.YtkghpmjbclnojabHeldE
import Derived.Test.YtkghpmjbclnojabPart2
namespace Go.Proofs.Ytkghpmjbclnojab
open Go.RowKit Go.Shelf Go.ChangeShapes Go.WideShapes

/-- The list with others put at place k and behind. -/
def putsAt (xs : List Int) : Nat → List Int → List Int
  | _, [] => xs
  | k, z :: zs => putsAt (xs.set k z) (k + 1) zs
theorem putsAt_len : ∀ (zs xs : List Int) (k : Nat), (putsAt xs k zs).length = xs.length
  | [], _, _ => rfl
  | z :: zs, xs, k => by show (putsAt (xs.set k z) (k + 1) zs).length = _; rw [putsAt_len zs, List.length_set]
theorem putsAt_getD : ∀ (zs xs : List Int) (k j : Nat), k + zs.length ≤ xs.length → (putsAt xs k zs).getD j 0 = if k ≤ j ∧ j < k + zs.length then zs.getD (j - k) 0 else xs.getD j 0
  | [], xs, k, j, _ => by rw [if_neg (by simp)]; rfl
  | z :: zs, xs, k, j, h => by
    rw [List.length_cons] at h
    show (putsAt (xs.set k z) (k + 1) zs).getD j 0 = _
    rw [putsAt_getD zs _ _ _ (by rw [List.length_set]; omega), set_getD_at xs k z j (by omega)]
    by_cases c1 : k + 1 ≤ j ∧ j < k + 1 + zs.length
    · rw [if_pos c1, if_pos (by rw [List.length_cons]; omega), show j - k = j - (k + 1) + 1 by omega]; rfl
    · rw [if_neg c1]
      by_cases c2 : j = k
      · rw [if_pos c2, if_pos (by rw [List.length_cons]; omega), c2, Nat.sub_self]; rfl
      · rw [if_neg c2, if_neg (by rw [List.length_cons]; omega)]
theorem Cells.puts {b : Nat} : ∀ (zs : List Int) (W : World) (xs : List Int) (k : Nat), Cells W b 0 xs → k + zs.length ≤ xs.length → Cells (W.setCells b k (zs.map (Value.int .i64))) b 0 (putsAt xs k zs)
  | [], _, _, _, h, _ => h
  | z :: zs, _, xs, k, h, hl => by
    rw [List.length_cons] at hl
    have h1 := h.set_ k (by omega) z
    rw [Nat.zero_add] at h1
    exact Cells.puts zs _ _ (k + 1) h1 (by rw [List.length_set]; omega)
theorem below_puts {C b : Nat} (hb : C ≤ b) {w : World} : ∀ (vs : List Value) (o : Nat) (W : World), Below C w W → Below C w (W.setCells b o vs)
  | [], _, _, h => h
  | v :: vs, o, _, h => below_puts hb vs (o + 1) _ (h.setCell (p := ⟨b, o, none⟩) hb v)
theorem size_puts {b : Nat} : ∀ (vs : List Value) (o : Nat) (W : World), (W.setCells b o vs).heap.size = W.heap.size
  | [], _, _ => rfl
  | v :: vs, o, W => by rw [World.setCells, size_puts vs]; simp [World.setCell]
theorem Cells.front {w : World} {b off : Nat} {xs ys : List Int} (h : Cells w b off xs) (hl : ys.length ≤ xs.length) (he : ∀ j, j < ys.length → xs.getD j 0 = ys.getD j 0) : Cells w b off ys := fun j hj => by
  have := h j (by omega)
  have e := he j hj
  rw [getD_in (show j < xs.length by omega), getD_in hj] at e
  rw [e] at this
  exact this

set_option maxRecDepth 100000 in
set_option maxHeartbeats 2000000 in
theorem levelled_any (A : Option Addr) (c n : Nat) (zs : List Int) (f t : Nat) (w : World) (h : IR w 0 w.heap.size A zs) (hr : rowB zs = true) (hn : n = zs.length) (hf : f < n) (ht : t < n) (hft : f ≠ t) :
    Calls Try.prog 66 #[.slice A n c, .int .i64 (f : Int), .int .i64 (t : Int)] w (RetSC w (levelL zs f t)) := by
  subst hn
  have hlb := (rowB_true.1 hr).2
  obtain ⟨b, off, rfl, _, hbw, _⟩ := h.at_ hf
  have hmk : (Instr.makeSlice 23 (.int .i64 12) (.int .i64 12)).run Try.prog w = .ok (.slice (some ⟨w.heap.size, 0, none⟩) 12 12) (w.alloc (.cells (madeCells #[.int .i64 0] 12) 3)) := run_makeInts 12 (by omega) w
  have hmn : Nat.min zs.length 12 = zs.length := Nat.min_eq_left hlb.2
  have g1 := (rowB_true.1 hr).1 _ (List.getElem_mem hf)
  have g2 := (rowB_true.1 hr).1 _ (List.getElem_mem ht)
  have hcells := Cells.made w 12 3
  have hb0 : Below w.heap.size w (w.alloc (.cells (madeCells #[.int .i64 0] 12) 3)) := (Below.refl _ w).alloc (Nat.le_refl _) _
  have hR := h.grow hb0
  have hcp : ∀ ty, (Builtin.copy_ #[23, 43] ty #[.slice (some ⟨w.heap.size, 0, none⟩) 12 12, .slice (some ⟨b, off, none⟩) zs.length c]).run Try.prog (w.alloc (.cells (madeCells #[.int .i64 0] 12) 3)) = .ok (goInt zs.length) ((w.alloc (.cells (madeCells #[.int .i64 0] 12) 3)).setCells w.heap.size 0 (zs.map (Value.int .i64))) := fun ty => by
    have := run_copy_cells (P := Try.prog) (w.alloc (.cells (madeCells #[.int .i64 0] 12) 3)) 23 43 ty 3 w.heap.size 0 12 12 ⟨b, off, none⟩ zs.length c (zs.map (Value.int .i64)) Try.underlying23 (by kernel_rfl) (by rw [List.length_map]; exact hmn.symm)
      (fun j u hj => by
        rw [List.getElem?_map] at hj
        by_cases hjl : j < zs.length
        · rw [List.getElem?_eq_getElem hjl] at hj
          simp at hj
          subst hj
          obtain ⟨b', off', e, _, _, hc⟩ := hR.at_ hjl
          injection e with e; injection e with e1 e2 _; subst e1; subst e2
          rw [add_plain]; exact hc
        · rw [List.getElem?_eq_none (by omega)] at hj; cases hj)
      (fun j hj => by
        simp at hj
        have := (hcells j (by simp; omega)).1
        rw [this]; rfl)
      (fun j hj => by simp at hj; exact (hcells j (by simp; omega)).2)
      (fun u hu => by obtain ⟨y, _, rfl⟩ := List.mem_map.1 hu; rfl)
    rwa [List.length_map] at this
  have HC1 := Lib.hid (Cells.puts zs _ _ 0 hcells (by simp; omega))
  have HB1 := Lib.hid (below_puts (Nat.le_refl _) (zs.map (Value.int .i64)) 0 _ hb0)
  have HS1 : Hid (((w.alloc (.cells (madeCells #[.int .i64 0] 12) 3)).setCells w.heap.size 0 (zs.map (Value.int .i64))).heap.size = w.heap.size + 1) := by show _ = _; rw [size_puts]; simp
  obtain ⟨W1, hW1⟩ : ∃ W1, (w.alloc (.cells (madeCells #[.int .i64 0] 12) 3)).setCells w.heap.size 0 (zs.map (Value.int .i64)) = W1 := ⟨_, rfl⟩
  rw [hW1] at hcp HC1 HB1 HS1
  clear hW1 hcells hb0 hR
  have HG := Lib.hid (fun j => putsAt_getD zs (List.replicate 12 0) 0 j (by simp; omega))
  have HXL : Hid ((putsAt (List.replicate 12 0) 0 zs).length = 12) := by show _ = _; rw [putsAt_len]; simp
  obtain ⟨xs, hxs⟩ : ∃ xs, putsAt (List.replicate 12 0) 0 zs = xs := ⟨_, rfl⟩
  rw [hxs] at HC1 HG HXL
  have hfx : f < xs.length := by rw [HXL.out]; omega
  have htx : t < xs.length := by rw [HXL.out]; omega
  have exf : xs[f] = zs[f] := by
    have := HG.out f
    rw [if_pos (by omega), getD_in hfx, Nat.sub_zero, getD_in hf] at this; exact this
  have ext : xs[t] = zs[t] := by
    have := HG.out t
    rw [if_pos (by omega), getD_in htx, Nat.sub_zero, getD_in ht] at this; exact this
  obtain ⟨cf, ff⟩ := HC1.out f hfx
  rw [exf, Nat.zero_add] at cf
  rw [Nat.zero_add] at ff
  have hC2 := HC1.out.set_ f hfx (zs[f] - 1)
  obtain ⟨ct, ft⟩ := hC2 t (by rw [List.length_set]; exact htx)
  rw [List.getElem_set_ne hft, ext] at ct
  have hC3 := hC2.set_ t (by rw [List.length_set]; exact htx) (zs[t] + 1)
  have HC4 : Hid (Cells ((W1.setCell ⟨w.heap.size, 0 + f, none⟩ (.int .i64 (zs[f] - 1))).setCell ⟨w.heap.size, 0 + t, none⟩ (.int .i64 (zs[t] + 1))) w.heap.size 0 (levelL zs f t)) := by
    refine Cells.front hC3 (by rw [level_len, List.length_set, List.length_set, HXL.out]; omega) fun j hj => ?_
    rw [level_len] at hj
    rw [level_getD hf ht, set_getD_at _ t _ j (by rw [List.length_set]; exact htx), set_getD_at _ f _ j hfx, getD_in hf, getD_in ht]
    have := HG.out j
    rw [if_pos (by omega), Nat.sub_zero] at this
    rw [this]
  rw [Nat.zero_add, Nat.zero_add] at HC4
  rw [Nat.zero_add, Nat.zero_add] at ct ft
  have HLR : Hid (∀ z, z ∈ levelL zs f t → I64 z) := fun z hz => by
    obtain ⟨j, hj, e⟩ := List.getElem_of_mem hz
    rw [level_len] at hj
    have e2 := level_getD hf ht j
    rw [getD_in (show j < (levelL zs f t).length by rw [level_len]; exact hj), e, getD_in hf, getD_in ht, getD_in hj] at e2
    have g3 := (rowB_true.1 hr).1 _ (List.getElem_mem hj)
    rw [e2]
    split
    · exact ⟨by omega, by omega⟩
    · split <;> exact ⟨by omega, by omega⟩
  obtain ⟨x, hx⟩ : ∃ x, zs[f] = x := ⟨_, rfl⟩
  obtain ⟨y, hy⟩ : ∃ y, zs[t] = y := ⟨_, rfl⟩
  rw [hx] at g1 cf ct ft HC4
  rw [hy] at g2 ct HC4
  have s1 : IntKind.i64.wrap (x - 1) = x - 1 := IntWalk.i64_in _ (by omega)
  have s2 : IntKind.i64.wrap (y + 1) = y + 1 := IntWalk.i64_in _ (by omega)
  have f0 : (0 : Int) ≤ (f : Int) := by omega
  have t0 : (0 : Int) ≤ (t : Int) := by omega
  have f12 : (f : Int) < 12 := by omega
  have t12 : (t : Int) < 12 := by omega
  have n0 : (0 : Int) ≤ (zs.length : Int) := by omega
  have n12 : (zs.length : Int) ≤ 12 := by omega
  have HN := Lib.hid hlb
  have HB2 : Hid (Below w.heap.size w ((W1.setCell ⟨w.heap.size, f, none⟩ (.int .i64 (x - 1))).setCell ⟨w.heap.size, t, none⟩ (.int .i64 (y + 1)))) := (HB1.out.setCell (p := ⟨w.heap.size, f, none⟩) (Nat.le_refl _) _).setCell (p := ⟨w.heap.size, t, none⟩) (Nat.le_refl _) _
  have hs3 : ((W1.setCell ⟨w.heap.size, f, none⟩ (.int .i64 (x - 1))).setCell ⟨w.heap.size, t, none⟩ (.int .i64 (y + 1))).heap.size = w.heap.size + 1 := by rw [← HS1.out]; simp [World.setCell]
  have HS3 := Lib.hid hs3
  clear hxs hx hy exf ext hC2 hC3 h hr hs3 hfx htx hlb
  go_enter Try.func66, Try.ntmps66
  go_wp2
  go_ret
  have hn := HN.out
  exact retSC_of (n := zs.length) (c := zs.length) (by rw [level_len]) ⟨Nat.le_refl _, by omega⟩ (HC4.out.iw (level_len _ _ _) (Nat.le_refl _) (by rw [HS3.out]; omega) (Nat.le_refl _) (by omega) HLR.out) HB2.out
end Go.Proofs.Ytkghpmjbclnojab

namespace Go.Proofs.Ytkghpmjbclnojab
open Go.RowKit Go.Shelf Go.ChangeShapes Go.WideShapes
attribute [local go_sem] Oper.semAt_some

theorem run_pushTg (w : World) (base hi lo2 : Nat) (v : Value) (zss : List (List Int)) (hown : OwnT w base hi v zss) (G : Nat) (A : Option Addr) (n c : Nat) (ys : List Int) (hc : w.cell? ⟨G, 0, none⟩ = some (.slice A n c)) (hn : n = ys.length) (hcap : n ≤ c ∧ c ≤ 9223372036854775807)
    (hlo : hi ≤ lo2) (hr : IW w lo2 w.heap.size A ys) (hl : zss.length < 1000000) (ty : TypeId) :
    ∃ v' w', (Builtin.append_ #[31, 31] ty #[v, .slice (some ⟨G, 0, none⟩) 1 1]).run Try.prog w = .ok v' w' ∧ OwnT w' base w'.heap.size v' (zss ++ [ys]) ∧ w.grownBy w' v.ownBlock := by
  subst hn
  obtain ⟨h1, h2, F, K, ho, hg, hrr, ha⟩ := hown
  obtain ⟨i0, hi0, hz0, hz1, hz2⟩ := info_parts info_row
  obtain ⟨v', w', hrun, e2, e3, _, e5⟩ := run_append_own_at (P := Try.prog) w base 31 ty 23 i0 (.slice none 0 0) 1 24 Try.underlying31 hi0 hz0 hz1 hz2 rfl (by decide) v zss.length (rowsV zss F K) ho ⟨G, 0, none⟩ 1 1 [.slice A ys.length c] rfl
    (fun j u hj => by
      match j, hj with
      | 0, hj => simp at hj; subst hj; simpa [Addr.add] using hc) (by simp [Value.oneCell']) (by unfold maxLen; omega) (by omega) (by omega)
  have hBk : ∀ k, k < w.heap.size → v.ownBlock ≠ some k → w'.heap[k]? = w.heap[k]? := fun k hk hne => e3.block k hk (Ne.symm hne)
  have hlen : (zss ++ [ys]).length = zss.length + 1 := by simp
  refine ⟨v', w', hrun, ⟨by have := e3.size; omega, Nat.le_refl _, fun k => if k = zss.length then A else F k, fun k => if k = zss.length then c else K k, ?_, ?_, ?_, ?_⟩, e3⟩
  · rw [hlen]
    have e : rowsV (zss ++ [ys]) (fun k => if k = zss.length then A else F k) (fun k => if k = zss.length then c else K k) = rowsV zss F K ++ [.slice A ys.length c] := by
      apply List.ext_getElem?
      intro k
      by_cases hk : k < zss.length
      · rw [rowsV_get _ _ _ _ (by rw [hlen]; omega), List.getElem?_append_left (by rw [rowsV_len]; exact hk), rowsV_get _ _ _ _ hk, if_neg (by omega), if_neg (by omega), List.getElem_append_left hk]
      · by_cases hk2 : k = zss.length
        · subst hk2
          rw [rowsV_get _ _ _ _ (by rw [hlen]; omega), List.getElem?_append_right (by rw [rowsV_len]; exact Nat.le_refl _), rowsV_len, if_pos rfl, if_pos rfl]
          simp
        · rw [List.getElem?_eq_none (by rw [rowsV_len, hlen]; omega), List.getElem?_eq_none (by simp [rowsV_len]; omega)]
    rw [e]
    exact e2
  · intro g eg
    rcases e2.2 with ⟨rfl, h0⟩ | ⟨g', cap, cur, rfl, _, hh, _⟩
    · omega
    · simp only [Value.ownBlock] at eg
      injection eg with eg
      rw [← eg]
      exact (Array.getElem?_eq_some_iff.1 hh).1
  · intro k hk
    rw [hlen] at hk
    by_cases hk2 : k = zss.length
    · subst hk2
      simp only [if_true]
      rw [show (zss ++ [ys])[zss.length]'(by rw [hlen]; omega) = ys by simp]
      refine ⟨hcap, ?_, fun b' o' e h0 => ?_⟩
      · refine (hr.keep e3.size fun k g1 g2 => hBk k g2 fun e => ?_).wide (by omega) e3.size (Nat.le_refl _)
        have := hg k e
        omega
      · obtain ⟨b, o, e', g1, g2, _⟩ := hr.2.2.2 h0
        rw [e'] at e
        injection e with e
        injection e with eb _ _
        intro e6
        rcases e5 with e5 | e5
        · rw [e5] at e6
          have := hg b' e6
          omega
        · rw [e5] at e6
          injection e6 with e6
          omega
    · have hk3 : k < zss.length := by omega
      simp only [if_neg hk2]
      rw [show (zss ++ [ys])[k]'(by rw [hlen]; omega) = zss[k] from List.getElem_append_left hk3]
      obtain ⟨r1, r2, r3⟩ := hrr k hk3
      refine ⟨r1, ?_, fun b' o' e h0 => ?_⟩
      · rcases Nat.eq_zero_or_pos zss[k].length with h0 | h0
        · exact ⟨r2.1, r2.2.1, Nat.le_refl _, fun h => absurd h (by omega)⟩
        · obtain ⟨b, o, e', g1, g2, g3⟩ := r2.2.2.2 h0
          have hne := r3 b o e' h0
          have hbk := hBk b (by omega) hne
          have := e3.size
          exact ⟨r2.1, r2.2.1, Nat.le_refl _, fun _ => ⟨b, o, e', g1, by omega, fun j hj => ⟨(World.cell?_of_block hbk).trans (g3 j hj).1, (World.frozen?_of_block hbk).trans (g3 j hj).2⟩⟩⟩
      · obtain ⟨b, o, e', g1, g2, _⟩ := r2.2.2.2 h0
        have hne := r3 b' o' e h0
        rw [e'] at e
        injection e with e
        injection e with eb _ _
        intro e6
        rcases e5 with e5 | e5
        · rw [e5] at e6
          exact hne e6
        · rw [e5] at e6
          injection e6 with e6
          omega
  · intro j k hj hk
    rw [hlen] at hk
    have hj3 : j < zss.length := by omega
    rw [show (zss ++ [ys])[j]'(by rw [hlen]; omega) = zss[j] from List.getElem_append_left hj3]
    simp only [if_neg (show ¬ j = zss.length by omega)]
    by_cases hk2 : k = zss.length
    · subst hk2
      simp only [if_true]
      rw [show (zss ++ [ys])[zss.length]'(by rw [hlen]; omega) = ys by simp]
      intro b o b' o' ea eb n1 n2
      obtain ⟨b1, o1, e', g1, g2, _⟩ := (hrr j hj3).2.1.2.2.2 n1
      obtain ⟨b2, o2, e'', g3, g4, _⟩ := hr.2.2.2 n2
      rw [e'] at ea
      rw [e''] at eb
      injection ea with ea
      injection eb with eb
      injection ea with ea _ _
      injection eb with eb _ _
      exact .inl (by omega)
    · have hk3 : k < zss.length := by omega
      simp only [if_neg hk2]
      rw [show (zss ++ [ys])[k]'(by rw [hlen]; omega) = zss[k] from List.getElem_append_left hk3]
      exact ha j k hj hk3


theorem ownT_keep {w w' : World} {base hi : Nat} {v : Value} {zss : List (List Int)} (h : OwnT w base hi v zss) (hs : w.heap.size ≤ w'.heap.size) (hk : ∀ k, base ≤ k → k < hi → w'.heap[k]? = w.heap[k]?) : OwnT w' base hi v zss := by
  obtain ⟨h1, h2, F, K, ho, hg, hr, ha⟩ := h
  refine ⟨h1, Nat.le_trans h2 hs, F, K, ⟨ho.1, ?_⟩, hg, fun k hk' => ⟨(hr k hk').1, (hr k hk').2.1.keep hs hk, (hr k hk').2.2⟩, ha⟩
  rcases ho.2 with h0 | ⟨g, cap, cur, e, hg2, hh, r⟩
  · exact .inl h0
  · exact .inr ⟨g, cap, cur, e, hg2, (hk g hg2 (hg g (by rw [e]; rfl))).trans hh, r⟩
theorem iw_kept {X Y : World} {row : Option Nat} {lo hi : Nat} {A : Option Addr} {zs : List Int} (h : IW X lo hi A zs) (hg : X.grownBy Y row) (hrow : ∀ r, row = some r → ∃ o : Obj, X.heap[r]? = some o ∧ o.isCells = false) : IW Y lo hi A zs :=
  ⟨h.1, h.2.1, Nat.le_trans h.2.2.1 hg.size, fun hn => by
    obtain ⟨b, off, e, h1, h2, h3⟩ := h.2.2.2 hn
    exact ⟨b, off, e, h1, h2, fun j hj => ⟨cell_kept (h3 j hj).1 hg hrow, (frozen_kept (h3 j hj).1 hg hrow).trans (h3 j hj).2⟩⟩⟩
/-- A variable's box that holds a list of lists of the call's own. -/
def BoxT (W : World) (B base : Nat) (zss : List (List Int)) : Prop := ∃ v hi, Boxed W B 31 v ∧ OwnT W base hi v zss
theorem ownT_kept {X Y : World} {row : Option Nat} {base hi : Nat} {v : Value} {zss : List (List Int)} (h : OwnT X base hi v zss) (hg : X.grownBy Y row) (hrow : ∀ r, row = some r → ∃ o : Obj, X.heap[r]? = some o ∧ o.isCells = false) : OwnT Y base hi v zss := by
  obtain ⟨h1, h2, F, K, ho, hgb, hr, ha⟩ := h
  refine ⟨h1, Nat.le_trans h2 hg.size, F, K, ⟨ho.1, ?_⟩, hgb, fun k hk' => ⟨(hr k hk').1, iw_kept (hr k hk').2.1 hg hrow, (hr k hk').2.2⟩, ha⟩
  rcases ho.2 with h0 | ⟨g, cap, cur, e, hg2, hh, r⟩
  · exact .inl h0
  · exact .inr ⟨g, cap, cur, e, hg2, (grownBy_keeps_cells hg hrow hh rfl).trans hh, r⟩
theorem boxT_own {β : Type} (C B base : Nat) (f : β → List (List Int)) : OwnFrom C (fun s W => BoxT W B base (f s)) := by
  rintro s X Y row ⟨v, hi, hv, ho⟩ hg hrow
  have hr : ∀ r, row = some r → ∃ o : Obj, X.heap[r]? = some o ∧ o.isCells = false := fun r e => by
    obtain ⟨_, o, ho, hc⟩ := hrow r e
    exact ⟨o, ho, hc⟩
  exact ⟨v, hi, (grownBy_keeps_cells hg hr hv rfl).trans hv, ownT_kept ho hg hr⟩
theorem BoxT.below {W W' : World} {B base : Nat} {zss : List (List Int)} (h : BoxT W B base zss) (hb : Below W.heap.size W W') : BoxT W' B base zss := by
  obtain ⟨v, hi, hv, ho⟩ := h
  exact ⟨v, hi, boxed_below hv hb, ho.grow hb⟩
theorem wpI_step {F : Fence} {n : Nat} {P : Program} {Q : Exit → Act → World → Prop} {o : Oper} {a : Act} {w : World} {K : Act → World → Prop} (h : ∀ K' : Act → World → Prop, (∀ a' w', K a' w' → K' a' w') → Oper.wpIn F n P o a w K' Q) : WpI F n P o a w K Q := ⟨h K fun _ _ h => h⟩
theorem wpI_pushT {F : Fence} {n : Nat} {Q : Exit → Act → World → Prop} {o : Oper} {a : Act} {W : World} {K : Act → World → Prop} {A : Option Addr} {m c : Nat} (s x : Operand)
    (ho : o.op = .call { callee := .builtin .append, args := #[s, x], argTypes := #[31, 31] })
    (base hi lo2 : Nat) (v : Value) (zss : List (List Int)) (hs : a.eval s = v) (G : Nat) (hx : a.eval x = .slice (some ⟨G, 0, none⟩) 1 1) (hown : OwnT W base hi v zss) (ys : List Int) (hc : W.cell? ⟨G, 0, none⟩ = some (.slice A m c)) (hn : m = ys.length)
    (hcap : m ≤ c ∧ c ≤ 9223372036854775807) (hlo : hi ≤ lo2) (hr : IW W lo2 W.heap.size A ys) (hl : zss.length < 1000000)
    (h : ∀ v' w', OwnT w' base w'.heap.size v' (zss ++ [ys]) → W.grownBy w' v.ownBlock → K (a.put o.dst v') w') : WpI F n Try.prog o a W K Q := by
  obtain ⟨v', w', hrun, h2, h3⟩ := run_pushTg W base hi lo2 v zss hown G A m c ys hc hn hcap hlo hr hl o.type
  refine wpI_op (v := v') (w' := w') (by rw [ho]; intro c e; cases e) (by simp [Oper.about, ho, resolve, Target.leads, Sem.run_pure]) ?_ (h v' w' h2 h3)
  unfold execOp
  simp only [ho, resolve, invoke, builtin, Sem.run_bind, Sem.run_pure, Result.andThen_ok, List.map_toArray, List.map_cons, List.map_nil, hs, hx, hrun]
/-- A list of lists stored. -/
theorem wpI_storeT {F : Fence} {n : Nat} {Q : Exit → Act → World → Prop} {o : Oper} {a : Act} {w : World} {K : Act → World → Prop} {x y : Operand} (ho : o.op = .store 31 x y) {p : Addr} {A : Option Addr} {m c : Nat} {u : Value} (hx : a.eval x = .pointer (some p)) (hy : a.eval y = .slice A m c) (hc : w.cell? p = some u) (hf : w.frozen? p = false)
    (h : K (a.put o.dst undef) (w.setCell p (.slice A m c))) : WpI F n Try.prog o a w K Q := by
  refine ⟨⟨fun f hf => ?_, ?_⟩⟩
  · unfold Oper.about at hf; rw [ho] at hf; cases hf
  · rw [Oper.semAt_plain F _ _ (by rw [ho]; intro c e; cases e)]
    have hr : (execOp a.eval o).run Try.prog w = .ok .skip (w.setCell p (.slice A m c)) := by
      unfold execOp
      simp only [ho, hx, hy]
      simp [go_sem, hc, hf]
    rw [hr]
    exact h
/-- The rows at the places that came. -/
def rowsP (X : List Int) (pre : List (Fin X.length)) : List (List Int) := (pre.map fun x => rowsAt X x.1).flatten
theorem rowsP_snoc (X : List Int) (pre : List (Fin X.length)) (x : Fin X.length) : rowsP X (pre ++ [x]) = rowsP X pre ++ rowsAt X x.1 := by simp [rowsP]
theorem rowsP_take (X : List Int) : ∀ k, k ≤ X.length → rowsP X ((List.finRange X.length).take k) = rowsTo X k := by
  intro k
  induction k with
  | zero => intro _; rfl
  | succ k ih =>
    intro hk
    rw [← finRange_succ (show k < X.length by omega), rowsP_snoc, ih (by omega)]
    rfl
theorem rowsP_all (X : List Int) : rowsP X (List.finRange X.length) = rowsTo X X.length := by
  have := rowsP_take X X.length (Nat.le_refl _)
  rwa [List.take_of_length_le (by simp)] at this
theorem innL_len (X : List Int) (f : Nat) : ∀ d, (innL X f d).length ≤ d
  | 0 => Nat.le_refl _
  | d + 1 => by
    have ih := innL_len X f d
    unfold innL
    rw [List.length_append]
    split <;> simp <;> omega
theorem rowsAt_len (X : List Int) (f : Nat) : (rowsAt X f).length ≤ X.length := by
  unfold rowsAt
  split
  · exact Nat.le_trans (innL_len _ _ _) (lowD_spec X f X.length).1
  · exact Nat.zero_le _
theorem rowsP_len (X : List Int) : ∀ pre : List (Fin X.length), (rowsP X pre).length ≤ X.length * pre.length
  | [] => by simp [rowsP]
  | x :: pre => by
    have ih := rowsP_len X pre
    have h := rowsAt_len X x.1
    have e : rowsP X (x :: pre) = rowsAt X x.1 ++ rowsP X pre := by simp [rowsP]
    rw [e, List.length_append, List.length_cons, Nat.mul_succ]
    omega
end Go.Proofs.Ytkghpmjbclnojab

namespace Go.Proofs.Ytkghpmjbclnojab
open Go.RowKit Go.Shelf Go.ChangeShapes Go.WideShapes
attribute [local go_sem] Oper.semAt_some

set_option maxRecDepth 100000 in
set_option maxHeartbeats 8000000 in
theorem levels_any (A : Option Addr) (c n : Nat) (X : List Int) (w : World) (h : IR w 0 w.heap.size A X) (hr : rowB X = true) (hn : n = X.length) (_hX : Dn X) :
    Calls Try.prog 41 #[.slice A n c] w (RetT w (rowsTo X X.length)) := by
  have hlb := (rowB_true.1 hr).2
  have HBD := Lib.hid (rowB_true.1 hr).1
  have HRX := Lib.hid hr; have HNX := Lib.hid hn
  obtain ⟨ba, oa, rfl, _, hbaw, _⟩ := h.at_ (k := 0) (by omega)
  have hcX : ∀ (j : Nat) (hj : j < X.length), w.cell? ⟨ba, oa + j, none⟩ = some (.int .i64 X[j]) := fun j hj => by
    obtain ⟨b', off', e, _, _, hc⟩ := h.at_ hj
    injection e with e; injection e with e1 e2 _; subst e1; subst e2
    exact hc
  have HCX := Lib.hid hcX
  have H := Lib.hid h
  rw [← hn] at hlb
  clear h hr hn hcX
  refine (callsIn_wide (n := 6)).1 ?_
  refine callsIn_of_wp_marks Try.func41 rfl trivial ?_ rfl
  simp only [Try.ntmps41, List.size_toArray, List.length_cons, List.length_nil, Nat.reduceAdd, Nat.reduceSub, Array.replicate_succ, Array.replicate_zero, List.push_toArray, List.append_toArray, List.nil_append, List.cons_append]
  gi_wp2_with (refine ⟨trivial, ?_⟩; gi_at_call 48; refine (entries_in _ _ trivial rfl _ _ _ _).mono ?_; rintro e w' ⟨rfl, rfl⟩)
  have b0 := ((Boxed.new w 43 (.slice (some ⟨ba, oa, none⟩) n c)).alloc (.cells #[.slice none 0 0] 31)).alloc (.cells #[.slice (some ⟨ba, oa, none⟩) n c] 43)
  have b1 := (Boxed.new (w.alloc (.cells #[.slice (some ⟨ba, oa, none⟩) n c] 43)) 31 (.slice none 0 0)).alloc (.cells #[.slice (some ⟨ba, oa, none⟩) n c] 43)
  rw [World.size_alloc] at b1
  have hb1 : Below w.heap.size w (((w.alloc (.cells #[.slice (some ⟨ba, oa, none⟩) n c] 43)).alloc (.cells #[.slice none 0 0] 31)).alloc (.cells #[.slice (some ⟨ba, oa, none⟩) n c] 43)) := (((Below.refl _ w).alloc (Nat.le_refl _) _).alloc (by simp) _).alloc (by simp; omega) _
  have hbox : (((w.alloc (.cells #[.slice (some ⟨ba, oa, none⟩) n c] 43)).alloc (.cells #[.slice none 0 0] 31)).alloc (.cells #[.slice (some ⟨ba, oa, none⟩) n c] 43)).cell? ⟨w.heap.size + 2, 0, none⟩ = some (.slice (some ⟨ba, oa, none⟩) n c) := by
    rw [World.cell?_alloc_at _ _ _ _ (by simp)]; rfl
  obtain ⟨W1, hW1⟩ : ∃ W1, (((w.alloc (.cells #[.slice (some ⟨ba, oa, none⟩) n c] 43)).alloc (.cells #[.slice none 0 0] 31)).alloc (.cells #[.slice (some ⟨ba, oa, none⟩) n c] 43)) = W1 := ⟨_, rfl⟩
  have hs1 : W1.heap.size = w.heap.size + 3 := by rw [← hW1]; simp
  rw [hW1] at b0 b1 hb1 hbox
  rw [hW1]
  clear hW1
  have hR1 : IR W1 0 w.heap.size (some ⟨ba, oa, none⟩) X := H.out.below hb1 (Nat.le_refl _)
  have B1 := Lib.hid hb1
  rw [HNX.out] at hbox
  clear hb1
  apply (fun a₁ => wpIn_rangeFunc_ownF (F := Fence.wide) rfl (by decide) (gf := 74) (lb := #[.pointer (some ⟨w.heap.size + 2, 0, none⟩)]) rfl trivial (enters_of Try.func74 (by kernel_rfl) rfl)
    (entries_stops Fence.wide (6 - 1) trivial rfl (by decide) (w.heap.size + 2) w.heap.size c (some ⟨ba, oa, none⟩) X W1 (by omega) (by omega) hbox hR1) belowK_t (belowK_b (by omega)) (Below.refl _ _) (fun _ => rfl)
    (fun pre W => BoxT W (w.heap.size + 1) (w.heap.size + 3) (rowsP X pre) ∧ (Below (w.heap.size + 1) W1 W ∧ w.heap.size + 3 ≤ W.heap.size))
    (fun _ _ _ => False)
    (OwnFrom.and (boxT_own _ _ _ _) (OwnFrom.and (ownFrom_below (by omega) (by omega)) (fun _ _ _ _ hs hg _ => Nat.le_trans hs hg.size)))
    (fun _ _ _ _ _ hs _ _ => hs)
    ⟨⟨_, _, b1, OwnT.nil _ _ (by omega)⟩, Below.refl _ _, by omega⟩ a₁)
  case hassign =>
    intro l x W K hK
    gi_wp2
    exact hK
  case hbody =>
    rintro l pre x W ⟨hBX, hBW, hWs⟩ hlt
    have cR : W.cell? ⟨w.heap.size, 0, none⟩ = some (.slice (some ⟨ba, oa, none⟩) n c) := (hBW.cell (p := ⟨w.heap.size, 0, none⟩) (by show w.heap.size < _; omega)).trans b0.cell
    have hbWw : Below w.heap.size w W := B1.out.trans (hBW.mono (by omega))
    have HCW := Lib.hid (fun (j : Nat) (hj : j < X.length) => (hbWw.cell (p := ⟨ba, oa + j, none⟩) hbaw).trans (HCX.out j hj))
    have HIR := Lib.hid (fun (U : World) (hb : Below (w.heap.size + 1) W U) => (H.out.below (hbWw.trans (hb.mono (by omega))) (Nat.le_refl _)).toAll)
    have gY := HBD.out _ (List.getElem_mem x.2)
    have HYD : Hid (X.getD x.1 0 = X[x.1]) := getD_in x.2
    obtain ⟨y, hy⟩ : ∃ y, X[x.1] = y := ⟨_, rfl⟩
    rw [hy] at gY HYD
    have HY : Hid (X[x.1] = y) := hy
    have HSN := Lib.hid (rowsP_snoc X pre x)
    have HBX := Lib.hid hBX; have HBW := Lib.hid hBW; have HWS := Lib.hid hWs
    clear hy hBX hBW hWs hbWw
    have hxl := x.2
    have sx : IntKind.i64.wrap (((x.1 : Nat) : Int) + 1) = ((x.1 : Nat) : Int) + 1 := IntWalk.i64_in _ (by omega)
    simp only [HY.out]
    by_cases hx1 : x.1 + 1 < X.length
    · have HIP := Lib.hid (inB_true.2 (show (0 : Int) ≤ ((x.1 : Nat) : Int) + 1 ∧ ((x.1 : Nat) : Int) + 1 ≤ (n : Int) - 1 by have := HNX.out; omega))
      have c1 := HCW.out (x.1 + 1) hx1
      have HZD : Hid (X.getD (x.1 + 1) 0 = X[x.1 + 1]) := getD_in hx1
      obtain ⟨z, hz⟩ : ∃ z, X[x.1 + 1] = z := ⟨_, rfl⟩
      rw [hz] at c1 HZD
      clear hz
      have q0 : (0 : Int) ≤ ((x.1 : Nat) : Int) + 1 := by omega
      have q1 : ((x.1 : Nat) : Int) + 1 < (n : Int) := by have := HNX.out; omega
      have q2 : (((x.1 : Nat) : Int) + 1).toNat = x.1 + 1 := by omega
      by_cases hzy : z = y
      · have HLB : Hid (lastB X x.1 = false) := by
          show _ = _; unfold lastB; rw [decide_eq_false_iff_not, Classical.not_not]; exact ⟨hx1, by rw [HZD.out, HYD.out, hzy]⟩
        have HROWS : Hid (rowsAt X x.1 = []) := by show _ = _; unfold rowsAt; rw [HLB.out]; rfl
        subst hzy
        gi_wp2_with fail
        refine ⟨trivial, ?_⟩
        gi_at_call 38
        refine (CallsIn.inRound l (callsIn_wide.2 (isPlace_b true _ _ _ _ _ HIP.out))).mono ?_
        rintro e w' ⟨rfl, rfl⟩
        gi_wp2
        exact ⟨KeepsOthers.refl _, Below.refl _ _, by rw [HSN.out, HROWS.out, List.append_nil]; exact HBX.out, HBW.out, HWS.out⟩
      · have HLB : Hid (lastB X x.1 = true) := by
          show _ = _; unfold lastB; rw [decide_eq_true_iff]; rintro ⟨_, h2⟩; rw [HZD.out, HYD.out] at h2; exact hzy h2
        have hzyb : (z == y) = false := by rw [beq_eq_false_iff_ne]; exact hzy
        have HLD := Lib.hid (lowD_spec X x.1 X.length)
        have hfr := low_front (X := X) (f := x.1) x.2
        have HROWS : Hid (rowsAt X x.1 = innL X x.1 (lowD X x.1 X.length)) := by show _ = _; unfold rowsAt; rw [HLB.out]; rfl
        have HDN : Hid (lowD X x.1 X.length ≤ X.length) := (lowD_spec X x.1 X.length).1
        obtain ⟨D, hD⟩ : ∃ D, lowD X x.1 X.length = D := ⟨_, rfl⟩
        rw [hD] at HLD hfr HROWS HDN
        clear hD
        have sn : IntKind.i64.wrap ((n : Int) - 1) = (n : Int) - 1 := IntWalk.i64_in _ (by omega)
        gi_wp2_with fail
        refine ⟨trivial, ?_⟩
        gi_at_call 38
        refine (CallsIn.inRound l (callsIn_wide.2 (isPlace_b true _ _ _ _ _ HIP.out))).mono ?_
        rintro e w' ⟨rfl, rfl⟩
        gi_wp2
        gi_loopw [6] (fun i wr => ∃ d : Nat, d ≤ D ∧ i = .int .i64 ((n : Int) - 1 - (d : Int)) ∧ (BoxT wr (w.heap.size + 1) (w.heap.size + 3) (rowsP X pre ++ innL X x.1 d) ∧ KeepsOthers W wr) ∧ Below (w.heap.size + 1) W wr ∧ w.heap.size + 3 ≤ wr.heap.size) (fun i _ => (intOf i + 1).toNat)
        case atStart => exact ⟨0, Nat.zero_le _, by simp, ⟨by rw [show innL X x.1 0 = [] from rfl, List.append_nil]; exact HBX.out, KeepsOthers.refl _⟩, Below.refl _ _, HWS.out⟩
        case round =>
          clear sn
          obtain ⟨V, hV⟩ : ∃ V, V = wr := ⟨_, rfl⟩
          subst hV
          obtain ⟨d, hd, rfl, ⟨hbx, hko⟩, hbl, hsz⟩ := hrel
          have HBX2 := Lib.hid hbx; have HKO := Lib.hid hko; have HBL := Lib.hid hbl; have HSZ := Lib.hid hsz
          have KR : Hid (∀ (W' : World), Below (w.heap.size + 1) V W' → W'.cell? ⟨w.heap.size, 0, none⟩ = some (.slice (some ⟨ba, oa, none⟩) n c)) := fun _ hb => (hb.cell (p := ⟨w.heap.size, 0, none⟩) (by show w.heap.size < _; omega)).trans ((hbl.cell (p := ⟨w.heap.size, 0, none⟩) (by show w.heap.size < _; omega)).trans cR)
          have KX : Hid (∀ (W' : World) (j : Nat) (hj : j < X.length), Below (w.heap.size + 1) V W' → W'.cell? ⟨ba, oa + j, none⟩ = some (.int .i64 X[j])) := fun _ j hj hb => (hb.cell (p := ⟨ba, oa + j, none⟩) (by show ba < _; omega)).trans ((hbl.cell (p := ⟨ba, oa + j, none⟩) (by show ba < _; omega)).trans (HCW.out j hj))
          clear hbx hko hbl hsz
          obtain ⟨t, ht⟩ : ∃ t : Nat, (n : Int) - 1 - (d : Int) = (t : Int) := ⟨n - 1 - d, by have := HNX.out; omega⟩
          have htn : t < X.length := by have := HNX.out; omega
          have ht2 : X.length - 1 - d = t := by have := HNX.out; omega
          have htn' : (t : Int) < (n : Int) := by have := HNX.out; omega
          have t0 : (0 : Int) ≤ (t : Int) := by omega
          have cT := KX.out V t htn (Below.refl _ V)
          have cRV := KR.out V (Below.refl _ V)
          have gT := HBD.out _ (List.getElem_mem htn)
          have HTV : Hid (X.getD t 0 = X[t]) := getD_in htn
          have HT := Lib.hid ht; have HT2 := Lib.hid ht2
          rw [ht]
          obtain ⟨av, hav⟩ : ∃ a, X[t] = a := ⟨_, rfl⟩
          rw [hav] at cT gT HTV
          have HAV := Lib.hid hav
          clear ht ht2 hav
          have s2 : IntKind.i64.wrap (y - 2) = y - 2 := IntWalk.i64_in _ (by omega)
          by_cases hdd : d < D
          · have hlow : av + 2 ≤ y := by
              have := HLD.out.2.1 t (by have := HT2.out; omega) htn
              rw [HTV.out, HYD.out] at this; exact this
            have hle : av ≤ y - 2 := by omega
            have hft : x.1 < t := by have := HT2.out; omega
            have htp : t - 1 < X.length := by omega
            have CP := Lib.hid (fun (W' : World) (hb : Below (w.heap.size + 1) V W') => KX.out W' (t - 1) htp hb)
            have gP := HBD.out _ (List.getElem_mem htp)
            have HPV : Hid (X.getD (t - 1) 0 = X[t - 1]) := getD_in htp
            obtain ⟨bv, hbv⟩ : ∃ a, X[t - 1] = a := ⟨_, rfl⟩
            rw [hbv] at CP gP HPV
            have HINN : Hid (innL X x.1 (d + 1) = innL X x.1 d ++ (if bv = av then [] else [levelL X x.1 t])) := by
              show _ = _
              rw [← HPV.out, ← HTV.out]
              show innL X x.1 d ++ (if X.getD (X.length - 1 - d - 1) 0 = X.getD (X.length - 1 - d) 0 then [] else [levelL X x.1 (X.length - 1 - d)]) = _
              rw [HT2.out]
            clear hbv
            have sp : IntKind.i64.wrap ((t : Int) - 1) = (t : Int) - 1 := IntWalk.i64_in _ (by omega)
            have tp0 : (0 : Int) ≤ (t : Int) - 1 := by omega
            have tp2 : ¬ (t : Int) < 1 := by omega
            have tp1 : (t : Int) - 1 < (n : Int) := by omega
            have tpt : ((t : Int) - 1).toNat = t - 1 := by omega
            gi_wp2
            refine region_anyS (fun W' => Below (w.heap.size + 1) V W') (by kernel_rfl) ?_
            have hS0 : Below (w.heap.size + 1) V V.drew := (Below.refl _ _).drew
            refine anyS_first 0 (v := .slice (some ⟨ba, oa, none⟩) n c) rfl (by kernel_rfl) (by kernel_rfl) (by kernel_rfl) (fun _ _ _ h => h) hS0 ⟨fun _ => rfl, .inl ⟨by rfl, fun W' hW' => (by have e1 := KR.out W' hW'; go_simp)⟩⟩ ?_
            refine anyS_first 1 (v := .int .i64 (t : Int)) rfl (by kernel_rfl) (by kernel_rfl) (by kernel_rfl) (fun _ _ _ h => h) hS0 ⟨fun _ => rfl, .inl ⟨by rfl, fun W' hW' => (by go_simp)⟩⟩ ?_
            refine anyS_first 2 (v := .int .i64 ((t : Int) - 1)) rfl (by kernel_rfl) (by kernel_rfl) (by kernel_rfl) (fun _ _ _ h => h) hS0 ⟨fun _ => rfl, .inl ⟨by rfl, fun W' hW' => (by go_simp)⟩⟩ ?_
            refine anyS_first 3 (v := .pointer (some ⟨ba, oa + (t - 1), none⟩)) rfl (by kernel_rfl) (by kernel_rfl) (by kernel_rfl) (fun _ _ _ h => h) hS0 ⟨fun _ => rfl, .inl ⟨by rfl, fun W' hW' => (by go_simp)⟩⟩ ?_
            refine anyS_first 4 (v := .int .i64 bv) rfl (by kernel_rfl) (by kernel_rfl) (by kernel_rfl) (fun _ _ _ h => h) hS0 ⟨fun _ => rfl, .inl ⟨by rfl, fun W' hW' => (by have e1 := CP.out W' hW'; go_simp)⟩⟩ ?_
            refine anyS_first 5 (v := .slice (some ⟨ba, oa, none⟩) n c) rfl (by kernel_rfl) (by kernel_rfl) (by kernel_rfl) (fun _ _ _ h => h) hS0 ⟨fun _ => rfl, .inl ⟨by rfl, fun W' hW' => (by have e1 := KR.out W' hW'; go_simp)⟩⟩ ?_
            refine anyS_first 6 (v := .int .i64 (t : Int)) rfl (by kernel_rfl) (by kernel_rfl) (by kernel_rfl) (fun _ _ _ h => h) hS0 ⟨fun _ => rfl, .inl ⟨by rfl, fun W' hW' => (by go_simp)⟩⟩ ?_
            refine anyS_first 7 (v := .pointer (some ⟨ba, oa + t, none⟩)) rfl (by kernel_rfl) (by kernel_rfl) (by kernel_rfl) (fun _ _ _ h => h) hS0 ⟨fun _ => rfl, .inl ⟨by rfl, fun W' hW' => (by go_simp)⟩⟩ ?_
            refine anyS_first 8 (v := .int .i64 av) rfl (by kernel_rfl) (by kernel_rfl) (by kernel_rfl) (fun _ _ _ h => h) hS0 ⟨fun _ => rfl, .inl ⟨by rfl, fun W' hW' => (by have e1 := KX.out W' t htn hW'; rw [HAV.out] at e1; go_simp)⟩⟩ ?_
            by_cases hne : bv = av
            · rw [if_pos hne, List.append_nil] at HINN
              refine anyS_first 9 (v := .bool false) rfl (by kernel_rfl) (by kernel_rfl) (by kernel_rfl) (fun _ _ _ h => h) hS0 ⟨fun _ => rfl, .inl ⟨by rfl, fun W' hW' => (by go_simp)⟩⟩ ?_
              refine anyS_done (by kernel_rfl) hS0 ?_
              have HBXd := Lib.hid (HBX2.out.below (Below.refl V.heap.size V).drew)
              have HKOd := Lib.hid (HKO.out.trans (keeps_below (Below.refl V.heap.size V).drew))
              have HBLd := Lib.hid (HBL.out.trans hS0)
              clear hS0 cT cRV cR
              go_simp
              gi_wp2
              go_roundw
              case rel => exact ⟨d + 1, by omega, by have := HT.out; congr 1; omega, ⟨by rw [HINN.out]; exact HBXd.out, HKOd.out⟩, HBLd.out, HSZ.out⟩
              case measure => simp [intOf] <;> omega
            · rw [if_neg hne] at HINN
              refine anyS_first 9 (v := .bool true) rfl (by kernel_rfl) (by kernel_rfl) (by kernel_rfl) (fun _ _ _ h => h) hS0 ⟨fun _ => rfl, .inl ⟨by rfl, fun W' hW' => (by go_simp)⟩⟩ ?_
              refine anyS_done (by kernel_rfl) hS0 ?_
              have hbd := hS0
              obtain ⟨v, hi, hv, ho⟩ := HBX2.out.below (Below.refl V.heap.size V).drew
              have HLV := Lib.hid (fun (U : World) (hb : Below (w.heap.size + 1) V U) => levelled_any (some ⟨ba, oa, none⟩) c n X x.1 t U (HIR.out U (HBL.out.trans hb)) HRX.out HNX.out (by have := HNX.out; have := x.2; omega) (by have := HNX.out; omega) (by omega))
              have HLL : Hid ((levelL X x.1 t).length = n) := by show _ = _; rw [level_len]; exact HNX.out.symm
              have HZL : Hid ((rowsP X pre ++ innL X x.1 d).length < 1000000) := by
                have h1 := rowsP_len X pre
                have h2 := innL_len X x.1 d
                have h3 : X.length * pre.length ≤ 12 * 12 := Nat.mul_le_mul (by have := HNX.out; omega) (by omega)
                show _ < _; rw [List.length_append]; have := HDN.out; have := HNX.out; omega
              have hszV : V.drew.heap.size = V.heap.size := rfl
              generalize hU : V.drew = U at hS0 hbd hv ho hszV ⊢
              have hsU : w.heap.size + 3 ≤ U.heap.size := by have := HSZ.out; omega
              have HKU : Hid (KeepsOthers W U) := by rw [← hU]; exact HKO.out.trans (keeps_below (Below.refl V.heap.size V).drew)
              clear hU cT cRV
              go_simp
              gi_wp2
              have hS : U.drew.cell? ⟨w.heap.size + 1, 0, none⟩ = some v ∧ U.drew.cell? ⟨w.heap.size, 0, none⟩ = some (.slice (some ⟨ba, oa, none⟩) n c) := ⟨hv.cell, KR.out _ hbd.drew⟩
              have hUd : Below U.heap.size U U.drew := (Below.refl _ U).drew
              refine region_anyE (fun W' => W'.cell? ⟨w.heap.size + 1, 0, none⟩ = some v ∧ W'.cell? ⟨w.heap.size, 0, none⟩ = some (.slice (some ⟨ba, oa, none⟩) n c)) 7 (by kernel_rfl) ?_
              refine anyE_first 0 (v := v) rfl (by kernel_rfl) (by kernel_rfl) (by kernel_rfl) (by kernel_rfl) (fun _ _ _ h => h) hS (by kernel_rfl) (fun _ => by kernel_rfl) (fun W hW => by obtain ⟨h1, h2⟩ := hW; go_simp) ?_
              refine anyE_first 1 (v := .slice (some ⟨ba, oa, none⟩) n c) rfl (by kernel_rfl) (by kernel_rfl) (by kernel_rfl) (by kernel_rfl) (fun _ _ _ h => h) hS (by kernel_rfl) (fun _ => by kernel_rfl) (fun W hW => by obtain ⟨h1, h2⟩ := hW; go_simp) ?_
              refine anyE_first 2 (v := .int .i64 ((x.1 : Nat) : Int)) rfl (by kernel_rfl) (by kernel_rfl) (by kernel_rfl) (by kernel_rfl) (fun _ _ _ h => h) hS (by kernel_rfl) (fun _ => by kernel_rfl) (fun W hW => by kernel_rfl) ?_
              refine anyE_first 3 (v := .int .i64 (t : Int)) rfl (by kernel_rfl) (by kernel_rfl) (by kernel_rfl) (by kernel_rfl) (fun _ _ _ h => h) hS (by kernel_rfl) (fun _ => by kernel_rfl) (fun W hW => by kernel_rfl) ?_
              refine anyE_one 4 rfl (by kernel_rfl) (by kernel_rfl) (fun _ => hS) ?_
              refine wpI_step fun K4 hK4 => ?_
              go_simp
              refine ⟨trivial, (CallsIn.inRound l (callsIn_wide.2 (HLV.out U.drew (hbd.trans (hUd.mono (by omega)))))).mono ?_⟩
              rintro e w5 ⟨A5, c5, rfl, hcp5, hi5, hb5⟩
              rw [HLL.out]
              rw [HLL.out] at hcp5
              refine hK4 _ _ ?_
              clear hK4
              have hs5 := hb5.size
              have hb5U : Below U.heap.size U w5 := hUd.trans hb5
              have hS5 : w5.cell? ⟨w.heap.size + 1, 0, none⟩ = some v ∧ w5.cell? ⟨w.heap.size, 0, none⟩ = some (.slice (some ⟨ba, oa, none⟩) n c) := ⟨(boxed_below hv hb5U).cell, KR.out _ (hbd.trans (hb5U.mono (by omega)))⟩
              refine anyE_one 5 rfl (by kernel_rfl) (by kernel_rfl) (fun _ => hS5) ?_
              refine wpI_op (v := .slice (some ⟨w5.heap.size, 0, none⟩) 1 1) (w' := w5.alloc (.cells #[.slice A5 n c5] 23)) (by intro c e; cases e) (by rfl) (by go_simp) ?_
              have hb6 : Below w5.heap.size w5 (w5.alloc (.cells #[.slice A5 n c5] 23)) := (Below.refl _ _).alloc (Nat.le_refl _) _
              have hb6U : Below U.heap.size U (w5.alloc (.cells #[.slice A5 n c5] 23)) := hb5U.trans (hb6.mono hb5U.size)
              have hc6 : (w5.alloc (.cells #[.slice A5 n c5] 23)).cell? ⟨w5.heap.size, 0, none⟩ = some (.slice A5 n c5) := by rw [World.cell?_alloc_at _ _ _ _ rfl]; rfl
              have hi6 : IW (w5.alloc (.cells #[.slice A5 n c5] 23)) U.drew.heap.size (w5.alloc (.cells #[.slice A5 n c5] 23)).heap.size A5 (levelL X x.1 t) := (hi5.grow hb6).wide (Nat.le_refl _) hb6.size (Nat.le_refl _)
              generalize w5.alloc (.cells #[.slice A5 n c5] 23) = w6 at hb6 hb6U hc6 hi6 ⊢
              have hS6 : w6.cell? ⟨w.heap.size + 1, 0, none⟩ = some v ∧ w6.cell? ⟨w.heap.size, 0, none⟩ = some (.slice (some ⟨ba, oa, none⟩) n c) := ⟨(boxed_below hv hb6U).cell, KR.out _ (hbd.trans (hb6U.mono (by omega)))⟩
              refine anyE_one 6 rfl (by kernel_rfl) (by kernel_rfl) (fun _ => hS6) ?_
              refine wpI_pushT (.tmp 46) (.tmp 51) rfl (w.heap.size + 3) hi U.drew.heap.size v _ (by kernel_rfl) w5.heap.size (by kernel_rfl) (ho.grow hb6U) (levelL X x.1 t) hc6 HLL.out.symm hcp5 ho.2.1 hi6 HZL.out ?_
              intro v7 w7 ho7 hg7
              have hv6 := boxed_below hv hb6U
              have hne7 : ∀ k, k < w.heap.size + 3 → some k ≠ v.ownBlock := fun k hk e => by
                obtain ⟨_, _, F9, K9, ho9, _⟩ := ho
                have := (ho9.lt k e.symm).1; omega
              have hv7 : Boxed w7 (w.heap.size + 1) 31 v := (hg7.block _ (by have := hb6U.size; have := HSZ.out; omega) (hne7 _ (by omega))).trans hv6
              have hs7 := hg7.size
              have hK7 : KeepsOthers w6 w7 := KeepsOthers.of_grownBy hg7 fun j o ej hj => by
                obtain ⟨_, _, F9, K9, ho9, _⟩ := ho.grow hb6U
                rcases ho9.2 with ⟨rfl, _⟩ | ⟨g, cap, cur, rfl, _, hgb, _⟩
                · simp [Value.ownBlock] at ej
                · obtain rfl : g = j := by simpa [Value.ownBlock] using ej
                  rw [hgb] at hj; cases hj; rfl
              have hB7 : Below (w.heap.size + 1) w6 w7 := (Below.refl _ w6).grown hg7 (by have := hb6U.size; have := HSZ.out; omega) fun k hk => by
                have := hne7 k
                rcases Nat.lt_or_ge k (w.heap.size + 3) with h9 | h9
                · exact absurd hk.symm (this h9)
                · omega
              obtain ⟨A7, c7, rfl, -, -, -⟩ := ho7.iww (by have h9 := HZL.out; rw [List.length_append] at h9; rw [List.length_append, List.length_append]; simp only [List.length_cons, List.length_nil]; omega)
              have hc0 : w7.cell? ⟨w.heap.size, 0, none⟩ = some (.slice (some ⟨ba, oa, none⟩) n c) := KR.out _ ((hbd.trans (hb6U.mono (by omega))).trans hB7)
              refine anyE_one 7 rfl (by kernel_rfl) (by kernel_rfl) (fun _ => ⟨hv7.cell, hc0⟩) ?_
              refine wpI_storeT (p := ⟨w.heap.size + 1, 0, none⟩) (A := A7) (m := ((rowsP X pre ++ innL X x.1 d) ++ [levelL X x.1 t]).length) (c := c7) rfl (by kernel_rfl) (by kernel_rfl) hv7.cell hv7.frozen ?_
              refine anyE_done (by kernel_rfl) (fun h => absurd h (by decide)) ?_
              have HBX9 : Hid (BoxT (w7.setCell ⟨w.heap.size + 1, 0, none⟩ (.slice A7 ((rowsP X pre ++ innL X x.1 d) ++ [levelL X x.1 t]).length c7)) (w.heap.size + 1) (w.heap.size + 3) ((rowsP X pre ++ innL X x.1 d) ++ [levelL X x.1 t])) := ⟨_, _, hv7.set _, ownT_keep ho7 (by simp [World.setCell]) fun k h1 h2 => Below.heap_setCell w7 ⟨w.heap.size + 1, 0, none⟩ _ k (by show k ≠ w.heap.size + 1; omega)⟩
              have HKO9 : Hid (KeepsOthers W (w7.setCell ⟨w.heap.size + 1, 0, none⟩ (.slice A7 ((rowsP X pre ++ innL X x.1 d) ++ [levelL X x.1 t]).length c7))) := ((HKU.out.trans (keeps_below hb6U)).trans hK7).trans (KeepsOthers.setCell _ _ _)
              have HBL9 : Hid (Below (w.heap.size + 1) W (w7.setCell ⟨w.heap.size + 1, 0, none⟩ (.slice A7 ((rowsP X pre ++ innL X x.1 d) ++ [levelL X x.1 t]).length c7))) := (HBL.out.trans ((hbd.trans (hb6U.mono (by omega))).trans hB7)).setCell (p := ⟨w.heap.size + 1, 0, none⟩) (Nat.le_refl _) _
              have HSZ9 : Hid (w.heap.size + 3 ≤ (w7.setCell ⟨w.heap.size + 1, 0, none⟩ (.slice A7 ((rowsP X pre ++ innL X x.1 d) ++ [levelL X x.1 t]).length c7)).heap.size) := by
                show _ ≤ _
                have h1 := hb6U.size
                have h2 := HSZ.out
                simp only [World.setCell, Array.size_modify]
                omega
              rw [List.append_assoc, ← HINN.out] at HBX9 HKO9 HBL9 HSZ9
              rw [List.append_assoc, ← HINN.out]
              generalize hL9 : rowsP X pre ++ innL X x.1 (d + 1) = L9 at HBX9 HKO9 HBL9 HSZ9 ⊢
              have HL9 := Lib.hid hL9
              clear hL9 hc0 hB7 hK7 hs7 hv7 hne7 hv6 ho7 hg7 hS6 hb6 hb6U hc6 hi6 hS5 hb5U hs5 hb5 hi5 hcp5 hS hUd hS0 hbd hv ho hszV cR
              go_simp
              gi_wp2
              go_roundw
              case rel => exact ⟨d + 1, by omega, by have := HT.out; congr 1; omega, ⟨by rw [HL9.out]; exact HBX9.out, HKO9.out⟩, HBL9.out, HSZ9.out⟩
              case measure => simp [intOf] <;> omega
          · obtain rfl : d = D := by omega
            have hgt : ¬ av ≤ y - 2 := by
              intro hle
              have h9 := HLD.out.2.2 (by omega)
              rw [show X.length - d - 1 = t by have := HT2.out; omega, HTV.out, HYD.out] at h9
              omega
            have HE : Hid (rowsP X (pre ++ [x]) = rowsP X pre ++ innL X x.1 d) := by show _ = _; rw [HSN.out, HROWS.out]
            clear cR
            gi_wp2
            exact ⟨HKO.out, HBL.out.mono (by omega), by rw [HE.out]; exact HBX2.out, HBW.out.trans HBL.out, HSZ.out⟩
    · have HIP : Hid (inB 0 ((n : Int) - 1) (((x.1 : Nat) : Int) + 1) = false) := by show _ = _; simp [inB]; have := HNX.out; omega
      have HLB : Hid (lastB X x.1 = true) := by
        show _ = _; unfold lastB; rw [decide_eq_true_iff]; rintro ⟨h1, _⟩; exact hx1 h1
      have HLD := Lib.hid (lowD_spec X x.1 X.length)
      have hfr := low_front (X := X) (f := x.1) x.2
      have HROWS : Hid (rowsAt X x.1 = innL X x.1 (lowD X x.1 X.length)) := by show _ = _; unfold rowsAt; rw [HLB.out]; rfl
      have HDN : Hid (lowD X x.1 X.length ≤ X.length) := (lowD_spec X x.1 X.length).1
      obtain ⟨D, hD⟩ : ∃ D, lowD X x.1 X.length = D := ⟨_, rfl⟩
      rw [hD] at HLD hfr HROWS HDN
      clear hD
      have sn : IntKind.i64.wrap ((n : Int) - 1) = (n : Int) - 1 := IntWalk.i64_in _ (by omega)
      gi_wp2_with fail
      refine ⟨trivial, ?_⟩
      gi_at_call 38
      refine (CallsIn.inRound l (callsIn_wide.2 (isPlace_b false _ _ _ _ _ HIP.out))).mono ?_
      rintro e w' ⟨rfl, rfl⟩
      gi_wp2
      gi_loopw [6] (fun i wr => ∃ d : Nat, d ≤ D ∧ i = .int .i64 ((n : Int) - 1 - (d : Int)) ∧ (BoxT wr (w.heap.size + 1) (w.heap.size + 3) (rowsP X pre ++ innL X x.1 d) ∧ KeepsOthers W wr) ∧ Below (w.heap.size + 1) W wr ∧ w.heap.size + 3 ≤ wr.heap.size) (fun i _ => (intOf i + 1).toNat)
      case atStart => exact ⟨0, Nat.zero_le _, by simp, ⟨by rw [show innL X x.1 0 = [] from rfl, List.append_nil]; exact HBX.out, KeepsOthers.refl _⟩, Below.refl _ _, HWS.out⟩
      case round =>
        clear sn
        obtain ⟨V, hV⟩ : ∃ V, V = wr := ⟨_, rfl⟩
        subst hV
        obtain ⟨d, hd, rfl, ⟨hbx, hko⟩, hbl, hsz⟩ := hrel
        have HBX2 := Lib.hid hbx; have HKO := Lib.hid hko; have HBL := Lib.hid hbl; have HSZ := Lib.hid hsz
        have KR : Hid (∀ (W' : World), Below (w.heap.size + 1) V W' → W'.cell? ⟨w.heap.size, 0, none⟩ = some (.slice (some ⟨ba, oa, none⟩) n c)) := fun _ hb => (hb.cell (p := ⟨w.heap.size, 0, none⟩) (by show w.heap.size < _; omega)).trans ((hbl.cell (p := ⟨w.heap.size, 0, none⟩) (by show w.heap.size < _; omega)).trans cR)
        have KX : Hid (∀ (W' : World) (j : Nat) (hj : j < X.length), Below (w.heap.size + 1) V W' → W'.cell? ⟨ba, oa + j, none⟩ = some (.int .i64 X[j])) := fun _ j hj hb => (hb.cell (p := ⟨ba, oa + j, none⟩) (by show ba < _; omega)).trans ((hbl.cell (p := ⟨ba, oa + j, none⟩) (by show ba < _; omega)).trans (HCW.out j hj))
        clear hbx hko hbl hsz
        obtain ⟨t, ht⟩ : ∃ t : Nat, (n : Int) - 1 - (d : Int) = (t : Int) := ⟨n - 1 - d, by have := HNX.out; omega⟩
        have htn : t < X.length := by have := HNX.out; omega
        have ht2 : X.length - 1 - d = t := by have := HNX.out; omega
        have htn' : (t : Int) < (n : Int) := by have := HNX.out; omega
        have t0 : (0 : Int) ≤ (t : Int) := by omega
        have cT := KX.out V t htn (Below.refl _ V)
        have cRV := KR.out V (Below.refl _ V)
        have gT := HBD.out _ (List.getElem_mem htn)
        have HTV : Hid (X.getD t 0 = X[t]) := getD_in htn
        have HT := Lib.hid ht; have HT2 := Lib.hid ht2
        rw [ht]
        obtain ⟨av, hav⟩ : ∃ a, X[t] = a := ⟨_, rfl⟩
        rw [hav] at cT gT HTV
        have HAV := Lib.hid hav
        clear ht ht2 hav
        have s2 : IntKind.i64.wrap (y - 2) = y - 2 := IntWalk.i64_in _ (by omega)
        by_cases hdd : d < D
        · have hlow : av + 2 ≤ y := by
            have := HLD.out.2.1 t (by have := HT2.out; omega) htn
            rw [HTV.out, HYD.out] at this; exact this
          have hle : av ≤ y - 2 := by omega
          have hft : x.1 < t := by have := HT2.out; omega
          have htp : t - 1 < X.length := by omega
          have CP := Lib.hid (fun (W' : World) (hb : Below (w.heap.size + 1) V W') => KX.out W' (t - 1) htp hb)
          have gP := HBD.out _ (List.getElem_mem htp)
          have HPV : Hid (X.getD (t - 1) 0 = X[t - 1]) := getD_in htp
          obtain ⟨bv, hbv⟩ : ∃ a, X[t - 1] = a := ⟨_, rfl⟩
          rw [hbv] at CP gP HPV
          have HINN : Hid (innL X x.1 (d + 1) = innL X x.1 d ++ (if bv = av then [] else [levelL X x.1 t])) := by
            show _ = _
            rw [← HPV.out, ← HTV.out]
            show innL X x.1 d ++ (if X.getD (X.length - 1 - d - 1) 0 = X.getD (X.length - 1 - d) 0 then [] else [levelL X x.1 (X.length - 1 - d)]) = _
            rw [HT2.out]
          clear hbv
          have sp : IntKind.i64.wrap ((t : Int) - 1) = (t : Int) - 1 := IntWalk.i64_in _ (by omega)
          have tp0 : (0 : Int) ≤ (t : Int) - 1 := by omega
          have tp2 : ¬ (t : Int) < 1 := by omega
          have tp1 : (t : Int) - 1 < (n : Int) := by omega
          have tpt : ((t : Int) - 1).toNat = t - 1 := by omega
          gi_wp2
          refine region_anyS (fun W' => Below (w.heap.size + 1) V W') (by kernel_rfl) ?_
          have hS0 : Below (w.heap.size + 1) V V.drew := (Below.refl _ _).drew
          refine anyS_first 0 (v := .slice (some ⟨ba, oa, none⟩) n c) rfl (by kernel_rfl) (by kernel_rfl) (by kernel_rfl) (fun _ _ _ h => h) hS0 ⟨fun _ => rfl, .inl ⟨by rfl, fun W' hW' => (by have e1 := KR.out W' hW'; go_simp)⟩⟩ ?_
          refine anyS_first 1 (v := .int .i64 (t : Int)) rfl (by kernel_rfl) (by kernel_rfl) (by kernel_rfl) (fun _ _ _ h => h) hS0 ⟨fun _ => rfl, .inl ⟨by rfl, fun W' hW' => (by go_simp)⟩⟩ ?_
          refine anyS_first 2 (v := .int .i64 ((t : Int) - 1)) rfl (by kernel_rfl) (by kernel_rfl) (by kernel_rfl) (fun _ _ _ h => h) hS0 ⟨fun _ => rfl, .inl ⟨by rfl, fun W' hW' => (by go_simp)⟩⟩ ?_
          refine anyS_first 3 (v := .pointer (some ⟨ba, oa + (t - 1), none⟩)) rfl (by kernel_rfl) (by kernel_rfl) (by kernel_rfl) (fun _ _ _ h => h) hS0 ⟨fun _ => rfl, .inl ⟨by rfl, fun W' hW' => (by go_simp)⟩⟩ ?_
          refine anyS_first 4 (v := .int .i64 bv) rfl (by kernel_rfl) (by kernel_rfl) (by kernel_rfl) (fun _ _ _ h => h) hS0 ⟨fun _ => rfl, .inl ⟨by rfl, fun W' hW' => (by have e1 := CP.out W' hW'; go_simp)⟩⟩ ?_
          refine anyS_first 5 (v := .slice (some ⟨ba, oa, none⟩) n c) rfl (by kernel_rfl) (by kernel_rfl) (by kernel_rfl) (fun _ _ _ h => h) hS0 ⟨fun _ => rfl, .inl ⟨by rfl, fun W' hW' => (by have e1 := KR.out W' hW'; go_simp)⟩⟩ ?_
          refine anyS_first 6 (v := .int .i64 (t : Int)) rfl (by kernel_rfl) (by kernel_rfl) (by kernel_rfl) (fun _ _ _ h => h) hS0 ⟨fun _ => rfl, .inl ⟨by rfl, fun W' hW' => (by go_simp)⟩⟩ ?_
          refine anyS_first 7 (v := .pointer (some ⟨ba, oa + t, none⟩)) rfl (by kernel_rfl) (by kernel_rfl) (by kernel_rfl) (fun _ _ _ h => h) hS0 ⟨fun _ => rfl, .inl ⟨by rfl, fun W' hW' => (by go_simp)⟩⟩ ?_
          refine anyS_first 8 (v := .int .i64 av) rfl (by kernel_rfl) (by kernel_rfl) (by kernel_rfl) (fun _ _ _ h => h) hS0 ⟨fun _ => rfl, .inl ⟨by rfl, fun W' hW' => (by have e1 := KX.out W' t htn hW'; rw [HAV.out] at e1; go_simp)⟩⟩ ?_
          by_cases hne : bv = av
          · rw [if_pos hne, List.append_nil] at HINN
            refine anyS_first 9 (v := .bool false) rfl (by kernel_rfl) (by kernel_rfl) (by kernel_rfl) (fun _ _ _ h => h) hS0 ⟨fun _ => rfl, .inl ⟨by rfl, fun W' hW' => (by go_simp)⟩⟩ ?_
            refine anyS_done (by kernel_rfl) hS0 ?_
            have HBXd := Lib.hid (HBX2.out.below (Below.refl V.heap.size V).drew)
            have HKOd := Lib.hid (HKO.out.trans (keeps_below (Below.refl V.heap.size V).drew))
            have HBLd := Lib.hid (HBL.out.trans hS0)
            clear hS0 cT cRV cR
            go_simp
            gi_wp2
            go_roundw
            case rel => exact ⟨d + 1, by omega, by have := HT.out; congr 1; omega, ⟨by rw [HINN.out]; exact HBXd.out, HKOd.out⟩, HBLd.out, HSZ.out⟩
            case measure => simp [intOf] <;> omega
          · rw [if_neg hne] at HINN
            refine anyS_first 9 (v := .bool true) rfl (by kernel_rfl) (by kernel_rfl) (by kernel_rfl) (fun _ _ _ h => h) hS0 ⟨fun _ => rfl, .inl ⟨by rfl, fun W' hW' => (by go_simp)⟩⟩ ?_
            refine anyS_done (by kernel_rfl) hS0 ?_
            have hbd := hS0
            obtain ⟨v, hi, hv, ho⟩ := HBX2.out.below (Below.refl V.heap.size V).drew
            have HLV := Lib.hid (fun (U : World) (hb : Below (w.heap.size + 1) V U) => levelled_any (some ⟨ba, oa, none⟩) c n X x.1 t U (HIR.out U (HBL.out.trans hb)) HRX.out HNX.out (by have := HNX.out; have := x.2; omega) (by have := HNX.out; omega) (by omega))
            have HLL : Hid ((levelL X x.1 t).length = n) := by show _ = _; rw [level_len]; exact HNX.out.symm
            have HZL : Hid ((rowsP X pre ++ innL X x.1 d).length < 1000000) := by
              have h1 := rowsP_len X pre
              have h2 := innL_len X x.1 d
              have h3 : X.length * pre.length ≤ 12 * 12 := Nat.mul_le_mul (by have := HNX.out; omega) (by omega)
              show _ < _; rw [List.length_append]; have := HDN.out; have := HNX.out; omega
            have hszV : V.drew.heap.size = V.heap.size := rfl
            generalize hU : V.drew = U at hS0 hbd hv ho hszV ⊢
            have hsU : w.heap.size + 3 ≤ U.heap.size := by have := HSZ.out; omega
            have HKU : Hid (KeepsOthers W U) := by rw [← hU]; exact HKO.out.trans (keeps_below (Below.refl V.heap.size V).drew)
            clear hU cT cRV
            go_simp
            gi_wp2
            have hS : U.drew.cell? ⟨w.heap.size + 1, 0, none⟩ = some v ∧ U.drew.cell? ⟨w.heap.size, 0, none⟩ = some (.slice (some ⟨ba, oa, none⟩) n c) := ⟨hv.cell, KR.out _ hbd.drew⟩
            have hUd : Below U.heap.size U U.drew := (Below.refl _ U).drew
            refine region_anyE (fun W' => W'.cell? ⟨w.heap.size + 1, 0, none⟩ = some v ∧ W'.cell? ⟨w.heap.size, 0, none⟩ = some (.slice (some ⟨ba, oa, none⟩) n c)) 7 (by kernel_rfl) ?_
            refine anyE_first 0 (v := v) rfl (by kernel_rfl) (by kernel_rfl) (by kernel_rfl) (by kernel_rfl) (fun _ _ _ h => h) hS (by kernel_rfl) (fun _ => by kernel_rfl) (fun W hW => by obtain ⟨h1, h2⟩ := hW; go_simp) ?_
            refine anyE_first 1 (v := .slice (some ⟨ba, oa, none⟩) n c) rfl (by kernel_rfl) (by kernel_rfl) (by kernel_rfl) (by kernel_rfl) (fun _ _ _ h => h) hS (by kernel_rfl) (fun _ => by kernel_rfl) (fun W hW => by obtain ⟨h1, h2⟩ := hW; go_simp) ?_
            refine anyE_first 2 (v := .int .i64 ((x.1 : Nat) : Int)) rfl (by kernel_rfl) (by kernel_rfl) (by kernel_rfl) (by kernel_rfl) (fun _ _ _ h => h) hS (by kernel_rfl) (fun _ => by kernel_rfl) (fun W hW => by kernel_rfl) ?_
            refine anyE_first 3 (v := .int .i64 (t : Int)) rfl (by kernel_rfl) (by kernel_rfl) (by kernel_rfl) (by kernel_rfl) (fun _ _ _ h => h) hS (by kernel_rfl) (fun _ => by kernel_rfl) (fun W hW => by kernel_rfl) ?_
            refine anyE_one 4 rfl (by kernel_rfl) (by kernel_rfl) (fun _ => hS) ?_
            refine wpI_step fun K4 hK4 => ?_
            go_simp
            refine ⟨trivial, (CallsIn.inRound l (callsIn_wide.2 (HLV.out U.drew (hbd.trans (hUd.mono (by omega)))))).mono ?_⟩
            rintro e w5 ⟨A5, c5, rfl, hcp5, hi5, hb5⟩
            rw [HLL.out]
            rw [HLL.out] at hcp5
            refine hK4 _ _ ?_
            clear hK4
            have hs5 := hb5.size
            have hb5U : Below U.heap.size U w5 := hUd.trans hb5
            have hS5 : w5.cell? ⟨w.heap.size + 1, 0, none⟩ = some v ∧ w5.cell? ⟨w.heap.size, 0, none⟩ = some (.slice (some ⟨ba, oa, none⟩) n c) := ⟨(boxed_below hv hb5U).cell, KR.out _ (hbd.trans (hb5U.mono (by omega)))⟩
            refine anyE_one 5 rfl (by kernel_rfl) (by kernel_rfl) (fun _ => hS5) ?_
            refine wpI_op (v := .slice (some ⟨w5.heap.size, 0, none⟩) 1 1) (w' := w5.alloc (.cells #[.slice A5 n c5] 23)) (by intro c e; cases e) (by rfl) (by go_simp) ?_
            have hb6 : Below w5.heap.size w5 (w5.alloc (.cells #[.slice A5 n c5] 23)) := (Below.refl _ _).alloc (Nat.le_refl _) _
            have hb6U : Below U.heap.size U (w5.alloc (.cells #[.slice A5 n c5] 23)) := hb5U.trans (hb6.mono hb5U.size)
            have hc6 : (w5.alloc (.cells #[.slice A5 n c5] 23)).cell? ⟨w5.heap.size, 0, none⟩ = some (.slice A5 n c5) := by rw [World.cell?_alloc_at _ _ _ _ rfl]; rfl
            have hi6 : IW (w5.alloc (.cells #[.slice A5 n c5] 23)) U.drew.heap.size (w5.alloc (.cells #[.slice A5 n c5] 23)).heap.size A5 (levelL X x.1 t) := (hi5.grow hb6).wide (Nat.le_refl _) hb6.size (Nat.le_refl _)
            generalize w5.alloc (.cells #[.slice A5 n c5] 23) = w6 at hb6 hb6U hc6 hi6 ⊢
            have hS6 : w6.cell? ⟨w.heap.size + 1, 0, none⟩ = some v ∧ w6.cell? ⟨w.heap.size, 0, none⟩ = some (.slice (some ⟨ba, oa, none⟩) n c) := ⟨(boxed_below hv hb6U).cell, KR.out _ (hbd.trans (hb6U.mono (by omega)))⟩
            refine anyE_one 6 rfl (by kernel_rfl) (by kernel_rfl) (fun _ => hS6) ?_
            refine wpI_pushT (.tmp 46) (.tmp 51) rfl (w.heap.size + 3) hi U.drew.heap.size v _ (by kernel_rfl) w5.heap.size (by kernel_rfl) (ho.grow hb6U) (levelL X x.1 t) hc6 HLL.out.symm hcp5 ho.2.1 hi6 HZL.out ?_
            intro v7 w7 ho7 hg7
            have hv6 := boxed_below hv hb6U
            have hne7 : ∀ k, k < w.heap.size + 3 → some k ≠ v.ownBlock := fun k hk e => by
              obtain ⟨_, _, F9, K9, ho9, _⟩ := ho
              have := (ho9.lt k e.symm).1; omega
            have hv7 : Boxed w7 (w.heap.size + 1) 31 v := (hg7.block _ (by have := hb6U.size; have := HSZ.out; omega) (hne7 _ (by omega))).trans hv6
            have hs7 := hg7.size
            have hK7 : KeepsOthers w6 w7 := KeepsOthers.of_grownBy hg7 fun j o ej hj => by
              obtain ⟨_, _, F9, K9, ho9, _⟩ := ho.grow hb6U
              rcases ho9.2 with ⟨rfl, _⟩ | ⟨g, cap, cur, rfl, _, hgb, _⟩
              · simp [Value.ownBlock] at ej
              · obtain rfl : g = j := by simpa [Value.ownBlock] using ej
                rw [hgb] at hj; cases hj; rfl
            have hB7 : Below (w.heap.size + 1) w6 w7 := (Below.refl _ w6).grown hg7 (by have := hb6U.size; have := HSZ.out; omega) fun k hk => by
              have := hne7 k
              rcases Nat.lt_or_ge k (w.heap.size + 3) with h9 | h9
              · exact absurd hk.symm (this h9)
              · omega
            obtain ⟨A7, c7, rfl, -, -, -⟩ := ho7.iww (by have h9 := HZL.out; rw [List.length_append] at h9; rw [List.length_append, List.length_append]; simp only [List.length_cons, List.length_nil]; omega)
            have hc0 : w7.cell? ⟨w.heap.size, 0, none⟩ = some (.slice (some ⟨ba, oa, none⟩) n c) := KR.out _ ((hbd.trans (hb6U.mono (by omega))).trans hB7)
            refine anyE_one 7 rfl (by kernel_rfl) (by kernel_rfl) (fun _ => ⟨hv7.cell, hc0⟩) ?_
            refine wpI_storeT (p := ⟨w.heap.size + 1, 0, none⟩) (A := A7) (m := ((rowsP X pre ++ innL X x.1 d) ++ [levelL X x.1 t]).length) (c := c7) rfl (by kernel_rfl) (by kernel_rfl) hv7.cell hv7.frozen ?_
            refine anyE_done (by kernel_rfl) (fun h => absurd h (by decide)) ?_
            have HBX9 : Hid (BoxT (w7.setCell ⟨w.heap.size + 1, 0, none⟩ (.slice A7 ((rowsP X pre ++ innL X x.1 d) ++ [levelL X x.1 t]).length c7)) (w.heap.size + 1) (w.heap.size + 3) ((rowsP X pre ++ innL X x.1 d) ++ [levelL X x.1 t])) := ⟨_, _, hv7.set _, ownT_keep ho7 (by simp [World.setCell]) fun k h1 h2 => Below.heap_setCell w7 ⟨w.heap.size + 1, 0, none⟩ _ k (by show k ≠ w.heap.size + 1; omega)⟩
            have HKO9 : Hid (KeepsOthers W (w7.setCell ⟨w.heap.size + 1, 0, none⟩ (.slice A7 ((rowsP X pre ++ innL X x.1 d) ++ [levelL X x.1 t]).length c7))) := ((HKU.out.trans (keeps_below hb6U)).trans hK7).trans (KeepsOthers.setCell _ _ _)
            have HBL9 : Hid (Below (w.heap.size + 1) W (w7.setCell ⟨w.heap.size + 1, 0, none⟩ (.slice A7 ((rowsP X pre ++ innL X x.1 d) ++ [levelL X x.1 t]).length c7))) := (HBL.out.trans ((hbd.trans (hb6U.mono (by omega))).trans hB7)).setCell (p := ⟨w.heap.size + 1, 0, none⟩) (Nat.le_refl _) _
            have HSZ9 : Hid (w.heap.size + 3 ≤ (w7.setCell ⟨w.heap.size + 1, 0, none⟩ (.slice A7 ((rowsP X pre ++ innL X x.1 d) ++ [levelL X x.1 t]).length c7)).heap.size) := by
              show _ ≤ _
              have h1 := hb6U.size
              have h2 := HSZ.out
              simp only [World.setCell, Array.size_modify]
              omega
            rw [List.append_assoc, ← HINN.out] at HBX9 HKO9 HBL9 HSZ9
            rw [List.append_assoc, ← HINN.out]
            generalize hL9 : rowsP X pre ++ innL X x.1 (d + 1) = L9 at HBX9 HKO9 HBL9 HSZ9 ⊢
            have HL9 := Lib.hid hL9
            clear hL9 hc0 hB7 hK7 hs7 hv7 hne7 hv6 ho7 hg7 hS6 hb6 hb6U hc6 hi6 hS5 hb5U hs5 hb5 hi5 hcp5 hS hUd hS0 hbd hv ho hszV cR
            go_simp
            gi_wp2
            go_roundw
            case rel => exact ⟨d + 1, by omega, by have := HT.out; congr 1; omega, ⟨by rw [HL9.out]; exact HBX9.out, HKO9.out⟩, HBL9.out, HSZ9.out⟩
            case measure => simp [intOf] <;> omega
        · obtain rfl : d = D := by omega
          have hgt : ¬ av ≤ y - 2 := by
            intro hle
            have h9 := HLD.out.2.2 (by omega)
            rw [show X.length - d - 1 = t by have := HT2.out; omega, HTV.out, HYD.out] at h9
            omega
          have HE : Hid (rowsP X (pre ++ [x]) = rowsP X pre ++ innL X x.1 d) := by show _ = _; rw [HSN.out, HROWS.out]
          clear cR
          gi_wp2
          exact ⟨HKO.out, HBL.out.mono (by omega), by rw [HE.out]; exact HBX2.out, HBW.out.trans HBL.out, HSZ.out⟩
  case hdone =>
    rintro D ys W hD rfl ⟨⟨v, hi, hv, ho⟩, hBW, hWs⟩ hK
    rw [rowsP_all] at ho
    have cV := hv.cell
    have HLT : Hid ((rowsTo X X.length).length ≤ 17592186044416) := by
      have h1 := rowsP_len X (List.finRange X.length)
      rw [rowsP_all, List.length_finRange] at h1
      have h2 : X.length * X.length ≤ 12 * 12 := Nat.mul_le_mul (by have := HNX.out; omega) (by have := HNX.out; omega)
      show _ ≤ _; omega
    have HBB := Lib.hid (B1.out.trans (hBW.mono (by omega)))
    have HO := Lib.hid ho; have HK := Lib.hid hK
    have hb9 := fun k' h1 h2 => (grownBy_putObj' W D (.deferred none)).block k' h1 h2
    obtain ⟨A', c', rfl, hlc, -, hiw⟩ := (ownT_kept ho (grownBy_putObj' W D (.deferred none)) (fun r e => by cases e; exact ⟨_, hK, rfl⟩)).iww HLT.out
    have HIW := Lib.hid hiw; have HLC := Lib.hid hlc
    have hh := ho.2.1
    have hsz := (grownBy_putObj' W D (.deferred none)).size
    clear ho hv hBW hK hiw hlc hb9 b1 b0
    gi_wp2
    refine ⟨by simp, .inl ⟨_, _, rfl, run_takeDeferred HK.out, ?_⟩⟩
    exact ⟨_, results_tmp rfl _ _ _, A', c', rfl, HLC.out, HIW.out.wide (by omega) (Nat.le_trans hh hsz) (Nat.le_refl _), HBB.out.trans (belowK_b (w := w) (Nat.le_refl _) W D _ (.deferred none) (by omega) HK.out rfl rfl)⟩
  case hstop =>
    rintro D cd pre W _ _ h _
    exact h.elim

set_option maxHeartbeats 1000000 in
theorem implEvenLevels_any (A : Option Addr) (c : Nat) (a : List Int) (w : World) (h : IR w 0 w.heap.size A a) :
    Calls Try.prog 15 #[.slice A a.length c] w (RetTB w (levelsM a)) := by
  have H := Lib.hid h; clear h
  cases hr : rowB a with
  | false =>
    have HM : Hid (levelsM a = none) := by show _ = _; simp [levelsM, hr]
    have HR := Lib.hid hr; clear hr
    go_enter Try.func15, Try.ntmps15
    go_wp2_with fail
    refine (implRowIn_any _ _ a _ H.out).mono ?_; rintro e w1 ⟨rfl, b1⟩
    rw [HR.out]
    have B1 := Lib.hid b1; clear b1
    go_wp2
    go_ret2
    rw [HM.out]
    exact ⟨none, 0, rfl, Nat.le_refl _, (IWW.nil _ _).wide B1.out.size (Nat.le_refl _) (Nat.le_refl _), B1.out⟩
  | true =>
    have HM : Hid (levelsM a = some (rowsTo (downL a) (downL a).length)) := by show _ = _; rw [down_len, rows_levels]; simp [levelsM, hr]
    have HDR := Lib.hid (down_row hr)
    have HR := Lib.hid hr; clear hr
    go_enter Try.func15, Try.ntmps15
    go_wp2_with fail
    refine (implRowIn_any _ _ a _ H.out).mono ?_; rintro e w1 ⟨rfl, b1⟩
    rw [HR.out]
    replace H := Lib.hid (H.out.grow b1)
    have B1 := Lib.hid b1; clear b1
    go_wp2_with fail
    refine (falling_any _ _ a _ H.out.toAll HR.out).mono ?_; rintro e w2 ⟨A2, c2, rfl, hi, hb⟩
    have HI := Lib.hid hi.toAll; have B2 := Lib.hid (below_then B1.out (Nat.le_refl _) hb); clear hi hb
    go_wp2_with fail
    refine (levels_any _ _ _ (downL a) _ HI.out HDR.out rfl (down_dn a)).mono ?_; rintro e w3 ⟨A3, c3, rfl, hl3, hi, hb⟩
    have HI3 := Lib.hid hi; have B3 := Lib.hid (below_then B2.out (Nat.le_refl _) hb); have HL3 := Lib.hid hl3; clear hi hb hl3
    go_wp2
    go_ret2
    rw [HM.out]
    exact ⟨A3, c3, rfl, HL3.out, HI3.out.wide B2.out.size (Nat.le_refl _) (Nat.le_refl _), B3.out⟩
end Go.Proofs.Ytkghpmjbclnojab
