/-
  EvenLevels of the model: lists of rows that are read, l7Before, l7Put. Conditions: the lists' cells are there.
-/
import Derived.Test.YtkghpmjbclnojabEvA
import Derived.Test.YtkghpmjbclnojabEvM
import Derived.Test.YtkghpmjbclnojabTabA
import Derived.Test.YtkghpmjbclnojabDraw2
import Derived.Deep.RegionHeld
import Derived.Deep.QuietTactic
import Derived.BigQuiet
namespace Go.Proofs.Ytkghpmjbclnojab
open Go.RowKit Go.Shelf Go.ChangeShapes Go.WideShapes
attribute [local go_sem] Oper.semAt_some

set_option maxHeartbeats 1000000 in
theorem l1Back_cap (A : Option Addr) (c lo hi : Nat) (zs : List Int) (w : World) (h : IR w lo hi A zs) :
    Calls Try.prog 68 #[.slice A zs.length c] w (RetSC w zs.reverse) := by
  have hl := h.1
  have HR : Hid (zs.reverse.length = zs.length) := List.length_reverse ..
  have hm1 : -9000000000000000000 ≤ (zs.length : Int) - 1 := by omega
  have hm2 : (zs.length : Int) - 1 ≤ 9000000000000000000 := by omega
  go_enter Try.func68, Try.ntmps68
  go_wp2
  go_loopw [3, 4] (fun v i wr => ∃ k : Nat, k ≤ zs.length ∧ i = .int .i64 ((zs.length : Int) - 1 - (k : Int)) ∧ OwnI wr w.heap.size v (zs.reverse.take k) ∧ Below w.heap.size w wr) (fun _ i _ => (intOf i + 1).toNat)
  case atStart => exact ⟨0, Nat.zero_le _, by simp, by simpa using OwnI.made w, (Below.refl _ _).alloc (Nat.le_refl _) _⟩
  case round =>
    obtain ⟨k, hk, rfl, ho, hb⟩ := hrel
    have HO := Lib.hid ho; have HBl := Lib.hid hb
    clear ho hb
    by_cases hlt : k < zs.length
    · obtain ⟨j, hj⟩ : ∃ j : Nat, (zs.length : Int) - 1 - (k : Int) = (j : Int) := ⟨zs.length - 1 - k, by omega⟩
      have hjl : j < zs.length := by omega
      have hje : zs.length - 1 - k = j := by omega
      have hget : zs.reverse[k]'(by simpa using hlt) = zs[j] := by simp [hje]
      have HGT := Lib.hid hget
      obtain ⟨b, off, rfl, _, _, hc⟩ := (h.below HBl.out h.2.2.1).at_ hjl
      have HY := Lib.hid (h.i64 hjl)
      have hlen : (zs.reverse.take k).length < 17592186044416 := by simp; omega
      have HLn := Lib.hid hlen
      have HT := Lib.hid (take_snoc zs.reverse k (by simpa using hlt))
      have HJ := Lib.hid hj
      rw [hj]
      have j1 : (j : Int) < (zs.length : Int) := by omega
      have j0 : (0 : Int) ≤ (j : Int) := by omega
      have hjb : (j : Int) ≤ 9000000000000000000 := by omega
      clear hj hje hget hlen h
      go_wp2_with (at_builtin; refine wpList_push rfl _ _ rfl w.heap.size _ _ rfl rfl HO.out HLn.out HY.out ?_; intro v1 w1 ho1 hb1)
      have ho1' : OwnI w1 w.heap.size v1 (zs.reverse.take (k + 1)) := by rw [← HT.out, HGT.out]; exact ho1
      have HO1 := Lib.hid ho1'; have HB1 := Lib.hid hb1
      clear ho1 ho1' hb1 hc
      go_roundw
      case rel => exact ⟨k + 1, by omega, by have := HJ.out; first | (congr 1; omega) | congr 1, HO1.out, HBl.out.trans HB1.out⟩
      case measure => first | (simp [intOf]; omega) | simp [intOf]
    · obtain rfl : k = zs.length := by omega
      have ho := HO.out
      rw [List.take_of_length_le (by simp)] at ho
      obtain ⟨A', c', rfl, hiw, hcap⟩ := ho.iwc HR.out hl
      have HIW := Lib.hid hiw; have HCAP := Lib.hid hcap
      have hneg : (zs.length : Int) - 1 - (zs.length : Int) = -1 := by omega
      rw [hneg]
      clear hiw hcap ho HO hneg h
      go_wp2
      go_ret
      exact ⟨A', c', by rw [HR.out]; rfl, by rw [HR.out]; exact HCAP.out, HIW.out, HBl.out⟩


/- The plain walk: a region under a condition S on the world, by hand. -/
section
variable {P : Program} {ops : Array Oper} {Q : Exit → Act → World → Prop} {S : World → Prop} {md : Region.Mode}
set_option maxRecDepth 100000 in
theorem planH_take (i : Nat) {oi : Oper} {v : Value} {fuel : Nat} {listed : Array Bool} {a : Act} {w : World} (hi : ops[i]? = some oi)
    (hs : Region.noSelect ops = true) (hf : Region.free md ops listed i = true) (hr : (Region.ready md ops listed).contains i = true)
    (hQ : ∀ c a w, Q (.panic c) (a.put oi.dst v) w → Q (.panic c) a w) (hg : oi.guard = none) (hy : ∀ w, S w → (execOp a.eval oi).run P w = .ok (.value v) w) (hS : S w)
    (h : wpAnyH P md ops Q S fuel (listed.setIfInBounds i true) (a.put oi.dst v) w) : wpAnyH P md ops Q S (fuel + 1) listed a w :=
  wpAnyH_take hi hs hf hr hQ (.inl ⟨by simp [Region.wanted, hg], hy⟩) hS h
set_option maxRecDepth 100000 in
theorem planH_takeW (i : Nat) {oi : Oper} {v : Value} {fuel : Nat} {listed : Array Bool} {a : Act} {w : World} (hi : ops[i]? = some oi)
    (hs : Region.noSelect ops = true) (hf : Region.free md ops listed i = true) (hr : (Region.ready md ops listed).contains i = true)
    (hQ : ∀ c a w, Q (.panic c) (a.put oi.dst v) w → Q (.panic c) a w) (hw : Region.wanted oi (yielded ops a.tmps) = true) (hy : ∀ w, S w → (execOp a.eval oi).run P w = .ok (.value v) w) (hS : S w)
    (h : wpAnyH P md ops Q S fuel (listed.setIfInBounds i true) (a.put oi.dst v) w) : wpAnyH P md ops Q S (fuel + 1) listed a w :=
  wpAnyH_take hi hs hf hr hQ (.inl ⟨hw, hy⟩) hS h
set_option maxRecDepth 100000 in
theorem planH_skip (i : Nat) {oi : Oper} {fuel : Nat} {listed : Array Bool} {a : Act} {w : World} (hi : ops[i]? = some oi)
    (hs : Region.noSelect ops = true) (hf : Region.free md ops listed i = true) (hr : (Region.ready md ops listed).contains i = true)
    (hQ : ∀ c a w, Q (.panic c) (a.put oi.dst undef) w → Q (.panic c) a w) (hw : Region.wanted oi (yielded ops a.tmps) = false) (hS : S w)
    (h : wpAnyH P md ops Q S fuel (listed.setIfInBounds i true) (a.put oi.dst undef) w) : wpAnyH P md ops Q S (fuel + 1) listed a w :=
  wpAnyH_take hi hs hf hr hQ (.inr ⟨hw, rfl⟩) hS h
/-- A step, closed: nobody runs it to see what it is. -/
structure WpT (P : Program) (o : Oper) (a : Act) (w : World) (K : Act → World → Prop) (Q : Exit → Act → World → Prop) : Prop where
  out : o.wp P a w K Q
set_option maxRecDepth 100000 in
theorem planH_one (i : Nat) {oi : Oper} {fuel : Nat} {listed : Array Bool} {a : Act} {w : World} (hi : ops[i]? = some oi) (hg : Region.wanted oi (yielded ops a.tmps) = true) (hr : Region.ready md ops listed = [i])
    (h : WpT P oi a w (fun a' w' => S w' ∧ wpAnyH P md ops Q S fuel (listed.setIfInBounds i true) a' w') Q) : wpAnyH P md ops Q S (fuel + 1) listed a w :=
  wpAnyH_all hr (by simp) fun j hj => by
    obtain rfl := List.mem_singleton.1 hj
    unfold wpOp
    simp only [hi]
    rw [if_pos hg]
    exact .inl h.out
set_option maxRecDepth 100000 in
/-- Two may come up: each way. -/
theorem planH_two (i j : Nat) {fuel : Nat} {listed : Array Bool} {a : Act} {w : World} (hr : Region.ready md ops listed = [i, j])
    (h : wpOp P ops Q i (fun a' w' => S w' ∧ wpAnyH P md ops Q S fuel (listed.setIfInBounds i true) a' w') a w)
    (h' : wpOp P ops Q j (fun a' w' => S w' ∧ wpAnyH P md ops Q S fuel (listed.setIfInBounds j true) a' w') a w) : wpAnyH P md ops Q S (fuel + 1) listed a w :=
  wpAnyH_all hr (by simp) fun k hk => by
    rcases List.mem_cons.1 hk with rfl | hk
    · exact h
    · obtain rfl := List.mem_singleton.1 hk; exact h'
set_option maxRecDepth 100000 in
theorem wpT_value {o : Oper} {a : Act} {w w' : World} {K : Act → World → Prop} {v : Value} (hr : (execOp a.eval o).run P w = .ok (.value v) w') (h : K (a.put o.dst v) w') : WpT P o a w K Q := by
  refine ⟨?_⟩
  unfold Oper.wp
  rw [hr]
  exact h
end
/-! ### a list of rows that are only read -/
/-- A list of rows of the call's own (its cells lie from base on) whose rows are read only and lie below base. -/
def OwnQ (w : World) (base : Nat) (v : Value) (zss : List (List Int)) : Prop :=
  base ≤ w.heap.size ∧ ∃ (F : Nat → Option Addr) (C : Nat → Nat), w.ownsRow base 23 1 v zss.length (rowsV zss F C) ∧
    ∀ (k : Nat) (hk : k < zss.length), (zss[k].length ≤ C k ∧ C k ≤ 9223372036854775807) ∧ IR w 0 base (F k) zss[k]
theorem OwnQ.made {w : World} {base : Nat} (h : base ≤ w.heap.size) : OwnQ (w.alloc (.cells #[] 23)) base (.slice (some ⟨w.heap.size, 0, none⟩) 0 0) [] :=
  ⟨by simp; omega, fun _ => none, fun _ => 0, World.ownsRow_made w #[] 0 h (by unfold maxLen; omega) rfl, fun k hk => absurd hk (by simp)⟩
theorem OwnQ.grown {w w' : World} {base : Nat} {v : Value} {zss : List (List Int)} (h : OwnQ w base v zss) (hb : Below w.heap.size w w') : OwnQ w' base v zss := by
  obtain ⟨h1, F, K, ho, hr⟩ := h
  refine ⟨Nat.le_trans h1 hb.size, F, K, ⟨ho.1, ?_⟩, fun k hk => ⟨(hr k hk).1, (hr k hk).2.below hb h1⟩⟩
  rcases ho.2 with h0 | ⟨g, cap, cur, e, hg2, hh, r⟩
  · exact .inl h0
  · exact .inr ⟨g, cap, cur, e, hg2, (hb.block g (Array.getElem?_eq_some_iff.1 hh).1).trans hh, r⟩
theorem OwnQ.irr {w : World} {base : Nat} {v : Value} {zss : List (List Int)} (h : OwnQ w base v zss) (hl : zss.length ≤ 17592186044416) : ∃ A c, v = .slice A zss.length c ∧ (zss.length ≤ c ∧ c ≤ 9223372036854775807) ∧ IRR w 0 w.heap.size A zss := by
  obtain ⟨h1, F, K, ho, hr⟩ := h
  have hcell := ho
  rcases ho.2 with ⟨rfl, h0⟩ | ⟨g, cap, cur, rfl, hgb, hh, hn, hcap, hs, ht⟩
  · have : zss = [] := List.eq_nil_of_length_eq_zero h0
    subst this
    exact ⟨none, 0, rfl, ⟨Nat.le_refl _, by omega⟩, by simp, Nat.le_refl _, fun k hk => absurd hk (by simp)⟩
  · refine ⟨some ⟨g, 0, none⟩, cap, rfl, ⟨hn, by unfold maxLen at hcap; omega⟩, hl, Nat.le_refl _, fun k hk => ⟨g, 0, F k, K k, rfl, Nat.zero_le _, (Array.getElem?_eq_some_iff.1 hh).1, ?_, (hr k hk).1, (hr k hk).2.wide (Nat.le_refl _) h1 (Nat.le_refl _)⟩⟩
    have := hcell.cellAt k (by simpa using hk)
    rw [rowsV_get _ _ _ _ hk] at this
    simpa using this
theorem OwnQ.own_ge {w : World} {base : Nat} {v : Value} {zss : List (List Int)} (h : OwnQ w base v zss) {k : Nat} (e : v.ownBlock = some k) : base ≤ k := by
  obtain ⟨_, F, K, ho, _⟩ := h
  exact (ho.lt k e).1
set_option maxRecDepth 100000 in
/-- Rows put behind: whatever list of rows reads as ys. -/
theorem run_appendsQ (w : World) (base : Nat) (v : Value) (zss ys : List (List Int)) (hown : OwnQ w base v zss) (A : Option Addr) (c : Nat) (F' : Nat → Option Addr) (C' : Nat → Nat)
    (hc : ∀ (k : Nat) (hk : k < ys.length), ∃ b off, A = some ⟨b, off, none⟩ ∧ w.cell? ⟨b, off + k, none⟩ = some (.slice (F' k) ys[k].length (C' k)))
    (hr : ∀ (k : Nat) (hk : k < ys.length), (ys[k].length ≤ C' k ∧ C' k ≤ 9223372036854775807) ∧ IR w 0 base (F' k) ys[k]) (hl : zss.length + ys.length < 1000000) (ty : TypeId) :
    ∃ v' w', (Builtin.append_ #[31, 31] ty #[v, .slice A ys.length c]).run Try.prog w = .ok v' w' ∧ OwnQ w' base v' (zss ++ ys) ∧ w.grownBy w' v.ownBlock := by
  obtain ⟨i0, hi0, hz0, hz1, hz2⟩ := info_parts info_row
  rcases Nat.eq_zero_or_pos ys.length with h0 | h0
  · have hy : ys = [] := List.eq_nil_of_length_eq_zero h0
    subst hy
    have hs : ∃ A' c', v = .slice A' zss.length c' ∧ zss.length ≤ c' := by
      obtain ⟨_, F, K, ho, _⟩ := hown
      rcases ho.2 with ⟨rfl, h0⟩ | ⟨g, cap, cur, rfl, hgb, hh, hn, _⟩
      · exact ⟨none, 0, by rw [h0], by omega⟩
      · exact ⟨_, cap, rfl, hn⟩
    obtain ⟨A', c', rfl, hle⟩ := hs
    refine ⟨_, _, run_append_nothing w 31 31 ty 23 i0 Try.underlying31 hi0 A' zss.length c' hle _ ?_, by simpa using hown, ⟨rfl, rfl, rfl, Nat.le_refl _, fun _ _ _ => rfl⟩⟩
    cases A with
    | none => exact Src.ofNil w Try.underlying31 c
    | some a => exact Src.ofSlice w Try.underlying31 a 0 c [] (by simp) (by simp) (by simp)
  · obtain ⟨b, off, rfl, _⟩ := hc 0 h0
    obtain ⟨h1, F, K, ho, hrr⟩ := hown
    obtain ⟨v', w', hrun, e2, e3, _, e5⟩ := run_append_own_at (P := Try.prog) w base 31 ty 23 i0 (.slice none 0 0) 1 24 Try.underlying31 hi0 hz0 hz1 hz2 rfl (by decide) v zss.length (rowsV zss F K) ho ⟨b, off, none⟩ ys.length c (rowsV ys F' C') (by simp [rowsV_len])
      (fun j u hj => by
        by_cases hjl : j < ys.length
        · rw [rowsV_get _ _ _ _ hjl] at hj
          obtain ⟨b', off', e, hcell⟩ := hc j hjl
          injection e with e; injection e with e1 e2 _; subst e1; subst e2
          injection hj with hj
          rw [← hj, add_plain]; exact hcell
        · rw [List.getElem?_eq_none (by rw [rowsV_len]; omega)] at hj; cases hj) (by
        intro u hu
        unfold rowsV at hu
        obtain ⟨k, _, rfl⟩ := List.mem_map.1 hu
        rfl) (by unfold maxLen; omega) (by omega) (by omega)
    have hB : Below base w w' := (Below.refl base w).grown e3 (by omega) fun k hk => (ho.lt k hk).1
    have hlen : (zss ++ ys).length = zss.length + ys.length := by simp
    refine ⟨v', w', hrun, ⟨Nat.le_trans h1 e3.size, fun k => if k < zss.length then F k else F' (k - zss.length), fun k => if k < zss.length then K k else C' (k - zss.length), ?_, ?_⟩, e3⟩
    · rw [hlen]
      have e : rowsV (zss ++ ys) (fun k => if k < zss.length then F k else F' (k - zss.length)) (fun k => if k < zss.length then K k else C' (k - zss.length)) = rowsV zss F K ++ rowsV ys F' C' := by
        apply List.ext_getElem?
        intro k
        by_cases hk : k < zss.length
        · rw [rowsV_get _ _ _ _ (by rw [hlen]; omega), List.getElem?_append_left (by rw [rowsV_len]; exact hk), rowsV_get _ _ _ _ hk, if_pos hk, if_pos hk, List.getElem_append_left hk]
        · by_cases hk2 : k < zss.length + ys.length
          · rw [rowsV_get _ _ _ _ (by rw [hlen]; omega), List.getElem?_append_right (by rw [rowsV_len]; omega), rowsV_len, rowsV_get _ _ _ _ (show k - zss.length < ys.length by omega), if_neg hk, if_neg hk, List.getElem_append_right (by omega)]
          · rw [List.getElem?_eq_none (by rw [rowsV_len, hlen]; omega), List.getElem?_eq_none (by simp [rowsV_len]; omega)]
      rw [e]
      exact e2
    · intro k hk
      rw [hlen] at hk
      by_cases hk2 : k < zss.length
      · simp only [if_pos hk2]
        rw [show (zss ++ ys)[k]'(by rw [hlen]; omega) = zss[k] from List.getElem_append_left hk2]
        exact ⟨(hrr k hk2).1, (hrr k hk2).2.below hB (Nat.le_refl _)⟩
      · simp only [if_neg hk2]
        rw [show (zss ++ ys)[k]'(by rw [hlen]; omega) = ys[k - zss.length]'(by omega) from List.getElem_append_right (by omega)]
        exact ⟨(hr _ (by omega)).1, (hr _ (by omega)).2.below hB (Nat.le_refl _)⟩
theorem IRR.parts {w : World} {lo hi : Nat} {A : Option Addr} {zss : List (List Int)} (h : IRR w lo hi A zss) : ∃ (F : Nat → Option Addr) (C : Nat → Nat), ∀ (k : Nat) (hk : k < zss.length), (∃ b off, A = some ⟨b, off, none⟩ ∧ lo ≤ b ∧ b < hi ∧ w.cell? ⟨b, off + k, none⟩ = some (.slice (F k) zss[k].length (C k))) ∧ (zss[k].length ≤ C k ∧ C k ≤ 9223372036854775807) ∧ IR w lo hi (F k) zss[k] := by
  have : ∀ k : Nat, ∃ p : Option Addr × Nat, ∀ (hk : k < zss.length), (∃ b off, A = some ⟨b, off, none⟩ ∧ lo ≤ b ∧ b < hi ∧ w.cell? ⟨b, off + k, none⟩ = some (.slice p.1 zss[k].length p.2)) ∧ (zss[k].length ≤ p.2 ∧ p.2 ≤ 9223372036854775807) ∧ IR w lo hi p.1 zss[k] := by
    intro k
    by_cases hk : k < zss.length
    · obtain ⟨b, off, Ak, ck, e, h1, h2, h3, h4, h5⟩ := h.2.2 k hk
      exact ⟨(Ak, ck), fun _ => ⟨⟨b, off, e, h1, h2, h3⟩, h4, h5⟩⟩
    · exact ⟨(none, 0), fun h => absurd h hk⟩
  obtain ⟨f, hf⟩ := Classical.axiomOfChoice this
  exact ⟨fun k => (f k).1, fun k => (f k).2, fun k hk => hf k hk⟩
end Go.Proofs.Ytkghpmjbclnojab

namespace Go.Proofs.Ytkghpmjbclnojab
open Go.RowKit Go.Shelf

theorem bef_cons (x y : Int) (l m : List Int) : befB (x :: l) (y :: m) = if x = y then befB l m else decide (x < y) := rfl
theorem drewN_two (w : World) (m n : Nat) : (w.drewN m).drewN n = w.drewN (m + n) := by simp [World.drewN, Nat.add_assoc]
theorem bef_eq {a b : List Int} : ∀ k : Nat, a.length = b.length → k ≤ a.length → (∀ i, i < k → a.getD i 0 = b.getD i 0) → befB a b = befB (a.drop k) (b.drop k)
  | 0, _, _, _ => rfl
  | k + 1, hl, hk, h => by
    rw [bef_eq k hl (by omega) fun i hi => h i (by omega)]
    have h1 : k < a.length := by omega
    have h2 : k < b.length := by omega
    have e := h k (by omega)
    rw [getD_in h1, getD_in h2] at e
    rw [List.drop_eq_getElem_cons h1, List.drop_eq_getElem_cons h2, bef_cons, if_pos e]
theorem bef_ne {a b : List Int} {k : Nat} (hl : a.length = b.length) (hk : k < a.length) (h : ∀ i, i < k → a.getD i 0 = b.getD i 0) {x y : Int} (hx : a[k] = x) (hy : b.getD k 0 = y) (hne : x ≠ y) : befB a b = decide (x < y) := by
  rw [bef_eq k hl (by omega) h, List.drop_eq_getElem_cons hk, List.drop_eq_getElem_cons (show k < b.length by omega)]
  rw [getD_in (show k < b.length by omega)] at hy
  rw [bef_cons, hx, hy, if_neg hne]
theorem bef_all {a b : List Int} (hl : a.length = b.length) (h : ∀ i, i < a.length → a.getD i 0 = b.getD i 0) : befB a b = false := by
  rw [bef_eq a.length hl (Nat.le_refl _) h, List.drop_length]
  rfl

set_option maxHeartbeats 1000000 in
theorem l7Before_any (A0 : Option Addr) (c0 lo hi : Nat) (a : List Int) (A1 : Option Addr) (c1 lo' hi' n1 : Nat) (b : List Int) (w : World) (h0 : IR w lo hi A0 a) (h1 : IR w lo' hi' A1 b) (hl : a.length = b.length) (hn : n1 = b.length) (hs : a.length ≤ 12) :
    Calls Try.prog 67 #[.slice A0 a.length c0, .slice A1 n1 c1] w fun e w' => e = .returned (.bool (befB a b)) ∧ ∃ m, w' = w.drewN m := by
  subst hn
  rw [← hl]
  have HL := Lib.hid hl
  clear hl
  go_enter Try.func67, Try.ntmps67
  go_wp2
  go_loopw [5] (fun i wr => ∃ k m : Nat, k ≤ a.length ∧ i = .int .i64 (k : Int) ∧ wr = w.drewN m ∧ Hid (∀ i, i < k → a.getD i 0 = b.getD i 0)) (fun i _ => a.length - (intOf i).toNat)
  case atStart => exact ⟨0, 0, Nat.zero_le _, rfl, rfl, Lib.hid fun i hi => by omega⟩
  case round =>
    obtain ⟨k, m, hk, rfl, rfl, hall⟩ := hrel
    by_cases hlt : k < a.length
    · have J0 := h0.drewN m
      have J1 := h1.drewN m
      obtain ⟨W, hW⟩ : ∃ W, w.drewN m = W := ⟨_, rfl⟩
      have HW := Lib.hid hW
      rw [hW] at J0 J1
      rw [hW]
      clear hW
      have hlb : k < b.length := by have := HL.out; omega
      obtain ⟨ba, oa, rfl, _, _, hca⟩ := J0.at_ hlt
      obtain ⟨bb, ob, rfl, _, _, hcb⟩ := J1.at_ hlb
      have hlt' : (k : Int) < (a.length : Int) := by omega
      have HB := Lib.hid (fun x y hx hy hne => bef_ne (x := x) (y := y) HL.out hlt hall.out hx hy hne)
      have HDA : Hid (a.getD k 0 = a[k]) := getD_in hlt
      have HDB : Hid (b.getD k 0 = b[k]) := getD_in hlb
      obtain ⟨x, hx⟩ : ∃ x, a[k] = x := ⟨_, rfl⟩
      obtain ⟨y, hy⟩ : ∃ y, b[k] = y := ⟨_, rfl⟩
      rw [hx] at hca HDA
      rw [hy] at hcb HDB
      have HX := Lib.hid hx
      clear hx hy hlb J0 J1
      by_cases hne : x = y
      · subst hne
        go_wp2
        go_quiet (fail)
        go_wp2
        go_roundw
        case rel => exact ⟨k + 1, _, by omega, by go_num, (by rw [← HW.out]; exact drewN_two _ _ _), Lib.hid fun i hi => by
          by_cases e : i = k
          · subst e; rw [HDA.out, HDB.out]
          · exact hall.out i (by omega)⟩
        case measure => simp [intOf]; omega
      · have HR := Lib.hid (HB.out x y HX.out HDB.out hne)
        go_wp2
        go_quiet (fail)
        go_wp2
        go_quiet (fail)
        go_wp2
        go_ret
        exact ⟨ret_bool HR.out.symm, _, by rw [← HW.out, drewN_two]; exact drewN_two _ _ _⟩
    · obtain rfl : k = a.length := by omega
      have HR := Lib.hid (bef_all HL.out hall.out)
      go_wp2
      go_ret
      exact ⟨ret_bool HR.out.symm, m, rfl⟩

theorem l7Before_b {r : Bool} (A0 : Option Addr) (c0 lo hi n0 : Nat) (a : List Int) (A1 : Option Addr) (c1 lo' hi' n1 : Nat) (b : List Int) (w : World) (h0 : IR w lo hi A0 a) (h1 : IR w lo' hi' A1 b) (hl : a.length = b.length) (hn0 : n0 = a.length) (hn : n1 = b.length) (hs : a.length ≤ 12) (hr : befB a b = r) :
    Calls Try.prog 67 #[.slice A0 n0 c0, .slice A1 n1 c1] w fun e w' => e = .returned (.bool r) ∧ ∃ m, w' = w.drewN m := by
  subst hn0; subst hr; exact l7Before_any A0 c0 lo hi a A1 c1 lo' hi' n1 b w h0 h1 hl hn hs
theorem putAt_zero (L : List (List Int)) (a : List Int) : putAt L a 0 = 0 := rfl
theorem putAt_succ (L : List (List Int)) (a : List Int) (k : Nat) : putAt L a (k + 1) = if befB a (L.getD k []) then putAt L a k else k + 1 := rfl
theorem putL_old {L : List (List Int)} {a : List Int} {P : Nat} (hP : putAt L a L.length = P) (h0 : 0 < P) (h : befB (L.getD (P - 1) []) a = false) : putL L a = L := by
  unfold putL; rw [hP, if_pos ⟨h0, h⟩]
theorem putL_new {L : List (List Int)} {a : List Int} {P : Nat} (hP : putAt L a L.length = P) (h : P = 0 ∨ befB (L.getD (P - 1) []) a = true) : putL L a = L.take P ++ [a] ++ L.drop P := by
  unfold putL; rw [hP, if_neg]
  rintro ⟨h1, h2⟩
  rcases h with h | h
  · omega
  · rw [h] at h2; cases h2

/-- Rows that may be put behind. -/
structure SrcQ (w : World) (base : Nat) (A : Option Addr) (ys : List (List Int)) (F : Nat → Option Addr) (C : Nat → Nat) : Prop where
  cell : ∀ (k : Nat) (hk : k < ys.length), ∃ b off, A = some ⟨b, off, none⟩ ∧ w.cell? ⟨b, off + k, none⟩ = some (.slice (F k) ys[k].length (C k))
  row : ∀ (k : Nat) (hk : k < ys.length), (ys[k].length ≤ C k ∧ C k ≤ 9223372036854775807) ∧ IR w 0 base (F k) ys[k]
theorem srcQ_take {W w' : World} {A : Option Addr} {L : List (List Int)} (h : IRR W 0 W.heap.size A L) (hb : Below W.heap.size W w') (K : Nat) : ∃ F C, SrcQ w' W.heap.size A (L.take K) F C := by
  obtain ⟨F, C, hp⟩ := h.parts
  refine ⟨F, C, ⟨fun k hk => ?_, fun k hk => ?_⟩⟩
  · have hk2 : k < L.length := by rw [List.length_take] at hk; omega
    obtain ⟨⟨b, off, e, h1, h2, h3⟩, -, -⟩ := hp k hk2
    rw [List.getElem_take]
    exact ⟨b, off, e, (hb.cell (p := ⟨b, off + k, none⟩) h2).trans h3⟩
  · have hk2 : k < L.length := by rw [List.length_take] at hk; omega
    rw [List.getElem_take]
    exact ⟨(hp k hk2).2.1, (hp k hk2).2.2.below hb (Nat.le_refl _)⟩
theorem srcQ_drop {W w' : World} {A A' : Option Addr} {L : List (List Int)} {K : Nat} (h : IRR W 0 W.heap.size A L) (hb : Below W.heap.size W w') (hA : K < L.length → ∀ b off, A = some ⟨b, off, none⟩ → A' = some ⟨b, off + K, none⟩) : ∃ F C, SrcQ w' W.heap.size A' (L.drop K) F C := by
  obtain ⟨F, C, hp⟩ := h.parts
  refine ⟨fun k => F (K + k), fun k => C (K + k), ⟨fun k hk => ?_, fun k hk => ?_⟩⟩
  · have hk2 : K + k < L.length := by rw [List.length_drop] at hk; omega
    obtain ⟨⟨b, off, e, h1, h2, h3⟩, -, -⟩ := hp (K + k) hk2
    rw [List.getElem_drop]
    refine ⟨b, off + K, hA (by omega) b off e, ?_⟩
    rw [Nat.add_assoc]
    exact (hb.cell (p := ⟨b, off + (K + k), none⟩) h2).trans h3
  · have hk2 : K + k < L.length := by rw [List.length_drop] at hk; omega
    rw [List.getElem_drop]
    exact ⟨(hp _ hk2).2.1, (hp _ hk2).2.2.below hb (Nat.le_refl _)⟩
theorem srcQ_one {W w' : World} {G : Nat} {A1 : Option Addr} {n1 c1 : Nat} {a : List Int} (hn : n1 = a.length) (hc1 : n1 ≤ c1 ∧ c1 ≤ 9223372036854775807) (h : IR W 0 W.heap.size A1 a) (hb : Below W.heap.size W w') (hc : w'.cell? ⟨G, 0, none⟩ = some (.slice A1 n1 c1)) : SrcQ w' W.heap.size (some ⟨G, 0, none⟩) [a] (fun _ => A1) (fun _ => c1) := by
  subst hn
  refine ⟨fun k hk => ?_, fun k hk => ?_⟩
  · obtain rfl : k = 0 := by simpa using hk
    exact ⟨G, 0, rfl, hc⟩
  · obtain rfl : k = 0 := by simpa using hk
    exact ⟨hc1, h.below hb (Nat.le_refl _)⟩
theorem wpT_appendsQ {o : Oper} {a : Act} {w : World} {K : Act → World → Prop} {Q : Exit → Act → World → Prop} (s x : Operand)
    (ho : o.op = .call { callee := .builtin .append, args := #[s, x], argTypes := #[31, 31] })
    (base : Nat) (v : Value) (zss ys : List (List Int)) (hs : a.eval s = v) (A : Option Addr) (n c : Nat) (hn : n = ys.length) (hx : a.eval x = .slice A n c) (hown : OwnQ w base v zss) (F : Nat → Option Addr) (C : Nat → Nat) (hsrc : SrcQ w base A ys F C) (hl : zss.length + ys.length < 1000000)
    (h : ∀ v' w', OwnQ w' base v' (zss ++ ys) → w.grownBy w' v.ownBlock → K (a.put o.dst v') w') : WpT Try.prog o a w K Q := by
  subst hn
  obtain ⟨v', w', hrun, h2, h3⟩ := run_appendsQ w base v zss ys hown A c F C hsrc.cell hsrc.row hl o.type
  refine ⟨?_⟩
  unfold Oper.wp execOp
  simp only [ho, resolve, invoke, builtin, Sem.run_bind, Sem.run_pure, Result.andThen_ok, List.map_toArray, List.map_cons, List.map_nil, hs, hx, hrun]
  exact h v' w' h2 h3
set_option maxRecDepth 100000 in
/-- Two may come up: each way. -/
theorem planH_pair {P : Program} {ops : Array Oper} {Q : Exit → Act → World → Prop} {S : World → Prop} {md : Region.Mode} (i j : Nat) {oi oj : Oper} {fuel : Nat} {listed : Array Bool} {a : Act} {w : World} (hi : ops[i]? = some oi) (hj : ops[j]? = some oj) (hgi : Region.wanted oi (yielded ops a.tmps) = true) (hgj : Region.wanted oj (yielded ops a.tmps) = true) (hr : Region.ready md ops listed = [i, j])
    (h : WpT P oi a w (fun a' w' => S w' ∧ wpAnyH P md ops Q S fuel (listed.setIfInBounds i true) a' w') Q) (h' : WpT P oj a w (fun a' w' => S w' ∧ wpAnyH P md ops Q S fuel (listed.setIfInBounds j true) a' w') Q) : wpAnyH P md ops Q S (fuel + 1) listed a w :=
  wpAnyH_all hr (by simp) fun k hk => by
    rcases List.mem_cons.1 hk with rfl | hk
    · unfold wpOp
      simp only [hi]
      rw [if_pos hgi]
      exact .inl h.out
    · obtain rfl := List.mem_singleton.1 hk
      unfold wpOp
      simp only [hj]
      rw [if_pos hgj]
      exact .inl h'.out
theorem below_grown {W w w' : World} {B : Nat} {v : Value} (h : Below B W w) (hs : B ≤ w.heap.size) (hg : w.grownBy w' v.ownBlock) (hv : ∀ k, v.ownBlock = some k → B ≤ k) : Below B W w' := h.trans ((Below.refl B w).grown hg hs hv)

/-- What l7Put gives: a list of rows to read. -/
def RetQ (w : World) (L : List (List Int)) (e : Ending) (w' : World) : Prop := ∃ A c, e = .returned (.slice A L.length c) ∧ (L.length ≤ c ∧ c ≤ 9223372036854775807) ∧ IRR w' 0 w'.heap.size A L ∧ Below w.heap.size w w'

set_option maxRecDepth 100000 in
set_option maxHeartbeats 16000000 in
theorem l7Put_any (A : Option Addr) (c : Nat) (L : List (List Int)) (A1 : Option Addr) (c1 n1 : Nat) (a : List Int) (w : World) (h : IRR w 0 w.heap.size A L) (hc : L.length ≤ c ∧ c ≤ 9223372036854775807) (h1 : IR w 0 w.heap.size A1 a) (hn1 : n1 = a.length) (hc1 : n1 ≤ c1 ∧ c1 ≤ 9223372036854775807)
    (hL : L.length < 1000) (hl : ∀ x, x ∈ L → x.length = a.length) (ha : a.length ≤ 12) :
    Calls Try.prog 43 #[.slice A L.length c, .slice A1 n1 c1] w (RetQ w (putL L a)) := by
  have H := Lib.hid h; have H1 := Lib.hid h1; have HN1 := Lib.hid hn1; have HC1 := Lib.hid hc1; have HLL := Lib.hid hl; have HC := Lib.hid hc
  have HP : Hid (putAt L a L.length ≤ L.length) := (putAt_spec L a L.length).1
  obtain ⟨P, hP⟩ : ∃ P, putAt L a L.length = P := ⟨_, rfl⟩
  have HPE := Lib.hid hP
  rw [hP] at HP
  clear h h1 hn1 hc1 hl hP
  go_enter Try.func43, Try.ntmps43
  go_wp2
  go_loopw [5] (fun i wr => ∃ k m : Nat, k ≤ L.length ∧ i = .int .i64 (k : Int) ∧ wr = w.drewN m ∧ Hid (putAt L a k = P)) (fun i _ => (intOf i).toNat)
  case atStart => exact ⟨L.length, 0, Nat.le_refl _, rfl, rfl, HPE⟩
  case round =>
    obtain ⟨k, m, hk, rfl, rfl, hput⟩ := hrel
    have J := H.out.drewN m
    have J1 := H1.out.drewN m
    obtain ⟨W, hW⟩ : ∃ W, w.drewN m = W := ⟨_, rfl⟩
    have HW := Lib.hid hW
    rw [hW] at J J1
    rw [hW]
    clear hW
    cases k with
    | zero =>
      have HP0 : Hid (P = 0) := hput.out.symm
      go_wp2
      have HPN := Lib.hid (putL_new (L := L) (a := a) (P := 0) (by rw [HPE.out, HP0.out]) (.inl rfl))
      have HJ := Lib.hid J.toAll; have HJ1 := Lib.hid J1.toAll
      have HBW : Hid (Below w.heap.size w W) := by rw [← HW.out]; exact below_drawN (Below.refl _ _) _
      have hLn := hL
      clear J J1
      have HB0 : Below W.heap.size W W.drew := (Below.refl _ W).drew
      have HTK : (L.take (0)).length = 0 := by rw [List.length_take]; omega
      have HDK : (L.drop (0)).length = L.length - (0) := List.length_drop ..
      refine wp_region_held_drew (S := fun _ => True) (by kernel_rfl) trivial (fun _ => ?_)
      refine planH_take 1 (v := .slice A L.length c) rfl (by kernel_rfl) (by kernel_rfl) (by kernel_rfl) (fun _ _ _ h => h) rfl (fun W' _ => by kernel_rfl) trivial ?_
      refine planH_take 2 (v := .int .i64 ((0 : Nat) : Int)) rfl (by kernel_rfl) (by kernel_rfl) (by kernel_rfl) (fun _ _ _ h => h) rfl (fun W' _ => by kernel_rfl) trivial ?_
      refine planH_take 3 (v := .slice A (0) c) rfl (by kernel_rfl) (by kernel_rfl) (by kernel_rfl) (fun _ _ _ h => h) rfl (fun W' _ => by go_simp) trivial ?_
      refine planH_take 5 (v := .slice A1 n1 c1) rfl (by kernel_rfl) (by kernel_rfl) (by kernel_rfl) (fun _ _ _ h => h) rfl (fun W' _ => by kernel_rfl) trivial ?_
      refine planH_take 8 (v := .slice A L.length c) rfl (by kernel_rfl) (by kernel_rfl) (by kernel_rfl) (fun _ _ _ h => h) rfl (fun W' _ => by kernel_rfl) trivial ?_
      refine planH_take 9 (v := .int .i64 ((0 : Nat) : Int)) rfl (by kernel_rfl) (by kernel_rfl) (by kernel_rfl) (fun _ _ _ h => h) rfl (fun W' _ => by kernel_rfl) trivial ?_
      refine planH_take 10 (v := .slice (A.map fun p => p.add 0) (L.length) (c)) rfl (by kernel_rfl) (by kernel_rfl) (by kernel_rfl) (fun _ _ _ h => h) rfl (fun W' _ => by go_simp) trivial ?_
      refine planH_pair 0 6 rfl rfl (by kernel_rfl) (by kernel_rfl) (by kernel_rfl) ?o1 ?o2
      case o1 =>
        refine wpT_value (v := .slice (some ⟨W.drew.heap.size, 0, none⟩) 0 0) (w' := W.drew.alloc (.cells #[] 23)) (by go_simp) ⟨trivial, ?_⟩
        have hoA : OwnQ (W.drew.alloc (.cells #[] 23)) W.heap.size (.slice (some ⟨W.drew.heap.size, 0, none⟩) 0 0) [] := OwnQ.made (w := W.drew) (Nat.le_refl _)
        have hbA : Below W.heap.size W (W.drew.alloc (.cells #[] 23)) := HB0.alloc (Nat.le_refl _) _
        have hszA : W.drew.heap.size < (W.drew.alloc (.cells #[] 23)).heap.size := by simp
        generalize W.drew.alloc (.cells #[] 23) = wA at hoA hbA hszA ⊢
        refine planH_pair 4 6 rfl rfl (by kernel_rfl) (by kernel_rfl) (by kernel_rfl) ?p1 ?p2
        case p1 =>
          obtain ⟨F4, C4, hs4⟩ := srcQ_take HJ.out hbA (0)
          refine wpT_appendsQ (.tmp 34) (.tmp 37) rfl W.heap.size _ [] (L.take (0)) (by kernel_rfl) A (0) c HTK.symm (by kernel_rfl) hoA F4 C4 hs4 (by rw [HTK]; simp <;> omega) fun v4 w4 ho4 hg4 => ⟨trivial, ?_⟩
          have hb4 := below_grown hbA hbA.size hg4 (fun k' e => hoA.own_ge e)
          refine planH_one 6 rfl (by kernel_rfl) (by kernel_rfl) ?_
          refine wpT_value (v := .slice (some ⟨w4.heap.size, 0, none⟩) 1 1) (w' := w4.alloc (.cells #[.slice A1 n1 c1] 23)) (by go_simp) ⟨trivial, ?_⟩
          have hc6 : (w4.alloc (.cells #[.slice A1 n1 c1] 23)).cell? ⟨w4.heap.size, 0, none⟩ = some (.slice A1 n1 c1) := by rw [World.cell?_alloc_at _ _ _ _ rfl]; rfl
          have ho6 := ho4.grown ((Below.refl w4.heap.size w4).alloc (Nat.le_refl _) (.cells #[.slice A1 n1 c1] 23))
          have hb6 : Below W.heap.size W (w4.alloc (.cells #[.slice A1 n1 c1] 23)) := hb4.alloc hb4.size _
          refine planH_one 7 rfl (by kernel_rfl) (by kernel_rfl) ?_
          refine wpT_appendsQ (.tmp 38) (.tmp 40) rfl W.heap.size _ ([] ++ L.take (0)) [a] (by kernel_rfl) (some ⟨w4.heap.size, 0, none⟩) 1 1 rfl (by kernel_rfl) ho6 _ _ (srcQ_one HN1.out HC1.out HJ1.out hb6 hc6) (by rw [List.nil_append, HTK]; simp <;> omega) fun v7 w7 ho7 hg7 => ⟨trivial, ?_⟩
          have hb7 := below_grown hb6 hb6.size hg7 (fun k' e => ho6.own_ge e)
          obtain ⟨F8, C8, hs8⟩ := srcQ_drop (A' := (A.map fun p => p.add 0)) (K := 0) HJ.out hb7 (fun _ b off e => by subst e; rfl)
          refine planH_one 11 rfl (by kernel_rfl) (by kernel_rfl) ?_
          refine wpT_appendsQ (.tmp 41) (.tmp 44) rfl W.heap.size _ (([] ++ L.take (0)) ++ [a]) (L.drop (0)) (by kernel_rfl) (A.map fun p => p.add 0) (L.length) (c) (by rw [HDK]; rfl) (by kernel_rfl) ho7 F8 C8 hs8 (by rw [List.nil_append, List.length_append, HTK, HDK]; simp <;> omega) fun v8 w8 ho8 hg8 => ⟨trivial, ?_⟩
          have hb8 := below_grown hb7 hb7.size hg8 (fun k' e => ho7.own_ge e)
          rw [List.nil_append, ← HPN.out] at ho8
          obtain ⟨A9, c9, rfl, hcap9, hirr9⟩ := ho8.irr (by rw [HPN.out, List.length_append, List.length_append, HTK, HDK]; simp <;> omega)
          refine planH_take 12 (v := .slice A9 (putL L a).length c9) rfl (by kernel_rfl) (by kernel_rfl) (by kernel_rfl) (fun _ _ _ h => h) rfl (fun W' _ => by kernel_rfl) trivial ?_
          refine wpAnyH_done (by kernel_rfl) ?_ _
          have HCP9 := Lib.hid hcap9; have HI9 := Lib.hid hirr9; have HB8 := Lib.hid (HBW.out.trans (hb8.mono HBW.out.size))
          clear hcap9 hirr9 hb8 ho8 hg8 hs8 hb7 ho7 hg7
          go_simp
          go_wp2
          all_goals go_ret
          all_goals exact ⟨A9, c9, rfl, HCP9.out, HI9.out, HB8.out⟩
        case p2 =>
          refine wpT_value (v := .slice (some ⟨wA.heap.size, 0, none⟩) 1 1) (w' := wA.alloc (.cells #[.slice A1 n1 c1] 23)) (by go_simp) ⟨trivial, ?_⟩
          have hc6 : (wA.alloc (.cells #[.slice A1 n1 c1] 23)).cell? ⟨wA.heap.size, 0, none⟩ = some (.slice A1 n1 c1) := by rw [World.cell?_alloc_at _ _ _ _ rfl]; rfl
          have ho6 := hoA.grown ((Below.refl wA.heap.size wA).alloc (Nat.le_refl _) (.cells #[.slice A1 n1 c1] 23))
          have hb6 : Below W.heap.size W (wA.alloc (.cells #[.slice A1 n1 c1] 23)) := hbA.alloc hbA.size _
          have hsz6 : wA.heap.size < (wA.alloc (.cells #[.slice A1 n1 c1] 23)).heap.size := by simp
          refine planH_one 4 rfl (by kernel_rfl) (by kernel_rfl) ?_
          obtain ⟨F4, C4, hs4⟩ := srcQ_take HJ.out hb6 (0)
          refine wpT_appendsQ (.tmp 34) (.tmp 37) rfl W.heap.size _ [] (L.take (0)) (by kernel_rfl) A (0) c HTK.symm (by kernel_rfl) ho6 F4 C4 hs4 (by rw [HTK]; simp <;> omega) fun v4 w4 ho4 hg4 => ⟨trivial, ?_⟩
          have hb4 := below_grown hb6 hb6.size hg4 (fun k' e => ho6.own_ge e)
          have hc4 := (World.cell?_of_block (a := ⟨wA.heap.size, 0, none⟩) (hg4.block wA.heap.size hsz6 (by simp only [Value.ownBlock]; intro e; injection e with e; omega))).trans hc6
          refine planH_one 7 rfl (by kernel_rfl) (by kernel_rfl) ?_
          refine wpT_appendsQ (.tmp 38) (.tmp 40) rfl W.heap.size _ ([] ++ L.take (0)) [a] (by kernel_rfl) (some ⟨wA.heap.size, 0, none⟩) 1 1 rfl (by kernel_rfl) ho4 _ _ (srcQ_one HN1.out HC1.out HJ1.out hb4 hc4) (by rw [List.nil_append, HTK]; simp <;> omega) fun v7 w7 ho7 hg7 => ⟨trivial, ?_⟩
          have hb7 := below_grown hb4 hb4.size hg7 (fun k' e => ho4.own_ge e)
          obtain ⟨F8, C8, hs8⟩ := srcQ_drop (A' := (A.map fun p => p.add 0)) (K := 0) HJ.out hb7 (fun _ b off e => by subst e; rfl)
          refine planH_one 11 rfl (by kernel_rfl) (by kernel_rfl) ?_
          refine wpT_appendsQ (.tmp 41) (.tmp 44) rfl W.heap.size _ (([] ++ L.take (0)) ++ [a]) (L.drop (0)) (by kernel_rfl) (A.map fun p => p.add 0) (L.length) (c) (by rw [HDK]; rfl) (by kernel_rfl) ho7 F8 C8 hs8 (by rw [List.nil_append, List.length_append, HTK, HDK]; simp <;> omega) fun v8 w8 ho8 hg8 => ⟨trivial, ?_⟩
          have hb8 := below_grown hb7 hb7.size hg8 (fun k' e => ho7.own_ge e)
          rw [List.nil_append, ← HPN.out] at ho8
          obtain ⟨A9, c9, rfl, hcap9, hirr9⟩ := ho8.irr (by rw [HPN.out, List.length_append, List.length_append, HTK, HDK]; simp <;> omega)
          refine planH_take 12 (v := .slice A9 (putL L a).length c9) rfl (by kernel_rfl) (by kernel_rfl) (by kernel_rfl) (fun _ _ _ h => h) rfl (fun W' _ => by kernel_rfl) trivial ?_
          refine wpAnyH_done (by kernel_rfl) ?_ _
          have HCP9 := Lib.hid hcap9; have HI9 := Lib.hid hirr9; have HB8 := Lib.hid (HBW.out.trans (hb8.mono HBW.out.size))
          clear hcap9 hirr9 hb8 ho8 hg8 hs8 hb7 ho7 hg7
          go_simp
          go_wp2
          all_goals go_ret
          all_goals exact ⟨A9, c9, rfl, HCP9.out, HI9.out, HB8.out⟩
      case o2 =>
        refine wpT_value (v := .slice (some ⟨W.drew.heap.size, 0, none⟩) 1 1) (w' := W.drew.alloc (.cells #[.slice A1 n1 c1] 23)) (by go_simp) ⟨trivial, ?_⟩
        have hc6 : (W.drew.alloc (.cells #[.slice A1 n1 c1] 23)).cell? ⟨W.drew.heap.size, 0, none⟩ = some (.slice A1 n1 c1) := by rw [World.cell?_alloc_at _ _ _ _ rfl]; rfl
        have hb6 : Below W.heap.size W (W.drew.alloc (.cells #[.slice A1 n1 c1] 23)) := HB0.alloc (Nat.le_refl _) _
        have hsz6 : W.drew.heap.size < (W.drew.alloc (.cells #[.slice A1 n1 c1] 23)).heap.size := by simp
        generalize W.drew.alloc (.cells #[.slice A1 n1 c1] 23) = w6 at hc6 hb6 hsz6 ⊢
        refine planH_one 0 rfl (by kernel_rfl) (by kernel_rfl) ?_
        refine wpT_value (v := .slice (some ⟨w6.heap.size, 0, none⟩) 0 0) (w' := w6.alloc (.cells #[] 23)) (by go_simp) ⟨trivial, ?_⟩
        have hoA : OwnQ (w6.alloc (.cells #[] 23)) W.heap.size (.slice (some ⟨w6.heap.size, 0, none⟩) 0 0) [] := OwnQ.made (w := w6) hb6.size
        have hbA : Below W.heap.size W (w6.alloc (.cells #[] 23)) := hb6.alloc hb6.size _
        have hcA : (w6.alloc (.cells #[] 23)).cell? ⟨W.drew.heap.size, 0, none⟩ = some (.slice A1 n1 c1) := by rw [World.cell?_alloc_past _ _ _ hsz6]; exact hc6
        have hszA : w6.heap.size < (w6.alloc (.cells #[] 23)).heap.size := by simp
        generalize w6.alloc (.cells #[] 23) = wA at hoA hbA hcA hszA ⊢
        refine planH_one 4 rfl (by kernel_rfl) (by kernel_rfl) ?_
        obtain ⟨F4, C4, hs4⟩ := srcQ_take HJ.out hbA (0)
        refine wpT_appendsQ (.tmp 34) (.tmp 37) rfl W.heap.size _ [] (L.take (0)) (by kernel_rfl) A (0) c HTK.symm (by kernel_rfl) hoA F4 C4 hs4 (by rw [HTK]; simp <;> omega) fun v4 w4 ho4 hg4 => ⟨trivial, ?_⟩
        have hb4 := below_grown hbA hbA.size hg4 (fun k' e => hoA.own_ge e)
        have hc4 := (World.cell?_of_block (a := ⟨W.drew.heap.size, 0, none⟩) (hg4.block W.drew.heap.size (by omega) (by simp only [Value.ownBlock]; intro e; injection e with e; omega))).trans hcA
        refine planH_one 7 rfl (by kernel_rfl) (by kernel_rfl) ?_
        refine wpT_appendsQ (.tmp 38) (.tmp 40) rfl W.heap.size _ ([] ++ L.take (0)) [a] (by kernel_rfl) (some ⟨W.drew.heap.size, 0, none⟩) 1 1 rfl (by kernel_rfl) ho4 _ _ (srcQ_one HN1.out HC1.out HJ1.out hb4 hc4) (by rw [List.nil_append, HTK]; simp <;> omega) fun v7 w7 ho7 hg7 => ⟨trivial, ?_⟩
        have hb7 := below_grown hb4 hb4.size hg7 (fun k' e => ho4.own_ge e)
        obtain ⟨F8, C8, hs8⟩ := srcQ_drop (A' := (A.map fun p => p.add 0)) (K := 0) HJ.out hb7 (fun _ b off e => by subst e; rfl)
        refine planH_one 11 rfl (by kernel_rfl) (by kernel_rfl) ?_
        refine wpT_appendsQ (.tmp 41) (.tmp 44) rfl W.heap.size _ (([] ++ L.take (0)) ++ [a]) (L.drop (0)) (by kernel_rfl) (A.map fun p => p.add 0) (L.length) (c) (by rw [HDK]; rfl) (by kernel_rfl) ho7 F8 C8 hs8 (by rw [List.nil_append, List.length_append, HTK, HDK]; simp <;> omega) fun v8 w8 ho8 hg8 => ⟨trivial, ?_⟩
        have hb8 := below_grown hb7 hb7.size hg8 (fun k' e => ho7.own_ge e)
        rw [List.nil_append, ← HPN.out] at ho8
        obtain ⟨A9, c9, rfl, hcap9, hirr9⟩ := ho8.irr (by rw [HPN.out, List.length_append, List.length_append, HTK, HDK]; simp <;> omega)
        refine planH_take 12 (v := .slice A9 (putL L a).length c9) rfl (by kernel_rfl) (by kernel_rfl) (by kernel_rfl) (fun _ _ _ h => h) rfl (fun W' _ => by kernel_rfl) trivial ?_
        refine wpAnyH_done (by kernel_rfl) ?_ _
        have HCP9 := Lib.hid hcap9; have HI9 := Lib.hid hirr9; have HB8 := Lib.hid (HBW.out.trans (hb8.mono HBW.out.size))
        clear hcap9 hirr9 hb8 ho8 hg8 hs8 hb7 ho7 hg7
        go_simp
        go_wp2
        all_goals go_ret
        all_goals exact ⟨A9, c9, rfl, HCP9.out, HI9.out, HB8.out⟩
    | succ k =>
      have hkl : k < L.length := by omega
      obtain ⟨b, off, Ak, ck, rfl, hbw, hcell, hcap, hrow⟩ := J.at_ hkl
      have HLK : Hid (L.getD k [] = L[k]) := by show _ = _; simp [List.getD, hkl]
      have hlk := HLL.out _ (List.getElem_mem hkl)
      have HPS := Lib.hid (putAt_succ L a k)
      rw [HLK.out, hput.out] at HPS
      obtain ⟨r, hr⟩ : ∃ r, L[k] = r := ⟨_, rfl⟩
      rw [hr] at hcell hrow hlk HPS HLK
      have HROW := Lib.hid hrow; have HJ1 := Lib.hid J1; have HLKL := Lib.hid hlk
      have q0 : (0 : Int) < (k : Int) + 1 := by omega
      have q1 : (0 : Int) ≤ (k : Int) := by omega
      have q2 : (k : Int) < (L.length : Int) := by omega
      clear hr hrow J1 hlk
      cases hbf : befB a r with
      | true =>
        rw [hbf] at HPS
        have HB := Lib.hid hbf; clear hbf
        go_wp2_with fail
        refine (l7Before_b _ _ _ _ _ a _ _ _ _ _ r _ HJ1.out HROW.out HLKL.out.symm HN1.out rfl ha HB.out).mono ?_
        rintro e w2 ⟨rfl, d, rfl⟩
        go_wp2
        go_roundw
        case rel => exact ⟨k, m + d, by omega, rfl, by rw [← HW.out]; exact drewN_two _ _ _, Lib.hid (by have := HPS.out; simpa using this.symm)⟩
        case measure => simp [intOf]
      | false =>
        rw [hbf] at HPS
        have HPK : Hid (P = k + 1) := by show P = k + 1; have := HPS.out; simpa using this
        have HB := Lib.hid hbf; clear hbf
        go_wp2_with fail
        refine (l7Before_b _ _ _ _ _ a _ _ _ _ _ r _ HJ1.out HROW.out HLKL.out.symm HN1.out rfl ha HB.out).mono ?_
        rintro e w2 ⟨rfl, d, rfl⟩
        go_wp2_with fail
        have HBW : Hid (Below w.heap.size w ((W.drewN d))) := by rw [← HW.out]; exact below_drawN (below_drawN (Below.refl _ _) _) _
        have JD := (J.drewN d); have JD1 := HJ1.out.drewN d; have HROWD := HROW.out.drewN d
        obtain ⟨V, hV⟩ : ∃ V, W.drewN d = V := ⟨_, rfl⟩
        rw [hV] at HBW JD JD1 HROWD
        rw [hV]
        clear hV
        cases hbr : befB r a with
        | false =>
          have HOLD := Lib.hid (putL_old (L := L) (a := a) (P := k + 1) (by rw [HPE.out, HPK.out]) (by omega) (by show befB (L.getD k []) a = false; rw [HLK.out]; exact hbr))
          refine (l7Before_b _ _ _ _ _ r _ _ _ _ _ a _ HROWD JD1 HLKL.out rfl HN1.out (by rw [HLKL.out]; exact ha) hbr).mono ?_
          rintro e w3 ⟨rfl, d2, rfl⟩
          have HIR := Lib.hid ((JD.drewN d2).toAll)
          go_wp2
          go_ret
          rw [HOLD.out]
          exact ⟨_, c, rfl, HC.out, HIR.out, below_drawN HBW.out _⟩
        | true =>
          have HPN := Lib.hid (putL_new (L := L) (a := a) (P := k + 1) (by rw [HPE.out, HPK.out]) (.inr (by show befB (L.getD k []) a = true; rw [HLK.out]; exact hbr)))
          refine (l7Before_b _ _ _ _ _ r _ _ _ _ _ a _ HROWD JD1 HLKL.out rfl HN1.out (by rw [HLKL.out]; exact ha) hbr).mono ?_
          rintro e w3 ⟨rfl, d2, rfl⟩
          have HJ := Lib.hid ((JD.drewN d2).toAll); have HJ1 := Lib.hid ((JD1.drewN d2).toAll)
          replace HBW := Lib.hid (below_drawN HBW.out d2)
          obtain ⟨W2, hW2⟩ : ∃ W2, V.drewN d2 = W2 := ⟨_, rfl⟩
          rw [hW2] at HJ HJ1 HBW
          rw [hW2]
          have hLn := hL
          have hck : k + 1 ≤ c := by omega
          have hkn : k + 1 ≤ L.length := hk
          have q3 : (0 : Int) ≤ (k : Int) + 1 := by omega
          have q4 : (k : Int) + 1 ≤ (L.length : Int) := by omega
          have q5 : ((k : Int) + 1).toNat = k + 1 := by omega
          have q6 : (k : Int) + 1 ≤ (c : Int) := by omega
          clear hW2 hbr JD JD1 HROWD J
          go_wp2
          have HB0 : Below W2.heap.size W2 W2.drew := (Below.refl _ W2).drew
          have HTK : (L.take (k + 1)).length = k + 1 := by rw [List.length_take]; omega
          have HDK : (L.drop (k + 1)).length = L.length - (k + 1) := List.length_drop ..
          refine wp_region_held_drew (S := fun _ => True) (by kernel_rfl) trivial (fun _ => ?_)
          refine planH_take 1 (v := .slice (some ⟨b, off, none⟩) L.length c) rfl (by kernel_rfl) (by kernel_rfl) (by kernel_rfl) (fun _ _ _ h => h) rfl (fun W' _ => by kernel_rfl) trivial ?_
          refine planH_take 2 (v := .int .i64 ((k : Int) + 1)) rfl (by kernel_rfl) (by kernel_rfl) (by kernel_rfl) (fun _ _ _ h => h) rfl (fun W' _ => by kernel_rfl) trivial ?_
          refine planH_take 3 (v := .slice (some ⟨b, off, none⟩) (k + 1) c) rfl (by kernel_rfl) (by kernel_rfl) (by kernel_rfl) (fun _ _ _ h => h) rfl (fun W' _ => by go_simp) trivial ?_
          refine planH_take 5 (v := .slice A1 n1 c1) rfl (by kernel_rfl) (by kernel_rfl) (by kernel_rfl) (fun _ _ _ h => h) rfl (fun W' _ => by kernel_rfl) trivial ?_
          refine planH_take 8 (v := .slice (some ⟨b, off, none⟩) L.length c) rfl (by kernel_rfl) (by kernel_rfl) (by kernel_rfl) (fun _ _ _ h => h) rfl (fun W' _ => by kernel_rfl) trivial ?_
          refine planH_take 9 (v := .int .i64 ((k : Int) + 1)) rfl (by kernel_rfl) (by kernel_rfl) (by kernel_rfl) (fun _ _ _ h => h) rfl (fun W' _ => by kernel_rfl) trivial ?_
          refine planH_take 10 (v := .slice (if c = k + 1 then some ⟨b, off, none⟩ else some ⟨b, off + (k + 1), none⟩) (L.length - (k + 1)) (c - (k + 1))) rfl (by kernel_rfl) (by kernel_rfl) (by kernel_rfl) (fun _ _ _ h => h) rfl (fun W' _ => by go_simp) trivial ?_
          refine planH_pair 0 6 rfl rfl (by kernel_rfl) (by kernel_rfl) (by kernel_rfl) ?o1 ?o2
          case o1 =>
            refine wpT_value (v := .slice (some ⟨W2.drew.heap.size, 0, none⟩) 0 0) (w' := W2.drew.alloc (.cells #[] 23)) (by go_simp) ⟨trivial, ?_⟩
            have hoA : OwnQ (W2.drew.alloc (.cells #[] 23)) W2.heap.size (.slice (some ⟨W2.drew.heap.size, 0, none⟩) 0 0) [] := OwnQ.made (w := W2.drew) (Nat.le_refl _)
            have hbA : Below W2.heap.size W2 (W2.drew.alloc (.cells #[] 23)) := HB0.alloc (Nat.le_refl _) _
            have hszA : W2.drew.heap.size < (W2.drew.alloc (.cells #[] 23)).heap.size := by simp
            generalize W2.drew.alloc (.cells #[] 23) = wA at hoA hbA hszA ⊢
            refine planH_pair 4 6 rfl rfl (by kernel_rfl) (by kernel_rfl) (by kernel_rfl) ?p1 ?p2
            case p1 =>
              obtain ⟨F4, C4, hs4⟩ := srcQ_take HJ.out hbA (k + 1)
              refine wpT_appendsQ (.tmp 34) (.tmp 37) rfl W2.heap.size _ [] (L.take (k + 1)) (by kernel_rfl) (some ⟨b, off, none⟩) (k + 1) c HTK.symm (by kernel_rfl) hoA F4 C4 hs4 (by rw [HTK]; simp <;> omega) fun v4 w4 ho4 hg4 => ⟨trivial, ?_⟩
              have hb4 := below_grown hbA hbA.size hg4 (fun k' e => hoA.own_ge e)
              refine planH_one 6 rfl (by kernel_rfl) (by kernel_rfl) ?_
              refine wpT_value (v := .slice (some ⟨w4.heap.size, 0, none⟩) 1 1) (w' := w4.alloc (.cells #[.slice A1 n1 c1] 23)) (by go_simp) ⟨trivial, ?_⟩
              have hc6 : (w4.alloc (.cells #[.slice A1 n1 c1] 23)).cell? ⟨w4.heap.size, 0, none⟩ = some (.slice A1 n1 c1) := by rw [World.cell?_alloc_at _ _ _ _ rfl]; rfl
              have ho6 := ho4.grown ((Below.refl w4.heap.size w4).alloc (Nat.le_refl _) (.cells #[.slice A1 n1 c1] 23))
              have hb6 : Below W2.heap.size W2 (w4.alloc (.cells #[.slice A1 n1 c1] 23)) := hb4.alloc hb4.size _
              refine planH_one 7 rfl (by kernel_rfl) (by kernel_rfl) ?_
              refine wpT_appendsQ (.tmp 38) (.tmp 40) rfl W2.heap.size _ ([] ++ L.take (k + 1)) [a] (by kernel_rfl) (some ⟨w4.heap.size, 0, none⟩) 1 1 rfl (by kernel_rfl) ho6 _ _ (srcQ_one HN1.out HC1.out HJ1.out hb6 hc6) (by rw [List.nil_append, HTK]; simp <;> omega) fun v7 w7 ho7 hg7 => ⟨trivial, ?_⟩
              have hb7 := below_grown hb6 hb6.size hg7 (fun k' e => ho6.own_ge e)
              obtain ⟨F8, C8, hs8⟩ := srcQ_drop (A' := (if c = k + 1 then some ⟨b, off, none⟩ else some ⟨b, off + (k + 1), none⟩)) (K := k + 1) HJ.out hb7 (fun hlt b' off' e => by injection e with e; injection e with e1 e2 _; subst e1; subst e2; rw [if_neg (by have := HC.out; omega)])
              refine planH_one 11 rfl (by kernel_rfl) (by kernel_rfl) ?_
              refine wpT_appendsQ (.tmp 41) (.tmp 44) rfl W2.heap.size _ (([] ++ L.take (k + 1)) ++ [a]) (L.drop (k + 1)) (by kernel_rfl) (if c = k + 1 then some ⟨b, off, none⟩ else some ⟨b, off + (k + 1), none⟩) (L.length - (k + 1)) (c - (k + 1)) HDK.symm (by kernel_rfl) ho7 F8 C8 hs8 (by rw [List.nil_append, List.length_append, HTK, HDK]; simp <;> omega) fun v8 w8 ho8 hg8 => ⟨trivial, ?_⟩
              have hb8 := below_grown hb7 hb7.size hg8 (fun k' e => ho7.own_ge e)
              rw [List.nil_append, ← HPN.out] at ho8
              obtain ⟨A9, c9, rfl, hcap9, hirr9⟩ := ho8.irr (by rw [HPN.out, List.length_append, List.length_append, HTK, HDK]; simp <;> omega)
              refine planH_take 12 (v := .slice A9 (putL L a).length c9) rfl (by kernel_rfl) (by kernel_rfl) (by kernel_rfl) (fun _ _ _ h => h) rfl (fun W' _ => by kernel_rfl) trivial ?_
              refine wpAnyH_done (by kernel_rfl) ?_ _
              have HCP9 := Lib.hid hcap9; have HI9 := Lib.hid hirr9; have HB8 := Lib.hid (HBW.out.trans (hb8.mono HBW.out.size))
              clear hcap9 hirr9 hb8 ho8 hg8 hs8 hb7 ho7 hg7
              go_simp
              go_wp2
              all_goals go_ret
              all_goals exact ⟨A9, c9, rfl, HCP9.out, HI9.out, HB8.out⟩
            case p2 =>
              refine wpT_value (v := .slice (some ⟨wA.heap.size, 0, none⟩) 1 1) (w' := wA.alloc (.cells #[.slice A1 n1 c1] 23)) (by go_simp) ⟨trivial, ?_⟩
              have hc6 : (wA.alloc (.cells #[.slice A1 n1 c1] 23)).cell? ⟨wA.heap.size, 0, none⟩ = some (.slice A1 n1 c1) := by rw [World.cell?_alloc_at _ _ _ _ rfl]; rfl
              have ho6 := hoA.grown ((Below.refl wA.heap.size wA).alloc (Nat.le_refl _) (.cells #[.slice A1 n1 c1] 23))
              have hb6 : Below W2.heap.size W2 (wA.alloc (.cells #[.slice A1 n1 c1] 23)) := hbA.alloc hbA.size _
              have hsz6 : wA.heap.size < (wA.alloc (.cells #[.slice A1 n1 c1] 23)).heap.size := by simp
              refine planH_one 4 rfl (by kernel_rfl) (by kernel_rfl) ?_
              obtain ⟨F4, C4, hs4⟩ := srcQ_take HJ.out hb6 (k + 1)
              refine wpT_appendsQ (.tmp 34) (.tmp 37) rfl W2.heap.size _ [] (L.take (k + 1)) (by kernel_rfl) (some ⟨b, off, none⟩) (k + 1) c HTK.symm (by kernel_rfl) ho6 F4 C4 hs4 (by rw [HTK]; simp <;> omega) fun v4 w4 ho4 hg4 => ⟨trivial, ?_⟩
              have hb4 := below_grown hb6 hb6.size hg4 (fun k' e => ho6.own_ge e)
              have hc4 := (World.cell?_of_block (a := ⟨wA.heap.size, 0, none⟩) (hg4.block wA.heap.size hsz6 (by simp only [Value.ownBlock]; intro e; injection e with e; omega))).trans hc6
              refine planH_one 7 rfl (by kernel_rfl) (by kernel_rfl) ?_
              refine wpT_appendsQ (.tmp 38) (.tmp 40) rfl W2.heap.size _ ([] ++ L.take (k + 1)) [a] (by kernel_rfl) (some ⟨wA.heap.size, 0, none⟩) 1 1 rfl (by kernel_rfl) ho4 _ _ (srcQ_one HN1.out HC1.out HJ1.out hb4 hc4) (by rw [List.nil_append, HTK]; simp <;> omega) fun v7 w7 ho7 hg7 => ⟨trivial, ?_⟩
              have hb7 := below_grown hb4 hb4.size hg7 (fun k' e => ho4.own_ge e)
              obtain ⟨F8, C8, hs8⟩ := srcQ_drop (A' := (if c = k + 1 then some ⟨b, off, none⟩ else some ⟨b, off + (k + 1), none⟩)) (K := k + 1) HJ.out hb7 (fun hlt b' off' e => by injection e with e; injection e with e1 e2 _; subst e1; subst e2; rw [if_neg (by have := HC.out; omega)])
              refine planH_one 11 rfl (by kernel_rfl) (by kernel_rfl) ?_
              refine wpT_appendsQ (.tmp 41) (.tmp 44) rfl W2.heap.size _ (([] ++ L.take (k + 1)) ++ [a]) (L.drop (k + 1)) (by kernel_rfl) (if c = k + 1 then some ⟨b, off, none⟩ else some ⟨b, off + (k + 1), none⟩) (L.length - (k + 1)) (c - (k + 1)) HDK.symm (by kernel_rfl) ho7 F8 C8 hs8 (by rw [List.nil_append, List.length_append, HTK, HDK]; simp <;> omega) fun v8 w8 ho8 hg8 => ⟨trivial, ?_⟩
              have hb8 := below_grown hb7 hb7.size hg8 (fun k' e => ho7.own_ge e)
              rw [List.nil_append, ← HPN.out] at ho8
              obtain ⟨A9, c9, rfl, hcap9, hirr9⟩ := ho8.irr (by rw [HPN.out, List.length_append, List.length_append, HTK, HDK]; simp <;> omega)
              refine planH_take 12 (v := .slice A9 (putL L a).length c9) rfl (by kernel_rfl) (by kernel_rfl) (by kernel_rfl) (fun _ _ _ h => h) rfl (fun W' _ => by kernel_rfl) trivial ?_
              refine wpAnyH_done (by kernel_rfl) ?_ _
              have HCP9 := Lib.hid hcap9; have HI9 := Lib.hid hirr9; have HB8 := Lib.hid (HBW.out.trans (hb8.mono HBW.out.size))
              clear hcap9 hirr9 hb8 ho8 hg8 hs8 hb7 ho7 hg7
              go_simp
              go_wp2
              all_goals go_ret
              all_goals exact ⟨A9, c9, rfl, HCP9.out, HI9.out, HB8.out⟩
          case o2 =>
            refine wpT_value (v := .slice (some ⟨W2.drew.heap.size, 0, none⟩) 1 1) (w' := W2.drew.alloc (.cells #[.slice A1 n1 c1] 23)) (by go_simp) ⟨trivial, ?_⟩
            have hc6 : (W2.drew.alloc (.cells #[.slice A1 n1 c1] 23)).cell? ⟨W2.drew.heap.size, 0, none⟩ = some (.slice A1 n1 c1) := by rw [World.cell?_alloc_at _ _ _ _ rfl]; rfl
            have hb6 : Below W2.heap.size W2 (W2.drew.alloc (.cells #[.slice A1 n1 c1] 23)) := HB0.alloc (Nat.le_refl _) _
            have hsz6 : W2.drew.heap.size < (W2.drew.alloc (.cells #[.slice A1 n1 c1] 23)).heap.size := by simp
            generalize W2.drew.alloc (.cells #[.slice A1 n1 c1] 23) = w6 at hc6 hb6 hsz6 ⊢
            refine planH_one 0 rfl (by kernel_rfl) (by kernel_rfl) ?_
            refine wpT_value (v := .slice (some ⟨w6.heap.size, 0, none⟩) 0 0) (w' := w6.alloc (.cells #[] 23)) (by go_simp) ⟨trivial, ?_⟩
            have hoA : OwnQ (w6.alloc (.cells #[] 23)) W2.heap.size (.slice (some ⟨w6.heap.size, 0, none⟩) 0 0) [] := OwnQ.made (w := w6) hb6.size
            have hbA : Below W2.heap.size W2 (w6.alloc (.cells #[] 23)) := hb6.alloc hb6.size _
            have hcA : (w6.alloc (.cells #[] 23)).cell? ⟨W2.drew.heap.size, 0, none⟩ = some (.slice A1 n1 c1) := by rw [World.cell?_alloc_past _ _ _ hsz6]; exact hc6
            have hszA : w6.heap.size < (w6.alloc (.cells #[] 23)).heap.size := by simp
            generalize w6.alloc (.cells #[] 23) = wA at hoA hbA hcA hszA ⊢
            refine planH_one 4 rfl (by kernel_rfl) (by kernel_rfl) ?_
            obtain ⟨F4, C4, hs4⟩ := srcQ_take HJ.out hbA (k + 1)
            refine wpT_appendsQ (.tmp 34) (.tmp 37) rfl W2.heap.size _ [] (L.take (k + 1)) (by kernel_rfl) (some ⟨b, off, none⟩) (k + 1) c HTK.symm (by kernel_rfl) hoA F4 C4 hs4 (by rw [HTK]; simp <;> omega) fun v4 w4 ho4 hg4 => ⟨trivial, ?_⟩
            have hb4 := below_grown hbA hbA.size hg4 (fun k' e => hoA.own_ge e)
            have hc4 := (World.cell?_of_block (a := ⟨W2.drew.heap.size, 0, none⟩) (hg4.block W2.drew.heap.size (by omega) (by simp only [Value.ownBlock]; intro e; injection e with e; omega))).trans hcA
            refine planH_one 7 rfl (by kernel_rfl) (by kernel_rfl) ?_
            refine wpT_appendsQ (.tmp 38) (.tmp 40) rfl W2.heap.size _ ([] ++ L.take (k + 1)) [a] (by kernel_rfl) (some ⟨W2.drew.heap.size, 0, none⟩) 1 1 rfl (by kernel_rfl) ho4 _ _ (srcQ_one HN1.out HC1.out HJ1.out hb4 hc4) (by rw [List.nil_append, HTK]; simp <;> omega) fun v7 w7 ho7 hg7 => ⟨trivial, ?_⟩
            have hb7 := below_grown hb4 hb4.size hg7 (fun k' e => ho4.own_ge e)
            obtain ⟨F8, C8, hs8⟩ := srcQ_drop (A' := (if c = k + 1 then some ⟨b, off, none⟩ else some ⟨b, off + (k + 1), none⟩)) (K := k + 1) HJ.out hb7 (fun hlt b' off' e => by injection e with e; injection e with e1 e2 _; subst e1; subst e2; rw [if_neg (by have := HC.out; omega)])
            refine planH_one 11 rfl (by kernel_rfl) (by kernel_rfl) ?_
            refine wpT_appendsQ (.tmp 41) (.tmp 44) rfl W2.heap.size _ (([] ++ L.take (k + 1)) ++ [a]) (L.drop (k + 1)) (by kernel_rfl) (if c = k + 1 then some ⟨b, off, none⟩ else some ⟨b, off + (k + 1), none⟩) (L.length - (k + 1)) (c - (k + 1)) HDK.symm (by kernel_rfl) ho7 F8 C8 hs8 (by rw [List.nil_append, List.length_append, HTK, HDK]; simp <;> omega) fun v8 w8 ho8 hg8 => ⟨trivial, ?_⟩
            have hb8 := below_grown hb7 hb7.size hg8 (fun k' e => ho7.own_ge e)
            rw [List.nil_append, ← HPN.out] at ho8
            obtain ⟨A9, c9, rfl, hcap9, hirr9⟩ := ho8.irr (by rw [HPN.out, List.length_append, List.length_append, HTK, HDK]; simp <;> omega)
            refine planH_take 12 (v := .slice A9 (putL L a).length c9) rfl (by kernel_rfl) (by kernel_rfl) (by kernel_rfl) (fun _ _ _ h => h) rfl (fun W' _ => by kernel_rfl) trivial ?_
            refine wpAnyH_done (by kernel_rfl) ?_ _
            have HCP9 := Lib.hid hcap9; have HI9 := Lib.hid hirr9; have HB8 := Lib.hid (HBW.out.trans (hb8.mono HBW.out.size))
            clear hcap9 hirr9 hb8 ho8 hg8 hs8 hb7 ho7 hg7
            go_simp
            go_wp2
            all_goals go_ret
            all_goals exact ⟨A9, c9, rfl, HCP9.out, HI9.out, HB8.out⟩
end Go.Proofs.Ytkghpmjbclnojab

namespace Go.Proofs.Ytkghpmjbclnojab
open Go.RowKit Go.Shelf

set_option maxRecDepth 100000 in
set_option maxHeartbeats 400000 in
theorem l7Down_cap (A : Option Addr) (n c : Nat) (zs : List Int) (w : World) (h : IR w 0 w.heap.size A zs) (hr : rowB zs = true) (hn : n = zs.length) :
    Calls Try.prog 44 #[.slice A n c] w (RetSC w (downL zs)) := by
  subst hn
  have HL : Hid (zs.length ≤ 1048576) := by have := (rowB_true.1 hr).2; show _ ≤ _; omega
  have H := Lib.hid h
  clear h hr
  go_enter Try.func44, Try.ntmps44
  go_wp2_with fail
  refine (l3Sorted_is A _ c zs _ H.out HL.out rfl).mono ?_
  rintro e w1 ⟨ys, hp, hs, A1, c1, rfl, hi1, hb1⟩
  have HE : Hid (ys.reverse = downL zs) := sorted_down hp hs
  have HI := Lib.hid hi1; have HB := Lib.hid hb1
  clear hp hs hi1 hb1
  go_wp2_with fail
  refine (l1Back_cap A1 c1 _ _ ys _ HI.out.toIR).mono ?_
  rintro e w2 ⟨A2, c2, rfl, hcp2, hi2, hb2⟩
  have HCP2 := Lib.hid hcp2; have HI2 := Lib.hid hi2; have HB2 := Lib.hid hb2
  clear hcp2 hi2 hb2
  go_wp2
  go_ret
  rw [HE.out] at HI2 HCP2
  exact ⟨A2, c2, by rw [← HE.out, List.length_reverse]; rfl, HCP2.out, HI2.out.wide HB.out.size (Nat.le_refl _) (Nat.le_refl _), below_then HB.out (Nat.le_refl _) HB2.out⟩


theorem levIn_mem (a : List Int) (L : List (List Int)) (i : Nat) (hl : ∀ x, x ∈ L → x.length = a.length) (hL : AscB L) (k : Nat) : ∀ x, x ∈ levIn a L i k → x.length = a.length := fun x hx => by
  rcases ((levIn_spec a L i hl hL k).1 x).1 hx with h | ⟨k', -, h⟩
  · exact hl x h
  · exact lev_len h
theorem levTo_mem (a : List Int) (i : Nat) : ∀ x, x ∈ levTo a i → x.length = a.length := fun x hx => by
  obtain ⟨i', k, -, -, h⟩ := ((levTo_spec a i).1 x).1 hx
  exact lev_len h
theorem putL_len (L : List (List Int)) (a : List Int) : (putL L a).length ≤ L.length + 1 := by
  unfold putL
  split
  · omega
  · simp; omega
theorem levIn_len (a : List Int) (L : List (List Int)) (i : Nat) : ∀ k, (levIn a L i k).length ≤ L.length + k
  | 0 => Nat.le_refl _
  | k + 1 => by
    have ih := levIn_len a L i k
    have := putL_len (levIn a L i k) (downL (levelL a i k))
    show (levPut a (levIn a L i k) i k).length ≤ _
    unfold levPut
    split <;> omega
theorem levTo_len (a : List Int) : ∀ i, (levTo a i).length ≤ i * a.length
  | 0 => by simp [levTo]
  | i + 1 => by
    have ih := levTo_len a i
    have := levIn_len a (levTo a i) i a.length
    rw [Nat.succ_mul]
    show (levIn a (levTo a i) i a.length).length ≤ _
    omega
theorem level_row {a : List Int} (h : rowB a = true) {i k : Nat} (hi : i < a.length) (hk : k < a.length) (hl : a.getD k 0 + 2 ≤ a.getD i 0) : rowB (levelL a i k) = true := ev_row (level_ev hi hk hl) h

set_option maxRecDepth 100000 in
set_option maxHeartbeats 4000000 in
theorem specEvenLevels_any (A : Option Addr) (c : Nat) (a : List Int) (w : World) (h : IR w 0 w.heap.size A a) :
    Calls Try.prog 16 #[.slice A a.length c] w (RetTR w (levelsM a)) := by
  have H := Lib.hid h; clear h
  have hb0 : Below w.heap.size w (w.alloc (.cells #[] 23)) := (Below.refl _ _).alloc (Nat.le_refl _) _
  have HB0 := Lib.hid hb0; have H0 := Lib.hid (H.out.grow hb0)
  clear hb0
  cases hr : rowB a with
  | false =>
    have HM : Hid (levelsM a = none) := by show _ = _; simp [levelsM, hr]
    have HR := Lib.hid hr; clear hr
    go_enter Try.func16, Try.ntmps16
    go_wp2_with fail
    refine (specRowIn_false _ _ _ _ a _ H0.out HR.out).mono ?_; rintro e w' ⟨rfl, rfl⟩
    go_wp2
    go_ret2
    rw [HM.out]
    exact ⟨_, 0, rfl, ⟨by simp, Nat.le_refl _, fun k hk => absurd hk (by simp)⟩, HB0.out⟩
  | true =>
    have HM : Hid (levelsM a = some (levTo a a.length)) := by show _ = _; simp [levelsM, hr, levelsL]
    have hlb := (rowB_true.1 hr).2
    have HBD := Lib.hid (rowB_true.1 hr).1
    have HR := Lib.hid hr; clear hr
    have HS0 : Hid (IRR (w.alloc (.cells #[] 23)) 0 (w.alloc (.cells #[] 23)).heap.size (some ⟨w.heap.size, 0, none⟩) (levTo a 0)) := ⟨by simp [levTo], Nat.le_refl _, fun k hk => absurd hk (by simp [levTo])⟩
    obtain ⟨n, hn⟩ : ∃ n, a.length = n := ⟨_, rfl⟩
    have HN := Lib.hid hn
    rw [hn] at hlb HM
    rw [hn]
    clear hn
    go_enter Try.func16, Try.ntmps16
    go_wp2_with fail
    refine (specRowIn_n _ _ _ _ a _ H0.out HR.out HN.out).mono ?_; rintro e w' ⟨rfl, rfl⟩
    go_wp2
    go_loopw [4, 5] (fun v x wr => ∃ (i : Nat) (A' : Option Addr) (c' : Nat), i ≤ n ∧ x = .int .i64 (i : Int) ∧ v = .slice A' (levTo a i).length c' ∧ ((levTo a i).length ≤ c' ∧ c' ≤ 9223372036854775807) ∧ IRR wr 0 wr.heap.size A' (levTo a i) ∧ Below w.heap.size w wr) (fun _ x _ => n - (intOf x).toNat)
    case atStart => exact ⟨0, _, 0, Nat.zero_le _, rfl, rfl, ⟨Nat.le_refl _, by omega⟩, HS0.out, HB0.out⟩
    case round =>
      obtain ⟨W, hW⟩ : ∃ W, W = wr := ⟨_, rfl⟩
      subst hW
      obtain ⟨i, A', c', hi, rfl, rfl, hcp, hs, hb⟩ := hrel
      have HCP := Lib.hid hcp; have HS := Lib.hid hs; have HB := Lib.hid hb
      clear hcp hs hb HS0
      by_cases hlt : i < n
      · have hlt' : (i : Int) < (n : Int) := by omega
        have HLT := Lib.hid (levTo_mem a i); have HLA := Lib.hid (levTo_spec a i).2
        have HLN : Hid ((levTo a i).length ≤ 144) := by
          have h1 := levTo_len a i
          rw [HN.out] at h1
          have h2 : i * n ≤ 12 * 12 := Nat.mul_le_mul (by omega) (by omega)
          show _ ≤ _; omega
        have HN1 : Hid (levTo a (i + 1) = levIn a (levTo a i) i n) := by show _ = _; rw [← HN.out]; rfl
        obtain ⟨L, hL⟩ : ∃ L, levTo a i = L := ⟨_, rfl⟩
        rw [hL] at HCP HS HLT HLA HLN HN1
        rw [hL]
        clear hL
        go_wp2
        go_loopw [4, 6] (fun v x wr => ∃ (k : Nat) (A' : Option Addr) (c' : Nat), k ≤ n ∧ x = .int .i64 (k : Int) ∧ v = .slice A' (levIn a L i k).length c' ∧ ((levIn a L i k).length ≤ c' ∧ c' ≤ 9223372036854775807) ∧ IRR wr 0 wr.heap.size A' (levIn a L i k) ∧ Below w.heap.size w wr) (fun _ x _ => n - (intOf x).toNat)
        case atStart => exact ⟨0, A', c', Nat.zero_le _, rfl, rfl, HCP.out, HS.out, HB.out⟩
        case round =>
          clear HCP HS HB
          obtain ⟨V, hV⟩ : ∃ V, V = wr := ⟨_, rfl⟩
          subst hV
          obtain ⟨k, A', c', hk, rfl, rfl, hcp, hs, hb⟩ := hrel
          have HCP := Lib.hid hcp; have HS := Lib.hid hs; have HB := Lib.hid hb
          have HA := Lib.hid (H.out.below hb (Nat.le_refl _))
          clear hcp hs hb
          by_cases hkt : k < n
          · have hil : i < a.length := by rw [HN.out]; exact hlt
            have hkl : k < a.length := by rw [HN.out]; exact hkt
            obtain ⟨ba, oa, hAe, _, _, hca⟩ := HA.out.at_ hil
            obtain ⟨bb, ob, hAe2, _, _, hcb⟩ := HA.out.at_ hkl
            have HLM := Lib.hid (levIn_mem a L i HLT.out HLA.out k)
            have HLL : Hid ((levIn a L i k).length < 1000) := by have h1 := levIn_len a L i k; have := HLN.out; show _ < _; omega
            have HST : Hid (levIn a L i (k + 1) = levPut a (levIn a L i k) i k) := rfl
            have g1 := HBD.out _ (List.getElem_mem hil)
            have g2 := HBD.out _ (List.getElem_mem hkl)
            have HXD : Hid (a.getD i 0 = a[i]) := getD_in hil
            have HYD : Hid (a.getD k 0 = a[k]) := getD_in hkl
            obtain ⟨x, hx⟩ : ∃ x, a[i] = x := ⟨_, rfl⟩
            obtain ⟨y, hy⟩ : ∃ y, a[k] = y := ⟨_, rfl⟩
            rw [hx] at hca HXD g1
            rw [hy] at hcb HYD g2
            have HX := Lib.hid hx; have HY := Lib.hid hy
            obtain ⟨M, hM⟩ : ∃ M, levIn a L i k = M := ⟨_, rfl⟩
            rw [hM] at HCP HS HLM HLL HST
            rw [hM]
            rw [hAe] at hAe2
            injection hAe2 with e; injection e with e1 e2 _; subst e1; subst e2
            have HAE := Lib.hid hAe
            have s1 : IntKind.i64.wrap (y + 2) = y + 2 := IntWalk.i64_in _ (by omega)
            have hkt' : (k : Int) < (n : Int) := by omega
            have i0 : (0 : Int) ≤ (i : Int) := by omega
            have k0 : (0 : Int) ≤ (k : Int) := by omega
            clear hx hy hM
            subst hAe
            by_cases hge : y + 2 ≤ x
            · have hge' : x ≥ y + 2 := hge
              have HPL : Hid (levPut a M i k = putL M (downL (levelL a i k))) := by show _ = _; unfold levPut; rw [HXD.out, HYD.out, if_pos hge]
              have hik : i ≠ k := fun e => by subst e; have := HX.out; have := HY.out; omega
              have HLR := Lib.hid (level_row HR.out hil hkl (by rw [HXD.out, HYD.out]; exact hge))
              have HDL : Hid ((downL (levelL a i k)).length = a.length) := by show _ = _; rw [down_len, level_len]
              have HLV : Hid (levelL a i k = (a.set i (x - 1)).set k (y + 1)) := by show _ = _; unfold levelL; rw [HXD.out, HYD.out]
              have HIK := Lib.hid hik
              have s2 : IntKind.i64.wrap (x - 1) = x - 1 := IntWalk.i64_in _ (by omega)
              have s3 : IntKind.i64.wrap (y + 1) = y + 1 := IntWalk.i64_in _ (by omega)
              go_wp2
              go_quiet (fail)
              go_wp2_with (at_builtin; refine wpList_appendsI rfl _ _ rfl V.heap.size _ [] a _ _ _ n c HN.out.symm rfl rfl (OwnI.made (V.drewN _)) ((HA.out.drewN _).grow ((Below.refl _ _).alloc (Nat.le_refl _) _)) (by have := HN.out; simp; omega) ?_; intro v1 W1 ho1 hb1; obtain ⟨A1, c1, rfl, hi1, hcap1⟩ := ho1.iwc (n := n) HN.out (by omega); obtain ⟨b1, o1, rfl, hlo, hhi, hcs⟩ := hi1.2.2.2 (show 0 < a.length by omega); have HC1 : Hid (Cells W1 b1 o1 a) := hcs; have HI1 := Lib.hid hi1.2.1; obtain ⟨ci, fi⟩ := HC1.out i hil; rw [HX.out] at ci; have HC2 := Lib.hid (HC1.out.set_ i hil (x - 1)); obtain ⟨ck, fk⟩ := HC2.out k (by rw [List.length_set]; exact hkl); rw [List.getElem_set_ne hik, HY.out] at ck; have HC3 := Lib.hid (HC2.out.set_ k (by rw [List.length_set]; exact hkl) (y + 1)); rw [← HLV.out] at HC3; have HBV := Lib.hid (((below_drawN (Below.refl V.heap.size V) _).alloc (Nat.le_refl _) (.cells #[] 3)).trans hb1); have HCAP1 := Lib.hid hcap1; clear ho1 hb1 hi1 hcap1 hcs hca hcb)
              have hW3s : ((W1.setCell ⟨b1, o1 + i, none⟩ (.int .i64 (x - 1))).setCell ⟨b1, o1 + k, none⟩ (.int .i64 (y + 1))).heap.size = W1.heap.size := by simp [World.setCell]
              have HB3 : Hid (Below V.heap.size V ((W1.setCell ⟨b1, o1 + i, none⟩ (.int .i64 (x - 1))).setCell ⟨b1, o1 + k, none⟩ (.int .i64 (y + 1)))) := (HBV.out.setCell (p := ⟨b1, o1 + i, none⟩) hlo _).setCell (p := ⟨b1, o1 + k, none⟩) hlo _
              obtain ⟨W3, hW3⟩ : ∃ W3, (W1.setCell ⟨b1, o1 + i, none⟩ (.int .i64 (x - 1))).setCell ⟨b1, o1 + k, none⟩ (.int .i64 (y + 1)) = W3 := ⟨_, rfl⟩
              rw [hW3] at HC3 HB3 hW3s
              rw [hW3]
              have HNX := Lib.hid (HC3.out.iw (n := n) (lo := 0) (hi := W3.heap.size) (by rw [level_len, HN.out]) (Nat.zero_le _) (by omega) (Nat.le_refl _) (by omega) (fun z hz => i64_of_fits ((rowB_true.1 HLR.out).1 z hz))).toIR
              have HNL : Hid (n = (levelL a i k).length) := by show _ = _; rw [level_len, HN.out]
              have HS3 := Lib.hid (HS.out.below HB3.out (Nat.le_refl _)); have HA3 := Lib.hid (HA.out.below HB3.out (Nat.le_trans (by have := HB.out.size; omega) (Nat.le_refl _)))
              clear hW3 HC1 HC2 HC3 HBV ci fi ck fk
              go_wp2_with fail
              refine (l7Down_cap _ n c1 (levelL a i k) W3 HNX.out HLR.out HNL.out).mono ?_
              rintro e W4 ⟨A4, c4, rfl, hcp4, hi4, hb4⟩
              have HS4 := Lib.hid (HS3.out.below hb4 HB3.out.size)
              have HI4 := Lib.hid hi4.toAll; have HCP4 := Lib.hid hcp4; have HB4 := Lib.hid (HB3.out.trans (hb4.mono HB3.out.size))
              clear hcp4 hi4 hb4 HS3 HNX
              rw [HDL.out] at HCP4
              obtain ⟨d, hd⟩ : ∃ d, downL (levelL a i k) = d := ⟨_, rfl⟩
              rw [hd] at HI4 HPL HDL
              rw [hd, HDL.out]
              clear hd
              go_wp2_with fail
              refine (l7Put_any A' c' M A4 c4 _ d W4 HS4.out.toAll HCP.out HI4.out HDL.out.symm HCP4.out HLL.out (fun x hx => by rw [HLM.out x hx, HDL.out]) (by rw [HDL.out, HN.out]; omega)).mono ?_
              rintro e W5 ⟨A5, c5, rfl, hcp5, hi5, hb5⟩
              rw [← HPL.out, ← HST.out] at hcp5 hi5
              rw [← HPL.out, ← HST.out]
              have HCP5 := Lib.hid hcp5; have HI5 := Lib.hid hi5; have HB5 := Lib.hid (HB.out.trans ((HB4.out.trans (hb5.mono HB4.out.size)).mono HB.out.size))
              clear hcp5 hi5 hb5
              go_wp2
              go_roundw
              case rel => exact ⟨k + 1, A5, c5, by omega, by go_num, rfl, HCP5.out, HI5.out, HB5.out⟩
              case measure => simp [intOf]; omega
            · have HPL : Hid (levPut a M i k = M) := by show _ = _; unfold levPut; rw [HXD.out, HYD.out, if_neg hge]
              have hge' : ¬ x ≥ y + 2 := hge
              go_wp2
              go_quiet (fail)
              go_wp2
              go_roundw
              case rel => exact ⟨k + 1, A', c', by omega, by go_num, by rw [HST.out, HPL.out], by rw [HST.out, HPL.out]; exact HCP.out, by rw [HST.out, HPL.out]; exact (HS.out.drewN _).toAll, below_drawN HB.out _⟩
              case measure => simp [intOf]; omega
          · obtain rfl : k = n := by omega
            have HE : Hid (levIn a L i k = levTo a (i + 1)) := HN1.out.symm
            have hlt2 : ¬ (k : Int) < (k : Int) := by omega
            go_wp2
            go_roundw
            case rel => exact ⟨i + 1, A', c', by omega, by go_num, by rw [HE.out], by rw [← HE.out]; exact HCP.out, by rw [← HE.out]; exact HS.out, HB.out⟩
            case measure => simp [intOf]; omega
      · obtain rfl : i = n := by omega
        have hlt' : ¬ (i : Int) < (i : Int) := by omega
        go_wp2
        go_ret2
        rw [HM.out]
        exact ⟨A', c', rfl, HS.out, HB.out⟩
end Go.Proofs.Ytkghpmjbclnojab
