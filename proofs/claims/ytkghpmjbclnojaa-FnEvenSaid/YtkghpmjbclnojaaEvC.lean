/-
  EvenLevels of the model: lists of rows that are read, l7Before, l7Put. Conditions: the lists' cells are there.
-/
import Derived.Test.YtkghpmjbclnojaaEvA
import Derived.Test.YtkghpmjbclnojaaEvM
import Derived.Test.YtkghpmjbclnojaaTabA
import Derived.Test.YtkghpmjbclnojaaDraw2
import Derived.Deep.RegionHeld
import Derived.Deep.QuietTactic
import Derived.BigQuiet
namespace Go.Proofs.Ytkghpmjbclnojaa
open Go.RowKit Go.Shelf Go.ChangeShapes Go.WideShapes
attribute [local go_sem] Oper.semAt_some

set_option maxHeartbeats 1000000 in
theorem l1Back_cap (A : Option Addr) (c lo hi : Nat) (zs : List Int) (w : World) (h : IR w lo hi A zs) :
    Calls Try.prog 113 #[.slice A zs.length c] w (RetSC w zs.reverse) := by
  have hl := h.1
  have HR : Hid (zs.reverse.length = zs.length) := List.length_reverse ..
  have hm1 : -9000000000000000000 ≤ (zs.length : Int) - 1 := by omega
  have hm2 : (zs.length : Int) - 1 ≤ 9000000000000000000 := by omega
  go_enter Try.func113, Try.ntmps113
  go_wp2
  go_loopw [3, 4] (fun v i wr => ∃ k : Nat, k ≤ zs.length ∧ i = .int .i64 ((zs.length : Int) - 1 - (k : Int)) ∧ OwnI wr w.heap.size v (zs.reverse.take k) ∧ Below w.heap.size w wr) (fun _ i _ => (intOf i + 1).toNat)
  case atStart => exact ⟨0, Nat.zero_le _, by simp, by simpa using OwnI.made w, (Below.refl _ _).alloc (Nat.le_refl _) _⟩
  case round =>
    obtain ⟨k, hk, rfl, ho, hb⟩ := hrel
    have HO := Lib.hid ho; have HBl := Lib.hid hb
    clear ho hb
    by_cases hlt : k < zs.length
    · obtain ⟨j, hj⟩ : ∃ j : Nat, (zs.length : Int) - 1 - (k : Int) = (j : Int) := ⟨zs.length - 1 - k, by omega⟩
      have hjl : j < zs.length := by omega
      have hje : zs.length - 1 - k = j := by omega
      have hget : zs.reverse[k]'(by simpa using hlt) = zs[j] := by simp [hje]
      have HGT := Lib.hid hget
      obtain ⟨b, off, rfl, _, _, hc⟩ := (h.below HBl.out h.2.2.1).at_ hjl
      have HY := Lib.hid (h.i64 hjl)
      have hlen : (zs.reverse.take k).length < 17592186044416 := by simp; omega
      have HLn := Lib.hid hlen
      have HT := Lib.hid (take_snoc zs.reverse k (by simpa using hlt))
      have HJ := Lib.hid hj
      rw [hj]
      have j1 : (j : Int) < (zs.length : Int) := by omega
      have j0 : (0 : Int) ≤ (j : Int) := by omega
      have hjb : (j : Int) ≤ 9000000000000000000 := by omega
      clear hj hje hget hlen h
      go_wp2_with (at_builtin; refine wpList_push rfl _ _ rfl w.heap.size _ _ rfl rfl HO.out HLn.out HY.out ?_; intro v1 w1 ho1 hb1)
      have ho1' : OwnI w1 w.heap.size v1 (zs.reverse.take (k + 1)) := by rw [← HT.out, HGT.out]; exact ho1
      have HO1 := Lib.hid ho1'; have HB1 := Lib.hid hb1
      clear ho1 ho1' hb1 hc
      go_roundw
      case rel => exact ⟨k + 1, by omega, by have := HJ.out; first | (congr 1; omega) | congr 1, HO1.out, HBl.out.trans HB1.out⟩
      case measure => first | (simp [intOf]; omega) | simp [intOf]
    · obtain rfl : k = zs.length := by omega
      have ho := HO.out
      rw [List.take_of_length_le (by simp)] at ho
      obtain ⟨A', c', rfl, hiw, hcap⟩ := ho.iwc HR.out hl
      have HIW := Lib.hid hiw; have HCAP := Lib.hid hcap
      have hneg : (zs.length : Int) - 1 - (zs.length : Int) = -1 := by omega
      rw [hneg]
      clear hiw hcap ho HO hneg h
      go_wp2
      go_ret
      exact ⟨A', c', by rw [HR.out]; rfl, by rw [HR.out]; exact HCAP.out, HIW.out, HBl.out⟩


/- The plain walk: a region under a condition S on the world, by hand. -/
section
variable {P : Program} {ops : Array Oper} {Q : Exit → Act → World → Prop} {S : World → Prop} {md : Region.Mode}
set_option maxRecDepth 100000 in
theorem planH_take (i : Nat) {oi : Oper} {v : Value} {fuel : Nat} {listed : Array Bool} {a : Act} {w : World} (hi : ops[i]? = some oi)
    (hs : Region.noSelect ops = true) (hf : Region.free md ops listed i = true) (hr : (Region.ready md ops listed).contains i = true)
    (hQ : ∀ c a w, Q (.panic c) (a.put oi.dst v) w → Q (.panic c) a w) (hg : oi.guard = none) (hy : ∀ w, S w → (execOp a.eval oi).run P w = .ok (.value v) w) (hS : S w)
    (h : wpAnyH P md ops Q S fuel (listed.setIfInBounds i true) (a.put oi.dst v) w) : wpAnyH P md ops Q S (fuel + 1) listed a w :=
  wpAnyH_take hi hs hf hr hQ (.inl ⟨by simp [Region.wanted, hg], hy⟩) hS h
set_option maxRecDepth 100000 in
theorem planH_takeW (i : Nat) {oi : Oper} {v : Value} {fuel : Nat} {listed : Array Bool} {a : Act} {w : World} (hi : ops[i]? = some oi)
    (hs : Region.noSelect ops = true) (hf : Region.free md ops listed i = true) (hr : (Region.ready md ops listed).contains i = true)
    (hQ : ∀ c a w, Q (.panic c) (a.put oi.dst v) w → Q (.panic c) a w) (hw : Region.wanted oi (yielded ops a.tmps) = true) (hy : ∀ w, S w → (execOp a.eval oi).run P w = .ok (.value v) w) (hS : S w)
    (h : wpAnyH P md ops Q S fuel (listed.setIfInBounds i true) (a.put oi.dst v) w) : wpAnyH P md ops Q S (fuel + 1) listed a w :=
  wpAnyH_take hi hs hf hr hQ (.inl ⟨hw, hy⟩) hS h
set_option maxRecDepth 100000 in
theorem planH_skip (i : Nat) {oi : Oper} {fuel : Nat} {listed : Array Bool} {a : Act} {w : World} (hi : ops[i]? = some oi)
    (hs : Region.noSelect ops = true) (hf : Region.free md ops listed i = true) (hr : (Region.ready md ops listed).contains i = true)
    (hQ : ∀ c a w, Q (.panic c) (a.put oi.dst undef) w → Q (.panic c) a w) (hw : Region.wanted oi (yielded ops a.tmps) = false) (hS : S w)
    (h : wpAnyH P md ops Q S fuel (listed.setIfInBounds i true) (a.put oi.dst undef) w) : wpAnyH P md ops Q S (fuel + 1) listed a w :=
  wpAnyH_take hi hs hf hr hQ (.inr ⟨hw, rfl⟩) hS h
/-- A step, closed: nobody runs it to see what it is. -/
structure WpT (P : Program) (o : Oper) (a : Act) (w : World) (K : Act → World → Prop) (Q : Exit → Act → World → Prop) : Prop where
  out : o.wp P a w K Q
set_option maxRecDepth 100000 in
theorem planH_one (i : Nat) {oi : Oper} {fuel : Nat} {listed : Array Bool} {a : Act} {w : World} (hi : ops[i]? = some oi) (hg : Region.wanted oi (yielded ops a.tmps) = true) (hr : Region.ready md ops listed = [i])
    (h : WpT P oi a w (fun a' w' => S w' ∧ wpAnyH P md ops Q S fuel (listed.setIfInBounds i true) a' w') Q) : wpAnyH P md ops Q S (fuel + 1) listed a w :=
  wpAnyH_all hr (by simp) fun j hj => by
    obtain rfl := List.mem_singleton.1 hj
    unfold wpOp
    simp only [hi]
    rw [if_pos hg]
    exact .inl h.out
set_option maxRecDepth 100000 in
/-- Two may come up: each way. -/
theorem planH_two (i j : Nat) {fuel : Nat} {listed : Array Bool} {a : Act} {w : World} (hr : Region.ready md ops listed = [i, j])
    (h : wpOp P ops Q i (fun a' w' => S w' ∧ wpAnyH P md ops Q S fuel (listed.setIfInBounds i true) a' w') a w)
    (h' : wpOp P ops Q j (fun a' w' => S w' ∧ wpAnyH P md ops Q S fuel (listed.setIfInBounds j true) a' w') a w) : wpAnyH P md ops Q S (fuel + 1) listed a w :=
  wpAnyH_all hr (by simp) fun k hk => by
    rcases List.mem_cons.1 hk with rfl | hk
    · exact h
    · obtain rfl := List.mem_singleton.1 hk; exact h'
set_option maxRecDepth 100000 in
theorem wpT_value {o : Oper} {a : Act} {w w' : World} {K : Act → World → Prop} {v : Value} (hr : (execOp a.eval o).run P w = .ok (.value v) w') (h : K (a.put o.dst v) w') : WpT P o a w K Q := by
  refine ⟨?_⟩
  unfold Oper.wp
  rw [hr]
  exact h
end
/-! ### a list of rows that are only read -/
/-- A list of rows of the call's own (its cells lie from base on) whose rows are read only and lie below base. -/
def OwnQ (w : World) (base : Nat) (v : Value) (zss : List (List Int)) : Prop :=
  base ≤ w.heap.size ∧ ∃ (F : Nat → Option Addr) (C : Nat → Nat), w.ownsRow base 26 1 v zss.length (rowsV zss F C) ∧
    ∀ (k : Nat) (hk : k < zss.length), (zss[k].length ≤ C k ∧ C k ≤ 9223372036854775807) ∧ IR w 0 base (F k) zss[k]
theorem OwnQ.made {w : World} {base : Nat} (h : base ≤ w.heap.size) : OwnQ (w.alloc (.cells #[] 26)) base (.slice (some ⟨w.heap.size, 0, none⟩) 0 0) [] :=
  ⟨by simp; omega, fun _ => none, fun _ => 0, World.ownsRow_made w #[] 0 h (by unfold maxLen; omega) rfl, fun k hk => absurd hk (by simp)⟩
theorem OwnQ.grown {w w' : World} {base : Nat} {v : Value} {zss : List (List Int)} (h : OwnQ w base v zss) (hb : Below w.heap.size w w') : OwnQ w' base v zss := by
  obtain ⟨h1, F, K, ho, hr⟩ := h
  refine ⟨Nat.le_trans h1 hb.size, F, K, ⟨ho.1, ?_⟩, fun k hk => ⟨(hr k hk).1, (hr k hk).2.below hb h1⟩⟩
  rcases ho.2 with h0 | ⟨g, cap, cur, e, hg2, hh, r⟩
  · exact .inl h0
  · exact .inr ⟨g, cap, cur, e, hg2, (hb.block g (Array.getElem?_eq_some_iff.1 hh).1).trans hh, r⟩
theorem OwnQ.irr {w : World} {base : Nat} {v : Value} {zss : List (List Int)} (h : OwnQ w base v zss) (hl : zss.length ≤ 17592186044416) : ∃ A c, v = .slice A zss.length c ∧ (zss.length ≤ c ∧ c ≤ 9223372036854775807) ∧ IRR w 0 w.heap.size A zss := by
  obtain ⟨h1, F, K, ho, hr⟩ := h
  have hcell := ho
  rcases ho.2 with ⟨rfl, h0⟩ | ⟨g, cap, cur, rfl, hgb, hh, hn, hcap, hs, ht⟩
  · have : zss = [] := List.eq_nil_of_length_eq_zero h0
    subst this
    exact ⟨none, 0, rfl, ⟨Nat.le_refl _, by omega⟩, by simp, Nat.le_refl _, fun k hk => absurd hk (by simp)⟩
  · refine ⟨some ⟨g, 0, none⟩, cap, rfl, ⟨hn, by unfold maxLen at hcap; omega⟩, hl, Nat.le_refl _, fun k hk => ⟨g, 0, F k, K k, rfl, Nat.zero_le _, (Array.getElem?_eq_some_iff.1 hh).1, ?_, (hr k hk).1, (hr k hk).2.wide (Nat.le_refl _) h1 (Nat.le_refl _)⟩⟩
    have := hcell.cellAt k (by simpa using hk)
    rw [rowsV_get _ _ _ _ hk] at this
    simpa using this
theorem OwnQ.own_ge {w : World} {base : Nat} {v : Value} {zss : List (List Int)} (h : OwnQ w base v zss) {k : Nat} (e : v.ownBlock = some k) : base ≤ k := by
  obtain ⟨_, F, K, ho, _⟩ := h
  exact (ho.lt k e).1
set_option maxRecDepth 100000 in
/-- Rows put behind: whatever list of rows reads as ys. -/
theorem run_appendsQ (w : World) (base : Nat) (v : Value) (zss ys : List (List Int)) (hown : OwnQ w base v zss) (A : Option Addr) (c : Nat) (F' : Nat → Option Addr) (C' : Nat → Nat)
    (hc : ∀ (k : Nat) (hk : k < ys.length), ∃ b off, A = some ⟨b, off, none⟩ ∧ w.cell? ⟨b, off + k, none⟩ = some (.slice (F' k) ys[k].length (C' k)))
    (hr : ∀ (k : Nat) (hk : k < ys.length), (ys[k].length ≤ C' k ∧ C' k ≤ 9223372036854775807) ∧ IR w 0 base (F' k) ys[k]) (hl : zss.length + ys.length < 1000000) (ty : TypeId) :
    ∃ v' w', (Builtin.append_ #[23, 23] ty #[v, .slice A ys.length c]).run Try.prog w = .ok v' w' ∧ OwnQ w' base v' (zss ++ ys) ∧ w.grownBy w' v.ownBlock := by
  obtain ⟨i0, hi0, hz0, hz1, hz2⟩ := info_parts info_row
  rcases Nat.eq_zero_or_pos ys.length with h0 | h0
  · have hy : ys = [] := List.eq_nil_of_length_eq_zero h0
    subst hy
    have hs : ∃ A' c', v = .slice A' zss.length c' ∧ zss.length ≤ c' := by
      obtain ⟨_, F, K, ho, _⟩ := hown
      rcases ho.2 with ⟨rfl, h0⟩ | ⟨g, cap, cur, rfl, hgb, hh, hn, _⟩
      · exact ⟨none, 0, by rw [h0], by omega⟩
      · exact ⟨_, cap, rfl, hn⟩
    obtain ⟨A', c', rfl, hle⟩ := hs
    refine ⟨_, _, run_append_nothing w 23 23 ty 26 i0 Try.underlying23 hi0 A' zss.length c' hle _ ?_, by simpa using hown, ⟨rfl, rfl, rfl, Nat.le_refl _, fun _ _ _ => rfl⟩⟩
    cases A with
    | none => exact Src.ofNil w Try.underlying23 c
    | some a => exact Src.ofSlice w Try.underlying23 a 0 c [] (by simp) (by simp) (by simp)
  · obtain ⟨b, off, rfl, _⟩ := hc 0 h0
    obtain ⟨h1, F, K, ho, hrr⟩ := hown
    obtain ⟨v', w', hrun, e2, e3, _, e5⟩ := run_append_own_at (P := Try.prog) w base 23 ty 26 i0 (.slice none 0 0) 1 24 Try.underlying23 hi0 hz0 hz1 hz2 rfl (by decide) v zss.length (rowsV zss F K) ho ⟨b, off, none⟩ ys.length c (rowsV ys F' C') (by simp [rowsV_len])
      (fun j u hj => by
        by_cases hjl : j < ys.length
        · rw [rowsV_get _ _ _ _ hjl] at hj
          obtain ⟨b', off', e, hcell⟩ := hc j hjl
          injection e with e; injection e with e1 e2 _; subst e1; subst e2
          injection hj with hj
          rw [← hj, add_plain]; exact hcell
        · rw [List.getElem?_eq_none (by rw [rowsV_len]; omega)] at hj; cases hj) (by
        intro u hu
        unfold rowsV at hu
        obtain ⟨k, _, rfl⟩ := List.mem_map.1 hu
        rfl) (by unfold maxLen; omega) (by omega) (by omega)
    have hB : Below base w w' := (Below.refl base w).grown e3 (by omega) fun k hk => (ho.lt k hk).1
    have hlen : (zss ++ ys).length = zss.length + ys.length := by simp
    refine ⟨v', w', hrun, ⟨Nat.le_trans h1 e3.size, fun k => if k < zss.length then F k else F' (k - zss.length), fun k => if k < zss.length then K k else C' (k - zss.length), ?_, ?_⟩, e3⟩
    · rw [hlen]
      have e : rowsV (zss ++ ys) (fun k => if k < zss.length then F k else F' (k - zss.length)) (fun k => if k < zss.length then K k else C' (k - zss.length)) = rowsV zss F K ++ rowsV ys F' C' := by
        apply List.ext_getElem?
        intro k
        by_cases hk : k < zss.length
        · rw [rowsV_get _ _ _ _ (by rw [hlen]; omega), List.getElem?_append_left (by rw [rowsV_len]; exact hk), rowsV_get _ _ _ _ hk, if_pos hk, if_pos hk, List.getElem_append_left hk]
        · by_cases hk2 : k < zss.length + ys.length
          · rw [rowsV_get _ _ _ _ (by rw [hlen]; omega), List.getElem?_append_right (by rw [rowsV_len]; omega), rowsV_len, rowsV_get _ _ _ _ (show k - zss.length < ys.length by omega), if_neg hk, if_neg hk, List.getElem_append_right (by omega)]
          · rw [List.getElem?_eq_none (by rw [rowsV_len, hlen]; omega), List.getElem?_eq_none (by simp [rowsV_len]; omega)]
      rw [e]
      exact e2
    · intro k hk
      rw [hlen] at hk
      by_cases hk2 : k < zss.length
      · simp only [if_pos hk2]
        rw [show (zss ++ ys)[k]'(by rw [hlen]; omega) = zss[k] from List.getElem_append_left hk2]
        exact ⟨(hrr k hk2).1, (hrr k hk2).2.below hB (Nat.le_refl _)⟩
      · simp only [if_neg hk2]
        rw [show (zss ++ ys)[k]'(by rw [hlen]; omega) = ys[k - zss.length]'(by omega) from List.getElem_append_right (by omega)]
        exact ⟨(hr _ (by omega)).1, (hr _ (by omega)).2.below hB (Nat.le_refl _)⟩
theorem IRR.parts {w : World} {lo hi : Nat} {A : Option Addr} {zss : List (List Int)} (h : IRR w lo hi A zss) : ∃ (F : Nat → Option Addr) (C : Nat → Nat), ∀ (k : Nat) (hk : k < zss.length), (∃ b off, A = some ⟨b, off, none⟩ ∧ lo ≤ b ∧ b < hi ∧ w.cell? ⟨b, off + k, none⟩ = some (.slice (F k) zss[k].length (C k))) ∧ (zss[k].length ≤ C k ∧ C k ≤ 9223372036854775807) ∧ IR w lo hi (F k) zss[k] := by
  have : ∀ k : Nat, ∃ p : Option Addr × Nat, ∀ (hk : k < zss.length), (∃ b off, A = some ⟨b, off, none⟩ ∧ lo ≤ b ∧ b < hi ∧ w.cell? ⟨b, off + k, none⟩ = some (.slice p.1 zss[k].length p.2)) ∧ (zss[k].length ≤ p.2 ∧ p.2 ≤ 9223372036854775807) ∧ IR w lo hi p.1 zss[k] := by
    intro k
    by_cases hk : k < zss.length
    · obtain ⟨b, off, Ak, ck, e, h1, h2, h3, h4, h5⟩ := h.2.2 k hk
      exact ⟨(Ak, ck), fun _ => ⟨⟨b, off, e, h1, h2, h3⟩, h4, h5⟩⟩
    · exact ⟨(none, 0), fun h => absurd h hk⟩
  obtain ⟨f, hf⟩ := Classical.axiomOfChoice this
  exact ⟨fun k => (f k).1, fun k => (f k).2, fun k hk => hf k hk⟩
end Go.Proofs.Ytkghpmjbclnojaa

namespace Go.Proofs.Ytkghpmjbclnojaa
open Go.RowKit Go.Shelf

theorem bef_cons (x y : Int) (l m : List Int) : befB (x :: l) (y :: m) = if x = y then befB l m else decide (x < y) := rfl
theorem drewN_two (w : World) (m n : Nat) : (w.drewN m).drewN n = w.drewN (m + n) := by simp [World.drewN, Nat.add_assoc]
theorem bef_eq {a b : List Int} : ∀ k : Nat, a.length = b.length → k ≤ a.length → (∀ i, i < k → a.getD i 0 = b.getD i 0) → befB a b = befB (a.drop k) (b.drop k)
  | 0, _, _, _ => rfl
  | k + 1, hl, hk, h => by
    rw [bef_eq k hl (by omega) fun i hi => h i (by omega)]
    have h1 : k < a.length := by omega
    have h2 : k < b.length := by omega
    have e := h k (by omega)
    rw [getD_in h1, getD_in h2] at e
    rw [List.drop_eq_getElem_cons h1, List.drop_eq_getElem_cons h2, bef_cons, if_pos e]
theorem bef_ne {a b : List Int} {k : Nat} (hl : a.length = b.length) (hk : k < a.length) (h : ∀ i, i < k → a.getD i 0 = b.getD i 0) {x y : Int} (hx : a[k] = x) (hy : b.getD k 0 = y) (hne : x ≠ y) : befB a b = decide (x < y) := by
  rw [bef_eq k hl (by omega) h, List.drop_eq_getElem_cons hk, List.drop_eq_getElem_cons (show k < b.length by omega)]
  rw [getD_in (show k < b.length by omega)] at hy
  rw [bef_cons, hx, hy, if_neg hne]
theorem bef_all {a b : List Int} (hl : a.length = b.length) (h : ∀ i, i < a.length → a.getD i 0 = b.getD i 0) : befB a b = false := by
  rw [bef_eq a.length hl (Nat.le_refl _) h, List.drop_length]
  rfl

theorem putAt_zero (L : List (List Int)) (a : List Int) : putAt L a 0 = 0 := rfl
theorem putAt_succ (L : List (List Int)) (a : List Int) (k : Nat) : putAt L a (k + 1) = if befB a (L.getD k []) then putAt L a k else k + 1 := rfl
theorem putL_old {L : List (List Int)} {a : List Int} {P : Nat} (hP : putAt L a L.length = P) (h0 : 0 < P) (h : befB (L.getD (P - 1) []) a = false) : putL L a = L := by
  unfold putL; rw [hP, if_pos ⟨h0, h⟩]
theorem putL_new {L : List (List Int)} {a : List Int} {P : Nat} (hP : putAt L a L.length = P) (h : P = 0 ∨ befB (L.getD (P - 1) []) a = true) : putL L a = L.take P ++ [a] ++ L.drop P := by
  unfold putL; rw [hP, if_neg]
  rintro ⟨h1, h2⟩
  rcases h with h | h
  · omega
  · rw [h] at h2; cases h2

/-- Rows that may be put behind. -/
structure SrcQ (w : World) (base : Nat) (A : Option Addr) (ys : List (List Int)) (F : Nat → Option Addr) (C : Nat → Nat) : Prop where
  cell : ∀ (k : Nat) (hk : k < ys.length), ∃ b off, A = some ⟨b, off, none⟩ ∧ w.cell? ⟨b, off + k, none⟩ = some (.slice (F k) ys[k].length (C k))
  row : ∀ (k : Nat) (hk : k < ys.length), (ys[k].length ≤ C k ∧ C k ≤ 9223372036854775807) ∧ IR w 0 base (F k) ys[k]
theorem srcQ_take {W w' : World} {A : Option Addr} {L : List (List Int)} (h : IRR W 0 W.heap.size A L) (hb : Below W.heap.size W w') (K : Nat) : ∃ F C, SrcQ w' W.heap.size A (L.take K) F C := by
  obtain ⟨F, C, hp⟩ := h.parts
  refine ⟨F, C, ⟨fun k hk => ?_, fun k hk => ?_⟩⟩
  · have hk2 : k < L.length := by rw [List.length_take] at hk; omega
    obtain ⟨⟨b, off, e, h1, h2, h3⟩, -, -⟩ := hp k hk2
    rw [List.getElem_take]
    exact ⟨b, off, e, (hb.cell (p := ⟨b, off + k, none⟩) h2).trans h3⟩
  · have hk2 : k < L.length := by rw [List.length_take] at hk; omega
    rw [List.getElem_take]
    exact ⟨(hp k hk2).2.1, (hp k hk2).2.2.below hb (Nat.le_refl _)⟩
theorem srcQ_drop {W w' : World} {A A' : Option Addr} {L : List (List Int)} {K : Nat} (h : IRR W 0 W.heap.size A L) (hb : Below W.heap.size W w') (hA : K < L.length → ∀ b off, A = some ⟨b, off, none⟩ → A' = some ⟨b, off + K, none⟩) : ∃ F C, SrcQ w' W.heap.size A' (L.drop K) F C := by
  obtain ⟨F, C, hp⟩ := h.parts
  refine ⟨fun k => F (K + k), fun k => C (K + k), ⟨fun k hk => ?_, fun k hk => ?_⟩⟩
  · have hk2 : K + k < L.length := by rw [List.length_drop] at hk; omega
    obtain ⟨⟨b, off, e, h1, h2, h3⟩, -, -⟩ := hp (K + k) hk2
    rw [List.getElem_drop]
    refine ⟨b, off + K, hA (by omega) b off e, ?_⟩
    rw [Nat.add_assoc]
    exact (hb.cell (p := ⟨b, off + (K + k), none⟩) h2).trans h3
  · have hk2 : K + k < L.length := by rw [List.length_drop] at hk; omega
    rw [List.getElem_drop]
    exact ⟨(hp _ hk2).2.1, (hp _ hk2).2.2.below hb (Nat.le_refl _)⟩
theorem srcQ_one {W w' : World} {G : Nat} {A1 : Option Addr} {n1 c1 : Nat} {a : List Int} (hn : n1 = a.length) (hc1 : n1 ≤ c1 ∧ c1 ≤ 9223372036854775807) (h : IR W 0 W.heap.size A1 a) (hb : Below W.heap.size W w') (hc : w'.cell? ⟨G, 0, none⟩ = some (.slice A1 n1 c1)) : SrcQ w' W.heap.size (some ⟨G, 0, none⟩) [a] (fun _ => A1) (fun _ => c1) := by
  subst hn
  refine ⟨fun k hk => ?_, fun k hk => ?_⟩
  · obtain rfl : k = 0 := by simpa using hk
    exact ⟨G, 0, rfl, hc⟩
  · obtain rfl : k = 0 := by simpa using hk
    exact ⟨hc1, h.below hb (Nat.le_refl _)⟩
theorem wpT_appendsQ {o : Oper} {a : Act} {w : World} {K : Act → World → Prop} {Q : Exit → Act → World → Prop} (s x : Operand)
    (ho : o.op = .call { callee := .builtin .append, args := #[s, x], argTypes := #[23, 23] })
    (base : Nat) (v : Value) (zss ys : List (List Int)) (hs : a.eval s = v) (A : Option Addr) (n c : Nat) (hn : n = ys.length) (hx : a.eval x = .slice A n c) (hown : OwnQ w base v zss) (F : Nat → Option Addr) (C : Nat → Nat) (hsrc : SrcQ w base A ys F C) (hl : zss.length + ys.length < 1000000)
    (h : ∀ v' w', OwnQ w' base v' (zss ++ ys) → w.grownBy w' v.ownBlock → K (a.put o.dst v') w') : WpT Try.prog o a w K Q := by
  subst hn
  obtain ⟨v', w', hrun, h2, h3⟩ := run_appendsQ w base v zss ys hown A c F C hsrc.cell hsrc.row hl o.type
  refine ⟨?_⟩
  unfold Oper.wp execOp
  simp only [ho, resolve, invoke, builtin, Sem.run_bind, Sem.run_pure, Result.andThen_ok, List.map_toArray, List.map_cons, List.map_nil, hs, hx, hrun]
  exact h v' w' h2 h3
set_option maxRecDepth 100000 in
/-- Two may come up: each way. -/
theorem planH_pair {P : Program} {ops : Array Oper} {Q : Exit → Act → World → Prop} {S : World → Prop} {md : Region.Mode} (i j : Nat) {oi oj : Oper} {fuel : Nat} {listed : Array Bool} {a : Act} {w : World} (hi : ops[i]? = some oi) (hj : ops[j]? = some oj) (hgi : Region.wanted oi (yielded ops a.tmps) = true) (hgj : Region.wanted oj (yielded ops a.tmps) = true) (hr : Region.ready md ops listed = [i, j])
    (h : WpT P oi a w (fun a' w' => S w' ∧ wpAnyH P md ops Q S fuel (listed.setIfInBounds i true) a' w') Q) (h' : WpT P oj a w (fun a' w' => S w' ∧ wpAnyH P md ops Q S fuel (listed.setIfInBounds j true) a' w') Q) : wpAnyH P md ops Q S (fuel + 1) listed a w :=
  wpAnyH_all hr (by simp) fun k hk => by
    rcases List.mem_cons.1 hk with rfl | hk
    · unfold wpOp
      simp only [hi]
      rw [if_pos hgi]
      exact .inl h.out
    · obtain rfl := List.mem_singleton.1 hk
      unfold wpOp
      simp only [hj]
      rw [if_pos hgj]
      exact .inl h'.out
theorem below_grown {W w w' : World} {B : Nat} {v : Value} (h : Below B W w) (hs : B ≤ w.heap.size) (hg : w.grownBy w' v.ownBlock) (hv : ∀ k, v.ownBlock = some k → B ≤ k) : Below B W w' := h.trans ((Below.refl B w).grown hg hs hv)

/-- What l7Put gives: a list of rows to read. -/
def RetQ (w : World) (L : List (List Int)) (e : Ending) (w' : World) : Prop := ∃ A c, e = .returned (.slice A L.length c) ∧ (L.length ≤ c ∧ c ≤ 9223372036854775807) ∧ IRR w' 0 w'.heap.size A L ∧ Below w.heap.size w w'

end Go.Proofs.Ytkghpmjbclnojaa

namespace Go.Proofs.Ytkghpmjbclnojaa
open Go.RowKit Go.Shelf

set_option maxRecDepth 100000 in
set_option maxHeartbeats 400000 in
theorem l7Down_cap (A : Option Addr) (n c : Nat) (zs : List Int) (w : World) (h : IR w 0 w.heap.size A zs) (hr : rowB zs = true) (hn : n = zs.length) :
    Calls Try.prog 96 #[.slice A n c] w (RetSC w (downL zs)) := by
  subst hn
  have HL : Hid (zs.length ≤ 1048576) := by have := (rowB_true.1 hr).2; show _ ≤ _; omega
  have H := Lib.hid h
  clear h hr
  go_enter Try.func96, Try.ntmps96
  go_wp2_with fail
  refine (l3Sorted_is A _ c zs _ H.out HL.out rfl).mono ?_
  rintro e w1 ⟨ys, hp, hs, A1, c1, rfl, hi1, hb1⟩
  have HE : Hid (ys.reverse = downL zs) := sorted_down hp hs
  have HI := Lib.hid hi1; have HB := Lib.hid hb1
  clear hp hs hi1 hb1
  go_wp2_with fail
  refine (l1Back_cap A1 c1 _ _ ys _ HI.out.toIR).mono ?_
  rintro e w2 ⟨A2, c2, rfl, hcp2, hi2, hb2⟩
  have HCP2 := Lib.hid hcp2; have HI2 := Lib.hid hi2; have HB2 := Lib.hid hb2
  clear hcp2 hi2 hb2
  go_wp2
  go_ret
  rw [HE.out] at HI2 HCP2
  exact ⟨A2, c2, by rw [← HE.out, List.length_reverse]; rfl, HCP2.out, HI2.out.wide HB.out.size (Nat.le_refl _) (Nat.le_refl _), below_then HB.out (Nat.le_refl _) HB2.out⟩


theorem levIn_mem (a : List Int) (L : List (List Int)) (i : Nat) (hl : ∀ x, x ∈ L → x.length = a.length) (hL : AscB L) (k : Nat) : ∀ x, x ∈ levIn a L i k → x.length = a.length := fun x hx => by
  rcases ((levIn_spec a L i hl hL k).1 x).1 hx with h | ⟨k', -, h⟩
  · exact hl x h
  · exact lev_len h
theorem levTo_mem (a : List Int) (i : Nat) : ∀ x, x ∈ levTo a i → x.length = a.length := fun x hx => by
  obtain ⟨i', k, -, -, h⟩ := ((levTo_spec a i).1 x).1 hx
  exact lev_len h
theorem putL_len (L : List (List Int)) (a : List Int) : (putL L a).length ≤ L.length + 1 := by
  unfold putL
  split
  · omega
  · simp; omega
theorem levIn_len (a : List Int) (L : List (List Int)) (i : Nat) : ∀ k, (levIn a L i k).length ≤ L.length + k
  | 0 => Nat.le_refl _
  | k + 1 => by
    have ih := levIn_len a L i k
    have := putL_len (levIn a L i k) (downL (levelL a i k))
    show (levPut a (levIn a L i k) i k).length ≤ _
    unfold levPut
    split <;> omega
theorem levTo_len (a : List Int) : ∀ i, (levTo a i).length ≤ i * a.length
  | 0 => by simp [levTo]
  | i + 1 => by
    have ih := levTo_len a i
    have := levIn_len a (levTo a i) i a.length
    rw [Nat.succ_mul]
    show (levIn a (levTo a i) i a.length).length ≤ _
    omega
theorem level_row {a : List Int} (h : rowB a = true) {i k : Nat} (hi : i < a.length) (hk : k < a.length) (hl : a.getD k 0 + 2 ≤ a.getD i 0) : rowB (levelL a i k) = true := ev_row (level_ev hi hk hl) h

end Go.Proofs.Ytkghpmjbclnojaa
