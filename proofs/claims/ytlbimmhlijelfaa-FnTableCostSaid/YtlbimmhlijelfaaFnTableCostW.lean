/-
  The law FnTableCost walked: for all codes it returns true, and nothing that lay before has turned. Conditions: none but those of its row.
-/
import Derived.Test.YtlbimmhlijelfaaDTl
import Derived.Test.YtlbimmhlijelfaaLdA
import Derived.Test.YtlbimmhlijelfaaTbK
import Derived.Test.YtlbimmhlijelfaaTabX
import Derived.Test.YtlbimmhlijelfaaLawR
import Derived.Test.YtlbimmhlijelfaaSame
namespace Go.Proofs.Ytlbimmhlijelfaa
open Go.RowKit

theorem across_table {t : List (List Int)} (h : tableB t = true) : tableB (acrossL t t.length (colsN t)) = true := by
  obtain ⟨_, h1, h2, h3⟩ := table_sh h
  exact tab_table h2 h1 fun i k hi hk => h3 k i hk hi
theorem across_len (t : List (List Int)) (n m : Nat) : (acrossL t n m).length = m := (tab_sh _ _ _).1
theorem across_cols (t : List (List Int)) {n m : Nat} (h : 0 < m) : colsN (acrossL t n m) = n := (tab_sh m n _).row h
theorem am_all {l : List (List Int)} {n m : Nat} (h : Sh l n m) : (l.all fun r => r.all fun x => decide (0 ≤ x ∧ x ≤ 9)) = true ↔ ∀ i k, i < n → k < m → 0 ≤ ent l i k ∧ ent l i k ≤ 9 := by
  rw [List.all_eq_true]
  constructor
  · intro h9 i k hi hk
    have hi' : i < l.length := by rw [h.1]; exact hi
    have h1 := h9 l[i] (List.getElem_mem hi')
    have hk' : k < l[i].length := by rw [h.2 _ (List.getElem_mem hi')]; exact hk
    rw [List.all_eq_true] at h1
    have h2 := h1 l[i][k] (List.getElem_mem hk')
    rw [decide_eq_true_eq] at h2
    rw [ent_get hi' hk']; exact h2
  · intro h9 r hr
    obtain ⟨i, hi, rfl⟩ := List.getElem_of_mem hr
    rw [List.all_eq_true]
    intro x hx
    obtain ⟨k, hk, rfl⟩ := List.getElem_of_mem hx
    have := h9 i k (by rw [← h.1]; exact hi) (by rw [← h.2 _ hr]; exact hk)
    rw [ent_get hi hk] at this
    rw [decide_eq_true_eq]; exact this
theorem cost_turned {t l : List (List Int)} {x : Int} (h : costTM t l = some x) : tableB t = true ∧ tableB l = true ∧ costTM (acrossL t t.length (colsN t)) (acrossL l l.length (colsN l)) = some x := by
  unfold costTM at h
  split at h
  · next e =>
    simp only [Bool.and_eq_true, decide_eq_true_eq] at e
    obtain ⟨⟨⟨⟨h1, h2⟩, h3⟩, h4⟩, h5⟩ := e
    injection h with h
    refine ⟨h1, h2, ?_⟩
    obtain ⟨s1, a1, a2, _⟩ := table_sh h1
    obtain ⟨s2, b1, b2, _⟩ := table_sh h2
    have h5' := (am_all s2).1 h5
    have h6 : ((acrossL l l.length (colsN l)).all fun r => r.all fun x => decide (0 ≤ x ∧ x ≤ 9)) = true := (am_all (tab_sh _ _ _)).2 fun k i hk hi => by
      rw [show ent (tabL (colsN l) l.length fun k i => ent l i k) k i = ent l i k from tab_ent _ hk hi]
      exact h5' i k hi hk
    unfold costTM
    rw [if_pos]
    · rw [across_len, across_cols _ (by omega), ← h]
      congr 1
      rw [← costF_turn (ent t) (ent l) t.length (colsN t)]
      unfold costF
      refine sumN_congr fun k hk => sumN_congr fun i hi => ?_
      rw [turn_ent t hi hk, turn_ent l (show i < l.length by omega) (show k < colsN l by omega)]
    · rw [across_table h1, across_table h2, across_len, across_len, across_cols _ (by omega), across_cols _ (by omega), h6, h3, h4]
      simp
  · cases h

/-- A drawn table and a load. -/
def CostPost (w : World) (e : Ending) (w' : World) : Prop :=
  ∃ A n c t A2 n2 c2 l, e = .returned (.tuple #[.slice A n c, .slice A2 n2 c2]) ∧ List.length t = n ∧ List.length l = n2 ∧ IRR w' 0 w'.heap.size A t ∧ IRR w' 0 w'.heap.size A2 l ∧ Below w.heap.size w w'
theorem irr_one (W : World) : IRR ((W.alloc (.cells #[.int .i64 1] 3)).alloc (.cells #[.slice (some ⟨W.heap.size, 0, none⟩) 1 1] 23)) 0 ((W.alloc (.cells #[.int .i64 1] 3)).alloc (.cells #[.slice (some ⟨W.heap.size, 0, none⟩) 1 1] 23)).heap.size (some ⟨W.heap.size + 1, 0, none⟩) [[1]] := by
  refine ⟨by simp, Nat.le_refl _, fun k hk => ?_⟩
  obtain rfl : k = 0 := by simp at hk; omega
  refine ⟨W.heap.size + 1, 0, some ⟨W.heap.size, 0, none⟩, 1, rfl, Nat.zero_le _, by simp, ?_, ⟨by simp, by omega⟩, ⟨by simp, fun z hz => ?_, Nat.le_refl _, fun _ => ⟨W.heap.size, 0, rfl, Nat.zero_le _, by simp; omega, fun j hj => ?_⟩⟩⟩
  · rw [World.cell?_alloc_at _ _ _ _ (by simp)]; rfl
  · obtain rfl : z = 1 := by simpa using hz
    exact ⟨by omega, by omega⟩
  · obtain rfl : j = 0 := by simp at hj; omega
    rw [World.cell?_alloc_lt _ _ ⟨W.heap.size, 0 + 0, none⟩ (by simp), World.cell?_alloc_at _ _ _ _ (by simp)]; rfl

set_option maxRecDepth 100000 in
set_option maxHeartbeats 2000000 in
theorem DrawTableCost_any (A : Option Addr) (c : Nat) (bs : List Int) (w : World) (h : BR w w.heap.size A bs) (hc : bs.length ≤ c) (hc2 : c ≤ 9000000000000000000) :
    Calls Try.prog 30 #[.slice A bs.length c] w (CostPost w) := by
  have H := Lib.hid h
  clear h
  go_enter Try.func30, Try.ntmps30
  go_wp2_with fail
  refine (DrawTableLoad_any A c bs _ H.out hc hc2).mono ?_
  rintro e w1 ⟨A1, n1, c1, t, A2, n2, c2, xs, A3, n3, c3, ys, rfl, l1, l2, l3, -, -, -, i1, i2, i3, hb⟩
  have B0 := Lib.hid hb; have I1 := Lib.hid i1; have I2 := Lib.hid i2; have I3 := Lib.hid i3
  subst l1; subst l2; subst l3
  clear hb i1 i2 i3
  go_wp2_with fail
  refine (specTableLoad_any A1 c1 _ _ t A2 c2 _ _ xs A3 c3 _ _ ys _ I1.out I2.out I3.out).mono ?_
  rintro e w2 ⟨A4, c4, rfl, -, hi, hb⟩
  replace I1 := Lib.hid (I1.out.grow hb)
  have hs1 := B0.out.size
  replace B0 := Lib.hid (B0.out.trans (hb.mono hs1))
  have I4 := Lib.hid hi.toIRR.toAll
  clear hb hi I2 I3 hs1
  cases hm : loadM t xs ys with
  | none =>
    clear hm I4
    have HI := Lib.hid (irr_one w2)
    have hal : Below w2.heap.size w2 ((w2.alloc (.cells #[.int .i64 1] 3)).alloc (.cells #[.slice (some ⟨w2.heap.size, 0, none⟩) 1 1] 23)) := ((Below.refl _ _).alloc (Nat.le_refl _) _).alloc (by simp) _
    have hs2 := B0.out.size
    have IF := Lib.hid (I1.out.grow hal)
    have BF := Lib.hid (B0.out.trans (hal.mono hs2))
    clear hal hs2
    go_wp2
    go_ret2
    exact ⟨_, _, _, t, _, _, _, [[1]], rfl, rfl, rfl, IF.out.toAll, HI.out, BF.out⟩
  | some l =>
    rw [hm] at I4
    clear hm
    go_wp2
    go_ret2
    exact ⟨_, _, _, t, _, _, _, l, rfl, rfl, rfl, I1.out.toAll, I4.out, B0.out⟩

theorem implCost_of {o : Option Int} {n m lo hi lo' hi' : Nat} (A : Option Addr) (c : Nat) (t : List (List Int)) (A2 : Option Addr) (c2 : Nat) (l : List (List Int)) (w : World) (h : IRR w lo hi A t) (h2 : IRR w lo' hi' A2 l) (ho : costTM t l = o) (hn : n = t.length) (hm : m = l.length) :
    Calls Try.prog 31 #[.slice A n c, .slice A2 m c2] w fun e w' => e = .returned (.tuple #[.int .i64 (o.getD 0), .bool o.isSome]) ∧ Below w.heap.size w w' := by subst hn; subst hm; subst ho; exact implTableCost_any A c t A2 c2 l w h.toAll h2.toAll

set_option maxHeartbeats 1500000 in
set_option maxRecDepth 100000 in
theorem lawFnTableCost_any (A0 : Option Addr) (c0 : Nat) (bs : List Int) (w : World) (h0 : BR w w.heap.size A0 bs) (hc : bs.length ≤ c0) (hc2 : c0 ≤ 9000000000000000000) :
    Calls Try.prog 7 #[.slice A0 bs.length c0] w fun e w' => e = .returned (.bool true) ∧ Below w.heap.size w w' := by
  by_cases hbig : (1048576 : Int) < (bs.length : Int)
  · clear h0
    go_enter Try.func7, Try.ntmps7
    go_wp2
    go_ret
    exact ⟨rfl, Below.refl _ _⟩
  have H0 := Lib.hid h0
  clear h0
  have BB := Lib.hid (Below.refl w.heap.size w)
  go_enter Try.func7, Try.ntmps7
  go_wp2_with fail
  refine (DrawTableCost_any _ _ bs _ H0.out hc hc2).mono ?_
  rintro e w1 ⟨A, n1, c, t, B, n2, d, l, rfl, l1, l2, iw, iw2, bb⟩
  subst l1; subst l2
  replace BB := Lib.hid (below_then BB.out (Nat.le_refl _) bb)
  have Z := Lib.hid iw.toAll
  have Y := Lib.hid iw2.toAll
  clear bb
  clear iw iw2
  obtain ⟨o, hm'⟩ : ∃ o, costTM t l = o := ⟨_, rfl⟩
  have HM := Lib.hid hm'
  clear hm'
  go_wp2_with fail
  refine (implCost_of _ _ t _ _ l _ Z.out Y.out HM.out rfl rfl).mono ?_
  rintro e w2 ⟨rfl, bb⟩
  replace BB := Lib.hid (below_then BB.out (Nat.le_refl _) bb)
  replace Z := Lib.hid (Z.out.grow bb)
  replace Y := Lib.hid (Y.out.grow bb)
  clear bb
  cases o with
  | none =>
    go_wp2_with fail
    refine (specTableCost_any _ _ _ _ t _ _ _ _ l _ Z.out Y.out).mono ?_
    rintro e w3 ⟨rfl, dd⟩
    have bb := dd.below
    rw [HM.out]
    replace BB := Lib.hid (below_then BB.out (Nat.le_refl _) bb)
    clear bb dd
    go_wp2
    go_ret
    exact ⟨rfl, BB.out⟩
  | some x =>
    obtain ⟨ht, hl, hx⟩ := cost_turned HM.out
    have HT := Lib.hid ht; have HL := Lib.hid hl; have HX := Lib.hid hx
    clear ht hl hx
    go_wp2_with fail
    refine (specTableCost_any _ _ _ _ t _ _ _ _ l _ Z.out Y.out).mono ?_
    rintro e w3 ⟨rfl, dd⟩
    have bb := dd.below
    rw [HM.out]
    replace BB := Lib.hid (below_then BB.out (Nat.le_refl _) bb)
    replace Z := Lib.hid (Z.out.grow bb)
    replace Y := Lib.hid (Y.out.grow bb)
    clear bb dd
    go_wp2_with fail
    refine (across_any _ _ _ _ _ _ t _ Z.out HT.out rfl rfl).mono ?_
    rintro e w4 ⟨A4, c4, rfl, -, iw, bb⟩
    replace BB := Lib.hid (below_then BB.out (Nat.le_refl _) bb)
    replace Y := Lib.hid (Y.out.grow bb)
    have G := Lib.hid iw.toIRR.toAll
    clear bb iw
    go_wp2_with fail
    refine (across_any _ _ _ _ _ _ l _ Y.out HL.out rfl rfl).mono ?_
    rintro e w5 ⟨A5, c5, rfl, -, iw, bb⟩
    replace BB := Lib.hid (below_then BB.out (Nat.le_refl _) bb)
    replace G := Lib.hid (G.out.grow bb)
    have V := Lib.hid iw.toIRR.toAll
    clear bb iw
    go_wp2_with fail
    refine (implCost_of _ _ _ _ _ _ _ G.out V.out HX.out rfl rfl).mono ?_
    rintro e w6 ⟨rfl, bb⟩
    replace BB := Lib.hid (below_then BB.out (Nat.le_refl _) bb)
    clear bb
    go_wp2
    go_ret
    exact ⟨rfl, BB.out⟩
end Go.Proofs.Ytlbimmhlijelfaa
