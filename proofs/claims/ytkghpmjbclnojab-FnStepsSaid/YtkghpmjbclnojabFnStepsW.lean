/-
  The law FnSteps walked: for all codes it returns true, and nothing that lay before has turned. Conditions: none but those of its row.
-/
import Derived.Test.YtkghpmjbclnojabDrawOne
import Derived.Test.YtkghpmjbclnojabEvD
import Derived.Test.YtkghpmjbclnojabSame
namespace Go.Proofs.Ytkghpmjbclnojab
open Go.RowKit

set_option maxHeartbeats 1000000 in
theorem DrawEvenSteps_any (A : Option Addr) (c : Nat) (bs : List Int) (w : World) (h : BR w w.heap.size A bs) (hc : bs.length ≤ c) (hc2 : c ≤ 9000000000000000000) :
    Calls Try.prog 23 #[.slice A bs.length c] w (OnePost w 10) := by
  have H := Lib.hid h
  clear h
  go_enter Try.func23, Try.ntmps23
  go_wp2_with fail
  refine (l91One_any A c bs _ H.out hc hc2).mono ?_
  rintro e w1 ⟨A1, c1, zs, rfl, hz, hi, hb⟩
  have I0 := Lib.hid hi; have B0 := Lib.hid hb; have HZ := Lib.hid hz
  clear hi hb hz
  go_wp2
  go_ret
  exact ⟨A1, c1, zs, rfl, HZ.out, I0.out, B0.out⟩

/-- The least number of steps of the first k lists, -1 if there is none. -/
def leastK (L : List (List Int)) : Nat → Int
  | 0 => -1
  | k + 1 => if leastK L k < 0 ∨ stepsL (L.getD k []) < leastK L k then stepsL (L.getD k []) else leastK L k
theorem leastK_spec (L : List (List Int)) : ∀ k, (k = 0 → leastK L k = -1) ∧ (0 < k → 0 ≤ leastK L k ∧ (∃ j, j < k ∧ leastK L k = stepsL (L.getD j [])) ∧ ∀ j, j < k → leastK L k ≤ stepsL (L.getD j []))
  | 0 => ⟨fun _ => rfl, fun h => by omega⟩
  | k + 1 => by
    obtain ⟨h0, h1⟩ := leastK_spec L k
    refine ⟨fun h => by omega, fun _ => ?_⟩
    have hn := steps_nonneg (L.getD k [])
    show 0 ≤ (if leastK L k < 0 ∨ stepsL (L.getD k []) < leastK L k then stepsL (L.getD k []) else leastK L k) ∧ (∃ j, j < k + 1 ∧ (if leastK L k < 0 ∨ stepsL (L.getD k []) < leastK L k then stepsL (L.getD k []) else leastK L k) = stepsL (L.getD j [])) ∧ ∀ j, j < k + 1 → (if leastK L k < 0 ∨ stepsL (L.getD k []) < leastK L k then stepsL (L.getD k []) else leastK L k) ≤ stepsL (L.getD j [])
    by_cases c : leastK L k < 0 ∨ stepsL (L.getD k []) < leastK L k
    · rw [if_pos c]
      refine ⟨hn, ⟨k, by omega, rfl⟩, fun j hj => ?_⟩
      by_cases e : j = k
      · subst e; exact Int.le_refl _
      · obtain ⟨p1, -, p3⟩ := h1 (by omega)
        have := p3 j (by omega)
        omega
    · rw [if_neg c]
      have hk : 0 < k := by
        rcases Nat.eq_zero_or_pos k with e | e
        · exact absurd (.inl (by rw [h0 e]; decide)) c
        · exact e
      obtain ⟨p1, ⟨j, q1, q2⟩, p3⟩ := h1 hk
      refine ⟨p1, ⟨j, by omega, q2⟩, fun i hi => ?_⟩
      by_cases e : i = k
      · subst e; omega
      · exact p3 i (by omega)
theorem steps_least {a : List Int} (h0 : 0 < a.length) : stepsL a = leastK (levelsL a) (levelsL a).length + 1 := by
  obtain ⟨h1, h2, h3⟩ := steps_law h0
  obtain ⟨g1, g2⟩ := leastK_spec (levelsL a) (levelsL a).length
  by_cases e : levelsL a = []
  · rw [h1 e, g1 (by rw [e]; rfl)]; rfl
  · have hp : 0 < (levelsL a).length := List.length_pos_iff.2 e
    obtain ⟨p1, ⟨j, q1, q2⟩, p3⟩ := g2 hp
    obtain ⟨z, hz, ez⟩ := h3 e
    obtain ⟨i, hi, rfl⟩ := List.getElem_of_mem hz
    have r1 := p3 i hi
    have r2 := h2 _ (List.getElem_mem q1)
    have e1 : (levelsL a).getD i [] = (levelsL a)[i] := by simp [List.getD, hi]
    have e2 : (levelsL a).getD j [] = (levelsL a)[j] := by simp [List.getD, q1]
    rw [e1] at r1
    rw [e2] at q2
    omega
theorem levels_rows {a : List Int} (hr : rowB a = true) : ∀ z, z ∈ levelsL a → rowB z = true := fun _ hz => ev_row (levels_law hz).1 hr
theorem steps_row {z : List Int} (h : rowB z = true) : stepsV z = stepsL z := by unfold stepsV; rw [if_pos h]
theorem steps_top {a : List Int} (hr : rowB a = true) : 0 ≤ stepsL a ∧ stepsL a ≤ 24000 := by
  refine ⟨steps_nonneg a, ?_⟩
  have h1 := (rowB_true.1 (down_row hr)).1
  have h2 := (rowB_true.1 (most_row hr)).1
  have hl := (rowB_true.1 hr).2
  have : ∀ k, k ≤ a.length → sumN (fun i => max 0 ((downL a).getD i 0 - (mostEv a).getD i 0)) k ≤ 2000 * (k : Int) := by
    intro k
    induction k with
    | zero => intro _; exact Int.le_refl _
    | succ k ih =>
      intro hk
      have i1 := ih (by omega)
      have d1 := h1 _ (List.getElem_mem (show k < (downL a).length by rw [down_len]; omega))
      have d2 := h2 _ (List.getElem_mem (show k < (mostEv a).length by rw [most_len]; omega))
      rw [← getD_in (show k < (downL a).length by rw [down_len]; omega)] at d1
      rw [← getD_in (show k < (mostEv a).length by rw [most_len]; omega)] at d2
      show sumN _ k + max 0 ((downL a).getD k 0 - (mostEv a).getD k 0) ≤ _
      omega
  have := this a.length (Nat.le_refl _)
  show sumN _ _ ≤ _
  omega

set_option maxHeartbeats 1500000 in
set_option maxRecDepth 100000 in
theorem lawFnSteps_any (A0 : Option Addr) (c0 : Nat) (bs : List Int) (w : World) (h0 : BR w w.heap.size A0 bs) (hc : bs.length ≤ c0) (hc2 : c0 ≤ 9000000000000000000) :
    Calls Try.prog 6 #[.slice A0 bs.length c0] w fun e w' => e = .returned (.bool true) ∧ Below w.heap.size w w' := by
  by_cases hbig : (1048576 : Int) < (bs.length : Int)
  · clear h0
    go_enter Try.func6, Try.ntmps6
    go_wp2
    go_ret
    exact ⟨rfl, Below.refl _ _⟩
  have H0 := Lib.hid h0
  clear h0
  have BB := Lib.hid (Below.refl w.heap.size w)
  go_enter Try.func6, Try.ntmps6
  go_wp2_with fail
  refine (DrawEvenSteps_any _ _ bs _ H0.out hc hc2).mono ?_
  rintro e w1 ⟨A, c, zs, rfl, hz, iw, bb⟩
  replace BB := Lib.hid (below_then BB.out (Nat.le_refl _) bb)
  have Z := Lib.hid iw.toAll
  clear bb
  clear iw hz
  go_wp2_with fail
  refine (implEvenSteps_any _ _ zs _ Z.out.toAll).mono ?_
  rintro e w2 ⟨rfl, bb⟩
  replace BB := Lib.hid (below_then BB.out (Nat.le_refl _) bb)
  replace Z := Lib.hid (Z.out.grow bb)
  clear bb
  go_wp2_with fail
  refine (specEvenSteps_any _ _ zs _ Z.out.toAll).mono ?_
  rintro e w3 ⟨rfl, bb⟩
  replace BB := Lib.hid (below_then BB.out (Nat.le_refl _) bb)
  replace Z := Lib.hid (Z.out.grow bb)
  clear bb
  cases hr : rowB zs with
  | false =>
    have hs0 : stepsV zs = 0 := by unfold stepsV; rw [hr]; rfl
    rw [hs0]
    clear hr hs0
    go_wp2
    go_ret
    exact ⟨rfl, BB.out⟩
  | true =>
    have HM : Hid (levelsM zs = some (levelsL zs)) := by show _ = _; simp [levelsM, hr]
    have HST := Lib.hid (steps_least (a := zs) (by have := (rowB_true.1 hr).2; omega))
    have HSV := Lib.hid (steps_row hr)
    have HRS := Lib.hid (levels_rows hr)
    obtain ⟨st, hst⟩ : ∃ s, stepsV zs = s := ⟨_, rfl⟩
    rw [hst] at HSV
    rw [hst]
    clear hst
    go_wp2_with fail
    refine (implEvenLevels_any _ _ zs _ Z.out.toAll).mono ?_
    rintro e w4 ⟨A2, c2, rfl, -, iw, bb⟩
    replace BB := Lib.hid (below_then BB.out (Nat.le_refl _) bb)
    replace Z := Lib.hid (Z.out.grow bb)
    have G := Lib.hid iw.toAll
    clear bb
    clear iw
    rw [HM.out] at G
    rw [HM.out]
    have e1 : (some (levelsL zs)).getD [] = levelsL zs := rfl
    rw [e1]
    replace G : Hid (IRR w4 _ _ A2 (levelsL zs)) := G
    clear e1 hr
    have HKS := Lib.hid (leastK_spec (levelsL zs))
    obtain ⟨L, hL⟩ : ∃ L, levelsL zs = L := ⟨_, rfl⟩
    rw [hL] at G HST HRS HKS
    rw [hL]
    clear hL
    have hLn := G.out.1
    go_wp2
    go_loopw [10, 11] (fun s x wr => ∃ k : Nat, k ≤ L.length ∧ x = .int .i64 (k : Int) ∧ s = .int .i64 (leastK L k) ∧ Below w4.heap.size w4 wr) (fun _ x _ => L.length - (intOf x).toNat)
    case atStart => exact ⟨0, Nat.zero_le _, rfl, rfl, Below.refl _ _⟩
    case round =>
      obtain ⟨k, hk, rfl, rfl, hbl⟩ := hrel
      have HBL := Lib.hid hbl
      clear hbl
      by_cases hkt : k < L.length
      · have hkt' : (k : Int) < (L.length : Int) := by omega
        obtain ⟨b, off, Ak, ck, rfl, _, hcell, hcp, hrow⟩ := (G.out.grow HBL.out).at_ hkt
        have HROW := Lib.hid hrow
        have HRK := Lib.hid (HRS.out _ (List.getElem_mem hkt))
        have HSK := Lib.hid (steps_row HRK.out)
        have g1 := steps_top HRK.out
        have hg : L.getD k [] = L[k] := by simp [List.getD, hkt]
        have HNX : Hid (leastK L (k + 1) = if leastK L k < 0 ∨ stepsL L[k] < leastK L k then stepsL L[k] else leastK L k) := by show (if leastK L k < 0 ∨ stepsL (L.getD k []) < leastK L k then stepsL (L.getD k []) else leastK L k) = _; rw [hg]
        clear hg hrow hcp
        go_wp2_with fail
        refine (implEvenSteps_any _ _ L[k] _ HROW.out.toAll).mono ?_
        rintro e w0 ⟨rfl, bb⟩
        rw [HSK.out, HRK.out]
        have HB0 := Lib.hid (below_then HBL.out (Nat.le_refl _) bb)
        clear bb
        obtain ⟨m, hm⟩ : ∃ m, stepsL L[k] = m := ⟨_, rfl⟩
        obtain ⟨q, hq⟩ : ∃ q, leastK L k = q := ⟨_, rfl⟩
        rw [hm, hq] at HNX
        rw [hm] at g1
        rw [hm, hq]
        clear hm hq
        by_cases c1 : q < 0
        · rw [if_pos (.inl c1)] at HNX
          go_wp2
          go_roundw
          case rel => exact ⟨k + 1, by omega, by go_num, by rw [HNX.out], HB0.out⟩
          case measure => simp [intOf]; omega
        · have c1' : decide (q < 0) = false := decide_eq_false c1
          by_cases c2 : m < q
          · rw [if_pos (.inr c2)] at HNX
            go_wp2
            go_roundw
            case rel => exact ⟨k + 1, by omega, by go_num, by rw [HNX.out], HB0.out⟩
            case measure => simp [intOf]; omega
          · rw [if_neg (fun e => e.elim c1 c2)] at HNX
            go_wp2
            go_roundw
            case rel => exact ⟨k + 1, by omega, by go_num, by rw [HNX.out], HB0.out⟩
            case measure => simp [intOf]; omega
      · obtain rfl : k = L.length := by omega
        have hkt' : ¬ (L.length : Int) < (L.length : Int) := by omega
        replace BB := Lib.hid (below_then BB.out (Nat.le_refl _) HBL.out)
        have hE : st = leastK L L.length + 1 := HSV.out.trans HST.out
        obtain ⟨q, hq⟩ : ∃ q, leastK L L.length = q := ⟨_, rfl⟩
        rw [hq] at hE
        rw [hq]
        have HT : Hid (-1 ≤ q ∧ q ≤ 24000) := by
          have h1 := HKS.out L.length
          rw [hq] at h1
          show _ ∧ _
          rcases Nat.eq_zero_or_pos L.length with e | e
          · rw [h1.1 e]; omega
          · obtain ⟨p1, ⟨j, p2, p3⟩, -⟩ := h1.2 e
            have g1 := steps_top (HRS.out _ (List.getElem_mem p2))
            have hg : L.getD j [] = L[j] := by simp [List.getD, p2]
            rw [hg] at p3
            omega
        have s9 : IntKind.i64.wrap (q + 1) = q + 1 := IntWalk.i64_in _ (by have := HT.out; omega)
        subst hE
        clear hq
        go_wp2
        go_ret
        exact ⟨rfl, BB.out⟩
end Go.Proofs.Ytkghpmjbclnojab
