/-
  RowFrom of the model: the row with a first entry and slopes. Conditions: the list's cells are there.
-/
import Derived.Test.YtdkkmdifdbikaaaImp2
import Derived.Deep.RegionLaw
namespace Go.Proofs.Ytdkkmdifdbikaaa
open Go.RowKit

/-- Entries added up, as int64 adds. -/
def fromL : Int → List Int → List Int
  | x, [] => [x]
  | x, s :: ss => x :: fromL (wrap64 (x + s)) ss
theorem fromL_len (x : Int) (ss : List Int) : (fromL x ss).length = ss.length + 1 := by
  induction ss generalizing x with
  | nil => rfl
  | cons s ss ih => simp [fromL, ih]
theorem fromL_zero (x : Int) (ss : List Int) : (fromL x ss)[0]'(by rw [fromL_len]; omega) = x := by
  cases ss <;> rfl
theorem fromL_succ (x : Int) (ss : List Int) (k : Nat) (h : k < ss.length) : (fromL x ss)[k + 1]'(by rw [fromL_len]; omega) = wrap64 ((fromL x ss)[k]'(by rw [fromL_len]; omega) + ss[k]) := by
  induction ss generalizing x k with
  | nil => simp at h
  | cons s ss ih =>
    cases k with
    | zero => simp only [fromL, List.getElem_cons_succ, List.getElem_cons_zero]; exact fromL_zero _ _
    | succ k => simp only [fromL, List.getElem_cons_succ]; exact ih _ k (by simpa using h)
theorem wrap64_i64 (x : Int) : I64 (wrap64 x) := by unfold wrap64; exact ⟨by omega, by omega⟩
theorem wrap64_id {x : Int} (h : I64 x) : wrap64 x = x := by have h1 := h.1; have h2 := h.2; unfold wrap64; omega
theorem fromL_i64 (x : Int) (ss : List Int) (hx : I64 x) : ∀ z, z ∈ fromL x ss → I64 z := by
  induction ss generalizing x with
  | nil => intro z hz; obtain rfl := List.mem_singleton.1 hz; exact hx
  | cons s ss ih =>
    intro z hz
    rcases List.mem_cons.1 hz with rfl | hz
    · exact hx
    · exact ih _ (wrap64_i64 _) z hz
def fromM (x : Int) (ss : List Int) : Option (List Int) := if rowB (fromL x ss) then some (fromL x ss) else none
theorem rowB_take {zs : List Int} {k : Nat} (h : rowB zs = true) : rowB (zs.take (k + 1)) = true := by
  have := rowB_true.1 h
  refine rowB_true.2 ⟨fun z hz => this.1 z (List.mem_of_mem_take hz), ?_⟩
  simp; omega
theorem from_bad_row {x : Int} {ss : List Int} {k : Nat} (h : rowB ((fromL x ss).take (k + 1)) = false) : fromM x ss = none := by
  unfold fromM
  cases hr : rowB (fromL x ss) with
  | false => rfl
  | true => rw [rowB_take hr] at h; cases h
theorem from_bad_slope {x : Int} {ss : List Int} {k : Nat} (hk : k < ss.length) (hs : I64 ss[k]) (h : inB (-2000) 2000 ss[k] = false) : fromM x ss = none := by
  unfold fromM
  cases hr : rowB (fromL x ss) with
  | false => rfl
  | true =>
    exfalso
    have hl := fromL_len x ss
    have h1 := (rowB_true.1 hr).1 _ (List.getElem_mem (show k < (fromL x ss).length by omega))
    have h2 := (rowB_true.1 hr).1 _ (List.getElem_mem (show k + 1 < (fromL x ss).length by omega))
    rw [fromL_succ x ss k hk] at h2
    have h3 := inB_false h
    have h4 := hs.1
    have h5 := hs.2
    unfold wrap64 at h2
    omega

theorem OwnI.one (w : World) (x : Int) (hx : I64 x) : OwnI (w.alloc (.cells #[.int .i64 x] 3)) w.heap.size (.slice (some ⟨w.heap.size, 0, none⟩) 1 1) [x] :=
  ⟨World.ownsRow_lit w #[.int .i64 x] 1 (Nat.le_refl _) (by unfold maxLen; omega) rfl, by intro z hz; obtain rfl := List.mem_singleton.1 hz; exact hx, by simp⟩

theorem OwnI.iwn {w : World} {base n : Nat} {v : Value} {zs : List Int} (h : OwnI w base v zs) (hn : zs.length = n) (hl : n ≤ 17592186044416) : ∃ A c, v = .slice A n c ∧ IW w base w.heap.size A zs := by
  subst hn; exact h.iw hl
theorem specRowIn_n {b : Bool} {n : Nat} (A : Option Addr) (c lo hi : Nat) (zs : List Int) (w : World) (h : IR w lo hi A zs) (hr : rowB zs = b) (hn : zs.length = n) :
    Calls Try.prog 26 #[.slice A n c] w fun e w' => e = .returned (.bool b) ∧ w = w' := by
  subst hn; have := specRowIn_any A c lo hi zs w h; rwa [hr] at this

set_option maxRecDepth 100000 in
set_option maxHeartbeats 4000000 in
theorem specRowFrom_any (x0 : Int) (A : Option Addr) (c : Nat) (zs : List Int) (w : World) (hx : I64 x0) (h : IR w 0 w.heap.size A zs) (hn : zs.length ≤ 1048576) :
    Calls Try.prog 25 #[.int .i64 x0, .slice A zs.length c] w (RetRB w (fromM x0 zs)) := by
  have hl := h.1
  have HX := Lib.hid hx; have HLn := Lib.hid (fromL_len x0 zs)
  have HLI := Lib.hid (fromL_i64 x0 zs hx)
  have o1 := Lib.hid (OwnI.one w x0 hx)
  have t1 : (fromL x0 zs).take 1 = [x0] := by
    have e0 := fromL_zero x0 zs
    have := take_snoc (fromL x0 zs) 0 (by rw [fromL_len]; omega)
    rw [e0] at this
    simpa using this.symm
  have T1 := Lib.hid t1
  clear hx t1
  go_enter Try.func25, Try.ntmps25
  go_wp2
  go_loopw [6, 7] (fun v i wr => ∃ k : Nat, k ≤ zs.length ∧ i = .int .i64 k ∧ OwnI wr w.heap.size v ((fromL x0 zs).take (k + 1)) ∧ IR wr 0 w.heap.size A zs ∧ Below w.heap.size w wr) (fun _ i _ => zs.length - (intOf i).toNat)
  case atStart => exact ⟨0, Nat.zero_le _, rfl, by rw [T1.out]; exact o1.out, h.grow ((Below.refl _ _).alloc (Nat.le_refl _) _), (Below.refl _ _).alloc (Nat.le_refl _) _⟩
  case round =>
    obtain ⟨k, hk, rfl, ho, hR, hb⟩ := hrel
    have HO := Lib.hid ho; have HR := Lib.hid hR; have HB := Lib.hid hb
    have htl : ((fromL x0 zs).take (k + 1)).length = k + 1 := by simp [HLn.out]; omega
    have HTL := Lib.hid htl
    obtain ⟨A', c', rfl, hiw⟩ := ho.iwn htl (by omega)
    have HIW := Lib.hid hiw
    clear ho hR hb htl hiw h
    by_cases hlt : k < zs.length
    · have hlt' : (k : Int) < (zs.length : Int) := by omega
      obtain ⟨b, off, rfl, _, _, hcs⟩ := HR.out.at_ hlt
      cases hin : inB (-2000) 2000 zs[k] with
      | false =>
        have HM := Lib.hid (from_bad_slope (x := x0) hlt (HR.out.i64 hlt) hin)
        have HI := Lib.hid hin; clear hin
        go_wp2_with fail
        refine (l6In_false _ _ _ _ HI.out).mono ?_; rintro e w' ⟨rfl, rfl⟩
        go_wp2
        go_ret2
        rw [HM.out]
        exact (retSB_none (HB.out.alloc (by have := HB.out.size; omega) _)).toR
      | true =>
        have HI := Lib.hid hin; clear hin
        cases hro : rowB ((fromL x0 zs).take (k + 1)) with
        | false =>
          have HM := Lib.hid (from_bad_row hro)
          have HRo := Lib.hid hro; clear hro
          go_wp2_with fail
          refine (l6In_true _ _ _ _ HI.out).mono ?_; rintro e w' ⟨rfl, rfl⟩
          go_wp2_with fail
          refine (specRowIn_n _ _ _ _ _ _ HIW.out.toIR HRo.out HTL.out).mono ?_; rintro e w' ⟨rfl, rfl⟩
          go_wp2
          go_ret2
          rw [HM.out]
          exact (retSB_none (HB.out.alloc (by have := HB.out.size; omega) _)).toR
        | true =>
          have hk1 : k < ((fromL x0 zs).take (k + 1)).length := by rw [HTL.out]; omega
          obtain ⟨g, og, rfl, _, _, hco⟩ := HIW.out.toIR.at_ hk1
          have hkL : k < (fromL x0 zs).length := by rw [HLn.out]; omega
          have hge : ((fromL x0 zs).take (k + 1))[k]'hk1 = (fromL x0 zs)[k]'hkL := by simp
          obtain ⟨a, ha⟩ : ∃ a, (fromL x0 zs)[k]'hkL = a := ⟨_, rfl⟩
          rw [hge, ha] at hco
          have ba := (rowB_true.1 hro).1 _ (List.getElem_mem hk1)
          rw [hge, ha] at ba
          obtain ⟨ba1, ba2⟩ := ba
          obtain ⟨bs1, bs2⟩ := inB_true.1 HI.out
          have hy : I64 (a + zs[k]) := ⟨by omega, by omega⟩
          have hnx : (fromL x0 zs).take (k + 1) ++ [a + zs[k]] = (fromL x0 zs).take (k + 1 + 1) := by
            have hk2 : k + 1 < (fromL x0 zs).length := by rw [HLn.out]; omega
            have e := fromL_succ x0 zs k hlt
            rw [ha, wrap64_id hy] at e
            rw [← e]
            exact take_snoc _ _ hk2
          have HY := Lib.hid hy; have HN := Lib.hid hnx; have HRo := Lib.hid hro
          have HLL := Lib.hid (show ((fromL x0 zs).take (k + 1)).length < 17592186044416 by rw [HTL.out]; omega)
          have s2 : IntKind.i64.wrap (a + zs[k]) = a + zs[k] := IntWalk.i64_in _ hy
          have q0 : (0 : Int) ≤ (k : Int) := by omega
          have t0 : (k : Int).toNat = k := by omega
          have hkk : (k : Int) < (k : Int) + 1 := by omega
          clear hge ha hro hy hnx hk1
          go_wp2_with fail
          refine (l6In_true _ _ _ _ HI.out).mono ?_; rintro e w' ⟨rfl, rfl⟩
          go_wp2_with fail
          refine (specRowIn_n _ _ _ _ _ _ HIW.out.toIR HRo.out HTL.out).mono ?_; rintro e w' ⟨rfl, rfl⟩
          go_wp2
          go_region_law (refine step_push (by rfl) (.tmp 28) (.tmp 38) (by rfl) w.heap.size _ _ (by rfl) (by rfl) HO.out HLL.out HY.out ?_; intro v1 w1 ho1 hb1)
          all_goals
            have ho1' : OwnI w1 w.heap.size v1 ((fromL x0 zs).take (k + 1 + 1)) := by rw [← HN.out]; exact ho1
            have HO1 := Lib.hid ho1'; have HB1 := Lib.hid hb1
            clear ho1 ho1' hb1 s2 t0 hco hcs hkk
            go_wp2
            go_roundw
            case rel => exact ⟨k + 1, by omega, by go_num, HO1.out, HR.out.below HB1.out (Nat.le_refl _), HB.out.trans HB1.out⟩
            case measure => simp [intOf]; omega
    · obtain rfl : k = zs.length := by omega
      have hall : (fromL x0 zs).take (zs.length + 1) = fromL x0 zs := List.take_of_length_le (by rw [HLn.out]; exact Nat.le_refl _)
      have hiw := HIW.out
      rw [hall] at hiw
      have HIR := Lib.hid hiw.toIR
      clear hiw
      cases hr2 : rowB (fromL x0 zs) with
      | false =>
        have HM : Hid (fromM x0 zs = none) := by show _ = _; simp [fromM, hr2]
        have hc := l1Done_false A' c' _ _ (fromL x0 zs) wr HIR.out hr2
        rw [HLn.out] at hc
        have HC := Lib.hid hc; clear hc
        clear hr2 hall
        go_wp2_with fail
        refine HC.out.mono ?_
        rintro e w5 ⟨A5, rfl, hb5⟩
        go_wp2
        go_ret2
        rw [HM.out]
        exact (retSB_none (below_then HB.out (Nat.le_refl _) hb5)).toR
      | true =>
        have HM : Hid (fromM x0 zs = some (fromL x0 zs)) := by show _ = _; simp [fromM, hr2]
        have hc := l1Done_true A' c' _ _ (fromL x0 zs) wr HIR.out hr2
        rw [HLn.out] at hc
        have HC := Lib.hid hc; clear hc
        clear hr2 hall
        go_wp2_with fail
        refine HC.out.mono ?_
        rintro e w5 ⟨rfl, rfl⟩
        go_wp2
        go_ret2
        rw [HM.out]
        exact retRB_some HLn.out.symm HIR.out.toAll HB.out
end Go.Proofs.Ytdkkmdifdbikaaa
