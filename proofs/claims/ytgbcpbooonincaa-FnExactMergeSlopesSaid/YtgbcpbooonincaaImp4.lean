/-
  The program's RowTimes, RowTilt, RowBack; the model's RowBack. Conditions: the rows' cells are there.
-/
import Derived.Test.YtgbcpbooonincaaImp2
import Derived.Test.YtgbcpbooonincaaSp2
namespace Go.Proofs.Ytgbcpbooonincaa
open Go.RowKit

theorem chgM_false {zs : List Int} {g : Fin zs.length → Int} (h : rowB zs = false) : chgM zs g = none := by simp [chgM, h]

set_option maxHeartbeats 1000000 in
theorem tilt1_any (k x f s : Int) (P P' : Nat) (w : World) (hc : w.cell? ⟨P, 0, none⟩ = some (.int .i64 f)) (hc' : w.cell? ⟨P', 0, none⟩ = some (.int .i64 s)) (hx1 : -1000 ≤ x) (hx2 : x ≤ 1000) (hf1 : -1000 ≤ f) (hf2 : f ≤ 1000) (hm1 : -12000 ≤ k * s) (hm2 : k * s ≤ 12000) :
    Calls Try.prog 43 #[.int .i64 k, .int .i64 x, .pointer (some ⟨P, 0, none⟩), .pointer (some ⟨P', 0, none⟩)] w fun e w' => e = .returned (.int .i64 (x + f + k * s)) ∧ Below w.heap.size w w' := by
  go_enter Try.func43, Try.ntmps43
  go_wp2
  go_ret
  exact ⟨rfl, Below.refl _ _⟩

theorem timesM_of {zs : List Int} {k : Int} (hk : fits k = true) (hr : rowB zs = true) : timesM zs k = chgM zs (timesG zs k) := by simp [timesM, chgM, hk, hr]
theorem timesM_no {zs : List Int} {k : Int} (h : rowB zs = false) : timesM zs k = none := by simp [timesM, h]

theorem tiltM_of {zs : List Int} {f s : Int} (hf : fits f = true) (hs : fits s = true) (hr : rowB zs = true) : tiltM zs f s = chgM zs (tiltG zs f s) := by simp [tiltM, chgM, hf, hs, hr]
theorem tiltM_no {zs : List Int} {f s : Int} (h : rowB zs = false) : tiltM zs f s = none := by simp [tiltM, h]

set_option maxHeartbeats 1000000 in
theorem implRowTilt_any (A0 : Option Addr) (c0 : Nat) (zs0 : List Int) (x1 x2 : Int) (w : World) (h0 : IR w 0 w.heap.size A0 zs0) :
    Calls Try.prog 18 #[.slice A0 zs0.length c0, .int .i64 x1, .int .i64 x2] w (RetSB w (tiltM zs0 x1 x2)) := by
  have hmf : ∀ (fn : Fn) (first cap : Array Value) (w : World), (Instr.makeFunc fn first cap).run Try.prog w = .ok (.func fn first cap) w := fun _ _ _ _ => rfl
  have hb1 : Below w.heap.size w ((w.alloc (.cells #[.int .i64 x1] 3)).alloc (.cells #[.int .i64 x2] 3)) := ((Below.refl _ w).alloc (Nat.le_refl _) _).alloc (by rw [World.size_alloc]; omega) _
  have B1 := Lib.hid hb1; have H0 := Lib.hid (h0.grow hb1)
  clear hb1 h0
  cases hk : fits x1 with
  | false =>
    have HM : Hid (tiltM zs0 x1 x2 = none) := by show _ = _; simp [tiltM, hk]
    have HK := Lib.hid hk; clear hk
    go_enter Try.func18, Try.ntmps18
    go_wp2_with fail
    refine (entryFits_false _ _ HK.out).mono ?_; rintro e w2 ⟨rfl, rfl⟩
    go_wp2
    go_ret2
    rw [HM.out]
    exact retSB_none B1.out
  | true =>
    have HK := Lib.hid hk; clear hk
    cases hs : fits x2 with
    | false =>
      have HM : Hid (tiltM zs0 x1 x2 = none) := by show _ = _; simp [tiltM, hs]
      have HS := Lib.hid hs; clear hs
      go_enter Try.func18, Try.ntmps18
      go_wp2_with fail
      refine (entryFits_true _ _ HK.out).mono ?_; rintro e w2 ⟨rfl, rfl⟩
      go_wp2_with fail
      refine (entryFits_false _ _ HS.out).mono ?_; rintro e w2 ⟨rfl, rfl⟩
      go_wp2
      go_ret2
      rw [HM.out]
      exact retSB_none B1.out
    | true =>
      have HS := Lib.hid hs; clear hs
      have HC : Hid (Calls Try.prog 42 #[.slice A0 zs0.length c0, .func (.func 43) #[] #[.pointer (some ⟨w.heap.size, 0, none⟩), .pointer (some ⟨w.heap.size + 1, 0, none⟩)]] ((w.alloc (.cells #[.int .i64 x1] 3)).alloc (.cells #[.int .i64 x2] 3)) (RetSB ((w.alloc (.cells #[.int .i64 x1] 3)).alloc (.cells #[.int .i64 x2] 3)) (tiltM zs0 x1 x2))) := by
        cases hr : rowB zs0 with
        | false =>
          have := changed_any A0 c0 zs0 43 #[.pointer (some ⟨w.heap.size, 0, none⟩), .pointer (some ⟨w.heap.size + 1, 0, none⟩)] (fun _ => 0) (fun _ => ⟨by omega, by omega⟩) _ H0.out.toAll (enters_of Try.func43 (by kernel_rfl) rfl) (fun h => by rw [hr] at h; cases h)
          rw [chgM_false hr] at this
          rw [tiltM_no hr]; exact this
        | true =>
          rw [tiltM_of HK.out HS.out hr]
          refine changed_any A0 c0 zs0 43 #[.pointer (some ⟨w.heap.size, 0, none⟩), .pointer (some ⟨w.heap.size + 1, 0, none⟩)] (tiltG zs0 x1 x2) (tiltG_i64 hr HK.out HS.out) _ H0.out.toAll (enters_of Try.func43 (by kernel_rfl) rfl) ?_
          intro _ x W hb
          have hx := row_get hr x
          have hf := inB_true.1 HK.out
          have hm := tilt_bd x.2 (rowB_true.1 hr).2.2 HS.out
          exact tilt1_any _ zs0[x] x1 x2 w.heap.size (w.heap.size + 1) W
            ((hb.cell (p := ⟨w.heap.size, 0, none⟩) (by show w.heap.size < _; rw [World.size_alloc, World.size_alloc]; omega)).trans (by rw [World.cell?_alloc_past _ _ _ (by rw [World.size_alloc]; omega), World.cell?_alloc_at _ _ _ _ rfl]; rfl))
            ((hb.cell (p := ⟨w.heap.size + 1, 0, none⟩) (by show w.heap.size + 1 < _; rw [World.size_alloc, World.size_alloc]; omega)).trans (by rw [World.cell?_alloc_at _ _ _ _ (by rw [World.size_alloc])]; rfl)) hx.1 hx.2 hf.1 hf.2 hm.1 hm.2
      go_enter Try.func18, Try.ntmps18
      go_wp2_with fail
      refine (entryFits_true _ _ HK.out).mono ?_; rintro e w2 ⟨rfl, rfl⟩
      go_wp2_with fail
      refine (entryFits_true _ _ HS.out).mono ?_; rintro e w2 ⟨rfl, rfl⟩
      go_wp2_with fail
      refine HC.out.mono ?_
      rintro e w4 ⟨A', c', rfl, hi, hb⟩
      have HI := Lib.hid hi; have B4 := Lib.hid hb; clear hi hb
      go_wp2
      go_ret2
      exact ⟨A', c', rfl, HI.out.wide B1.out.size (Nat.le_refl _) (Nat.le_refl _), below_then B1.out (Nat.le_refl _) B4.out⟩

def backG (zs : List Int) (x : Fin zs.length) : Int := zs[zs.length - 1 - x.1]
def backM (zs : List Int) : Option (List Int) := if rowB zs then some zs.reverse else none
theorem backG_get (zs : List Int) (x : Fin zs.length) : backG zs x = zs.reverse[x.1]'(by simp) := by simp [backG]
theorem chgL_back (zs : List Int) : chgL zs (backG zs) = zs.reverse := by
  apply List.ext_getElem
  · simp [chgL]
  · intro j h1 h2
    simp [chgL, backG]
theorem rowB_reverse {zs : List Int} (h : rowB zs = true) : rowB zs.reverse = true := by
  have := rowB_true.1 h
  exact rowB_true.2 ⟨fun z hz => this.1 z (by simpa using hz), by simpa using this.2⟩
theorem backM_chg (zs : List Int) : backM zs = chgM zs (backG zs) := by
  unfold backM chgM
  rw [chgL_back]
  cases h : rowB zs with
  | false => rfl
  | true => simp [rowB_reverse h]

end Go.Proofs.Ytgbcpbooonincaa
