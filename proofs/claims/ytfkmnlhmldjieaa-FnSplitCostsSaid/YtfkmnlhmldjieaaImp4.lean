/-
  The program's RowTimes, RowTilt, RowBack; the model's RowBack. Conditions: the rows' cells are there.
-/
import Derived.Test.YtfkmnlhmldjieaaImp2
import Derived.Test.YtfkmnlhmldjieaaSp2
namespace Go.Proofs.Ytfkmnlhmldjieaa
open Go.RowKit

theorem chgM_false {zs : List Int} {g : Fin zs.length → Int} (h : rowB zs = false) : chgM zs g = none := by simp [chgM, h]

set_option maxHeartbeats 1000000 in
theorem back1_any (k x : Int) (A : Option Addr) (c lo hi j : Nat) (zs : List Int) (P : Nat) (w : World) (hc : w.cell? ⟨P, 0, none⟩ = some (.slice A zs.length c)) (h : IR w lo hi A zs) (hk : 0 ≤ k) (hj : j < zs.length) (hkj : (zs.length : Int) - 1 - k = (j : Int)) :
    Calls Try.prog 48 #[.int .i64 k, .int .i64 x, .pointer (some ⟨P, 0, none⟩)] w fun e w' => e = .returned (.int .i64 zs[j]) ∧ Below w.heap.size w w' := by
  obtain ⟨b, off, rfl, _, _, hcell⟩ := h.at_ hj
  have hl := h.1
  have k1 : (j : Int) < (zs.length : Int) := by omega
  have k0 : (0 : Int) ≤ (j : Int) := by omega
  have t0 : (j : Int).toNat = j := by omega
  have hb1 : -9000000000000000000 ≤ (zs.length : Int) - 1 := by omega
  have hb2 : (zs.length : Int) - 1 ≤ 9000000000000000000 := by omega
  clear h
  go_enter Try.func48, Try.ntmps48
  go_wp2
  go_ret
  exact ⟨rfl, Below.refl _ _⟩

theorem timesM_of {zs : List Int} {k : Int} (hk : fits k = true) (hr : rowB zs = true) : timesM zs k = chgM zs (timesG zs k) := by simp [timesM, chgM, hk, hr]
theorem timesM_no {zs : List Int} {k : Int} (h : rowB zs = false) : timesM zs k = none := by simp [timesM, h]

theorem tiltM_of {zs : List Int} {f s : Int} (hf : fits f = true) (hs : fits s = true) (hr : rowB zs = true) : tiltM zs f s = chgM zs (tiltG zs f s) := by simp [tiltM, chgM, hf, hs, hr]
theorem tiltM_no {zs : List Int} {f s : Int} (h : rowB zs = false) : tiltM zs f s = none := by simp [tiltM, h]

def backG (zs : List Int) (x : Fin zs.length) : Int := zs[zs.length - 1 - x.1]
def backM (zs : List Int) : Option (List Int) := if rowB zs then some zs.reverse else none
theorem backG_get (zs : List Int) (x : Fin zs.length) : backG zs x = zs.reverse[x.1]'(by simp) := by simp [backG]
theorem chgL_back (zs : List Int) : chgL zs (backG zs) = zs.reverse := by
  apply List.ext_getElem
  · simp [chgL]
  · intro j h1 h2
    simp [chgL, backG]
theorem rowB_reverse {zs : List Int} (h : rowB zs = true) : rowB zs.reverse = true := by
  have := rowB_true.1 h
  exact rowB_true.2 ⟨fun z hz => this.1 z (by simpa using hz), by simpa using this.2⟩
theorem backM_chg (zs : List Int) : backM zs = chgM zs (backG zs) := by
  unfold backM chgM
  rw [chgL_back]
  cases h : rowB zs with
  | false => rfl
  | true => simp [rowB_reverse h]

set_option maxHeartbeats 1000000 in
theorem implRowBack_any (A0 : Option Addr) (c0 : Nat) (zs0 : List Int) (w : World) (h0 : IR w 0 w.heap.size A0 zs0) :
    Calls Try.prog 16 #[.slice A0 zs0.length c0] w (RetSB w (backM zs0)) := by
  have hmf : ∀ (fn : Fn) (first cap : Array Value) (w : World), (Instr.makeFunc fn first cap).run Try.prog w = .ok (.func fn first cap) w := fun _ _ _ _ => rfl
  have hb1 : Below w.heap.size w (w.alloc (.cells #[.slice A0 zs0.length c0] 23)) := (Below.refl _ w).alloc (Nat.le_refl _) _
  have B1 := Lib.hid hb1; have H0 := Lib.hid (h0.grow hb1)
  have hI : ∀ x, I64 (backG zs0 x) := fun x => h0.2.1 _ (List.getElem_mem _)
  have HC : Hid (Calls Try.prog 47 #[.slice A0 zs0.length c0, .func (.func 48) #[] #[.pointer (some ⟨w.heap.size, 0, none⟩)]] (w.alloc (.cells #[.slice A0 zs0.length c0] 23)) (RetSB (w.alloc (.cells #[.slice A0 zs0.length c0] 23)) (backM zs0))) := by
    rw [backM_chg]
    refine changed_any A0 c0 zs0 48 #[.pointer (some ⟨w.heap.size, 0, none⟩)] (backG zs0) hI _ H0.out.toAll (enters_of Try.func48 (by kernel_rfl) rfl) ?_
    intro _ x W hb
    exact back1_any _ _ A0 c0 _ _ (zs0.length - 1 - x.1) zs0 w.heap.size W ((hb.cell (p := ⟨w.heap.size, 0, none⟩) (by show w.heap.size < _; rw [World.size_alloc]; omega)).trans (by rw [World.cell?_alloc_at _ _ _ _ rfl]; rfl)) (H0.out.grow hb) (by omega) (by have := x.2; omega) (by have := x.2; omega)
  clear hb1 h0 hI
  go_enter Try.func16, Try.ntmps16
  go_wp2_with fail
  refine HC.out.mono ?_
  rintro e w4 ⟨A', c', rfl, hi, hb⟩
  have HI := Lib.hid hi; have B4 := Lib.hid hb; clear hi hb
  go_wp2
  go_ret2
  exact ⟨A', c', rfl, HI.out.wide B1.out.size (Nat.le_refl _) (Nat.le_refl _), below_then B1.out (Nat.le_refl _) B4.out⟩

end Go.Proofs.Ytfkmnlhmldjieaa
