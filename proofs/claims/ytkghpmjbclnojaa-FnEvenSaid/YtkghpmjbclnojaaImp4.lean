/-
  The program's RowTimes, RowTilt, RowBack; the model's RowBack. Conditions: the rows' cells are there.
-/
import Derived.Test.YtkghpmjbclnojaaImp2
import Derived.Test.YtkghpmjbclnojaaSp2
namespace Go.Proofs.Ytkghpmjbclnojaa
open Go.RowKit

theorem chgM_false {zs : List Int} {g : Fin zs.length → Int} (h : rowB zs = false) : chgM zs g = none := by simp [chgM, h]

theorem timesM_of {zs : List Int} {k : Int} (hk : fits k = true) (hr : rowB zs = true) : timesM zs k = chgM zs (timesG zs k) := by simp [timesM, chgM, hk, hr]
theorem timesM_no {zs : List Int} {k : Int} (h : rowB zs = false) : timesM zs k = none := by simp [timesM, h]

theorem tiltM_of {zs : List Int} {f s : Int} (hf : fits f = true) (hs : fits s = true) (hr : rowB zs = true) : tiltM zs f s = chgM zs (tiltG zs f s) := by simp [tiltM, chgM, hf, hs, hr]
theorem tiltM_no {zs : List Int} {f s : Int} (h : rowB zs = false) : tiltM zs f s = none := by simp [tiltM, h]

def backG (zs : List Int) (x : Fin zs.length) : Int := zs[zs.length - 1 - x.1]
def backM (zs : List Int) : Option (List Int) := if rowB zs then some zs.reverse else none
theorem backG_get (zs : List Int) (x : Fin zs.length) : backG zs x = zs.reverse[x.1]'(by simp) := by simp [backG]
theorem chgL_back (zs : List Int) : chgL zs (backG zs) = zs.reverse := by
  apply List.ext_getElem
  · simp [chgL]
  · intro j h1 h2
    simp [chgL, backG]
theorem rowB_reverse {zs : List Int} (h : rowB zs = true) : rowB zs.reverse = true := by
  have := rowB_true.1 h
  exact rowB_true.2 ⟨fun z hz => this.1 z (by simpa using hz), by simpa using this.2⟩
theorem backM_chg (zs : List Int) : backM zs = chgM zs (backG zs) := by
  unfold backM chgM
  rw [chgL_back]
  cases h : rowB zs with
  | false => rfl
  | true => simp [rowB_reverse h]

set_option maxHeartbeats 1000000 in
theorem l1Back_any (A : Option Addr) (c lo hi : Nat) (zs : List Int) (w : World) (h : IR w lo hi A zs) :
    Calls Try.prog 113 #[.slice A zs.length c] w (RetS w zs.reverse) := by
  have hl := h.1
  have HR : Hid (zs.reverse.length = zs.length) := List.length_reverse ..
  have hm1 : -9000000000000000000 ≤ (zs.length : Int) - 1 := by omega
  have hm2 : (zs.length : Int) - 1 ≤ 9000000000000000000 := by omega
  go_enter Try.func113, Try.ntmps113
  go_wp2
  go_loopw [3, 4] (fun v i wr => ∃ k : Nat, k ≤ zs.length ∧ i = .int .i64 ((zs.length : Int) - 1 - (k : Int)) ∧ OwnI wr w.heap.size v (zs.reverse.take k) ∧ Below w.heap.size w wr) (fun _ i _ => (intOf i + 1).toNat)
  case atStart => exact ⟨0, Nat.zero_le _, by simp, by simpa using OwnI.made w, (Below.refl _ _).alloc (Nat.le_refl _) _⟩
  case round =>
    obtain ⟨k, hk, rfl, ho, hb⟩ := hrel
    have HO := Lib.hid ho; have HBl := Lib.hid hb
    clear ho hb
    by_cases hlt : k < zs.length
    · obtain ⟨j, hj⟩ : ∃ j : Nat, (zs.length : Int) - 1 - (k : Int) = (j : Int) := ⟨zs.length - 1 - k, by omega⟩
      have hjl : j < zs.length := by omega
      have hje : zs.length - 1 - k = j := by omega
      have hget : zs.reverse[k]'(by simpa using hlt) = zs[j] := by simp [hje]
      have HGT := Lib.hid hget
      obtain ⟨b, off, rfl, _, _, hc⟩ := (h.below HBl.out h.2.2.1).at_ hjl
      have HY := Lib.hid (h.i64 hjl)
      have hlen : (zs.reverse.take k).length < 17592186044416 := by simp; omega
      have HLn := Lib.hid hlen
      have HT := Lib.hid (take_snoc zs.reverse k (by simpa using hlt))
      have HJ := Lib.hid hj
      rw [hj]
      have j1 : (j : Int) < (zs.length : Int) := by omega
      have j0 : (0 : Int) ≤ (j : Int) := by omega
      have hjb : (j : Int) ≤ 9000000000000000000 := by omega
      clear hj hje hget hlen h
      go_wp2_with (at_builtin; refine wpList_push rfl _ _ rfl w.heap.size _ _ rfl rfl HO.out HLn.out HY.out ?_; intro v1 w1 ho1 hb1)
      have ho1' : OwnI w1 w.heap.size v1 (zs.reverse.take (k + 1)) := by rw [← HT.out, HGT.out]; exact ho1
      have HO1 := Lib.hid ho1'; have HB1 := Lib.hid hb1
      clear ho1 ho1' hb1 hc
      go_roundw
      case rel => exact ⟨k + 1, by omega, by have := HJ.out; first | (congr 1; omega) | congr 1, HO1.out, HBl.out.trans HB1.out⟩
      case measure => first | (simp [intOf]; omega) | simp [intOf]
    · obtain rfl : k = zs.length := by omega
      have ho := HO.out
      rw [List.take_of_length_le (by simp)] at ho
      obtain ⟨A', c', rfl, hiw⟩ := ho.iw (by rw [HR.out]; exact hl)
      have HIW := Lib.hid hiw
      have hneg : (zs.length : Int) - 1 - (zs.length : Int) = -1 := by omega
      rw [hneg]
      clear hiw ho HO hneg h
      go_wp2
      go_ret
      exact ⟨A', c', rfl, HIW.out, HBl.out⟩

end Go.Proofs.Ytkghpmjbclnojaa
