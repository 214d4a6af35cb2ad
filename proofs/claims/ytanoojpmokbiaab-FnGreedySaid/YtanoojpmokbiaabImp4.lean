/-
  The program's RowTimes, RowTilt, RowBack; the model's RowBack. Conditions: the rows' cells are there.
-/
import Derived.Test.YtanoojpmokbiaabImp2
import Derived.Test.YtanoojpmokbiaabSp2
namespace Go.Proofs.Ytanoojpmokbiaab
open Go.RowKit

theorem chgM_false {zs : List Int} {g : Fin zs.length → Int} (h : rowB zs = false) : chgM zs g = none := by simp [chgM, h]

theorem timesM_of {zs : List Int} {k : Int} (hk : fits k = true) (hr : rowB zs = true) : timesM zs k = chgM zs (timesG zs k) := by simp [timesM, chgM, hk, hr]
theorem timesM_no {zs : List Int} {k : Int} (h : rowB zs = false) : timesM zs k = none := by simp [timesM, h]

theorem tiltM_of {zs : List Int} {f s : Int} (hf : fits f = true) (hs : fits s = true) (hr : rowB zs = true) : tiltM zs f s = chgM zs (tiltG zs f s) := by simp [tiltM, chgM, hf, hs, hr]
theorem tiltM_no {zs : List Int} {f s : Int} (h : rowB zs = false) : tiltM zs f s = none := by simp [tiltM, h]

def backG (zs : List Int) (x : Fin zs.length) : Int := zs[zs.length - 1 - x.1]
def backM (zs : List Int) : Option (List Int) := if rowB zs then some zs.reverse else none
theorem backG_get (zs : List Int) (x : Fin zs.length) : backG zs x = zs.reverse[x.1]'(by simp) := by simp [backG]
theorem chgL_back (zs : List Int) : chgL zs (backG zs) = zs.reverse := by
  apply List.ext_getElem
  · simp [chgL]
  · intro j h1 h2
    simp [chgL, backG]
theorem rowB_reverse {zs : List Int} (h : rowB zs = true) : rowB zs.reverse = true := by
  have := rowB_true.1 h
  exact rowB_true.2 ⟨fun z hz => this.1 z (by simpa using hz), by simpa using this.2⟩
theorem backM_chg (zs : List Int) : backM zs = chgM zs (backG zs) := by
  unfold backM chgM
  rw [chgL_back]
  cases h : rowB zs with
  | false => rfl
  | true => simp [rowB_reverse h]

end Go.Proofs.Ytanoojpmokbiaab
