/-
  The model's functions that make a row entry by entry: RowTimes, RowTilt, RowSum, RowHigh, RowLow, RowBack as Lean functions. Conditions: the rows' cells are there.
-/
import Derived.Test.YtanoojpmokbiaabPush
import Derived.Test.YtanoojpmokbiaabChg
namespace Go.Proofs.Ytanoojpmokbiaab
open Go.RowKit

theorem take_chg (zs : List Int) (g : Fin zs.length → Int) (k : Nat) (h : k < zs.length) : (chgL zs g).take k ++ [g ⟨k, h⟩] = (chgL zs g).take (k + 1) := by
  have hl : k < (chgL zs g).length := by simp [chgL, h]
  rw [← take_snoc _ k hl]; simp [chgL]

theorem specRowIn_true (A : Option Addr) (c lo hi : Nat) (zs : List Int) (w : World) (h : IR w lo hi A zs) (hr : rowB zs = true) :
    Calls Try.prog 31 #[.slice A zs.length c] w fun e w' => e = .returned (.bool true) ∧ w = w' := by
  have := specRowIn_any A c lo hi zs w h; rwa [hr] at this
theorem specRowIn_false (A : Option Addr) (c lo hi : Nat) (zs : List Int) (w : World) (h : IR w lo hi A zs) (hr : rowB zs = false) :
    Calls Try.prog 31 #[.slice A zs.length c] w fun e w' => e = .returned (.bool false) ∧ w = w' := by
  have := specRowIn_any A c lo hi zs w h; rwa [hr] at this
def timesG (zs : List Int) (k : Int) (x : Fin zs.length) : Int := zs[x] * k
def timesM (zs : List Int) (k : Int) : Option (List Int) := if rowB zs && fits k then (if rowB (chgL zs (timesG zs k)) then some (chgL zs (timesG zs k)) else none) else none
theorem row_get {zs : List Int} (h : rowB zs = true) (x : Fin zs.length) : -1000 ≤ zs[x] ∧ zs[x] ≤ 1000 := (rowB_true.1 h).1 _ (List.getElem_mem x.2)
theorem mul_bd {a b : Int} (h1 : -1000 ≤ a) (h2 : a ≤ 1000) (h3 : -1000 ≤ b) (h4 : b ≤ 1000) : -1000000 ≤ a * b ∧ a * b ≤ 1000000 := by
  have p1 : 0 ≤ (1000 + a) * (1000 - b) := Int.mul_nonneg (by omega) (by omega)
  have p2 : 0 ≤ (1000 - a) * (1000 + b) := Int.mul_nonneg (by omega) (by omega)
  have p3 : 0 ≤ (1000 - a) * (1000 - b) := Int.mul_nonneg (by omega) (by omega)
  have p4 : 0 ≤ (1000 + a) * (1000 + b) := Int.mul_nonneg (by omega) (by omega)
  simp only [Int.add_mul, Int.mul_sub, Int.sub_mul, Int.mul_add] at p1 p2 p3 p4
  constructor <;> omega
theorem timesG_i64 {zs : List Int} {k : Int} (h : rowB zs = true) (hk : fits k = true) (x : Fin zs.length) : I64 (timesG zs k x) := by
  have h1 := row_get h x
  have h2 := inB_true.1 hk
  have := mul_bd h1.1 h1.2 h2.1 h2.2
  exact ⟨by unfold timesG; omega, by unfold timesG; omega⟩

def twoB (a b : List Int) : Bool := rowB a && rowB b && decide (a.length = b.length)
theorem twoB_true {a b : List Int} (h : twoB a b = true) : rowB a = true ∧ rowB b = true ∧ a.length = b.length := by
  simp [twoB] at h; exact ⟨h.1.1, h.1.2, h.2⟩
def sumG (a b : List Int) (x : Fin a.length) : Int := a[x] + b.getD x.1 0
def highG (a b : List Int) (x : Fin a.length) : Int := if a[x] < b.getD x.1 0 then b.getD x.1 0 else a[x]
def lowG (a b : List Int) (x : Fin a.length) : Int := if b.getD x.1 0 < a[x] then b.getD x.1 0 else a[x]
theorem getD_in {zs : List Int} {k : Nat} (h : k < zs.length) : zs.getD k 0 = zs[k] := by simp [List.getD, h]
theorem two_get {a b : List Int} (h : twoB a b = true) (x : Fin a.length) : (-1000 ≤ a[x] ∧ a[x] ≤ 1000) ∧ -1000 ≤ b.getD x.1 0 ∧ b.getD x.1 0 ≤ 1000 := by
  obtain ⟨h1, h2, h3⟩ := twoB_true h
  have hx : x.1 < b.length := by have := x.2; omega
  refine ⟨row_get h1 x, ?_⟩
  rw [getD_in hx]; exact row_get h2 ⟨x.1, hx⟩
theorem sumG_i64 {a b : List Int} (h : twoB a b = true) (x : Fin a.length) : I64 (sumG a b x) := by
  have := two_get h x; unfold sumG; exact ⟨by omega, by omega⟩
theorem highG_fits {a b : List Int} (h : twoB a b = true) (x : Fin a.length) : -1000 ≤ highG a b x ∧ highG a b x ≤ 1000 := by
  have := two_get h x; unfold highG; split <;> omega
theorem lowG_fits {a b : List Int} (h : twoB a b = true) (x : Fin a.length) : -1000 ≤ lowG a b x ∧ lowG a b x ≤ 1000 := by
  have := two_get h x; unfold lowG; split <;> omega
theorem i64_of_fits {x : Int} (h : -1000 ≤ x ∧ x ≤ 1000) : I64 x := ⟨by omega, by omega⟩
theorem rowB_chg {zs : List Int} {g : Fin zs.length → Int} (h : rowB zs = true) (hg : ∀ x, -1000 ≤ g x ∧ g x ≤ 1000) : rowB (chgL zs g) = true := by
  have hl := (rowB_true.1 h).2
  refine rowB_true.2 ⟨fun z hz => ?_, by simpa [chgL] using hl⟩
  obtain ⟨x, _, rfl⟩ := List.mem_map.1 hz
  exact hg x
def sumM (a b : List Int) : Option (List Int) := if twoB a b then (if rowB (chgL a (sumG a b)) then some (chgL a (sumG a b)) else none) else none
def highM (a b : List Int) : Option (List Int) := if twoB a b then some (chgL a (highG a b)) else none
def lowM (a b : List Int) : Option (List Int) := if twoB a b then some (chgL a (lowG a b)) else none

def tiltG (zs : List Int) (f s : Int) (x : Fin zs.length) : Int := zs[x] + f + ((x.1 : Nat) : Int) * s
def tiltM (zs : List Int) (f s : Int) : Option (List Int) := if rowB zs && fits f && fits s then (if rowB (chgL zs (tiltG zs f s)) then some (chgL zs (tiltG zs f s)) else none) else none
theorem tilt_bd {k n : Nat} {s : Int} (hk : k < n) (hn : n ≤ 12) (h : fits s = true) : -12000 ≤ (k : Int) * s ∧ (k : Int) * s ≤ 12000 := by
  have h2 := inB_true.1 h
  have h1 := mul_bd (a := (k : Int)) (b := s) (by omega) (by omega) h2.1 h2.2
  have p1 : 0 ≤ (12 - (k : Int)) * (1000 + s) := Int.mul_nonneg (by omega) (by omega)
  have p2 : 0 ≤ (12 - (k : Int)) * (1000 - s) := Int.mul_nonneg (by omega) (by omega)
  have p3 : 0 ≤ (k : Int) * (1000 + s) := Int.mul_nonneg (by omega) (by omega)
  have p4 : 0 ≤ (k : Int) * (1000 - s) := Int.mul_nonneg (by omega) (by omega)
  simp only [Int.mul_sub, Int.sub_mul, Int.mul_add] at p1 p2 p3 p4
  constructor <;> omega
theorem tiltG_i64 {zs : List Int} {f s : Int} (h : rowB zs = true) (hf : fits f = true) (hs : fits s = true) (x : Fin zs.length) : I64 (tiltG zs f s x) := by
  have h1 := row_get h x
  have h2 := inB_true.1 hf
  have h3 := tilt_bd x.2 (rowB_true.1 h).2.2 hs
  unfold tiltG; exact ⟨by omega, by omega⟩
end Go.Proofs.Ytanoojpmokbiaab
