/-
  The model's own small functions of chapter 1 as Lean functions: l6In, RowIn. Conditions: the list's cells are there.
-/
import Derived.Test.YtanoojpmokbiaabBase
namespace Go.Proofs.Ytanoojpmokbiaab
open Go.RowKit

theorem ret_bool {a b : Bool} (h : a = b) : Ending.returned (.bool a) = .returned (.bool b) := by rw [h]

def inB (lo hi x : Int) : Bool := decide (lo ≤ x) && decide (x ≤ hi)
theorem inB_true {lo hi x : Int} : inB lo hi x = true ↔ lo ≤ x ∧ x ≤ hi := by simp [inB]
theorem inB_false {lo hi x : Int} (h : inB lo hi x = false) : ¬ (lo ≤ x ∧ x ≤ hi) := by rw [← inB_true, h]; simp
def fits (x : Int) : Bool := inB (-1000) 1000 x
def rowB (zs : List Int) : Bool := zs.all fits && inB 1 12 zs.length
theorem rowB_true {zs : List Int} : rowB zs = true ↔ (∀ z, z ∈ zs → -1000 ≤ z ∧ z ≤ 1000) ∧ 1 ≤ zs.length ∧ zs.length ≤ 12 := by
  simp [rowB, fits, inB_true]; omega

set_option maxHeartbeats 400000 in
theorem l6In_any (x lo hi : Int) (w : World) : Calls Try.prog 21 #[.int .i64 x, .int .i64 lo, .int .i64 hi] w fun e w' => e = .returned (.bool (inB lo hi x)) ∧ w = w' := by
  by_cases h1 : lo ≤ x
  · by_cases h2 : x ≤ hi
    · have h : inB lo hi x = true := inB_true.2 ⟨h1, h2⟩
      have H := Lib.hid h; clear h
      go_enter Try.func21, Try.ntmps21
      go_wp2
      go_ret
      exact ⟨ret_bool H.out.symm, rfl⟩
    · have h : inB lo hi x = false := by simp [inB, h2]
      have H := Lib.hid h; clear h
      go_enter Try.func21, Try.ntmps21
      go_wp2
      go_ret
      exact ⟨ret_bool (by rw [H.out]), rfl⟩
  · have h : inB lo hi x = false := by simp [inB, h1]
    have H := Lib.hid h; clear h
    go_enter Try.func21, Try.ntmps21
    go_wp2
    go_ret
    exact ⟨ret_bool H.out.symm, rfl⟩
theorem l6In_true (x lo hi : Int) (w : World) (h : inB lo hi x = true) : Calls Try.prog 21 #[.int .i64 x, .int .i64 lo, .int .i64 hi] w fun e w' => e = .returned (.bool true) ∧ w = w' := by
  have := l6In_any x lo hi w; rwa [h] at this
theorem l6In_false (x lo hi : Int) (w : World) (h : inB lo hi x = false) : Calls Try.prog 21 #[.int .i64 x, .int .i64 lo, .int .i64 hi] w fun e w' => e = .returned (.bool false) ∧ w = w' := by
  have := l6In_any x lo hi w; rwa [h] at this

theorem rowB_of {zs : List Int} {k : Nat} (h : k < zs.length) (hf : inB (-1000) 1000 zs[k] = false) : rowB zs = false := by
  have : zs.all fits = false := by
    rw [List.all_eq_false]; exact ⟨zs[k], List.getElem_mem h, by simp [fits, hf]⟩
  simp [rowB, this]

set_option maxHeartbeats 400000 in
theorem specRowIn_any (A : Option Addr) (c lo hi : Nat) (zs : List Int) (w : World) (h : IR w lo hi A zs) :
    Calls Try.prog 31 #[.slice A zs.length c] w fun e w' => e = .returned (.bool (rowB zs)) ∧ w = w' := by
  have hl := h.1
  go_enter Try.func31, Try.ntmps31
  go_wp2
  go_loop [3] (fun i => ∃ k : Nat, k ≤ zs.length ∧ i = .int .i64 k ∧ Hid ((zs.take k).all fits = true)) (fun i => zs.length - (intOf i).toNat)
  case atStart => exact ⟨0, Nat.zero_le _, rfl, Lib.hid (by simp)⟩
  case round =>
    obtain ⟨k, hk, rfl, hall⟩ := hrel
    by_cases hlt : k < zs.length
    · obtain ⟨b, off, rfl, _, _, hc⟩ := h.at_ hlt
      have hlt' : (k : Int) < (zs.length : Int) := by omega
      cases hin : inB (-1000) 1000 zs[k] with
      | true =>
        have HI := Lib.hid hin; clear hin
        go_wp2_with (go_at_call 21; refine (l6In_true _ _ _ _ HI.out).mono ?_; rintro e w' ⟨rfl, rfl⟩)
        go_round
        case rel => exact ⟨k + 1, by omega, by go_num, Lib.hid (by
          rw [List.take_add_one, List.getElem?_eq_getElem hlt, List.all_append, hall.out]; simp [fits, HI.out])⟩
        case measure => simp [intOf]; omega
      | false =>
        have HI := Lib.hid hin; clear hin
        go_wp2_with (go_at_call 21; refine (l6In_false _ _ _ _ HI.out).mono ?_; rintro e w' ⟨rfl, rfl⟩)
        go_ret
        exact ⟨ret_bool (rowB_of hlt HI.out).symm, rfl⟩
    · obtain rfl : k = zs.length := by omega
      go_wp2_with (go_at_call 21; refine (l6In_any _ _ _ _).mono ?_; rintro e w' ⟨rfl, rfl⟩)
      go_ret
      exact ⟨ret_bool (by have := hall.out; rw [List.take_length] at this; simp [rowB, this]), rfl⟩
theorem specRowIn_b (A : Option Addr) (c : Nat) (zs : List Int) (w : World) (h : IR w 0 w.heap.size A zs) :
    Calls Try.prog 31 #[.slice A zs.length c] w fun e w' => e = .returned (.bool (rowB zs)) ∧ Below w.heap.size w w' :=
  (specRowIn_any A c _ _ zs w h).mono fun _ _ ⟨he, hw⟩ => ⟨he, by rw [← hw]; exact Below.refl _ _⟩
end Go.Proofs.Ytanoojpmokbiaab
