/-
  RowFrom of the model: the row with a first entry and slopes. Conditions: the list's cells are there.
-/
import Derived.Test.YtanoojpmokbiaabImp2
import Derived.Deep.RegionLaw
namespace Go.Proofs.Ytanoojpmokbiaab
open Go.RowKit

/-- Entries added up, as int64 adds. -/
def fromL : Int → List Int → List Int
  | x, [] => [x]
  | x, s :: ss => x :: fromL (wrap64 (x + s)) ss
theorem fromL_len (x : Int) (ss : List Int) : (fromL x ss).length = ss.length + 1 := by
  induction ss generalizing x with
  | nil => rfl
  | cons s ss ih => simp [fromL, ih]
theorem fromL_zero (x : Int) (ss : List Int) : (fromL x ss)[0]'(by rw [fromL_len]; omega) = x := by
  cases ss <;> rfl
theorem fromL_succ (x : Int) (ss : List Int) (k : Nat) (h : k < ss.length) : (fromL x ss)[k + 1]'(by rw [fromL_len]; omega) = wrap64 ((fromL x ss)[k]'(by rw [fromL_len]; omega) + ss[k]) := by
  induction ss generalizing x k with
  | nil => simp at h
  | cons s ss ih =>
    cases k with
    | zero => simp only [fromL, List.getElem_cons_succ, List.getElem_cons_zero]; exact fromL_zero _ _
    | succ k => simp only [fromL, List.getElem_cons_succ]; exact ih _ k (by simpa using h)
theorem wrap64_i64 (x : Int) : I64 (wrap64 x) := by unfold wrap64; exact ⟨by omega, by omega⟩
theorem wrap64_id {x : Int} (h : I64 x) : wrap64 x = x := by have h1 := h.1; have h2 := h.2; unfold wrap64; omega
theorem fromL_i64 (x : Int) (ss : List Int) (hx : I64 x) : ∀ z, z ∈ fromL x ss → I64 z := by
  induction ss generalizing x with
  | nil => intro z hz; obtain rfl := List.mem_singleton.1 hz; exact hx
  | cons s ss ih =>
    intro z hz
    rcases List.mem_cons.1 hz with rfl | hz
    · exact hx
    · exact ih _ (wrap64_i64 _) z hz
def fromM (x : Int) (ss : List Int) : Option (List Int) := if rowB (fromL x ss) then some (fromL x ss) else none
theorem rowB_take {zs : List Int} {k : Nat} (h : rowB zs = true) : rowB (zs.take (k + 1)) = true := by
  have := rowB_true.1 h
  refine rowB_true.2 ⟨fun z hz => this.1 z (List.mem_of_mem_take hz), ?_⟩
  simp; omega
theorem from_bad_row {x : Int} {ss : List Int} {k : Nat} (h : rowB ((fromL x ss).take (k + 1)) = false) : fromM x ss = none := by
  unfold fromM
  cases hr : rowB (fromL x ss) with
  | false => rfl
  | true => rw [rowB_take hr] at h; cases h
theorem from_bad_slope {x : Int} {ss : List Int} {k : Nat} (hk : k < ss.length) (hs : I64 ss[k]) (h : inB (-2000) 2000 ss[k] = false) : fromM x ss = none := by
  unfold fromM
  cases hr : rowB (fromL x ss) with
  | false => rfl
  | true =>
    exfalso
    have hl := fromL_len x ss
    have h1 := (rowB_true.1 hr).1 _ (List.getElem_mem (show k < (fromL x ss).length by omega))
    have h2 := (rowB_true.1 hr).1 _ (List.getElem_mem (show k + 1 < (fromL x ss).length by omega))
    rw [fromL_succ x ss k hk] at h2
    have h3 := inB_false h
    have h4 := hs.1
    have h5 := hs.2
    unfold wrap64 at h2
    omega

theorem OwnI.one (w : World) (x : Int) (hx : I64 x) : OwnI (w.alloc (.cells #[.int .i64 x] 3)) w.heap.size (.slice (some ⟨w.heap.size, 0, none⟩) 1 1) [x] :=
  ⟨World.ownsRow_lit w #[.int .i64 x] 1 (Nat.le_refl _) (by unfold maxLen; omega) rfl, by intro z hz; obtain rfl := List.mem_singleton.1 hz; exact hx, by simp⟩

theorem OwnI.iwn {w : World} {base n : Nat} {v : Value} {zs : List Int} (h : OwnI w base v zs) (hn : zs.length = n) (hl : n ≤ 17592186044416) : ∃ A c, v = .slice A n c ∧ IW w base w.heap.size A zs := by
  subst hn; exact h.iw hl
theorem specRowIn_n {b : Bool} {n : Nat} (A : Option Addr) (c lo hi : Nat) (zs : List Int) (w : World) (h : IR w lo hi A zs) (hr : rowB zs = b) (hn : zs.length = n) :
    Calls Try.prog 31 #[.slice A n c] w fun e w' => e = .returned (.bool b) ∧ w = w' := by
  subst hn; have := specRowIn_any A c lo hi zs w h; rwa [hr] at this

end Go.Proofs.Ytanoojpmokbiaab
