/-
  The order of steps in the program: comparing two numbers, the first of two that is not 0, comparing two steps. Conditions: none.
-/
import Derived.Test.YtanoojpmokbiaabSgA
import Derived.Test.YtanoojpmokbiaabGrM
import Derived.Test.YtanoojpmokbiaabSortF
namespace Go.Proofs.Ytanoojpmokbiaab
open Go.RowKit Go.Shelf Go.Lib Go.Sort

def cmpI (x y : Int) : Int := if x < y then -1 else if y < x then 1 else 0
theorem cfS_is (x y : Nat × Int) : cfS x y = if cmpI x.2 y.2 = 0 then cmpI (x.1 : Int) (y.1 : Int) else cmpI x.2 y.2 := by
  unfold cfS cmpI
  rcases Int.lt_trichotomy x.2 y.2 with h | h | h
  · simp [h]
  · simp [h]
  · simp [h, Int.lt_asymm h]

set_option maxRecDepth 100000 in
set_option maxHeartbeats 1000000 in
theorem compare_any (x y : Int) (W : World) : Calls Try.prog 53 #[.int .i64 x, .int .i64 y] W fun e w' => e = .returned (.int .i64 (cmpI x y)) ∧ w' = W := by
  unfold cmpI
  by_cases h : x < y
  · rw [if_pos h]
    go_enter Try.func53, Try.ntmps53
    go_wp2
    go_ret
    exact ⟨rfl, rfl⟩
  · by_cases h' : y < x
    · rw [if_neg h, if_pos h']
      go_enter Try.func53, Try.ntmps53
      go_wp2
      go_ret
      exact ⟨rfl, rfl⟩
    · rw [if_neg h, if_neg h']
      go_enter Try.func53, Try.ntmps53
      go_wp2
      go_ret
      exact ⟨rfl, rfl⟩

set_option maxRecDepth 100000 in
set_option maxHeartbeats 1000000 in
theorem or2_any (b : Nat) (x y : Int) (W : World) (h0 : W.cell? ⟨b, 0, none⟩ = some (.int .i64 x)) (h1 : W.cell? ⟨b, 1, none⟩ = some (.int .i64 y)) :
    Calls Try.prog 52 #[.slice (some ⟨b, 0, none⟩) 2 2] W fun e w' => e = .returned (.int .i64 (if x = 0 then y else x)) ∧ w' = W := by
  have n1 : (1 : Int) < ((2 : Nat) : Int) := by decide
  have n0 : (0 : Int) < ((2 : Nat) : Int) := by decide
  by_cases c : x = 0
  · rw [if_pos c]
    subst c
    by_cases d : y = 0
    · subst d
      go_enter Try.func52, Try.ntmps52
      go_wp2
      refine wp_loop_rounds 3 ?_
      rw [rounds_succ]
      go_wp2
      rw [rounds_succ]
      go_wp2
      rw [rounds_succ]
      go_wp2
      go_ret
      exact ⟨rfl, rfl⟩
    · have d' : (y == 0) = false := by rw [beq_eq_false_iff_ne]; exact d
      go_enter Try.func52, Try.ntmps52
      go_wp2
      refine wp_loop_rounds 3 ?_
      rw [rounds_succ]
      go_wp2
      rw [rounds_succ]
      go_wp2
      go_ret
      exact ⟨rfl, rfl⟩
  · rw [if_neg c]
    have c' : (x == 0) = false := by rw [beq_eq_false_iff_ne]; exact c
    go_enter Try.func52, Try.ntmps52
    go_wp2
    refine wp_loop_rounds 3 ?_
    rw [rounds_succ]
    go_wp2
    go_ret
    exact ⟨rfl, rfl⟩

/-- A step's two cells. -/
def encS (x : Nat × Int) : List Value := [.int .i64 (x.1 : Int), .int .i64 x.2]

set_option maxRecDepth 100000 in
set_option maxHeartbeats 1000000 in
theorem flatter_any (x y : Nat × Int) (W : World) : Calls Try.prog 37 #[.agg #[.int .i64 (x.1 : Int), .int .i64 x.2], .agg #[.int .i64 (y.1 : Int), .int .i64 y.2]] W fun e w' => e = .returned (.int .i64 (cfS x y)) ∧ ∃ q os, w' = grow (W.drewN q) os := by
  rw [cfS_is]
  obtain ⟨x1, x2⟩ := x
  obtain ⟨y1, y2⟩ := y
  simp only
  obtain ⟨p, hp⟩ : ∃ p, cmpI x2 y2 = p := ⟨_, rfl⟩
  obtain ⟨r, hr⟩ : ∃ r, cmpI (x1 : Int) (y1 : Int) = r := ⟨_, rfl⟩
  have C1 := Lib.hid (fun W' => compare_any x2 y2 W')
  have C2 := Lib.hid (fun W' => compare_any (x1 : Int) (y1 : Int) W')
  rw [hp] at C1
  rw [hr] at C2
  rw [hp, hr]
  have HCO := Lib.hid (fun b W' h0 h1 => or2_any b p r W' h0 h1)
  obtain ⟨v, hv⟩ : ∃ v, (if p = 0 then r else p) = v := ⟨_, rfl⟩
  rw [hv] at HCO
  rw [hv]
  clear hp hr hv
  go_enter Try.func37, Try.ntmps37
  go_wp2
  obtain ⟨B, hB⟩ : ∃ B, W.heap.size = B := ⟨_, rfl⟩
  have z1 : (W.alloc (.cells #[.int .i64 (x1 : Int), .int .i64 x2] 61)).heap[B]? = some (.cells #[.int .i64 (x1 : Int), .int .i64 x2] 61 (0, 0)) := by rw [← hB]; exact World.alloc_heap_new W _
  have z2 : ((W.alloc (.cells #[.int .i64 (x1 : Int), .int .i64 x2] 61)).alloc (.cells #[.int .i64 (y1 : Int), .int .i64 y2] 61)).heap[B + 1]? = some (.cells #[.int .i64 (y1 : Int), .int .i64 y2] 61 (0, 0)) := by
    have := World.alloc_heap_new (W.alloc (.cells #[.int .i64 (x1 : Int), .int .i64 x2] 61)) (.cells #[.int .i64 (y1 : Int), .int .i64 y2] 61)
    rw [World.size_alloc, hB] at this; exact this
  have z3 : ((W.alloc (.cells #[.int .i64 (x1 : Int), .int .i64 x2] 61)).alloc (.cells #[.int .i64 (y1 : Int), .int .i64 y2] 61)).heap[B]? = some (.cells #[.int .i64 (x1 : Int), .int .i64 x2] 61 (0, 0)) := (Below.heap_alloc _ _ _ (by rw [World.size_alloc]; omega)).trans z1
  have hg : (W.alloc (.cells #[.int .i64 (x1 : Int), .int .i64 x2] 61)).alloc (.cells #[.int .i64 (y1 : Int), .int .i64 y2] 61) = grow (W.drewN 0) #[.cells #[.int .i64 (x1 : Int), .int .i64 x2] 61, .cells #[.int .i64 (y1 : Int), .int .i64 y2] 61] := by rw [alloc_eq_grow, alloc_eq_grow, grow_grow]; rfl
  have hsz : ((W.alloc (.cells #[.int .i64 (x1 : Int), .int .i64 x2] 61)).alloc (.cells #[.int .i64 (y1 : Int), .int .i64 y2] 61)).heap.size = B + 2 := by rw [World.size_alloc, World.size_alloc, hB]
  have HB := Lib.hid hB
  rw [hB]
  obtain ⟨X, hX⟩ : ∃ X, (W.alloc (.cells #[.int .i64 (x1 : Int), .int .i64 x2] 61)).alloc (.cells #[.int .i64 (y1 : Int), .int .i64 y2] 61) = X := ⟨_, rfl⟩
  rw [hX] at z2 z3 hg hsz
  rw [hX]
  have HG := Lib.hid hg; have HS := Lib.hid hsz
  clear z1 hX hg hB hsz
  refine wp_region_held_drew (S := fun w' => (w'.cell? ⟨B, 0, none⟩ = some (.int .i64 (x1 : Int)) ∧ w'.cell? ⟨B, 1, none⟩ = some (.int .i64 x2)) ∧ (w'.cell? ⟨B + 1, 0, none⟩ = some (.int .i64 (y1 : Int)) ∧ w'.cell? ⟨B + 1, 1, none⟩ = some (.int .i64 y2))) (by kernel_rfl) ⟨⟨cell_of_row X.drew B 0 _ _ _ z3, cell_of_row X.drew B 1 _ _ _ z3⟩, cell_of_row X.drew (B + 1) 0 _ _ _ z2, cell_of_row X.drew (B + 1) 1 _ _ _ z2⟩ (fun hS => ?_)
  refine anyH_take 0 (v := .pointer (some ⟨B, 1, none⟩)) rfl (by kernel_rfl) (by kernel_rfl) (by kernel_rfl) (fun _ _ _ h => h) rfl (fun W hW => by go_simp) hS ?_
  refine anyH_take 1 (v := .int .i64 x2) rfl (by kernel_rfl) (by kernel_rfl) (by kernel_rfl) (fun _ _ _ h => h) rfl (fun W hW => by have h1 := hW.1.2; go_simp) hS ?_
  refine anyH_take 2 (v := .pointer (some ⟨B + 1, 1, none⟩)) rfl (by kernel_rfl) (by kernel_rfl) (by kernel_rfl) (fun _ _ _ h => h) rfl (fun W hW => by go_simp) hS ?_
  refine anyH_take 3 (v := .int .i64 y2) rfl (by kernel_rfl) (by kernel_rfl) (by kernel_rfl) (fun _ _ _ h => h) rfl (fun W hW => by have h1 := hW.2.2; go_simp) hS ?_
  refine anyH_take 5 (v := .pointer (some ⟨B, 0, none⟩)) rfl (by kernel_rfl) (by kernel_rfl) (by kernel_rfl) (fun _ _ _ h => h) rfl (fun W hW => by go_simp) hS ?_
  refine anyH_take 6 (v := .int .i64 (x1 : Int)) rfl (by kernel_rfl) (by kernel_rfl) (by kernel_rfl) (fun _ _ _ h => h) rfl (fun W hW => by have h1 := hW.1.1; go_simp) hS ?_
  refine anyH_take 7 (v := .pointer (some ⟨B + 1, 0, none⟩)) rfl (by kernel_rfl) (by kernel_rfl) (by kernel_rfl) (fun _ _ _ h => h) rfl (fun W hW => by go_simp) hS ?_
  refine anyH_take 8 (v := .int .i64 (y1 : Int)) rfl (by kernel_rfl) (by kernel_rfl) (by kernel_rfl) (fun _ _ _ h => h) rfl (fun W hW => by have h1 := hW.2.1; go_simp) hS ?_
  refine anyH_one 4 rfl (by kernel_rfl) (by kernel_rfl) ?_
  refine wp_callF (args := #[.int .i64 x2, .int .i64 y2]) rfl Try.call53 (by kernel_rfl) ?_
  refine (C1.out _).mono ?_
  rintro e w1 ⟨rfl, rfl⟩
  refine ⟨_, rfl, hS, ?_⟩
  refine anyH_one 9 rfl (by kernel_rfl) (by kernel_rfl) ?_
  refine wp_callF (args := #[.int .i64 (x1 : Int), .int .i64 (y1 : Int)]) rfl Try.call53 (by kernel_rfl) ?_
  refine (C2.out _).mono ?_
  rintro e w1 ⟨rfl, rfl⟩
  refine ⟨_, rfl, hS, ?_⟩
  have hsx : X.drew.heap.size = B + 2 := HS.out
  refine anyH_one 10 rfl (by kernel_rfl) (by kernel_rfl) ?_
  refine wp_value (v := .slice (some ⟨X.drew.heap.size, 0, none⟩) 2 2) (w' := X.drew.alloc (.cells #[.int .i64 p, .int .i64 r] 3)) (by go_simp) ?_
  have hbx : Below X.drew.heap.size X.drew (X.drew.alloc (.cells #[.int .i64 p, .int .i64 r] 3)) := (Below.refl _ _).alloc (Nat.le_refl _) _
  have hnw := World.alloc_heap_new X.drew (.cells #[.int .i64 p, .int .i64 r] 3)
  have hS2 : (((X.drew.alloc (.cells #[.int .i64 p, .int .i64 r] 3)).cell? ⟨B, 0, none⟩ = some (.int .i64 (x1 : Int)) ∧ (X.drew.alloc (.cells #[.int .i64 p, .int .i64 r] 3)).cell? ⟨B, 1, none⟩ = some (.int .i64 x2)) ∧ ((X.drew.alloc (.cells #[.int .i64 p, .int .i64 r] 3)).cell? ⟨B + 1, 0, none⟩ = some (.int .i64 (y1 : Int)) ∧ (X.drew.alloc (.cells #[.int .i64 p, .int .i64 r] 3)).cell? ⟨B + 1, 1, none⟩ = some (.int .i64 y2))) :=
    ⟨⟨(hbx.cell (p := ⟨B, 0, none⟩) (by show B < _; omega)).trans hS.1.1, (hbx.cell (p := ⟨B, 1, none⟩) (by show B < _; omega)).trans hS.1.2⟩, (hbx.cell (p := ⟨B + 1, 0, none⟩) (by show B + 1 < _; omega)).trans hS.2.1, (hbx.cell (p := ⟨B + 1, 1, none⟩) (by show B + 1 < _; omega)).trans hS.2.2⟩
  refine ⟨hS2, ?_⟩
  have hfin : X.drew.alloc (.cells #[.int .i64 p, .int .i64 r] 3) = grow (W.drewN 1) #[.cells #[.int .i64 (x1 : Int), .int .i64 x2] 61, .cells #[.int .i64 (y1 : Int), .int .i64 y2] 61, .cells #[.int .i64 p, .int .i64 r] 3] := by
    rw [alloc_eq_grow, HG.out]
    show grow (grow (W.drewN 1) _) _ = _
    rw [grow_grow]; rfl
  have HF := Lib.hid hfin
  obtain ⟨Z, hZ⟩ : ∃ Z, X.drew.alloc (.cells #[.int .i64 p, .int .i64 r] 3) = Z := ⟨_, rfl⟩
  rw [hZ] at hS2 hnw HF
  rw [hZ]
  obtain ⟨E, hE⟩ : ∃ E, X.drew.heap.size = E := ⟨_, rfl⟩
  rw [hE] at hnw
  rw [hE]
  clear hbx hfin hZ hS hE hsx z2 z3
  refine anyH_one 11 rfl (by kernel_rfl) (by kernel_rfl) ?_
  refine wp_callF (args := #[.slice (some ⟨E, 0, none⟩) 2 2]) rfl Try.call52 (by kernel_rfl) ?_
  refine (HCO.out E _ (cell_of_row Z E 0 _ _ _ hnw) (cell_of_row Z E 1 _ _ _ hnw)).mono ?_
  rintro e w1 ⟨rfl, rfl⟩
  refine ⟨_, rfl, hS2, ?_⟩
  refine anyH_take 12 (v := .int .i64 v) rfl (by kernel_rfl) (by kernel_rfl) (by kernel_rfl) (fun _ _ _ h => h) rfl (fun W hW => by kernel_rfl) hS2 ?_
  refine wpAnyH_done (by kernel_rfl) ?_ _
  clear hS2 hnw
  go_simp
  go_wp2
  go_ret
  exact ⟨rfl, 1, _, HF.out⟩
end Go.Proofs.Ytanoojpmokbiaab
