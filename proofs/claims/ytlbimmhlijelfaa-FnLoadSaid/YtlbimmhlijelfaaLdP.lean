/-
  Amounts and orders of the program: sum, most, given, amountsIn, orderIn. Conditions: the cells are there.
-/
import Derived.Test.YtlbimmhlijelfaaTbS
import Derived.Test.YtlbimmhlijelfaaLdM
import Derived.Test.YtlbimmhlijelfaaTsA
namespace Go.Proofs.Ytlbimmhlijelfaa
open Go.RowKit
attribute [local go_sem] Oper.semAt_some

/-- Six amounts as a value. -/
def amV (g : Nat → Int) : Array Value := ((List.range 6).map fun j => Value.int .i64 (g j)).toArray
theorem amV_size (g : Nat → Int) : (amV g).size = 6 := by simp [amV]
theorem amV_get (g : Nat → Int) {k : Nat} (hk : k < 6) : (amV g)[k]? = some (.int .i64 (g k)) := by simp [amV, hk]
theorem amV_one (g : Nat → Int) : (amV g).all (·.oneCell') = true := by
  rw [Array.all_eq_true]
  intro j hj
  simp [amV]
  rfl
theorem amV_congr {g h : Nat → Int} (e : ∀ j, j < 6 → g j = h j) : amV g = amV h := by
  unfold amV
  congr 1
  exact List.map_congr_left fun j hj => by rw [e j (List.mem_range.1 hj)]
theorem amV_set (g : Nat → Int) (k : Nat) (v : Int) : (amV g).setIfInBounds k (.int .i64 v) = amV (fun j => if j = k then v else g j) := by
  apply Array.ext
  · simp [amV]
  · intro j h1 h2
    have hj : j < 6 := by simpa [amV] using h2
    rw [Array.getElem_setIfInBounds (by simpa [amV] using hj)]
    by_cases e : k = j
    · subst e; simp [amV]
    · simp [amV, e, Ne.symm e]
/-- Two of them. -/
def ordV (g h : Nat → Int) : Array Value := ((List.range 12).map fun j => Value.int .i64 (if j < 6 then g j else h (j - 6))).toArray
theorem ordV_size (g h : Nat → Int) : (ordV g h).size = 12 := by simp [ordV]
theorem ordV_row (g h : Nat → Int) {k : Nat} (hk : k < 6) : (ordV g h)[k]? = some (.int .i64 (g k)) := by simp [ordV, hk, show k < 12 by omega]
theorem ordV_col (g h : Nat → Int) {k : Nat} (hk : k < 6) : (ordV g h)[6 + k]? = some (.int .i64 (h k)) := by simp [ordV, show 6 + k < 12 by omega, show ¬ 6 + k < 6 by omega]
theorem ordV_one (g h : Nat → Int) : (ordV g h).all (·.oneCell') = true := by
  rw [Array.all_eq_true]
  intro j hj
  simp [ordV]
  rfl
theorem ordV_congr {g h g' h' : Nat → Int} (e : ∀ j, j < 6 → g j = g' j) (e' : ∀ j, j < 6 → h j = h' j) : ordV g h = ordV g' h' := by
  unfold ordV
  congr 1
  refine List.map_congr_left fun j hj => ?_
  have := List.mem_range.1 hj
  by_cases c : j < 6
  · rw [if_pos c, if_pos c, e j c]
  · rw [if_neg c, if_neg c, e' _ (by omega)]
theorem ordV_setRow (g h : Nat → Int) {k : Nat} (hk : k < 6) (v : Int) : (ordV g h).setIfInBounds k (.int .i64 v) = ordV (fun j => if j = k then v else g j) h := by
  apply Array.ext
  · simp [ordV]
  · intro j h1 h2
    have hj : j < 12 := by simpa [ordV] using h2
    rw [Array.getElem_setIfInBounds (by simpa [ordV] using hj)]
    by_cases e : k = j
    · subst e; simp [ordV, hk]
    · by_cases c : j < 6 <;> simp [ordV, e, Ne.symm e, c]
theorem ordV_setCol (g h : Nat → Int) {k : Nat} (hk : k < 6) (v : Int) : (ordV g h).setIfInBounds (6 + k) (.int .i64 v) = ordV g (fun j => if j = k then v else h j) := by
  apply Array.ext
  · simp [ordV]
  · intro j h1 h2
    have hj : j < 12 := by simpa [ordV] using h2
    rw [Array.getElem_setIfInBounds (by simpa [ordV] using hj)]
    by_cases e : 6 + k = j
    · subst e; simp [ordV, show ¬ 6 + k < 6 by omega]
    · by_cases c : j < 6
      · simp [ordV, e, c]
      · simp [ordV, e, c, show ¬ j - 6 = k by omega]
set_option maxRecDepth 100000 in
theorem rowT_am : RowT Try.prog 57 6 := ⟨⟨_, Try.underlying57, rfl⟩, rfl⟩
set_option maxRecDepth 100000 in
theorem zeroT_am : ZeroT Try.prog 57 (amV fun _ => 0) := by show _ = _; kernel_rfl
set_option maxRecDepth 100000 in
theorem rowT_ord : RowT Try.prog 59 12 := ⟨⟨_, Try.underlying59, rfl⟩, rfl⟩
set_option maxRecDepth 100000 in
theorem zeroT_ord : ZeroT Try.prog 59 (ordV (fun _ => 0) fun _ => 0) := by show _ = _; kernel_rfl
set_option maxRecDepth 100000 in
theorem built_ord (g h : Nat → Int) : Try.prog.built 59 [(0, .agg (amV g)), (1, .agg (amV h))] = some (ordV g h) := by kernel_rfl

set_option maxRecDepth 100000 in
theorem run_indexAm (g : Nat → Int) {k : Nat} (hk : k < 6) (W : World) : (Instr.index 57 (.agg (amV g)) (.int .i64 (k : Int))).run Try.prog W = .ok (.int .i64 (g k)) W := by
  have : k = 0 ∨ k = 1 ∨ k = 2 ∨ k = 3 ∨ k = 4 ∨ k = 5 := by omega
  rcases this with rfl | rfl | rfl | rfl | rfl | rfl
  all_goals rfl

set_option maxRecDepth 100000 in
set_option maxHeartbeats 2000000 in
theorem amSum_any (g : Nat → Int) (hg : ∀ j, j < 6 → 0 ≤ g j ∧ g j ≤ 9) (w : World) :
    Calls Try.prog 44 #[.agg (amV g)] w fun e w' => e = .returned (.int .i64 (sumN g 6)) ∧ Below w.heap.size w w' := by
  have HG := Lib.hid hg
  clear hg
  have b0 : Below w.heap.size w (w.alloc (.cells (amV g) 57)) := (Below.refl _ w).alloc (Nat.le_refl _) _
  have hbx := BX.new w 57 (amV g)
  obtain ⟨V, hV⟩ : ∃ V, amV g = V := ⟨_, rfl⟩
  have HVS : Hid (V.size = 6) := Lib.hid (by rw [← hV]; exact amV_size g)
  have HVG : Hid (∀ k : Nat, k < 6 → ∀ W : World, (Instr.index 57 (.agg V) (.int .i64 (k : Int))).run Try.prog W = .ok (.int .i64 (g k)) W) := Lib.hid fun k hk W => by rw [← hV]; exact run_indexAm g hk W
  rw [hV] at b0 hbx
  rw [hV]
  have HB := Lib.hid b0
  clear hV b0
  generalize hW : w.alloc (.cells V 57) = W at HB hbx
  go_enter Try.func44, Try.ntmps44
  go_wp2_with (first | (refine wpList_ldX rfl _ rfl rfl hbx rowT_am HVS.out ?_) | (rw [hW]; refine wpList_ldX rfl _ rfl rfl hbx rowT_am HVS.out ?_))
  clear hW hbx
  go_loopw [3, 5, 7] (fun s _ x wr => ∃ k : Nat, k ≤ 6 ∧ x = .int .i64 (k : Int) ∧ s = .int .i64 (sumN g k) ∧ (0 ≤ sumN g k ∧ sumN g k ≤ 9 * (k : Int)) ∧ wr = W) (fun _ _ x _ => 6 - (intOf x).toNat)
  case atStart => exact ⟨0, Nat.zero_le _, rfl, rfl, by simp [sumN], rfl⟩
  case round =>
    obtain ⟨k, hk, rfl, rfl, hs, rfl⟩ := hrel
    by_cases hlt : k < 6
    · have hlt' : (k : Int) < 6 := by omega
      have k0 : (0 : Int) ≤ (k : Int) := by omega
      have hv := HVG.out k hlt
      have hb := HG.out k hlt
      have hsz := HVS.out
      have hss : sumN g (k + 1) = sumN g k + g k := rfl
      have HSS := Lib.hid hss
      obtain ⟨S, hS⟩ : ∃ S, sumN g k = S := ⟨_, rfl⟩
      obtain ⟨y, hy⟩ : ∃ y, g k = y := ⟨_, rfl⟩
      rw [hS, hy] at HSS
      rw [hS] at hs
      rw [hy] at hv hb
      rw [hS]
      clear hss hS hy
      have s1 : IntKind.i64.wrap (S + y) = S + y := IntWalk.i64_in _ (by omega)
      go_wp2
      go_roundw
      case rel => exact ⟨k + 1, by omega, by go_num, by rw [HSS.out], by rw [HSS.out]; push_cast; omega, by trivial⟩
      case measure => simp [intOf]; omega
    · obtain rfl : k = 6 := by omega
      have hlt' : ¬ ((6 : Nat) : Int) < 6 := by omega
      go_wp2
      go_ret
      exact ⟨rfl, HB.out⟩

set_option maxRecDepth 100000 in
set_option maxHeartbeats 2000000 in
theorem ordMost_any (g h : Nat → Int) (i k : Nat) (hi : i < 6) (hk : k < 6) (w : World) :
    Calls Try.prog 67 #[.agg (ordV g h), .int .i64 (i : Int), .int .i64 (k : Int)] w fun e w' => e = .returned (.int .i64 (min (g i) (h k))) ∧ Below w.heap.size w w' := by
  have b0 : Below w.heap.size w (w.alloc (.cells (ordV g h) 59)) := (Below.refl _ w).alloc (Nat.le_refl _) _
  have hbx := BX.new w 59 (ordV g h)
  have c1 := hbx.cell i
  have c2 := hbx.cell (6 + k)
  rw [ordV_row g h hi] at c1
  rw [ordV_col g h hk] at c2
  obtain ⟨V, hV⟩ : ∃ V, ordV g h = V := ⟨_, rfl⟩
  rw [hV] at b0 c1 c2
  rw [hV]
  have HB := Lib.hid b0
  clear hV b0 hbx
  have i0 : (0 : Int) ≤ (i : Int) := by omega
  have k0 : (0 : Int) ≤ (k : Int) := by omega
  have i6 : (i : Int) < 6 := by omega
  have k6 : (k : Int) < 6 := by omega
  obtain ⟨y, hy⟩ : ∃ y, g i = y := ⟨_, rfl⟩
  obtain ⟨z, hz⟩ : ∃ y, h k = y := ⟨_, rfl⟩
  rw [hy] at c1
  rw [hz] at c2
  rw [hy, hz]
  clear hy hz
  obtain ⟨W, hW⟩ : ∃ W, w.alloc (.cells V 59) = W := ⟨_, rfl⟩
  rw [hW] at HB c1 c2
  go_enter Try.func67, Try.ntmps67
  by_cases e : y ≤ z
  · rw [show min y z = y by omega]
    have e' : ¬ z < y := by omega
    go_wp2
    try rw [hW]
    clear hW
    go_quiet (fail)
    go_wp2
    go_ret
    exact ⟨rfl, below_drawN HB.out _⟩
  · rw [show min y z = z by omega]
    have e' : z < y := by omega
    go_wp2
    try rw [hW]
    clear hW
    go_quiet (fail)
    go_wp2
    go_ret
    exact ⟨rfl, below_drawN HB.out _⟩

set_option maxRecDepth 100000 in
set_option maxHeartbeats 2000000 in
theorem ordGiven_any (g h : Nat → Int) (i k : Nat) (x : Int) (hi : i < 6) (hk : k < 6) (hg : I64 (g i - x)) (hh : I64 (h k - x)) (w : World) :
    Calls Try.prog 68 #[.agg (ordV g h), .int .i64 (i : Int), .int .i64 (k : Int), .int .i64 x] w fun e w' => e = .returned (.agg (ordV (fun j => if j = i then g j - x else g j) (fun j => if j = k then h j - x else h j))) ∧ Below w.heap.size w w' := by
  have b0 : Below w.heap.size w ((w.alloc (.cells (ordV g h) 59)).alloc (.cells (ordV (fun _ => 0) fun _ => 0) 59)) := ((Below.refl _ w).alloc (Nat.le_refl _) _).alloc (by simp) _
  have hbx := (BX.new w 59 (ordV g h)).alloc (.cells (ordV (fun _ => 0) fun _ => 0) 59)
  have hbr := BX.new (w.alloc (.cells (ordV g h) 59)) 59 (ordV (fun _ => 0) fun _ => 0)
  rw [World.size_alloc] at hbr
  have hb1 := hbx.set_ i (.int .i64 (g i - x))
  rw [ordV_setRow g h hi] at hb1
  have hb2 := hb1.set_ (6 + k) (.int .i64 (h k - x))
  rw [ordV_setCol _ h hk] at hb2
  have e2 : ordV (fun j => if j = i then g i - x else g j) (fun j => if j = k then h k - x else h j) = ordV (fun j => if j = i then g j - x else g j) (fun j => if j = k then h j - x else h j) := ordV_congr (fun j _ => by
    by_cases e : j = i
    · subst e; rfl
    · rw [if_neg e, if_neg e]) (fun j _ => by
    by_cases e : j = k
    · subst e; rfl
    · rw [if_neg e, if_neg e])
  rw [e2] at hb2
  have hr2 := (hbr.other (p := ⟨w.heap.size, i, none⟩) (by simp) (.int .i64 (g i - x))).other (p := ⟨w.heap.size, 6 + k, none⟩) (by simp) (.int .i64 (h k - x))
  have bb2 := (b0.setCell (p := ⟨w.heap.size, i, none⟩) (Nat.le_refl _) (.int .i64 (g i - x))).setCell (p := ⟨w.heap.size, 6 + k, none⟩) (Nat.le_refl _) (.int .i64 (h k - x))
  have c1 := hbx.cell i
  have c2 := hb1.cell (6 + k)
  have f1 := hbx.frozen i
  have f2 := hb1.frozen (6 + k)
  rw [ordV_row g h hi] at c1
  rw [ordV_col _ h hk] at c2
  have hz := zeroT_ord
  obtain ⟨U, hU⟩ : ∃ V, ordV (fun j => if j = i then g j - x else g j) (fun j => if j = k then h j - x else h j) = V := ⟨_, rfl⟩
  have HUS : Hid (U.size = 12) := Lib.hid (by rw [← hU]; exact ordV_size _ _)
  have HUO : Hid (U.all (·.oneCell') = true) := Lib.hid (by rw [← hU]; exact ordV_one _ _)
  rw [hU] at hb2
  rw [hU]
  have s1 : IntKind.i64.wrap (g i - x) = g i - x := IntWalk.i64_in _ hg
  have s2 : IntKind.i64.wrap (h k - x) = h k - x := IntWalk.i64_in _ hh
  obtain ⟨V, hV⟩ : ∃ V, ordV g h = V := ⟨_, rfl⟩
  obtain ⟨Z, hZ⟩ : ∃ V, (ordV (fun _ => 0) fun _ => 0) = V := ⟨_, rfl⟩
  have HZS : Hid (Z.size = 12) := Lib.hid (by rw [← hZ]; exact ordV_size _ _)
  rw [hZ] at hz
  rw [hV, hZ] at bb2 c1 c2 f1 f2 hb2 hr2
  rw [hV]
  obtain ⟨W0, hW0⟩ : ∃ W, (w.alloc (.cells V 59)).alloc (.cells Z 59) = W := ⟨_, rfl⟩
  rw [hW0] at bb2 c1 c2 f1 f2 hb2 hr2
  obtain ⟨y, hy⟩ : ∃ y, g i = y := ⟨_, rfl⟩
  obtain ⟨z, hz'⟩ : ∃ y, h k = y := ⟨_, rfl⟩
  rw [hy] at c1 s1 c2 f2 hb2 hr2 bb2
  rw [hz'] at c2 s2 hb2 hr2 bb2
  have i0 : (0 : Int) ≤ (i : Int) := by omega
  have k0 : (0 : Int) ≤ (k : Int) := by omega
  have i6 : (i : Int) < 6 := by omega
  have k6 : (k : Int) < 6 := by omega
  have B3 := Lib.hid (below_setRow bb2 (show w.heap.size ≤ w.heap.size + 1 by omega) U)
  have R3 := Lib.hid (hr2.put U)
  clear hb1 hbx hbr b0 bb2 e2 hU hV hZ hy hz' hg hh
  go_enter Try.func68, Try.ntmps68
  go_wp2_with (first | (refine wpList_alX rfl rfl hz ?_; rw [hW0]) | (refine wpList_ldX rfl _ rfl rfl hb2 rowT_ord HUS.out ?_) | (refine wpList_stX rfl _ _ rfl rfl rfl hr2 rowT_ord HZS.out HUS.out HUO.out ?_))
  refine bodyPost_ret (v := .agg U) (resX rfl _ _ (by kernel_rfl) R3.out rowT_ord HUS.out) rfl ⟨rfl, B3.out⟩
end Go.Proofs.Ytlbimmhlijelfaa
