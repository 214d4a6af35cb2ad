/-
  One entry as often as is asked (slices.Repeat at a list of one entry, up to twelve times), and the greatest lines of a book: greatest. Conditions: the cells are there.
-/
import Derived.Test.YtkghpmjbclnojabLn5
import Derived.Test.YtkghpmjbclnojabHeld
import Derived.Laws.IdiomCopy
import Derived.LoopIn
namespace Go.Proofs.Ytkghpmjbclnojab
open Go.RowKit Go.Shelf
attribute [local go_sem] Oper.semAt_some

set_option maxRecDepth 100000 in
set_option maxHeartbeats 4000000 in
theorem mul64_any (n : Nat) (h1 : 1 ≤ n) (h2 : n ≤ 12) (w : World) : Calls Try.prog 90 #[.int .u64 1, .int .u64 (n : Int)] w fun e w' => e = .returned (.tuple #[.int .u64 0, .int .u64 (n : Int)]) ∧ w = w' := by
  obtain rfl | rfl | rfl | rfl | rfl | rfl | rfl | rfl | rfl | rfl | rfl | rfl : n = 1 ∨ n = 2 ∨ n = 3 ∨ n = 4 ∨ n = 5 ∨ n = 6 ∨ n = 7 ∨ n = 8 ∨ n = 9 ∨ n = 10 ∨ n = 11 ∨ n = 12 := by omega
  all_goals
    go_enter Try.func90, Try.ntmps90
    go_wp2
    go_ret2
    exact ⟨by rfl, rfl⟩

set_option maxRecDepth 100000 in
set_option maxHeartbeats 1000000 in
theorem mul_any (n : Nat) (h1 : 1 ≤ n) (h2 : n ≤ 12) (w : World) : Calls Try.prog 83 #[.int .u64 1, .int .u64 (n : Int)] w fun e w' => e = .returned (.tuple #[.int .u64 0, .int .u64 (n : Int)]) ∧ w = w' := by
  go_enter Try.func83, Try.ntmps83
  go_wp2_with fail
  refine (mul64_any n h1 h2 _).mono ?_; rintro e w1 ⟨rfl, rfl⟩
  go_wp2
  go_ret2
  exact ⟨rfl, rfl⟩

theorem Cells.setAll {b off : Nat} (v : Int) : ∀ (m : Nat) {w : World} {xs : List Int} (o : Nat), Cells w b off xs → o + m ≤ xs.length → Cells (w.setCells b (off + o) (List.replicate m (.int .i64 v))) b off (xs.take o ++ List.replicate m v ++ xs.drop (o + m))
  | 0, w, xs, o, h, _ => by simpa [World.setCells] using h
  | m + 1, w, xs, o, h, hl => by
    have h1 := Cells.setAll v m (o + 1) (h.set_ o (by omega) v) (by simp; omega)
    rw [List.replicate_succ, World.setCells]
    have e : (xs.set o v).take (o + 1) ++ List.replicate m v ++ (xs.set o v).drop (o + 1 + m) = xs.take o ++ List.replicate (m + 1) v ++ xs.drop (o + (m + 1)) := by
      apply List.ext_getElem
      · simp; omega
      · intro j j1 j2
        simp only [List.getElem_append, List.getElem_take, List.getElem_drop, List.getElem_replicate, List.getElem_set, List.length_append, List.length_take, List.length_set, List.length_replicate]
        simp at j1 j2
        by_cases c1 : j < o
        · have : o ≠ j := by omega
          have c2 : j < min (o + 1) xs.length := by omega
          have c3 : j < min o xs.length := by omega
          have c4 : j < min (o + 1) xs.length + m := by omega
          have c5 : j < min o xs.length + (m + 1) := by omega
          simp [c2, c3, c4, c5, this]
        · by_cases c2 : j = o
          · subst c2
            have c3 : j < min (j + 1) xs.length := by omega
            have c4 : ¬ j < min j xs.length := by omega
            have c5 : j < min (j + 1) xs.length + m := by omega
            have c6 : j < min j xs.length + (m + 1) := by omega
            simp [c3, c4, c5, c6]
          · by_cases c3 : j < o + (m + 1)
            · have c4 : ¬ j < min (o + 1) xs.length := by omega
              have c5 : ¬ j < min o xs.length := by omega
              have c6 : j < min (o + 1) xs.length + m := by omega
              have c7 : j < min o xs.length + (m + 1) := by omega
              simp [c4, c5, c6, c7]
            · have c6 : ¬ j < min (o + 1) xs.length + m := by omega
              have c7 : ¬ j < min o xs.length + (m + 1) := by omega
              have c8 : o ≠ o + 1 + m + (j - (min (o + 1) xs.length + m)) := by omega
              have e1 : o + 1 + m + (j - (min (o + 1) xs.length + m)) = o + (m + 1) + (j - (min o xs.length + (m + 1))) := by omega
              simp only [c6, c7, dif_neg, not_false_eq_true]
              simp [c8]
              congr 1
    rw [e] at h1
    exact h1
theorem below_setAll {B b : Nat} {w : World} (hB : B ≤ b) (v : Int) : ∀ (m : Nat) {w' : World} (o : Nat), Below B w w' → Below B w (w'.setCells b o (List.replicate m (.int .i64 v)))
  | 0, w', o, h => by simpa [World.setCells] using h
  | m + 1, w', o, h => by
    rw [List.replicate_succ, World.setCells]
    exact below_setAll hB v m (o + 1) (h.setCell (p := ⟨b, o, none⟩) hB _)
theorem size_setAll (v : Int) (b : Nat) : ∀ (m : Nat) {w' : World} (o : Nat), (w'.setCells b o (List.replicate m (.int .i64 v))).heap.size = w'.heap.size
  | 0, w', o => by simp [World.setCells]
  | m + 1, w', o => by
    rw [List.replicate_succ, World.setCells, size_setAll v b m (o + 1)]
    simp
/-- The first k entries are v, then noughts. -/
def vTo (v : Int) (N k : Nat) : List Int := List.replicate k v ++ List.replicate (N - k) 0
theorem vTo_len {v : Int} {N k : Nat} (h : k ≤ N) : (vTo v N k).length = N := by simp [vTo]; omega
theorem vTo_more {v : Int} {N k m : Nat} (h : k + m ≤ N) : (vTo v N k).take k ++ List.replicate m v ++ (vTo v N k).drop (k + m) = vTo v N (k + m) := by
  unfold vTo
  have e1 : (List.replicate k v ++ List.replicate (N - k) (0 : Int)).take k = List.replicate k v := by simp
  have e2 : (List.replicate k v ++ List.replicate (N - k) (0 : Int)).drop (k + m) = List.replicate (N - (k + m)) 0 := by
    rw [List.drop_append, List.drop_eq_nil_of_le (by simp), List.drop_replicate, List.nil_append, List.length_replicate]
    congr 1
    omega
  have e3 : List.replicate (k + m) v = List.replicate k v ++ List.replicate m v := by rw [List.replicate_append_replicate]
  rw [e1, e2, e3]
theorem vTo_get {v : Int} {N k : Nat} (hk : k ≤ N) {w : World} {b : Nat} (h : Cells w b 0 (vTo v N k)) {j : Nat} (hj : j < k) : w.cell? ⟨b, j, none⟩ = some (.int .i64 v) := by
  have := (h j (by rw [vTo_len hk]; omega)).1
  rw [Nat.zero_add] at this
  rw [this]
  simp [vTo, hj]

set_option maxRecDepth 100000 in
set_option maxHeartbeats 2000000 in
theorem repeat_any (g off c n : Nat) (v : Int) (w : World) (hg : g < w.heap.size) (hc : w.cell? ⟨g, off, none⟩ = some (.int .i64 v)) (h1 : 1 ≤ n) (h2 : n ≤ 12) :
    Calls Try.prog 71 #[.slice (some ⟨g, off, none⟩) 1 c, .int .i64 (n : Int)] w fun e w' => e = .returned (.slice (some ⟨w.heap.size, 0, none⟩) n n) ∧ Cells w' w.heap.size 0 (List.replicate n v) ∧ w.heap.size < w'.heap.size ∧ Below w.heap.size w w' := by
  have hmk : (Instr.makeSlice 43 (.int .i64 (n : Int)) (.int .i64 (n : Int))).run Try.prog w = .ok (.slice (some ⟨w.heap.size, 0, none⟩) n n) (w.alloc (.cells (madeCells #[.int .i64 0] n) 3)) := by
    obtain ⟨i0, hi, hz0, hz1, hz2⟩ := info_parts info_int
    have hr := run_make (P := Try.prog) w 43 3 i0 (.int .i64 0) Try.underlying43 hi hz0 .i64 .i64 n n (by omega) (Int.le_refl _) (by rw [hz2]; omega) (by omega)
    rw [hz1] at hr
    simpa [Value.cells] using hr
  refine (callsIn_wide (n := 6)).1 ?_
  refine callsIn_of_wp Try.func71 rfl trivial ?_ rfl
  simp only [Try.ntmps71, List.size_toArray, List.length_cons, List.length_nil, Nat.reduceAdd, Nat.reduceSub, Array.replicate_succ, Array.replicate_zero, List.push_toArray, List.append_toArray, List.nil_append, List.cons_append]
  gi_wp2_with fail
  refine ⟨trivial, ?_⟩
  gi_at_call 83
  refine (callsIn_wide.2 (mul_any n h1 h2 _)).mono ?_; rintro e w' ⟨rfl, rfl⟩
  have hm1 : Nat.min 1 n = 1 := Nat.min_eq_left h1
  have hcells := Cells.made w n 3
  have hgc : (w.alloc (.cells (madeCells #[.int .i64 0] n) 3)).cell? ⟨g, off, none⟩ = some (.int .i64 v) := by rw [World.cell?_alloc_past _ _ _ (by simpa using hg)]; exact hc
  have hcp : ∀ ty, (Builtin.copy_ #[43, 43] ty #[.slice (some ⟨w.heap.size, 0, none⟩) n n, .slice (some ⟨g, off, none⟩) 1 c]).run Try.prog (w.alloc (.cells (madeCells #[.int .i64 0] n) 3)) = .ok (goInt 1) ((w.alloc (.cells (madeCells #[.int .i64 0] n) 3)).setCells w.heap.size 0 [.int .i64 v]) := fun ty => by
    have := run_copy_cells (P := Try.prog) (w.alloc (.cells (madeCells #[.int .i64 0] n) 3)) 43 43 ty 3 w.heap.size 0 n n ⟨g, off, none⟩ 1 c [.int .i64 v] Try.underlying43 (by kernel_rfl) (by simp [hm1])
      (fun j u hj => by
        cases j with
        | zero => simp at hj; subst hj; simpa [Addr.add] using hgc
        | succ j => simp at hj)
      (fun j hj => by have := (hcells j (by simp at hj ⊢; omega)).1; rw [this]; rfl) (fun j hj => (hcells j (by simp at hj ⊢; omega)).2) (fun u hu => by simp at hu; subst hu; rfl)
    simpa using this
  have HC1 := Lib.hid (show Cells ((w.alloc (.cells (madeCells #[.int .i64 0] n) 3)).setCells w.heap.size 0 [.int .i64 v]) w.heap.size 0 (vTo v n 1) from by
    have h0 := Cells.setAll v 1 0 hcells (by simp; omega)
    have e : (List.replicate n (0 : Int)).take 0 ++ List.replicate 1 v ++ (List.replicate n (0 : Int)).drop (0 + 1) = vTo v n 1 := by simp [vTo]
    rw [e] at h0
    exact h0)
  have HB1 := Lib.hid (show Below w.heap.size w ((w.alloc (.cells (madeCells #[.int .i64 0] n) 3)).setCells w.heap.size 0 [.int .i64 v]) from below_setAll (Nat.le_refl _) v 1 0 ((Below.refl _ w).alloc (Nat.le_refl _) _))
  have HS1 := Lib.hid (show ((w.alloc (.cells (madeCells #[.int .i64 0] n) 3)).setCells w.heap.size 0 [.int .i64 v]).heap.size = w.heap.size + 1 from by have := size_setAll v w.heap.size 1 (w' := w.alloc (.cells (madeCells #[.int .i64 0] n) 3)) 0; simpa using this)
  clear hcells hgc hc
  have hn0 : ¬ (n : Int) < 0 := by omega
  have hn1 : ¬ (n : Int) > 9223372036854775807 := by omega
  obtain ⟨W1, hW1⟩ : ∃ W1, (w.alloc (.cells (madeCells #[.int .i64 0] n) 3)).setCells w.heap.size 0 [.int .i64 v] = W1 := ⟨_, rfl⟩
  rw [hW1] at hcp HC1 HB1 HS1
  clear hW1
  gi_wp2
  gi_loopw [8] (fun i wr => ∃ k : Nat, 1 ≤ k ∧ k ≤ n ∧ i = .int .i64 k ∧ Cells wr w.heap.size 0 (vTo v n k) ∧ Below w.heap.size w wr ∧ wr.heap.size = w.heap.size + 1) (fun i _ => n - (intOf i).toNat)
  case atStart => exact ⟨1, Nat.le_refl _, h1, rfl, HC1.out, HB1.out, HS1.out⟩
  case round =>
    obtain ⟨k, hk1, hk2, rfl, hC, hB, hS⟩ := hrel
    have HC := Lib.hid hC; have HB := Lib.hid hB; have HSz := Lib.hid hS
    clear hC hB hS
    by_cases hlt : k < n
    · obtain ⟨M, hM⟩ : ∃ M, M = min k (n - k) := ⟨_, rfl⟩
      have hM1 : 1 ≤ M := by omega
      have hM2 : k + M ≤ n := by omega
      have hM3 : M ≤ k := by omega
      have hcp2 : ∀ ty, (Builtin.copy_ #[43, 43] ty #[.slice (some ⟨w.heap.size, k, none⟩) (n - k) (n - k), .slice (some ⟨w.heap.size, 0, none⟩) k n]).run Try.prog wr.drew = .ok (goInt M) (wr.drew.setCells w.heap.size k (List.replicate M (.int .i64 v))) := fun ty => by
        have := run_copy_cells (P := Try.prog) wr.drew 43 43 ty 3 w.heap.size k (n - k) (n - k) ⟨w.heap.size, 0, none⟩ k n (List.replicate M (.int .i64 v)) Try.underlying43 (by kernel_rfl) (by simp [hM])
          (fun j u hj => by
            have hj' : j < M := by
              have := (List.getElem?_eq_some_iff.1 hj).1
              simpa using this
            have hu : u = .int .i64 v := by
              have := (List.getElem?_eq_some_iff.1 hj).2
              simpa using this.symm
            subst hu
            have := vTo_get hk2 HC.out (j := j) (by omega)
            have hadd : (⟨w.heap.size, 0, none⟩ : Addr).add j = ⟨w.heap.size, 0 + j, none⟩ := by unfold Addr.add; split <;> simp_all
            rw [hadd, Nat.zero_add]; exact this)
          (fun j hj => by
            simp at hj
            have := (HC.out (k + j) (by rw [vTo_len hk2]; omega)).1
            rw [Nat.zero_add] at this
            show (wr.cell? _).isSome = true
            rw [this]; rfl)
          (fun j hj => by
            simp at hj
            have := (HC.out (k + j) (by rw [vTo_len hk2]; omega)).2
            rwa [Nat.zero_add] at this)
          (fun u hu => by have := List.eq_of_mem_replicate hu; subst this; rfl)
        simpa using this
      have HC2 := Lib.hid (show Cells (wr.drew.setCells w.heap.size k (List.replicate M (.int .i64 v))) w.heap.size 0 (vTo v n (k + M)) from by
        have h0 := Cells.setAll v M k (show Cells wr.drew w.heap.size 0 (vTo v n k) from HC.out) (by rw [vTo_len hk2]; omega)
        rw [vTo_more hM2, Nat.zero_add] at h0
        exact h0)
      have HB2 := Lib.hid (show Below w.heap.size w (wr.drew.setCells w.heap.size k (List.replicate M (.int .i64 v))) from below_setAll (Nat.le_refl _) v M k HB.out.drew)
      have HS2 := Lib.hid (show (wr.drew.setCells w.heap.size k (List.replicate M (.int .i64 v))).heap.size = w.heap.size + 1 from by rw [size_setAll]; exact HSz.out)
      have hkn : (k : Int) < (n : Int) := by omega
      have hkc : ((n : Int) - (k : Int)).toNat = n - k := by omega
      gi_wp2
      refine region_anyS (fun _ => True) (by kernel_rfl) ?_
      refine anyS_first 0 (v := .int .i64 (k : Int)) rfl (by kernel_rfl) (by kernel_rfl) (by kernel_rfl) (fun _ _ _ h => h) trivial ⟨fun _ => rfl, .inl ⟨by rfl, fun W' hW' => (by go_simp)⟩⟩ ?_
      refine anyS_first 1 (v := .slice (some ⟨w.heap.size, 0, none⟩) n n) rfl (by kernel_rfl) (by kernel_rfl) (by kernel_rfl) (fun _ _ _ h => h) trivial ⟨fun _ => rfl, .inl ⟨by rfl, fun W' hW' => (by go_simp)⟩⟩ ?_
      refine anyS_first 2 (v := .int .i64 (k : Int)) rfl (by kernel_rfl) (by kernel_rfl) (by kernel_rfl) (fun _ _ _ h => h) trivial ⟨fun _ => rfl, .inl ⟨by rfl, fun W' hW' => (by go_simp)⟩⟩ ?_
      refine anyS_first 3 (v := .slice (some ⟨w.heap.size, k, none⟩) (n - k) (n - k)) rfl (by kernel_rfl) (by kernel_rfl) (by kernel_rfl) (fun _ _ _ h => h) trivial ⟨fun _ => rfl, .inl ⟨by rfl, fun W' hW' => (by go_simp; omega)⟩⟩ ?_
      refine anyS_first 4 (v := .slice (some ⟨w.heap.size, 0, none⟩) n n) rfl (by kernel_rfl) (by kernel_rfl) (by kernel_rfl) (fun _ _ _ h => h) trivial ⟨fun _ => rfl, .inl ⟨by rfl, fun W' hW' => (by go_simp)⟩⟩ ?_
      refine anyS_first 5 (v := .int .i64 (k : Int)) rfl (by kernel_rfl) (by kernel_rfl) (by kernel_rfl) (fun _ _ _ h => h) trivial ⟨fun _ => rfl, .inl ⟨by rfl, fun W' hW' => (by go_simp)⟩⟩ ?_
      refine anyS_first 6 (v := .slice (some ⟨w.heap.size, 0, none⟩) k n) rfl (by kernel_rfl) (by kernel_rfl) (by kernel_rfl) (fun _ _ _ h => h) trivial ⟨fun _ => rfl, .inl ⟨by rfl, fun W' hW' => (by go_simp)⟩⟩ ?_
      clear hM
      refine anyS_one 7 rfl (by kernel_rfl) trivial ?_
      refine wpOpIn_step rfl fun K7 hK7 => ?_
      go_simp
      refine hK7 _ _ ?_
      refine anyS_one 8 rfl (by kernel_rfl) trivial ?_
      refine wpOpIn_step rfl fun K8 hK8 => ?_
      go_simp
      refine hK8 _ _ ?_
      rw [IntWalk.i64_in _ (by omega)]
      refine anyS_one 9 rfl (by kernel_rfl) trivial ?_
      refine wpOpIn_step rfl fun K9 hK9 => ?_
      go_simp
      refine hK9 _ _ ?_
      refine anyS_done (by kernel_rfl) trivial ?_
      gi_wp2
      go_roundw
      case rel => exact ⟨k + M, by omega, by omega, by go_num, HC2.out, HB2.out, HS2.out⟩
      case measure => simp [intOf]; omega
    · obtain rfl : k = n := by omega
      have e : vTo v k k = List.replicate k v := by simp [vTo]
      rw [e] at HC
      gi_wp2
      go_ret
      exact ⟨rfl, HC.out, by rw [HSz.out]; omega, HB.out⟩
end Go.Proofs.Ytkghpmjbclnojab
