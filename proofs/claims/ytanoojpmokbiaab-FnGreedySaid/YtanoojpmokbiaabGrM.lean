/-
  Greedy sharings by a sorted list of all steps: whoever takes the first n steps in the order of slopes and then of rows takes what the greedy sharing of n takes. No program here. Conditions: rows are bent and not empty.
-/
import Derived.Test.YtanoojpmokbiaabShA
namespace Go.Proofs.Ytanoojpmokbiaab
open Go.RowKit

/-- The steps of the first n rows: the row's number and the slope. -/
def stTo (rs : List (List Int)) : Nat → List (Nat × Int)
  | 0 => []
  | i + 1 => stTo rs i ++ (slopesL (rowAt rs i)).map fun s => (i, s)
def stepsR (rs : List (List Int)) : List (Nat × Int) := stTo rs rs.length
/-- How many steps are of a row. -/
def cntR (l : List (Nat × Int)) (j : Nat) : Nat := (l.filter fun x => decide (x.1 = j)).length
def plcs (m : Nat) (l : List (Nat × Int)) : List Int := (List.range m).map fun j => (cntR l j : Int)
/-- No later in the order of slopes and then of rows. -/
def StLe (x y : Nat × Int) : Prop := x.2 < y.2 ∨ (x.2 = y.2 ∧ x.1 ≤ y.1)
theorem stLe_anti {x y : Nat × Int} (h : StLe x y) (h' : StLe y x) : x = y := by
  unfold StLe at h h'
  have h1 : x.1 = y.1 := by omega
  have h2 : x.2 = y.2 := by omega
  cases x; cases y; simp at h1 h2; subst h1; subst h2; rfl
theorem plcs_len (m : Nat) (l : List (Nat × Int)) : (plcs m l).length = m := by simp [plcs]
theorem plcs_getD {m : Nat} (l : List (Nat × Int)) {j : Nat} (hj : j < m) : (plcs m l).getD j 0 = (cntR l j : Int) := by
  simp [plcs, List.getD, List.getElem?_map, List.getElem?_range hj]
theorem cnt_snoc (l : List (Nat × Int)) (e : Nat × Int) (j : Nat) : cntR (l ++ [e]) j = cntR l j + if e.1 = j then 1 else 0 := by
  unfold cntR
  rw [List.filter_append, List.length_append]
  by_cases h : e.1 = j <;> simp [h]
theorem plcs_snoc {m : Nat} (l : List (Nat × Int)) {e : Nat × Int} (he : e.1 < m) : plcs m (l ++ [e]) = (plcs m l).set e.1 ((plcs m l).getD e.1 0 + 1) := by
  rw [plcs_getD l he]
  refine List.ext_getElem (by simp [plcs_len]) fun j h1 h2 => ?_
  rw [plcs_len] at h1
  rw [List.getElem_set]
  have e1 : ∀ (q : List (Nat × Int)) (h : j < (plcs m q).length), (plcs m q)[j] = (cntR q j : Int) := fun q h => by simp [plcs]
  rw [e1, cnt_snoc]
  by_cases c : e.1 = j
  · rw [if_pos c, if_pos c, c]; omega
  · rw [if_neg c, if_neg c, e1]; omega
theorem st_mem {rs : List (List Int)} {x : Nat × Int} : ∀ {n : Nat}, x ∈ stTo rs n → x.1 < n
  | 0, h => by cases h
  | n + 1, h => by
    simp only [stTo, List.mem_append, List.mem_map] at h
    rcases h with h | ⟨s, -, rfl⟩
    · have := st_mem h; omega
    · exact Nat.lt_succ_self _
theorem st_filter (rs : List (List Int)) (j : Nat) : ∀ n, (stTo rs n).filter (fun x => decide (x.1 = j)) = if j < n then (slopesL (rowAt rs j)).map fun s => (j, s) else []
  | 0 => by simp [stTo]
  | n + 1 => by
    simp only [stTo]
    rw [List.filter_append, st_filter rs j n]
    by_cases c : n = j
    · subst c
      rw [if_neg (Nat.lt_irrefl _), if_pos (Nat.lt_succ_self _), List.nil_append, List.filter_eq_self.2]
      intro a ha
      obtain ⟨s, -, rfl⟩ := List.mem_map.1 ha
      simp
    · have z : ((slopesL (rowAt rs n)).map fun s => (n, s)).filter (fun x => decide (x.1 = j)) = [] := by
        rw [List.filter_eq_nil_iff]
        intro a ha
        obtain ⟨s, -, rfl⟩ := List.mem_map.1 ha
        simpa using c
      rw [z, List.append_nil]
      by_cases d : j < n
      · rw [if_pos d, if_pos (by omega)]
      · rw [if_neg d, if_neg (by omega)]
theorem sorted_pairs : ∀ {l : List Int}, Sorted l → l.Pairwise (fun x y => x ≤ y)
  | [], _ => List.Pairwise.nil
  | _ :: _, h => List.pairwise_cons.2 ⟨h.head, sorted_pairs h.tail⟩
theorem row_at_mem {rs : List (List Int)} {j : Nat} (h : j < rs.length) : rowAt rs j ∈ rs := by
  unfold rowAt
  rw [List.getD_eq_getElem?_getD, List.getElem?_eq_getElem h]
  exact List.getElem_mem h
theorem sort_filter {rs : List (List Int)} (hb : ∀ r, r ∈ rs → bentB r = true) {L : List (Nat × Int)} (hp : L.Perm (stepsR rs)) (hs : L.Pairwise StLe) {j : Nat} (hj : j < rs.length) :
    L.filter (fun x => decide (x.1 = j)) = (slopesL (rowAt rs j)).map fun s => (j, s) := by
  refine List.Perm.eq_of_pairwise (le := StLe) (fun a b _ _ h h' => stLe_anti h h') (hs.filter _) ?_ ?_
  · rw [List.pairwise_map]
    refine (sorted_pairs (bent_slopes_sorted (hb _ (row_at_mem hj)))).imp fun {a b} h => ?_
    unfold StLe; simp only; omega
  · have := hp.filter (fun x => decide (x.1 = j))
    unfold stepsR at this
    rw [st_filter rs j rs.length, if_pos hj] at this
    exact this
/-- The pick, told from outside. -/
theorem pick_is {rs : List (List Int)} {l : List Int} {a : Nat} (hr : room rs l a) : ∀ n, a < n → (∀ i, i < n → room rs l i → frS rs l a ≤ frS rs l i) → (∀ i, i < a → room rs l i → frS rs l a < frS rs l i) → (pickTo rs l n).1 = (a : Int) ∧ (pickTo rs l n).2 = frS rs l a
  | 0, h, _, _ => by omega
  | n + 1, h, h1, h2 => by
    unfold pickTo
    by_cases c : a = n
    · subst c
      have : room rs l a ∧ ((pickTo rs l a).1 < 0 ∨ frS rs l a < (pickTo rs l a).2) := by
        refine ⟨hr, ?_⟩
        rcases pickTo_spec rs l a with ⟨h3, -⟩ | ⟨b, h3, h4, h5, h6, -⟩
        · left; omega
        · right; rw [h6]; exact h2 b h3 h5
      rw [if_pos this]; exact ⟨rfl, rfl⟩
    · obtain ⟨p1, p2⟩ := pick_is hr n (by omega) (fun i hi => h1 i (by omega)) h2
      have : ¬ (room rs l n ∧ ((pickTo rs l n).1 < 0 ∨ frS rs l n < (pickTo rs l n).2)) := by
        rintro ⟨h3, h4⟩
        have := h1 n (by omega) h3
        rw [p1, p2] at h4
        omega
      rw [if_neg this]; exact ⟨p1, p2⟩
/-- The first k steps in order are those of the greedy sharing of k. -/
theorem greedy_sorted {rs : List (List Int)} (hb : ∀ r, r ∈ rs → bentB r = true) {L : List (Nat × Int)} (hp : L.Perm (stepsR rs)) (hs : L.Pairwise StLe) : ∀ k, k ≤ L.length → plcs rs.length (L.take k) = greedyTo rs k
  | 0, _ => by
    refine List.ext_getElem (by simp [plcs, greedyTo]) fun j h1 h2 => ?_
    simp [plcs, greedyTo, cntR]
  | k + 1, hk => by
    have ih := greedy_sorted hb hp hs k (by omega)
    have hk' : k < L.length := by omega
    have hd : L.drop k = L[k] :: L.drop (k + 1) := (List.getElem_cons_drop hk').symm
    have hm : L[k].1 < rs.length := st_mem (hp.subset (List.getElem_mem hk'))
    have hca : ∀ j, j < rs.length → plAt (greedyTo rs k) j = cntR (L.take k) j := fun j hj => by
      unfold plAt; rw [← ih, plcs_getD _ hj]; rfl
    have hparts : ∀ j, j < rs.length → (slopesL (rowAt rs j)).map (fun s => (j, s)) = (L.take k).filter (fun x => decide (x.1 = j)) ++ (L.drop k).filter (fun x => decide (x.1 = j)) := fun j hj => by
      rw [← sort_filter hb hp hs hj, ← List.filter_append, List.take_append_drop]
    have hat : ∀ j, j < rs.length → ((slopesL (rowAt rs j)).map (fun s => (j, s)))[plAt (greedyTo rs k) j]? = ((L.drop k).filter (fun x => decide (x.1 = j)))[0]? := fun j hj => by
      rw [hparts j hj, hca j hj]
      unfold cntR
      rw [List.getElem?_append_right (Nat.le_refl _), Nat.sub_self]
    have hfr : ∀ j, j < rs.length → plAt (greedyTo rs k) j + 1 < (rowAt rs j).length → (slopesL (rowAt rs j))[plAt (greedyTo rs k) j]? = some (frS rs (greedyTo rs k) j) := fun j hj hr => by
      rw [List.getElem?_eq_getElem (by rw [slopesL_len]; omega), slopesL_get _ _ hr]
      unfold frS
      rw [List.getD_eq_getElem?_getD, List.getD_eq_getElem?_getD, List.getElem?_eq_getElem hr, List.getElem?_eq_getElem (by omega)]; rfl
    generalize hl : greedyTo rs k = l at ih hca hat hfr
    -- the step that comes next
    have h1 := hat L[k].1 hm
    rw [hd, List.filter_cons_of_pos (by simp), List.getElem?_cons_zero, List.getElem?_map] at h1
    obtain ⟨s, h2, h3⟩ := Option.map_eq_some_iff.1 h1
    have hroom : plAt l L[k].1 + 1 < (rowAt rs L[k].1).length := by
      have := (List.getElem?_eq_some_iff.1 h2).1
      rw [slopesL_len] at this; omega
    have hsl : L[k].2 = frS rs l L[k].1 := by
      have e := hfr L[k].1 hm hroom
      rw [h2] at e
      have e' : s = L[k].2 := congrArg Prod.snd h3
      rw [← e']; exact Option.some.inj e
    have hle : ∀ j, j < rs.length → room rs l j → StLe (L[k].1, frS rs l L[k].1) (j, frS rs l j) := fun j hj hr => by
      have e1 := hat j hj
      rw [List.getElem?_map, hfr j hj hr] at e1
      have hmem : (j, frS rs l j) ∈ L.drop k := (List.mem_filter.1 (List.mem_of_getElem? e1.symm)).1
      rw [← hsl]
      rw [hd] at hmem
      rcases List.mem_cons.1 hmem with h | h
      · rw [h]; exact .inr ⟨rfl, Nat.le_refl _⟩
      · have hs' : (L.drop k).Pairwise StLe := hs.sublist (List.drop_sublist _ _)
        rw [hd] at hs'
        exact (List.pairwise_cons.1 hs').1 _ h
    have hpk := (pick_is (a := L[k].1) hroom rs.length hm (fun i hi hr => by have := hle i hi hr; unfold StLe at this; simp only at this; omega)
      (fun i hi hr => by have := hle i (by omega) hr; unfold StLe at this; simp only at this; omega)).1
    have hpl : pickL rs l = L[k].1 := by unfold pickL; rw [hpk]; rfl
    rw [List.take_add_one, List.getElem?_eq_getElem hk']
    show plcs rs.length (L.take k ++ [L[k]]) = growL rs (greedyTo rs k)
    rw [plcs_snoc _ hm, ih, hl]
    unfold growL
    rw [hpl]
theorem most_sum : ∀ rs : List (List Int), mostL rs = sumN (fun i => ((rowAt rs i).length : Int) - 1) rs.length
  | [] => rfl
  | r :: rs => by
    rw [List.length_cons, sumN_first]
    simp only [mostL]
    rw [most_sum rs]
    rfl
theorem st_len {rs : List (List Int)} (h : ∀ r, r ∈ rs → 0 < r.length) : ∀ n, n ≤ rs.length → ((stTo rs n).length : Int) = sumN (fun i => ((rowAt rs i).length : Int) - 1) n
  | 0, _ => rfl
  | n + 1, hn => by
    have ih := st_len h n (by omega)
    have h0 := h _ (row_at_mem (rs := rs) (j := n) (by omega))
    simp only [stTo]
    rw [List.length_append, List.length_map, slopesL_len]
    show _ = sumN _ n + (((rowAt rs n).length : Int) - 1)
    omega
theorem steps_len {rs : List (List Int)} (h : ∀ r, r ∈ rs → 0 < r.length) : ((stepsR rs).length : Int) = mostL rs := by
  rw [most_sum]; exact st_len h _ (Nat.le_refl _)

/- The comparison of two steps. -/
def cfS (x y : Nat × Int) : Int := if x.2 < y.2 then -1 else if y.2 < x.2 then 1 else if x.1 < y.1 then -1 else if y.1 < x.1 then 1 else 0
def leS (x y : Nat × Int) : Bool := !decide (cfS y x < 0)
theorem leS_iff (x y : Nat × Int) : leS x y = true ↔ StLe x y := by
  unfold leS cfS StLe
  rcases Int.lt_trichotomy x.2 y.2 with h | h | h
  · simp [h, Int.lt_asymm h]
  · rcases Nat.lt_trichotomy x.1 y.1 with h' | h' | h'
    · simp [h, h', Nat.lt_asymm h', Nat.le_of_lt h']
    · simp [h, h']
    · simp [h, h', Nat.not_le.2 h']
  · simp [h, Int.lt_asymm h, Int.ne_of_gt h]
theorem stLe_trans {x y z : Nat × Int} (h : StLe x y) (h' : StLe y z) : StLe x z := by unfold StLe at *; omega
theorem stLe_total (x y : Nat × Int) : StLe x y ∨ StLe y x := by unfold StLe; omega
theorem sort_steps (l : List (Nat × Int)) : (l.mergeSort leS).Pairwise StLe :=
  (List.pairwise_mergeSort (le := leS) (fun a b c h h' => by rw [leS_iff] at *; exact stLe_trans h h') (fun a b => by
    rw [Bool.or_eq_true, leS_iff, leS_iff]; exact stLe_total a b) l).imp fun h => (leS_iff _ _).1 h
/-- What taking the first n of all steps in order gives. -/
theorem greedy_steps {rs : List (List Int)} (hb : ∀ r, r ∈ rs → bentB r = true) {n : Nat} (hn : n ≤ (stepsR rs).length) : plcs rs.length (((stepsR rs).mergeSort leS).take n) = greedyTo rs n :=
  greedy_sorted hb (List.mergeSort_perm _ _) (sort_steps _) n (by rw [(List.mergeSort_perm _ _).length_eq]; exact hn)
end Go.Proofs.Ytanoojpmokbiaab
