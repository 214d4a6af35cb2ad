/-
  Merging two lists by least sums, third part: what the functions answer as lists, many lists in any order, rests, units, halves. Conditions: none.
-/
import Derived.Test.YtpmmfngmnneekaaMergeMath2
namespace Go.Proofs.Ytpmmfngmnneekaa
open Go.RowKit

/-- A row, or nothing. -/
def doneM (zs : List Int) : Option (List Int) := if rowB zs then some zs else none
theorem doneM_some {zs out : List Int} (h : doneM zs = some out) : rowB out = true ∧ zs = out := by
  unfold doneM at h
  by_cases c : rowB zs = true
  · rw [if_pos c] at h; cases h; exact ⟨c, rfl⟩
  · rw [if_neg c] at h; cases h
theorem doneM_row {zs : List Int} (h : rowB zs = true) : doneM zs = some zs := by unfold doneM; rw [if_pos h]
def mergeM (a b : List Int) : Option (List Int) := if rowB a && rowB b then doneM (mergeL a b) else none
theorem mergeM_some {a b out : List Int} (h : mergeM a b = some out) : rowB a = true ∧ rowB b = true ∧ rowB out = true ∧ out = mergeL a b := by
  unfold mergeM at h
  by_cases c : (rowB a && rowB b) = true
  · rw [if_pos c] at h
    obtain ⟨h1, h2⟩ := doneM_some h
    rw [Bool.and_eq_true] at c
    exact ⟨c.1, c.2, h1, h2.symm⟩
  · rw [if_neg c] at h; cases h
theorem mergeM_is {a b : List Int} (ha : rowB a = true) (hb : rowB b = true) : mergeM a b = doneM (mergeL a b) := by
  unfold mergeM; rw [ha, hb]; rfl
theorem row_pos {zs : List Int} (h : rowB zs = true) : 0 < zs.length := (rowB_true.1 h).2.1
theorem row_le {a b : List Int} (ha : rowB a = true) (hb : rowB b = true) {k : Nat} (hk : k < a.length + b.length - 1) : MLe a b k ((mergeL a b).getD k 0) :=
  merge_le (row_bdU ha) (row_bdU hb) (by decide) (row_pos ha) (row_pos hb) hk
theorem row_comm {a b : List Int} (ha : rowB a = true) (hb : rowB b = true) : mergeL a b = mergeL b a :=
  merge_comm (row_bdU ha) (row_bdU hb) (by decide) (row_pos ha) (row_pos hb)
theorem mergeM_turn {a b out : List Int} (h : mergeM a b = some out) : mergeM b a = some out ∧ out.length = a.length + b.length - 1 ∧ (bentB a = true → bentB b = true → bentB out = true) := by
  obtain ⟨h1, h2, h3, h4⟩ := mergeM_some h
  refine ⟨?_, ?_, fun p q => ?_⟩
  · rw [mergeM_is h2 h1, ← row_comm h1 h2, ← h4]; exact doneM_row h3
  · rw [h4, merge_len]
  · rw [h4]; exact merge_bent (row_bdU h1) (row_bdU h2) (by decide) (row_pos h1) (row_pos h2) p q
theorem mergeM_fall {a b out : List Int} (h : mergeM a b = some out) (s : Int) : fallL out s = fallL a s + fallL b s := by
  obtain ⟨h1, h2, h3, h4⟩ := mergeM_some h
  rw [h4]; exact merge_fall (row_bdU h1) (row_bdU h2) (by decide) (row_pos h1) (row_pos h2) s
def mergeSlopesM (a b : List Int) : Option (List Int) := if rowB a && bentB a && (rowB b && bentB b) then doneM (mergeL a b) else none
theorem mergeSlopesM_some {a b out : List Int} (h : mergeSlopesM a b = some out) : mergeM a b = some out := by
  unfold mergeSlopesM at h
  by_cases c : (rowB a && bentB a && (rowB b && bentB b)) = true
  · rw [if_pos c] at h
    simp only [Bool.and_eq_true] at c
    rw [mergeM_is c.1.1 c.2.1]; exact h
  · rw [if_neg c] at h; cases h

/- The first places. -/
def firstAt (a b : List Int) (k : Nat) : Nat := ((List.range (k + 1)).find? fun i => decide (i < a.length ∧ k - i < b.length ∧ a.getD i 0 + b.getD (k - i) 0 = mergeAt a b k)).getD 0
def firstL (a b : List Int) : List Int := (List.range (a.length + b.length - 1)).map fun k => (firstAt a b k : Int)
def firstM (a b : List Int) : Option (List Int) := (mergeM a b).map fun _ => firstL a b
theorem first_is {a b : List Int} {B C : Int} (ha : BdU B a) (hb : BdU C b) (hBC : B + C ≤ 40000) (h0 : 0 < a.length) (h1 : 0 < b.length) {k : Nat} (hk : k < a.length + b.length - 1) : FirstAt a b k (firstAt a b k) := by
  have m := merge_is ha hb hBC h0 h1 hk
  obtain ⟨m1, i, j, m2, m3, m4, m5⟩ := m
  unfold firstAt
  cases e : (List.range (k + 1)).find? fun i => decide (i < a.length ∧ k - i < b.length ∧ a.getD i 0 + b.getD (k - i) 0 = mergeAt a b k) with
  | none =>
    exfalso
    have := List.find?_eq_none.1 e i (List.mem_range.2 (by omega))
    rw [decide_eq_true_iff] at this
    exact this ⟨m2, by omega, by rw [m5, show k - i = j by omega]⟩
  | some x =>
    rw [List.find?_range_eq_some] at e
    obtain ⟨e1, e2, e3⟩ := e
    rw [decide_eq_true_iff] at e1
    obtain ⟨q1, q2, q3⟩ := e1
    rw [List.mem_range] at e2
    refine ⟨by simp; omega, q1, q2, ⟨?_, ?_⟩, ?_⟩
    · intro i' j' p1 p2 p3
      have := m1 i' j' p1 p2 p3
      simp only [Option.getD_some]
      omega
    · exact ⟨x, k - x, q1, q2, by omega, rfl⟩
    · intro i' p1 p2
      simp only [Option.getD_some] at p1 ⊢
      have g := e3 i' p1
      simp only [Bool.not_eq_true', decide_eq_false_iff_not] at g
      have := m1 i' (k - i') (by omega) p2 (by omega)
      have : ¬ (a.getD i' 0 + b.getD (k - i') 0 = mergeAt a b k) := fun hh => g ⟨by omega, p2, hh⟩
      omega
theorem FirstAt.uniq {a b : List Int} {k i i' : Nat} (h : FirstAt a b k i) (h' : FirstAt a b k i') : i = i' := by
  obtain ⟨p1, p2, p3, ⟨p4, -⟩, p5⟩ := h
  obtain ⟨q1, q2, q3, ⟨q4, -⟩, q5⟩ := h'
  have m1 := p4 i' (k - i') q2 q3 (by omega)
  have m2 := q4 i (k - i) p2 p3 (by omega)
  rcases Nat.lt_trichotomy i i' with c | c | c
  · have := q5 i c p3; omega
  · exact c
  · have := p5 i' c q3; omega
theorem first_len (a b : List Int) : (firstL a b).length = a.length + b.length - 1 := by simp [firstL]
theorem first_getD (a b : List Int) {k : Nat} (hk : k < a.length + b.length - 1) : (firstL a b).getD k 0 = (firstAt a b k : Int) := by
  rw [getD_in (by rw [first_len]; exact hk)]; simp [firstL]

/- Times. -/
def timesFrom (a : List Int) : Nat → Option (List Int)
  | 0 => some a
  | n + 1 => match timesFrom a n with
    | some x => mergeM x a
    | none => none
def mergeTimesM (a : List Int) (k : Int) : Option (List Int) := if rowB a && inB 1 5 k then timesFrom a (k.toNat - 1) else none
theorem mergeTimesM_some {a out : List Int} {k : Int} (h : mergeTimesM a k = some out) : rowB a = true ∧ 1 ≤ k ∧ k ≤ 5 ∧ rowB out = true ∧ (k = 1 → out = a) ∧ (k ≠ 1 → ∃ x, mergeTimesM a (k - 1) = some x ∧ mergeM x a = some out) := by
  unfold mergeTimesM at h
  by_cases c : (rowB a && inB 1 5 k) = true
  · rw [if_pos c] at h
    rw [Bool.and_eq_true, inB_true] at c
    obtain ⟨c1, c2, c3⟩ := c
    by_cases e : k = 1
    · subst e
      cases h
      exact ⟨c1, by decide, by decide, c1, fun _ => rfl, fun hh => absurd rfl hh⟩
    · have hk : k.toNat - 1 = (k - 1).toNat - 1 + 1 := by omega
      rw [hk] at h
      unfold timesFrom at h
      cases e2 : timesFrom a ((k - 1).toNat - 1) with
      | none => rw [e2] at h; cases h
      | some x =>
        rw [e2] at h
        refine ⟨c1, c2, c3, (mergeM_some h).2.2.1, fun hh => absurd hh e, fun _ => ⟨x, ?_, h⟩⟩
        unfold mergeTimesM
        rw [c1, inB_true.2 (show 1 ≤ k - 1 ∧ k - 1 ≤ 5 by omega)]
        exact e2
  · rw [if_neg c] at h; cases h
theorem mergeTimesM_two {a x : List Int} (h : mergeTimesM a 2 = some x) : x = mergeL a a := by
  obtain ⟨h1, -, -, -, -, h2⟩ := mergeTimesM_some h
  obtain ⟨y, h3, h4⟩ := h2 (by decide)
  obtain ⟨-, -, -, -, h5, -⟩ := mergeTimesM_some h3
  rw [h5 (by decide)] at h4
  exact (mergeM_some h4).2.2.2

/- Many lists. -/
def manyFrom : List Int → List (List Int) → Option (List Int)
  | z, [] => some z
  | z, r :: l => match mergeM z r with
    | some x => manyFrom x l
    | none => none
def mergeManyM (rows : List (List Int)) : Option (List Int) := if inB 1 4 (rows.length : Int) then manyFrom [0] rows else none
theorem manyFrom_some : ∀ {l : List (List Int)} {z out : List Int}, rowB z = true → manyFrom z l = some out → out = l.foldl mergeL z ∧ rowB out = true ∧ ∀ r, r ∈ l → rowB r = true := by
  intro l
  induction l with
  | nil => intro z out hz h; cases h; exact ⟨rfl, hz, fun r hr => by cases hr⟩
  | cons r l ih =>
    intro z out hz h
    unfold manyFrom at h
    cases e : mergeM z r with
    | none => rw [e] at h; cases h
    | some x =>
      rw [e] at h
      obtain ⟨p1, p2, p3, p4⟩ := mergeM_some e
      obtain ⟨q1, q2, q3⟩ := ih p3 h
      refine ⟨by rw [q1, p4]; rfl, q2, fun y hy => ?_⟩
      rcases List.mem_cons.1 hy with rfl | hy
      · exact p2
      · exact q3 y hy
/-- v is the least sum of three at the place k. -/
def MLe3 (z a b : List Int) (k : Nat) (v : Int) : Prop :=
  (∀ i j m, i < z.length → j < a.length → m < b.length → i + j + m = k → v ≤ z.getD i 0 + a.getD j 0 + b.getD m 0) ∧ ∃ i j m, i < z.length ∧ j < a.length ∧ m < b.length ∧ i + j + m = k ∧ v = z.getD i 0 + a.getD j 0 + b.getD m 0
theorem MLe3.uniq {z a b : List Int} {k : Nat} {u v : Int} (h : MLe3 z a b k u) (h' : MLe3 z a b k v) : u = v := by
  obtain ⟨h1, i, j, m, h2, h3, h4, h5, h6⟩ := h
  obtain ⟨g1, i', j', m', g2, g3, g4, g5, g6⟩ := h'
  have := h1 i' j' m' g2 g3 g4 g5
  have := g1 i j m h2 h3 h4 h5
  omega
theorem MLe3.comm {z a b : List Int} {k : Nat} {v : Int} (h : MLe3 z a b k v) : MLe3 z b a k v := by
  obtain ⟨h1, i, j, m, h2, h3, h4, h5, h6⟩ := h
  exact ⟨fun i' j' m' g1 g2 g3 g4 => by have := h1 i' m' j' g1 g3 g2 (by omega); omega, i, m, j, h2, h4, h3, by omega, by omega⟩
theorem merge3 {z a b : List Int} {A B C : Int} (hz : BdU A z) (ha : BdU B a) (hb : BdU C b) (hABC : A + B + C ≤ 40000) (hAB : A + B ≤ 40000) (h0 : 0 < z.length) (h1 : 0 < a.length) (h2 : 0 < b.length) {k : Nat} (hk : k < z.length + a.length + b.length - 2) :
    MLe3 z a b k ((mergeL (mergeL z a) b).getD k 0) := by
  have hl := merge_len z a
  obtain ⟨g1, p, m, g2, g3, g4, g5⟩ := merge_le (merge_bdU hz ha hAB h0 h1) hb hABC (by omega) h2 (k := k) (by omega)
  refine ⟨fun i j m' q1 q2 q3 q4 => ?_, ?_⟩
  · have e1 := g1 (i + j) m' (by omega) q3 q4
    have e2 := (merge_le hz ha hAB h0 h1 (k := i + j) (by omega)).1 i j q1 q2 rfl
    omega
  · obtain ⟨-, i, j, q1, q2, q3, q4⟩ := merge_le hz ha hAB h0 h1 (k := p) (by omega)
    exact ⟨i, j, m, q1, q2, g3, by omega, by omega⟩
theorem merge_right {z a b : List Int} {A B C : Int} (hz : BdU A z) (ha : BdU B a) (hb : BdU C b) (hABC : A + B + C ≤ 40000) (hAB : A + B ≤ 40000) (hAC : A + C ≤ 40000) (h0 : 0 < z.length) (h1 : 0 < a.length) (h2 : 0 < b.length) :
    mergeL (mergeL z a) b = mergeL (mergeL z b) a := by
  refine list_eq_getD (by rw [merge_len, merge_len, merge_len, merge_len]; omega) fun k hk => ?_
  rw [merge_len, merge_len] at hk
  exact (merge3 hz ha hb hABC hAB h0 h1 h2 (by omega)).uniq (merge3 hz hb ha (by omega) hAC h0 h2 h1 (by omega)).comm
theorem many_perm {l m : List (List Int)} (h : l.Perm m) : ∀ (z : List Int) (B : Int), BdU B z → 0 < z.length → 0 ≤ B → (∀ r, r ∈ l → BdU 1000 r ∧ 0 < r.length) → B + 1000 * (l.length : Int) ≤ 40000 → l.foldl mergeL z = m.foldl mergeL z := by
  induction h with
  | nil => intro z B _ _ _ _ _; rfl
  | cons x hp ih =>
    intro z B hz h0 hB hr hl
    rw [List.foldl_cons, List.foldl_cons]
    obtain ⟨hx, hx0⟩ := hr x (List.mem_cons_self ..)
    rw [List.length_cons] at hl
    exact ih (mergeL z x) (B + 1000) (merge_bdU hz hx (by omega) h0 hx0) (by rw [merge_len]; omega) (by omega) (fun r h => hr r (List.mem_cons_of_mem _ h)) (by omega)
  | swap x y l =>
    intro z B hz h0 hB hr hl
    simp only [List.foldl_cons, List.length_cons] at hl ⊢
    obtain ⟨hy, hy0⟩ := hr y (List.mem_cons_self ..)
    obtain ⟨hx, hx0⟩ := hr x (List.mem_cons_of_mem _ (List.mem_cons_self ..))
    rw [merge_right hz hy hx (by omega) (by omega) (by omega) h0 hy0 hx0]
  | trans hp _ h1 h2 =>
    intro z B hz h0 hB hr hl
    rw [h1 z B hz h0 hB hr hl]
    exact h2 z B hz h0 hB (fun r h => hr r (hp.mem_iff.2 h)) (by rw [← hp.length_eq]; exact hl)
theorem mergeManyM_some {rows : List (List Int)} {out : List Int} (h : mergeManyM rows = some out) : out = rows.foldl mergeL [0] ∧ rowB out = true ∧ (∀ r, r ∈ rows → rowB r = true) ∧ 1 ≤ rows.length ∧ rows.length ≤ 4 := by
  unfold mergeManyM at h
  by_cases c : inB 1 4 (rows.length : Int) = true
  · rw [if_pos c] at h
    obtain ⟨h1, h2, h3⟩ := manyFrom_some (by decide) h
    rw [inB_true] at c
    exact ⟨h1, h2, h3, by omega, by omega⟩
  · rw [if_neg c] at h; cases h
theorem mergeManyM_back {rows : List (List Int)} {out x : List Int} (h : mergeManyM rows = some out) (h' : mergeManyM rows.reverse = some x) : x = out := by
  obtain ⟨h1, -, h3, h4, h5⟩ := mergeManyM_some h
  obtain ⟨g1, -⟩ := mergeManyM_some h'
  rw [h1, g1]
  refine (many_perm (List.reverse_perm rows).symm [0] 0 ?_ (by decide) (by decide) (fun r hr => ⟨row_bdU (h3 r hr), row_pos (h3 r hr)⟩) (by omega)).symm
  intro k hk
  obtain rfl : k = 0 := (by simpa using hk)
  decide

/- Rests. -/
def restTo (c a : List Int) (k : Nat) : Nat → Int
  | 0 => c.getD k 0 - a.getD 0 0
  | i + 1 => max (restTo c a k i) (c.getD (i + 1 + k) 0 - a.getD (i + 1) 0)
def restAt (c a : List Int) (k : Nat) : Int := restTo c a k (a.length - 1)
def restL (c a : List Int) : List Int := (List.range (c.length - a.length + 1)).map (restAt c a)
def restM (c a : List Int) : Option (List Int) := if rowB c && rowB a && decide (a.length ≤ c.length) then doneM (restL c a) else none
theorem rest_len (c a : List Int) : (restL c a).length = c.length - a.length + 1 := by simp [restL]
theorem rest_getD (c a : List Int) {k : Nat} (hk : k < c.length - a.length + 1) : (restL c a).getD k 0 = restAt c a k := by
  rw [getD_in (by rw [rest_len]; exact hk)]; simp [restL]
theorem restTo_ge (c a : List Int) (k : Nat) : ∀ m i, i ≤ m → c.getD (i + k) 0 - a.getD i 0 ≤ restTo c a k m := by
  intro m
  induction m with
  | zero => intro i hi; obtain rfl : i = 0 := (by omega); simp [restTo]
  | succ m ih =>
    intro i hi
    unfold restTo
    rcases Nat.lt_or_ge m i with h | h
    · obtain rfl : i = m + 1 := (by omega)
      exact Int.le_max_right _ _
    · exact Int.le_trans (ih i h) (Int.le_max_left _ _)
theorem restTo_at (c a : List Int) (k : Nat) : ∀ m : Nat, ∃ i : Nat, i ≤ m ∧ restTo c a k m = c.getD (i + k) 0 - a.getD i 0 := by
  intro m
  induction m with
  | zero => exact ⟨0, Nat.le_refl _, by simp [restTo]⟩
  | succ m ih =>
    obtain ⟨i, h1, h2⟩ := ih
    by_cases h : restTo c a k m ≤ c.getD (m + 1 + k) 0 - a.getD (m + 1) 0
    · exact ⟨m + 1, Nat.le_refl _, by unfold restTo; rw [Int.max_eq_right h]⟩
    · exact ⟨i, by omega, by unfold restTo; rw [Int.max_eq_left (by omega), h2]⟩
theorem restM_some {c a out : List Int} (h : restM c a = some out) : rowB c = true ∧ rowB a = true ∧ a.length ≤ c.length ∧ rowB out = true ∧ out = restL c a := by
  unfold restM at h
  by_cases q : (rowB c && rowB a && decide (a.length ≤ c.length)) = true
  · rw [if_pos q] at h
    simp only [Bool.and_eq_true, decide_eq_true_iff] at q
    obtain ⟨h1, h2⟩ := doneM_some h
    exact ⟨q.1.1, q.1.2, q.2, h1, h2.symm⟩
  · rw [if_neg q] at h; cases h
theorem rest_below {c a out m : List Int} (h : restM c a = some out) (hm : mergeM a out = some m) : belowB c m = true := by
  obtain ⟨h1, h2, h3, h4, h5⟩ := restM_some h
  obtain ⟨-, -, g3, g4⟩ := mergeM_some hm
  have ho : out.length = c.length - a.length + 1 := by rw [h5, rest_len]
  have hml : m.length = c.length := by rw [g4, merge_len, ho]; have := row_pos h2; omega
  unfold belowB
  rw [Bool.and_eq_true]
  refine ⟨?_, leB_true fun k hk => ?_⟩
  · unfold twoB; rw [h1, g3, hml]; simp
  · obtain ⟨-, i, j, p1, p2, p3, p4⟩ := row_le h2 h4 (k := k) (by rw [ho]; omega)
    rw [g4, p4, h5, rest_getD c a (by omega)]
    have := restTo_ge c a j (a.length - 1) i (by omega)
    rw [show i + j = k from p3] at this
    unfold restAt
    omega
/-- The last entry less by 1: not below any more. -/
theorem rest_less {c a out n : List Int} (h : restM c a = some out) (hn : mergeM a (out.set (out.length - 1) (out.getD (out.length - 1) 0 - 1)) = some n) : belowB c n = false := by
  obtain ⟨h1, h2, h3, h4, h5⟩ := restM_some h
  obtain ⟨-, g2, g3, g4⟩ := mergeM_some hn
  have ho : out.length = c.length - a.length + 1 := by rw [h5, rest_len]
  have ha := row_pos h2
  obtain ⟨i, i1, i2⟩ := restTo_at c a (out.length - 1) (a.length - 1)
  have e1 : out.getD (out.length - 1) 0 = c.getD (i + (out.length - 1)) 0 - a.getD i 0 := by
    have e := rest_getD c a (k := out.length - 1) (by omega)
    rw [← h5] at e
    rw [e]; exact i2
  have e2 : (out.set (out.length - 1) (out.getD (out.length - 1) 0 - 1)).getD (out.length - 1) 0 = out.getD (out.length - 1) 0 - 1 := by
    rw [getD_in (by rw [List.length_set]; omega)]; simp
  have e3 := (row_le h2 g2 (k := i + (out.length - 1)) (by rw [List.length_set]; omega)).1 i (out.length - 1) (by omega) (by rw [List.length_set]; omega) rfl
  rw [← g4, e2, e1] at e3
  unfold belowB
  rw [leB_false (k := i + (out.length - 1)) (by omega) (by omega)]
  simp

/- Units. -/
def unitOk (a : List Int) : Bool := rowB a && decide (a.getD 0 0 = 0)
def unitL (a : List Int) : Int := if unitOk a then 0 - leastA a else 0
theorem unit_spec {a : List Int} (h : unitOk a = true) : rowB a = true ∧ 0 ≤ unitL a ∧ unitL a ≤ 1000 := by
  have h' := h
  unfold unitOk at h'
  rw [Bool.and_eq_true, decide_eq_true_iff] at h'
  obtain ⟨h1, h2⟩ := h'
  obtain ⟨x, i, k, e1, -, -, e2, e3, e4, -, e5⟩ := least_spec h1
  have h0 := row_pos h1
  unfold unitL
  rw [if_pos h, e1]
  have b := (row_getD h1 i (by omega)).1
  have b0 := (e5 0 h0).1
  exact ⟨h1, by omega, by omega⟩
theorem unit_tilt {a b : List Int} (h : unitOk a = true) (hb : tiltM a (unitL a) 0 = some b) : rowB b = true ∧ leastA b = 0 := by
  obtain ⟨h1, -, -⟩ := unit_spec h
  obtain ⟨-, -, -, h2, h3⟩ := tiltM_some hb
  refine ⟨h2, ?_⟩
  obtain ⟨x, i, k, e1, -, -, e2, e3, e4, -, e5⟩ := least_spec h1
  obtain ⟨y, i', k', f1, -, -, f2, f3, f4, -, f5⟩ := least_spec h2
  have hl : b.length = a.length := by rw [h3, chgL_len]
  have hg : ∀ j, j < a.length → b.getD j 0 = a.getD j 0 - x := fun j hj => by
    rw [h3, chgL_getD _ _ _ hj]
    unfold unitL tiltG
    rw [if_pos h, e1, getD_in hj]
    simp
    omega
  have g1 := hg i' (by omega)
  have g2 := (f5 i (by omega)).1
  have g3 := (e5 i' (by omega)).1
  have g4 := hg i (by omega)
  omega
/- Halves. -/
def halfM (a : List Int) (n : Int) : Option (List Int) := if rowB a && inB 1 (a.length : Int) n then doneM ((mergeL a a).take n.toNat) else none
theorem take_getD (zs : List Int) (n k : Nat) (hk : k < n) : (zs.take n).getD k 0 = zs.getD k 0 := by
  simp only [List.getD_eq_getElem?_getD]
  rw [List.getElem?_take_of_lt hk]
theorem halfM_some {a out : List Int} {n : Int} (h : halfM a n = some out) : rowB a = true ∧ 1 ≤ n ∧ n ≤ (a.length : Int) ∧ rowB out = true ∧ (out.length : Int) = n ∧ out = (mergeL a a).take n.toNat := by
  unfold halfM at h
  by_cases q : (rowB a && inB 1 (a.length : Int) n) = true
  · rw [if_pos q] at h
    rw [Bool.and_eq_true, inB_true] at q
    obtain ⟨h1, h2⟩ := doneM_some h
    refine ⟨q.1, q.2.1, q.2.2, h1, ?_, h2.symm⟩
    rw [← h2, List.length_take, merge_len]; omega
  · rw [if_neg q] at h; cases h
theorem half_bent {a out : List Int} {n : Int} (h : halfM a n = some out) (hb : bentB a = true) : bentB out = true := by
  obtain ⟨h1, h2, h3, -, h5, h6⟩ := halfM_some h
  have hm := merge_bent (row_bdU h1) (row_bdU h1) (by decide) (row_pos h1) (row_pos h1) hb hb
  rw [bentB_iff] at hm ⊢
  intro k hk
  have hl := merge_len a a
  have := hm k (by omega)
  rw [h6, take_getD _ _ _ (by omega), take_getD _ _ _ (by omega), take_getD _ _ _ (by omega)]
  exact this
theorem half_two {a out x : List Int} {n : Int} (h : halfM a n = some out) (hx : mergeTimesM a 2 = some x) {k : Nat} (hk : k < out.length) : x.getD k 0 = out.getD k 0 := by
  obtain ⟨-, -, -, -, h5, h6⟩ := halfM_some h
  rw [mergeTimesM_two hx, h6, take_getD _ _ _ (by omega)]
end Go.Proofs.Ytpmmfngmnneekaa
