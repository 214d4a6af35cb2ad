/-
  What the laws of lines say, in words of lists: hanging twice, least entries, rows below. Conditions: none.
-/
import Derived.Test.YtlgagdplnpeklaaLnV
import Derived.Test.YtlgagdplnpeklaaMath2
import Derived.Test.YtlgagdplnpeklaaSame
namespace Go.Proofs.Ytlgagdplnpeklaa
open Go.RowKit

theorem hangM_some {zs out : List Int} (h : hangM zs = some out) : rowB zs = true ∧ out = hangL zs := by
  unfold hangM at h
  split at h
  · injection h with h; exact ⟨by assumption, h.symm⟩
  · cases h
theorem hangM_row {zs : List Int} (hr : rowB zs = true) : hangM zs = some (hangL zs) := by simp [hangM, hr]
theorem hangM_hang {zs out : List Int} (h : hangM zs = some out) : hangM out = some out := by
  obtain ⟨hr, rfl⟩ := hangM_some h
  rw [hangM_row (hang_row hr), hang_hang hr]
theorem twoB_of {a b : List Int} (ha : rowB a = true) (hb : rowB b = true) (hl : a.length = b.length) : twoB a b = true := by
  simp [twoB, ha, hb, hl]
theorem hang_below {zs : List Int} (hr : rowB zs = true) : belowB (hangL zs) zs = true :=
  belowB_true.2 ⟨twoB_of (hang_row hr) hr (hang_len zs), fun k hk => hang_le hr k (by rw [hang_len] at hk; exact hk)⟩
theorem hang_under {a b : List Int} (h : belowB a b = true) : belowB (hangL a) (hangL b) = true := by
  obtain ⟨h2, hle⟩ := belowB_true.1 h
  obtain ⟨ha, hb, hl⟩ := twoB_true h2
  exact belowB_true.2 ⟨twoB_of (hang_row ha) (hang_row hb) (by rw [hang_len, hang_len, hl]), fun k hk => hang_mono ha hb hl hle k (by rw [hang_len] at hk; exact hk)⟩
theorem bent_below {a b : List Int} (h : belowB a b = true) (hb : bentB a = true) : belowB a (hangL b) = true := by
  obtain ⟨h2, hle⟩ := belowB_true.1 h
  obtain ⟨ha, hb', hl⟩ := twoB_true h2
  exact belowB_true.2 ⟨twoB_of ha (hang_row hb') (by rw [hang_len, hl]), fun k hk => bent_under hb' hl hb hle k hk⟩
theorem whole_bent (zs : List Int) : wholeB zs = (rowB zs && bentB zs) := by
  cases hr : rowB zs with
  | false => simp [wholeB, hr]
  | true =>
    rw [wholeB, hr, Bool.true_and, Bool.true_and]
    cases hb : bentB zs with
    | true => exact decide_eq_true ((hang_eq hr).2 hb)
    | false => exact decide_eq_false fun h => by have := (hang_eq hr).1 h; rw [hb] at this; cases this
theorem out_same {zs : List Int} (hr : rowB zs = true) : decide (hangL zs = zs) = (rowB zs && bentB zs) := by
  rw [← whole_bent, wholeB, hr, Bool.true_and]
/-- The least entries of what hangs below. -/
theorem least_hang {zs : List Int} (hr : rowB zs = true) : leastA (hangL zs) = leastA zs ∧ leastB (hangL zs) ≤ leastB zs ∧ leastC zs ≤ leastC (hangL zs) := by
  obtain ⟨x, i, k, hx, hi, hk, hik, hkl, xi, xk, hE⟩ := least_spec hr
  obtain ⟨y, j, l, hy, hj, hl, hjl, hll, yj, yl, hF⟩ := least_spec (hang_row hr)
  rw [hx, hi, hk, hy, hj, hl]
  obtain ⟨g1, g2⟩ := hang_least hr x ⟨i, by omega, xi⟩ (fun t ht => (hE t ht).1)
  rw [hang_len] at hll hF
  have e1 : (hangL zs).getD i 0 = x := g2 i (by omega) xi
  have e2 : (hangL zs).getD k 0 = x := g2 k hkl xk
  have h1 := (hF i (by omega)).1
  have h2 := g1 j (by omega)
  have exy : y = x := by omega
  subst exy
  have h3 := (hF i (by omega)).2.1 e1
  have h4 := (hF k hkl).2.1 e2
  refine ⟨rfl, by omega, by omega⟩

theorem fallM_some {zs : List Int} {s x : Int} (h : lineFallM zs s = some x) : rowB zs = true ∧ (-3000 ≤ s ∧ s ≤ 3000) ∧ x = fallL zs s := by
  unfold lineFallM at h
  split at h
  · rename_i hc
    rw [Bool.and_eq_true] at hc
    injection h with h
    exact ⟨hc.1, inB_true.1 hc.2, h.symm⟩
  · cases h
theorem fallM_row {zs : List Int} {s : Int} (hr : rowB zs = true) (h1 : -3000 ≤ s) (h2 : s ≤ 3000) : lineFallM zs s = some (fallL zs s) := by
  have : inB (-3000) 3000 s = true := inB_true.2 ⟨h1, h2⟩
  simp [lineFallM, hr, this]
theorem fallM_hang {zs : List Int} {s x : Int} (h : lineFallM zs s = some x) : lineFallM (hangL zs) s = some x := by
  obtain ⟨hr, ⟨h1, h2⟩, rfl⟩ := fallM_some h
  rw [fallM_row (hang_row hr) h1 h2, fall_hang hr]
theorem implFall_of {n : Nat} {x : Int} (A : Option Addr) (c lo hi : Nat) (zs : List Int) (s : Int) (w : World) (h : IR w lo hi A zs) (hx : lineFallM zs s = some x) (hn : n = zs.length) :
    Calls Try.prog 21 #[.slice A n c, .int .i64 s] w fun e w' => e = .returned (.tuple #[.int .i64 x, .bool true]) ∧ Below w.heap.size w w' := by
  subst hn
  have := implLineFall_any A c zs s w h.toAll
  rw [hx] at this
  exact this
theorem meetsM_some {zs : List Int} {s : Int} {r : Int × Int} (h : lineMeetsM zs s = some r) : rowB zs = true ∧ (-3000 ≤ s ∧ s ≤ 3000) ∧ r = meetsTo zs s zs.length := by
  unfold lineMeetsM at h
  split at h
  · rename_i hc
    rw [Bool.and_eq_true] at hc
    injection h with h
    exact ⟨hc.1, inB_true.1 hc.2, h.symm⟩
  · cases h
/-- What LineMeets tells of the next slope. -/
theorem meets_next {zs : List Int} {s : Int} {k : Nat} (hk : k < zs.length) (hmk : s * (k : Int) - zs.getD k 0 = fallL zs s) :
    ∃ (q : Bool) (p1 p2 : Int), meetA zs (s + 1) = p1 ∧ meetB zs (s + 1) = p2 ∧ meetC zs (s + 1) = q ∧ (q = true → (k : Int) ≤ p1 ∧ p1 ≤ p2) := by
  refine ⟨_, _, _, rfl, rfl, rfl, ?_⟩
  intro hq
  cases h : lineMeetsM zs (s + 1) with
  | none => rw [meetC, h] at hq; cases hq
  | some r =>
    obtain ⟨-, -, hr2⟩ := meetsM_some h
    obtain ⟨i', l', hm, hil, hl', h1, -, -⟩ := meets_spec zs (s + 1) (by omega)
    have := meets_later hk (show i' < zs.length by omega) hmk h1
    rw [meetA, meetB, h, hr2, hm]
    show (k : Int) ≤ (i' : Int) ∧ (i' : Int) ≤ (l' : Int)
    omega
theorem fallsM_some {zs out : List Int} {f t : Int} (h : lineFallsM zs f t = some out) : rowB zs = true ∧ (-100 ≤ f ∧ f ≤ 100) ∧ (f ≤ t ∧ t ≤ 100) ∧ out = fallsL zs f (t - f + 1).toNat := by
  unfold lineFallsM at h
  split at h
  · rename_i hc
    rw [Bool.and_eq_true, Bool.and_eq_true] at hc
    injection h with h
    exact ⟨hc.1.1, inB_true.1 hc.1.2, inB_true.1 hc.2, h.symm⟩
  · cases h
theorem between_rows {low high : List Int} {r : Int × Int} (h : betweenM low high = some r) : rowB low = true ∧ rowB high = true := by
  have h1 : betweenOk low high = true := by rw [← betweenM_iff, h]; rfl
  simp only [betweenOk, Bool.and_eq_true] at h1
  obtain ⟨h2, -⟩ := belowB_true.1 h1.1.1
  obtain ⟨a, b, -⟩ := twoB_true h2
  exact ⟨a, b⟩
theorem or_seen {out : List Int} {b : Bool} {j : Nat} {y i : Int} (h : b = true ↔ ∃ t, t < j ∧ out.getD t 0 = i) (hy : out.getD j 0 = y) : (b || (y == i)) = true ↔ ∃ t, t < j + 1 ∧ out.getD t 0 = i := by
  rw [Bool.or_eq_true, h, beq_iff_eq]
  constructor
  · rintro (⟨t, h1, h2⟩ | h1)
    · exact ⟨t, by omega, h2⟩
    · exact ⟨j, by omega, by rw [hy, h1]⟩
  · rintro ⟨t, h1, h2⟩
    by_cases e : t = j
    · subst e; rw [hy] at h2; exact .inr h2
    · exact .inl ⟨t, by omega, h2⟩
/-- What is told of the corners. -/
theorem corners_facts {zs out : List Int} (h : cornersM zs = some out) : rowB zs = true ∧ out = cornersL zs ∧ ∃ (x : Int) (i k : Nat), leastA zs = x ∧ leastB zs = (i : Int) ∧ leastC zs = (k : Int) ∧
    (∃ t, t < out.length ∧ out.getD t 0 = (i : Int)) ∧ (∃ t, t < out.length ∧ out.getD t 0 = (k : Int)) ∧ 0 < out.length ∧ out.getD 0 0 = 0 ∧ out.getD (out.length - 1) 0 = (zs.length : Int) - 1 ∧
    ((out.length : Int) == (zs.length : Int)) = (rowB zs && bentB zs) ∧ (∀ j, j + 1 < out.length → out.getD j 0 < out.getD (j + 1) 0) ∧ (∀ j, j < out.length → 0 ≤ out.getD j 0 ∧ out.getD j 0 ≤ 12) ∧ out.length ≤ zs.length := by
  unfold cornersM at h
  split at h
  · rename_i hr
    injection h with h
    subst h
    obtain ⟨x, i, k, hx, hi, hk, hik, hkl, xi, xk, hE⟩ := least_spec hr
    have hl := (rowB_true.1 hr).2
    obtain ⟨g1, g2⟩ := hang_least hr x ⟨i, by omega, xi⟩ (fun t ht => (hE t ht).1)
    obtain ⟨e1, e2⟩ := hang_ends hr
    have mem : ∀ p : Nat, p < zs.length → (hangL zs).getD p 0 = zs.getD p 0 → ∃ t, t < (cornersL zs).length ∧ (cornersL zs).getD t 0 = (p : Int) := by
      intro p hp he
      have := (corners_mem zs (p : Int) zs.length).2 ⟨p, hp, rfl, he⟩
      obtain ⟨t, ht, e⟩ := List.getElem_of_mem this
      exact ⟨t, ht, (getD_in (zs := cornersL zs) ht).trans e⟩
    obtain ⟨f1, f2⟩ := corners_first e1 zs.length (by omega)
    have hlast : (cornersL zs).getD ((cornersL zs).length - 1) 0 = (zs.length : Int) - 1 := by
      have := (corners_last (n := zs.length - 1) e2).2
      rw [show zs.length - 1 + 1 = zs.length by omega] at this
      show (cornersTo zs zs.length).getD ((cornersTo zs zs.length).length - 1) 0 = _
      rw [this]; omega
    refine ⟨hr, rfl, x, i, k, hx, hi, hk, mem i (by omega) (by rw [g2 i (by omega) xi, xi]), mem k hkl (by rw [g2 k hkl xk, xk]), f1, f2, hlast, ?_, fun j hj => corners_up zs zs.length j hj, fun j hj => ?_, (corners_len zs zs.length).1⟩
    · have hc := (corners_len zs zs.length).2
      have e3 : ((cornersL zs).length = zs.length) ↔ bentB zs = true := by
        rw [← hang_eq hr]
        refine hc.trans ⟨fun h => ?_, fun h t _ => by rw [h]⟩
        apply List.ext_getElem (hang_len zs)
        intro t t1 t2
        have := h t t2
        rwa [getD_in t1, getD_in t2] at this
      rw [hr, Bool.true_and]
      cases hb : bentB zs with
      | true => rw [beq_iff_eq]; have := e3.2 hb; omega
      | false =>
        rw [beq_eq_false_iff_ne]
        intro h
        have := e3.1 (by omega)
        rw [hb] at this; cases this
    · have hm := (corners_mem zs _ zs.length).1 (List.getElem_mem hj)
      obtain ⟨p, hp, e, -⟩ := hm
      rw [getD_in hj]
      have e' : (cornersL zs)[j] = (p : Int) := e
      omega
  · cases h
set_option maxHeartbeats 1000000 in
/-- Two lists of one length: whether they are alike. -/
theorem sameInts_dec (A A' : Option Addr) (n n' c c' lo hi lo' hi' : Nat) (xs ys : List Int) (w : World) (h : IR w lo hi A xs) (h' : IR w lo' hi' A' ys) (hn : n = xs.length) (hn' : n' = ys.length) (hl : ys.length = xs.length) :
    Calls Try.prog 28 #[.slice A n c, .slice A' n' c'] w fun e w' => e = .returned (.bool (decide (xs = ys))) ∧ Below w.heap.size w w' := by
  subst hn
  rw [hl] at hn'
  subst hn'
  have hlx := h.1
  have HL := Lib.hid hl
  clear hl
  go_enter Try.func28, Try.ntmps28
  go_wp2
  go_loopw [5] (fun i wr => ∃ k m : Nat, k ≤ xs.length ∧ i = .int .i64 k ∧ wr = w.drewN m ∧ ∀ j, j < k → xs.getD j 0 = ys.getD j 0) (fun i _ => xs.length - (intOf i).toNat)
  case atStart => exact ⟨0, 0, Nat.zero_le _, rfl, rfl, fun j hj => by omega⟩
  case round =>
    obtain ⟨k, m, hk, rfl, rfl, hall⟩ := hrel
    have HA := Lib.hid hall
    clear hall
    by_cases hlt : k < xs.length
    · have hlt2 : k < ys.length := by rw [HL.out]; exact hlt
      obtain ⟨b, off, rfl, _, _, hc⟩ := h.at_ hlt
      obtain ⟨b', off', rfl, _, _, hc'⟩ := h'.at_ hlt2
      have hlt' : (k : Int) < (xs.length : Int) := by omega
      have G1 := Lib.hid (getD_in hlt); have G2 := Lib.hid (getD_in hlt2)
      by_cases e : xs[k] = ys[k]
      · have E := Lib.hid e
        go_wp2
        go_quiet (fail)
        go_wp2
        go_roundw
        case rel =>
          refine ⟨k + 1, _, by omega, by go_num, rfl, fun j hj => ?_⟩
          by_cases ej : j = k
          · subst ej; rw [G1.out, G2.out]; exact E.out
          · exact HA.out j (by omega)
        case measure => simp [intOf]; omega
      · have E := Lib.hid e
        go_wp2
        go_quiet (fail)
        go_wp2
        go_ret
        refine ⟨ret_bool ?_, below_drawN (below_drawN (Below.refl _ _) _) _⟩
        rw [Eq.comm, decide_eq_false_iff_not]
        intro hq
        apply E.out
        subst hq; rfl
    · obtain rfl : k = xs.length := by omega
      go_wp2
      go_ret
      refine ⟨ret_bool ?_, below_drawN (Below.refl _ _) _⟩
      rw [Eq.comm, decide_eq_true_iff]
      apply List.ext_getElem HL.out.symm
      intro j j1 j2
      have := HA.out j j1
      rwa [getD_in j1, getD_in j2] at this
end Go.Proofs.Ytlgagdplnpeklaa
