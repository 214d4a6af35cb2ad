/-
  The program's falls of rows: within, floorDivide, at, lineAt, fall, LineFall, LineFalls. Conditions: the rows' cells are there.
-/
import Derived.Test.YtlgagdplnpeklaaLn1
import Derived.Test.YtlgagdplnpeklaaImp2
namespace Go.Proofs.Ytlgagdplnpeklaa
open Go.RowKit Go.Shelf
attribute [local go_sem] Oper.semAt_some

set_option maxHeartbeats 400000 in
theorem within_any (x m : Int) (hm0 : 0 ≤ m) (hm1 : m ≤ 1000000) (w : World) : Calls Try.prog 59 #[.int .i64 x, .int .i64 m] w fun e w' => e = .returned (.bool (inB (-m) m x)) ∧ w = w' := by
  by_cases h1 : -m ≤ x
  · by_cases h2 : x ≤ m
    · have H := Lib.hid (show inB (-m) m x = true from inB_true.2 ⟨h1, h2⟩)
      go_enter Try.func59, Try.ntmps59
      go_wp2
      go_ret
      exact ⟨ret_bool H.out.symm, rfl⟩
    · have H := Lib.hid (show inB (-m) m x = false by simp [inB, h2])
      go_enter Try.func59, Try.ntmps59
      go_wp2
      go_ret
      exact ⟨ret_bool (by rw [H.out]), rfl⟩
  · have H := Lib.hid (show inB (-m) m x = false by simp [inB, h1])
    go_enter Try.func59, Try.ntmps59
    go_wp2
    go_ret
    exact ⟨ret_bool H.out.symm, rfl⟩
theorem within_of {b : Bool} (x m : Int) (hm0 : 0 ≤ m) (hm1 : m ≤ 1000000) (w : World) (h : inB (-m) m x = b) : Calls Try.prog 59 #[.int .i64 x, .int .i64 m] w fun e w' => e = .returned (.bool b) ∧ w = w' := by
  subst h; exact within_any x m hm0 hm1 w

theorem floor_neg {x y : Int} (hy : 0 < y) (h : x.tmod y < 0) : x.tdiv y - 1 = x / y := by
  have e1 := Int.tdiv_eq_ediv (a := x) (b := y)
  have e2 := Int.tmod_eq_emod (a := x) (b := y)
  have e3 := Int.emod_nonneg x (show y ≠ 0 by omega)
  by_cases c : 0 ≤ x ∨ y ∣ x
  · rw [if_pos c] at e2; omega
  · rw [if_neg c, Int.sign_eq_one_of_pos hy] at e1; omega
theorem floor_pos {x y : Int} (hy : 0 < y) (h : ¬ x.tmod y < 0) : x.tdiv y = x / y := by
  have e1 := Int.tdiv_eq_ediv (a := x) (b := y)
  have e2 := Int.tmod_eq_emod (a := x) (b := y)
  have e4 := Int.emod_lt_of_pos x hy
  by_cases c : 0 ≤ x ∨ y ∣ x
  · rw [if_pos c] at e1; omega
  · rw [if_neg c] at e2
    have : (y.natAbs : Int) = y := by omega
    omega
set_option maxHeartbeats 400000 in
theorem floorDivide_any (x y : Int) (hy0 : 0 < y) (hy1 : y ≤ 1000) (hx1 : -1000000 ≤ x) (hx2 : x ≤ 1000000) (w : World) : Calls Try.prog 99 #[.int .i64 x, .int .i64 y] w fun e w' => e = .returned (.int .i64 (x / y)) ∧ w = w' := by
  have d1 : -1000000 ≤ x / y := (Int.le_ediv_iff_mul_le hy0).2 (by
    have := Int.mul_le_mul_of_nonneg_left (show (1 : Int) ≤ y by omega) (show (0 : Int) ≤ 1000000 by omega)
    omega)
  have d2 : x / y < 1000001 := Int.ediv_lt_of_lt_mul hy0 (by
    have := Int.mul_le_mul_of_nonneg_left (show (1 : Int) ≤ y by omega) (show (0 : Int) ≤ 1000001 by omega)
    omega)
  have hy : y ≠ 0 := by omega
  have hyb : (y == 0) = false := by rw [beq_eq_false_iff_ne]; exact hy
  by_cases h : x.tmod y < 0
  · have e := floor_neg hy0 h
    have b1 : -1000000 ≤ x.tdiv y := by omega
    have b2 : x.tdiv y ≤ 1000002 := by omega
    have E := Lib.hid e
    clear e d1 d2
    go_enter Try.func99, Try.ntmps99
    go_wp2
    go_ret
    exact ⟨retInt E.out, rfl⟩
  · have e := floor_pos hy0 h
    have b1 : -1000000 ≤ x.tdiv y := by omega
    have b2 : x.tdiv y ≤ 1000002 := by omega
    have E := Lib.hid e
    clear e d1 d2
    go_enter Try.func99, Try.ntmps99
    go_wp2
    go_ret
    exact ⟨retInt E.out, rfl⟩

set_option maxHeartbeats 1000000 in
theorem lineAtF_any (f s i : Int) (w : World) (h1 : -1000000 ≤ f) (h2 : f ≤ 1000000) (h3 : -1000000 ≤ i * s) (h4 : i * s ≤ 1000000) :
    Calls Try.prog 95 #[.agg #[.int .i64 f, .int .i64 s], .int .i64 i] w fun e w' => e = .returned (.int .i64 (f + i * s)) ∧ Below w.heap.size w w' := by
  go_enter Try.func95, Try.ntmps95
  go_wp2
  go_ret
  exact ⟨rfl, (Below.refl _ _).alloc (Nat.le_refl _) _⟩

set_option maxHeartbeats 1000000 in
theorem rowLineAt_any (A : Option Addr) (c lo hi n : Nat) (zs : List Int) (k : Nat) (s : Int) (w : World) (h : IR w lo hi A zs) (hr : rowB zs = true) (hk : k < zs.length) (hs1 : -3000 ≤ s) (hs2 : s ≤ 3000) (hn : n = zs.length) :
    Calls Try.prog 91 #[.slice A n c, .int .i64 (k : Int), .int .i64 s] w fun e w' => e = .returned (.agg #[.int .i64 (zs[k] - (k : Int) * s), .int .i64 s]) ∧ Below w.heap.size w w' := by
  subst hn
  have hl := (rowB_true.1 hr).2
  obtain ⟨b, off, rfl, hbh, hbs, hc⟩ := h.at_ hk
  have g := row_getD hr k hk
  rw [getD_in hk] at g
  obtain ⟨g1, g2⟩ := g
  obtain ⟨m1, m2⟩ := sk_bd hs1 hs2 hk hl.2
  rw [Int.mul_comm] at m1 m2
  have k1 : (k : Int) < (zs.length : Int) := by omega
  clear h hr
  go_enter Try.func91, Try.ntmps91
  go_wp2
  refine ⟨rfl, .agg #[.int .i64 (zs[k] - (k : Int) * s), .int .i64 s], ?_, rfl, (Below.refl _ _).alloc (Nat.le_refl _) _⟩
  simp [results, Try.f91, go_sem]

theorem snocInd {α : Type} {motive : List α → Prop} (nil : motive []) (snoc : ∀ (pre : List α) (x : α), motive pre → motive (pre ++ [x])) (l : List α) : motive l := by
  rw [← List.reverse_reverse l]
  induction l.reverse with
  | nil => simpa using nil
  | cons x r ih => rw [List.reverse_cons]; exact snoc _ _ ih
/-- The greatest one so far: of the first entry with its sign turned and those of the places seen. -/
def fallP (zs : List Int) (s : Int) (pre : List (Fin zs.length)) : Int := pre.foldl (fun (m : Int) (x : Fin zs.length) => if m < s * ((x : Nat) : Int) - zs[x] then s * ((x : Nat) : Int) - zs[x] else m) (-zs.getD 0 0)
theorem fallP_snoc (zs : List Int) (s : Int) (pre : List (Fin zs.length)) (x : Fin zs.length) : fallP zs s (pre ++ [x]) = if fallP zs s pre < s * ((x : Nat) : Int) - zs[x] then s * ((x : Nat) : Int) - zs[x] else fallP zs s pre := by
  simp [fallP, List.foldl_append]
theorem fallP_spec (zs : List Int) (s : Int) (pre : List (Fin zs.length)) : (∀ x, x ∈ pre → s * ((x : Nat) : Int) - zs[x] ≤ fallP zs s pre) ∧ (fallP zs s pre = -zs.getD 0 0 ∨ ∃ x, x ∈ pre ∧ fallP zs s pre = s * ((x : Nat) : Int) - zs[x]) ∧ -zs.getD 0 0 ≤ fallP zs s pre := by
  induction pre using snocInd with
  | nil => exact ⟨fun x hx => (by cases hx), .inl rfl, Int.le_refl _⟩
  | snoc pre x ih =>
    obtain ⟨h1, h2, h3⟩ := ih
    rw [fallP_snoc]
    by_cases c : fallP zs s pre < s * ((x : Nat) : Int) - zs[x]
    · rw [if_pos c]
      refine ⟨fun y hy => ?_, .inr ⟨x, by simp, rfl⟩, by omega⟩
      rcases List.mem_append.1 hy with hy | hy
      · have := h1 y hy; omega
      · obtain rfl := List.mem_singleton.1 hy; exact Int.le_refl _
    · rw [if_neg c]
      refine ⟨fun y hy => ?_, ?_, h3⟩
      · rcases List.mem_append.1 hy with hy | hy
        · exact h1 y hy
        · obtain rfl := List.mem_singleton.1 hy; omega
      · rcases h2 with h2 | ⟨y, hy, e⟩
        · exact .inl h2
        · exact .inr ⟨y, by simp [hy], e⟩
theorem fallP_all {zs : List Int} (h0 : 0 < zs.length) (s : Int) : fallP zs s (List.finRange zs.length) = fallL zs s := by
  obtain ⟨h1, h2, _⟩ := fallP_spec zs s (List.finRange zs.length)
  apply Int.le_antisymm
  · rcases h2 with e | ⟨x, _, e⟩
    · rw [e]; have := fall_ge zs s 0 h0; simpa using this
    · rw [e]; have := fall_ge zs s x.1 x.2; rw [getD_in x.2] at this; exact this
  · refine fall_le zs s _ h0 fun k hk => ?_
    have := h1 ⟨k, hk⟩ (List.mem_finRange _)
    rw [getD_in hk]; exact this
theorem fallP_bd {zs : List Int} (hr : rowB zs = true) {s : Int} (h1 : -3000 ≤ s) (h2 : s ≤ 3000) (pre : List (Fin zs.length)) : -34000 ≤ fallP zs s pre ∧ fallP zs s pre ≤ 34000 := by
  have hl := (rowB_true.1 hr).2
  obtain ⟨_, a, b⟩ := fallP_spec zs s pre
  have z0 := row_getD hr 0 (by omega)
  rcases a with e | ⟨x, _, e⟩
  · omega
  · have m := sk_bd h1 h2 x.2 hl.2
    have g := row_get hr x
    constructor <;> omega

set_option maxRecDepth 100000 in
set_option maxHeartbeats 2000000 in
theorem fall_any (A : Option Addr) (c n : Nat) (zs : List Int) (s : Int) (w : World) (h : IR w 0 w.heap.size A zs) (hr : rowB zs = true) (hs1 : -3000 ≤ s) (hs2 : s ≤ 3000) (hn : n = zs.length) :
    Calls Try.prog 60 #[.slice A n c, .int .i64 s] w fun e w' => e = .returned (.int .i64 (fallL zs s)) ∧ Below w.heap.size w w' := by
  subst hn
  have hl := (rowB_true.1 hr).2
  have HR := Lib.hid hr; clear hr
  have h0 : 0 < zs.length := by omega
  have H := Lib.hid h
  obtain ⟨b, off, rfl, hbh, hbs, hc0⟩ := h.at_ h0
  have hk0 : zs[0] = zs.getD 0 0 := (getD_in h0).symm
  have hz0 := row_getD HR.out 0 h0
  obtain ⟨x0, hx0⟩ : ∃ x, x = zs.getD 0 0 := ⟨_, rfl⟩
  rw [hk0, Nat.add_zero, ← hx0] at hc0
  rw [← hx0] at hz0
  obtain ⟨hz1, hz2⟩ := hz0
  have HX0 := Lib.hid hx0
  have h0' : (0 : Int) < (zs.length : Int) := by omega
  clear h hk0 hx0
  have HFA := Lib.hid (fallP_all h0 s)
  refine (callsIn_wide (n := 6)).1 ?_
  refine callsIn_of_wp_marks Try.func60 rfl trivial ?_ rfl
  simp only [Try.ntmps60, List.size_toArray, List.length_cons, List.length_nil, Nat.reduceAdd, Nat.reduceSub, Array.replicate_succ, Array.replicate_zero, List.push_toArray, List.append_toArray, List.nil_append, List.cons_append]
  gi_wp2_with (refine ⟨trivial, ?_⟩; gi_at_call 57; refine (entries_in _ _ trivial rfl _ _ _ _).mono ?_; rintro e w' ⟨rfl, rfl⟩)
  obtain ⟨W4, hW4⟩ : ∃ W4, ((w.alloc (.cells #[.int .i64 s] 3)).alloc (.cells #[.int .i64 (-x0)] 3)).alloc (.cells #[.slice (some ⟨b, off, none⟩) zs.length c] 48) = W4 := ⟨_, rfl⟩
  have hsz : W4.heap.size = w.heap.size + 3 := by rw [← hW4]; simp
  have hb04 : Below w.heap.size w W4 := by rw [← hW4]; exact (((Below.refl _ w).alloc (Nat.le_refl _) _).alloc (by simp) _).alloc (by simp; omega) _
  have hbox : W4.cell? ⟨w.heap.size + 2, 0, none⟩ = some (.slice (some ⟨b, off, none⟩) zs.length c) := by
    rw [← hW4, World.cell?_alloc_at _ _ _ _ (by simp)]; rfl
  have hS : Boxed W4 w.heap.size 3 (.int .i64 s) := by
    rw [← hW4]; exact ((Boxed.new w 3 (.int .i64 s)).alloc _).alloc _
  have hG : Boxed W4 (w.heap.size + 1) 3 (.int .i64 (fallP zs s [])) := by
    have n1 := Boxed.new (w.alloc (.cells #[.int .i64 s] 3)) 3 (.int .i64 (-x0))
    rw [World.size_alloc] at n1
    rw [← hW4]
    have e : fallP zs s [] = -x0 := by rw [HX0.out]; rfl
    rw [e]; exact n1.alloc _
  have hR4 : IR W4 0 w.heap.size (some ⟨b, off, none⟩) zs := H.out.below hb04 (Nat.le_refl _)
  rw [hW4]
  clear hW4 hc0
  apply (fun a₁ => wpIn_rangeFunc_ownF (F := Fence.wide) rfl (by decide) (gf := 90) (lb := #[.pointer (some ⟨w.heap.size + 2, 0, none⟩)]) rfl trivial (enters_of Try.func90 (by kernel_rfl) rfl)
    (entries_stops Fence.wide (6 - 1) trivial rfl (by decide) (w.heap.size + 2) w.heap.size c (some ⟨b, off, none⟩) zs _ (by omega) (by omega) hbox hR4) belowK_t (belowK_b (by omega)) (Below.refl _ _) (fun _ => rfl)
    (fun pre W => (Boxed W w.heap.size 3 (.int .i64 s) ∧ Boxed W (w.heap.size + 1) 3 (.int .i64 (fallP zs s pre))) ∧ Below w.heap.size w W)
    (fun _ _ _ => False)
    (OwnFrom.and (OwnFrom.and (Own.from (boxed_own _ _ _) _) (Own.from (boxed_own _ _ _) _)) (ownFrom_below (Nat.le_refl _) (by omega)))
    (fun _ _ _ _ _ hs _ _ => hs)
    ⟨⟨hS, hG⟩, hb04⟩ a₁)
  case hassign =>
    intro l x W K hK
    gi_wp2
    exact hK
  case hbody =>
    rintro l pre x W ⟨⟨hS, hG⟩, hB⟩ hlt
    obtain ⟨m1, m2⟩ := sk_bd hs1 hs2 x.2 hl.2
    obtain ⟨g1, g2⟩ := row_get HR.out x
    obtain ⟨p1, p2⟩ := fallP_bd HR.out hs1 hs2 pre
    obtain ⟨v, hv⟩ : ∃ v, v = fallP zs s pre := ⟨_, rfl⟩
    have hst := fallP_snoc zs s pre x
    rw [← hv] at hst hG p1 p2
    have c1 := hS.cell
    have c2 := hG.cell
    have f2 := hG.frozen
    have HS := Lib.hid hS; have HG := Lib.hid hG; have HB := Lib.hid hB
    clear hS hG hB hv
    simp only [Fin.getElem_fin] at g1 g2 hst
    by_cases hc : v < s * ((x.1 : Nat) : Int) - (zs[x.1]'x.2)
    · rw [if_pos hc] at hst
      have HST := Lib.hid hst; clear hst
      gi_wp2
      have bs : Below w.heap.size W (W.setCell ⟨w.heap.size + 1, 0, none⟩ (.int .i64 (s * ((x.1 : Nat) : Int) - (zs[x.1]'x.2)))) := (Below.refl _ W).setCell (p := ⟨w.heap.size + 1, 0, none⟩) (by show w.heap.size ≤ w.heap.size + 1; omega) _
      exact ⟨KeepsOthers.setCell _ _ _, bs, ⟨HS.out.other (by omega) _, by rw [HST.out]; exact HG.out.set _⟩, HB.out.trans bs⟩
    · rw [if_neg hc] at hst
      have HST := Lib.hid hst; clear hst
      gi_wp2
      have bs : Below w.heap.size W (W.setCell ⟨w.heap.size + 1, 0, none⟩ (.int .i64 v)) := (Below.refl _ W).setCell (p := ⟨w.heap.size + 1, 0, none⟩) (by show w.heap.size ≤ w.heap.size + 1; omega) _
      exact ⟨KeepsOthers.setCell _ _ _, bs, ⟨HS.out.other (by omega) _, by rw [HST.out]; exact HG.out.set _⟩, HB.out.trans bs⟩
  case hdone =>
    rintro D ys W hD rfl ⟨⟨hS, hG⟩, hB⟩ hK
    rw [HFA.out] at hG
    have c2 := hG.cell
    have HB := Lib.hid hB
    clear hS hG hB
    gi_wp2
    refine ⟨by simp, .inl ⟨_, _, rfl, run_takeDeferred hK, ?_⟩⟩
    exact ⟨_, results_tmp rfl _ _ _, rfl, HB.out.trans (belowK_b (w := w) (Nat.le_refl _) W D _ _ (by omega) hK rfl rfl)⟩
  case hstop =>
    rintro D cd pre W _ _ h _
    exact h.elim

set_option maxHeartbeats 1000000 in
theorem implLineFall_any (A : Option Addr) (c : Nat) (zs : List Int) (s : Int) (w : World) (h : IR w 0 w.heap.size A zs) :
    Calls Try.prog 21 #[.slice A zs.length c, .int .i64 s] w fun e w' => e = .returned (tellI (lineFallM zs s)) ∧ Below w.heap.size w w' := by
  have H := Lib.hid h; clear h
  cases hr : rowB zs with
  | false =>
    have HM : Hid (lineFallM zs s = none) := by show _ = _; simp [lineFallM, hr]
    have HR := Lib.hid hr; clear hr
    go_enter Try.func21, Try.ntmps21
    go_wp2_with fail
    refine (isRow_false _ _ _ _ zs _ H.out HR.out).mono ?_; rintro e w1 ⟨rfl, bb⟩
    have HB := Lib.hid bb; clear bb
    go_wp2
    go_ret2
    rw [HM.out]; exact ⟨rfl, HB.out⟩
  | true =>
    have HR := Lib.hid hr; clear hr
    cases hs : inB (-3000) 3000 s with
    | false =>
      have HM : Hid (lineFallM zs s = none) := by show _ = _; simp [lineFallM, hs]
      have HS := Lib.hid hs; clear hs
      go_enter Try.func21, Try.ntmps21
      go_wp2_with fail
      refine (isRow_true _ _ _ _ zs _ H.out HR.out).mono ?_; rintro e w1 ⟨rfl, bb⟩
      have HB := Lib.hid bb; clear bb
      go_wp2_with fail
      refine (within_of _ 3000 (by omega) (by omega) _ HS.out).mono ?_; rintro e w' ⟨rfl, rfl⟩
      go_wp2
      go_ret2
      rw [HM.out]; exact ⟨rfl, HB.out⟩
    | true =>
      have HM : Hid (lineFallM zs s = some (fallL zs s)) := by show _ = _; simp [lineFallM, hs, HR.out]
      have HS := Lib.hid hs; clear hs
      go_enter Try.func21, Try.ntmps21
      go_wp2_with fail
      refine (isRow_true _ _ _ _ zs _ H.out HR.out).mono ?_; rintro e w1 ⟨rfl, bb⟩
      have HB := Lib.hid bb; have H1 := Lib.hid (H.out.grow bb).toAll; clear bb
      go_wp2_with fail
      refine (within_of _ 3000 (by omega) (by omega) _ HS.out).mono ?_; rintro e w' ⟨rfl, rfl⟩
      go_wp2_with fail
      refine (fall_any _ _ _ zs s _ H1.out HR.out (inB_true.1 HS.out).1 (inB_true.1 HS.out).2 rfl).mono ?_; rintro e w2 ⟨rfl, bb⟩
      have HB2 := Lib.hid (below_then HB.out (Nat.le_refl _) bb); clear bb
      go_wp2
      go_ret2
      rw [HM.out]; exact ⟨rfl, HB2.out⟩

set_option maxHeartbeats 2000000 in
theorem implLineFalls_any (A : Option Addr) (c : Nat) (zs : List Int) (f t : Int) (w : World) (h : IR w 0 w.heap.size A zs) :
    Calls Try.prog 26 #[.slice A zs.length c, .int .i64 f, .int .i64 t] w (RetSB w (lineFallsM zs f t)) := by
  have H := Lib.hid h; clear h
  cases hr : rowB zs with
  | false =>
    have HM : Hid (lineFallsM zs f t = none) := fallsM_no (by simp [hr])
    have HR := Lib.hid hr; clear hr
    go_enter Try.func26, Try.ntmps26
    go_wp2_with fail
    refine (isRow_false _ _ _ _ zs _ H.out HR.out).mono ?_; rintro e w1 ⟨rfl, bb⟩
    have HB := Lib.hid bb; clear bb
    go_wp2
    go_ret2
    rw [HM.out]
    exact retSB_none HB.out
  | true =>
    have HR := Lib.hid hr; clear hr
    cases hs : inB (-100) 100 f with
    | false =>
      have HM : Hid (lineFallsM zs f t = none) := fallsM_no (by simp [hs])
      have HS := Lib.hid hs; clear hs
      go_enter Try.func26, Try.ntmps26
      go_wp2_with fail
      refine (isRow_true _ _ _ _ zs _ H.out HR.out).mono ?_; rintro e w1 ⟨rfl, bb⟩
      have HB := Lib.hid bb; clear bb
      go_wp2_with fail
      refine (within_of _ 100 (by omega) (by omega) _ HS.out).mono ?_; rintro e w' ⟨rfl, rfl⟩
      go_wp2
      go_ret2
      rw [HM.out]
      exact retSB_none HB.out
    | true =>
      have HS := Lib.hid hs; clear hs
      obtain ⟨f1, f2⟩ := inB_true.1 HS.out
      cases ht : inB (-100) 100 t with
      | false =>
        have HM : Hid (lineFallsM zs f t = none) := by
          refine fallsM_no ?_
          have : inB f 100 t = false := by
            have a := inB_false ht
            cases e : inB f 100 t with
            | false => rfl
            | true => have := inB_true.1 e; omega
          simp [this]
        have HT := Lib.hid ht; clear ht
        go_enter Try.func26, Try.ntmps26
        go_wp2_with fail
        refine (isRow_true _ _ _ _ zs _ H.out HR.out).mono ?_; rintro e w1 ⟨rfl, bb⟩
        have HB := Lib.hid bb; clear bb
        go_wp2_with fail
        refine (within_of _ 100 (by omega) (by omega) _ HS.out).mono ?_; rintro e w' ⟨rfl, rfl⟩
        go_wp2_with fail
        refine (within_of _ 100 (by omega) (by omega) _ HT.out).mono ?_; rintro e w' ⟨rfl, rfl⟩
        go_wp2
        go_ret2
        rw [HM.out]
        exact retSB_none HB.out
      | true =>
        obtain ⟨t1, t2⟩ := inB_true.1 ht
        have HT := Lib.hid ht; clear ht
        by_cases hft : t < f
        · have HM : Hid (lineFallsM zs f t = none) := by
            refine fallsM_no ?_
            have : inB f 100 t = false := by
              cases e : inB f 100 t with
              | false => rfl
              | true => have := inB_true.1 e; omega
            simp [this]
          go_enter Try.func26, Try.ntmps26
          go_wp2_with fail
          refine (isRow_true _ _ _ _ zs _ H.out HR.out).mono ?_; rintro e w1 ⟨rfl, bb⟩
          have HB := Lib.hid bb; clear bb
          go_wp2_with fail
          refine (within_of _ 100 (by omega) (by omega) _ HS.out).mono ?_; rintro e w' ⟨rfl, rfl⟩
          go_wp2_with fail
          refine (within_of _ 100 (by omega) (by omega) _ HT.out).mono ?_; rintro e w' ⟨rfl, rfl⟩
          go_wp2
          go_ret2
          rw [HM.out]
          exact retSB_none HB.out
        · have HM : Hid (lineFallsM zs f t = some (fallsL zs f (t - f + 1).toNat)) := by
            show _ = _
            have : inB f 100 t = true := inB_true.2 (by omega)
            simp [lineFallsM, this, HS.out, HR.out]
          obtain ⟨n, hn⟩ : ∃ n : Nat, n = (t - f + 1).toNat := ⟨_, rfl⟩
          have hn' : (n : Int) = t - f + 1 := by omega
          rw [← hn] at HM
          clear hn
          go_enter Try.func26, Try.ntmps26
          go_wp2_with fail
          refine (isRow_true _ _ _ _ zs _ H.out HR.out).mono ?_; rintro e w1 ⟨rfl, bb⟩
          have HB := Lib.hid bb; clear bb
          go_wp2_with fail
          refine (within_of _ 100 (by omega) (by omega) _ HS.out).mono ?_; rintro e w' ⟨rfl, rfl⟩
          go_wp2_with fail
          refine (within_of _ 100 (by omega) (by omega) _ HT.out).mono ?_; rintro e w' ⟨rfl, rfl⟩
          go_wp2
          go_loopw [9, 10] (fun v i wr => ∃ k : Nat, k ≤ n ∧ i = .int .i64 (f + (k : Int)) ∧ OwnI wr w.heap.size v (fallsL zs f k) ∧ Below w.heap.size w wr) (fun _ i _ => (t + 1 - intOf i).toNat)
          case atStart => exact ⟨0, Nat.zero_le _, by go_num, by simpa [fallsL] using OwnI.nil w1 w.heap.size HB.out.size, HB.out⟩
          case round =>
            obtain ⟨k, hk, rfl, ho, hb⟩ := hrel
            have HO := Lib.hid ho; have HBl := Lib.hid hb
            clear ho hb
            by_cases hlt : k < n
            · have hle : f + (k : Int) ≤ t := by omega
              have h1 : -3000 ≤ f + (k : Int) := by omega
              have h2 : f + (k : Int) ≤ 3000 := by omega
              have HY := Lib.hid (fall_i64 HR.out h1 h2)
              have HLn := Lib.hid (show (fallsL zs f k).length < 17592186044416 by rw [falls_len]; omega)
              have HN := Lib.hid (falls_snoc zs f k)
              go_wp2_with fail
              refine (fall_any _ _ _ zs (f + (k : Int)) _ (H.out.below HBl.out (Nat.le_refl _)).toAll HR.out h1 h2 rfl).mono ?_; rintro e w3 ⟨rfl, bb⟩
              have HO3 := Lib.hid (HO.out.below bb (Nat.le_refl _)); have HB3 := Lib.hid (below_then HBl.out (Nat.le_refl _) bb)
              clear bb
              go_wp2_with (at_builtin; refine wpList_push rfl _ _ rfl w.heap.size _ _ rfl rfl HO3.out HLn.out HY.out ?_; intro v1 w4 ho1 hb1)
              rw [← HN.out] at ho1
              have HO1 := Lib.hid ho1; have HB1 := Lib.hid hb1
              clear ho1 hb1
              go_roundw
              case rel => exact ⟨k + 1, by omega, by go_num, HO1.out, HB3.out.trans HB1.out⟩
              case measure => simp [intOf]; omega
            · obtain rfl : k = n := by omega
              have hle : ¬ f + (k : Int) ≤ t := by omega
              have ho := HO.out
              obtain ⟨A', c', rfl, hiw⟩ := ho.iw (by rw [falls_len]; omega)
              have HIW := Lib.hid hiw
              have HLn := Lib.hid (falls_len zs f k)
              clear hiw ho HO
              go_wp2
              go_ret2
              rw [HM.out]
              exact retSB_some rfl HIW.out HBl.out
end Go.Proofs.Ytlgagdplnpeklaa
