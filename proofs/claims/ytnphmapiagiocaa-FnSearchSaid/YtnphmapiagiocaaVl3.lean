/-
  ValleySearch of the model and of the program: the first place of the least entry of a row with one valley. Conditions: the list's cells are there.
-/
import Derived.Test.YtnphmapiagiocaaVl2
import Derived.Test.YtnphmapiagiocaaLeast2
import Derived.Test.YtnphmapiagiocaaScope
import Derived.Test.YtnphmapiagiocaaMathA
namespace Go.Proofs.Ytnphmapiagiocaa
open Go.RowKit Go.Shelf
attribute [local go_sem] Oper.semAt_some

theorem leastTo_fl {zs : List Int} (h : 0 < zs.length) : Fl zs (leastTo zs zs.length).1 := by
  obtain ⟨m, hm⟩ : ∃ m, zs.length = m + 1 := ⟨zs.length - 1, by omega⟩
  obtain ⟨h1, h2, h3, h4⟩ := leastTo_spec zs m
  rw [← hm] at h1 h2 h3 h4
  refine ⟨by omega, fun j hj => (h4 j (by omega)).1, fun j hj => ?_⟩
  have g := h4 j (by omega)
  refine Int.lt_iff_le_and_ne.2 ⟨g.1, fun e => ?_⟩
  have := (g.2 e.symm).1
  omega
/-- An entry further on is greater: of a row with one valley no later one is less than it. -/
theorem one_up {zs : List Int} (h : One zs) {m n : Nat} (hmn : m < n) (c : zs.getD m 0 < zs.getD n 0) : ∀ j, n ≤ j → j < zs.length → zs.getD n 0 ≤ zs.getD j 0 := by
  have key : ∀ d, zs.getD m 0 < zs.getD (m + d) 0 → ∃ k, m ≤ k ∧ k < m + d ∧ zs.getD k 0 < zs.getD (k + 1) 0 := by
    intro d
    induction d with
    | zero => intro g; exact absurd g (Int.lt_irrefl _)
    | succ d ih =>
      intro g
      by_cases e : zs.getD m 0 < zs.getD (m + d) 0
      · obtain ⟨k, k1, k2, k3⟩ := ih e
        exact ⟨k, k1, by omega, k3⟩
      · exact ⟨m + d, by omega, by omega, by rw [show m + d + 1 = m + (d + 1) by omega]; omega⟩
  obtain ⟨k, k1, k2, k3⟩ := key (n - m) (by rw [show m + (n - m) = n by omega]; exact c)
  intro j hj
  obtain ⟨e, rfl⟩ : ∃ e, j = n + e := ⟨j - n, by omega⟩
  clear hj
  induction e with
  | zero => intro _; exact Int.le_refl _
  | succ e ih =>
    intro g
    have h1 := ih (by omega)
    have h2 := h k (n + e) (by omega) (by omega) k3
    rw [show n + (e + 1) = n + e + 1 by omega]
    omega
theorem leastTo_stop {zs : List Int} (h : One zs) {n : Nat} (hn : n < zs.length) (c : zs.getD (leastTo zs n).1 0 < zs.getD n 0) : (leastTo zs n).1 = (leastTo zs zs.length).1 := by
  by_cases h0 : n = 0
  · subst h0; simp only [leastTo] at c; exact absurd c (Int.lt_irrefl _)
  · obtain ⟨m, rfl⟩ : ∃ m, n = m + 1 := ⟨n - 1, by omega⟩
    obtain ⟨h1, h2, h3, h4⟩ := leastTo_spec zs m
    refine Fl.uniq (zs := zs) ⟨by omega, fun j hj => ?_, fun j hj => ?_⟩ (leastTo_fl (by omega))
    · by_cases e : j ≤ m
      · exact (h4 j e).1
      · have := one_up h (show (leastTo zs (m + 1)).1 < m + 1 by omega) c j (by omega) hj
        omega
    · have g := h4 j (by omega)
      refine Int.lt_iff_le_and_ne.2 ⟨g.1, fun e => ?_⟩
      have := (g.2 e.symm).1
      omega
theorem leastOf_lt {zs : List Int} (h0 : 0 < zs.length) (pre : List (Fin zs.length)) : (leastOf zs pre).1 < zs.length := by
  unfold leastOf
  suffices h : ∀ s : Nat × Nat, s.1 < zs.length → (pre.foldl (fun s x => lstep zs s x.1) s).1 < zs.length from h _ h0
  induction pre with
  | nil => intro s h; exact h
  | cons x pre ih =>
    intro s h
    refine ih _ ?_
    unfold lstep
    show (if zs.getD x.1 0 < zs.getD s.1 0 then x.1 else s.1) < zs.length
    split
    · exact x.2
    · exact h
def valleyI (zs : List Int) : Int := ((leastTo zs zs.length).1 : Int)

set_option maxRecDepth 100000 in
set_option maxHeartbeats 2000000 in
theorem valley_any (A : Option Addr) (c : Nat) (zs : List Int) (w : World) (h : IR w 0 w.heap.size A zs) (h0 : 0 < zs.length) (ho : One zs) :
    Calls Try.prog 48 #[.slice A zs.length c] w fun e w' => e = .returned (.int .i64 (valleyI zs)) ∧ Below w.heap.size w w' := by
  have hl := h.1
  have H := Lib.hid h
  have HO := Lib.hid ho; clear ho
  have hb2 : Below w.heap.size w ((w.alloc (.cells #[.slice A zs.length c] 41)).alloc (.cells #[.int .i64 0] 3)) := ((Below.refl _ w).alloc (Nat.le_refl _) _).alloc (by rw [World.size_alloc]; omega) _
  refine (callsIn_wide (n := 6)).1 ?_
  refine callsIn_of_wp_marks Try.func48 rfl trivial ?_ rfl
  simp only [Try.ntmps48, List.size_toArray, List.length_cons, List.length_nil, Nat.reduceAdd, Nat.reduceSub, Array.replicate_succ, Array.replicate_zero, List.push_toArray, List.append_toArray, List.nil_append, List.cons_append]
  gi_wp2
  refine wpIn_scope_ ?_
  gi_wp2
  refine wpIn_label ?_
  gi_wp2_with (refine ⟨trivial, ?_⟩; gi_at_call 67; refine (entries_in _ _ trivial rfl _ _ _ _).mono ?_; rintro e w' ⟨rfl, rfl⟩)
  have bO := Boxed.new w 41 (.slice A zs.length c)
  have bN := Boxed.new (w.alloc (.cells #[.slice A zs.length c] 41)) 3 (.int .i64 0)
  have bS := Boxed.new ((w.alloc (.cells #[.slice A zs.length c] 41)).alloc (.cells #[.int .i64 0] 3)) 41 (.slice A zs.length c)
  rw [World.size_alloc] at bN
  rw [World.size_alloc, World.size_alloc] at bS
  obtain ⟨W3, hW3⟩ : ∃ W3, ((w.alloc (.cells #[.slice A zs.length c] 41)).alloc (.cells #[.int .i64 0] 3)).alloc (.cells #[.slice A zs.length c] 41) = W3 := ⟨_, rfl⟩
  have bO3 : Boxed W3 w.heap.size 41 (.slice A zs.length c) := by rw [← hW3]; exact (bO.alloc _).alloc _
  have bN3 : Boxed W3 (w.heap.size + 1) 3 (.int .i64 ((leastOf zs []).1 : Int)) := by rw [← hW3]; exact bN.alloc _
  have hsz : W3.heap.size = w.heap.size + 3 := by rw [← hW3]; simp
  have hB0 : Below w.heap.size w W3 := by rw [← hW3]; exact hb2.alloc (by rw [World.size_alloc, World.size_alloc]; omega) _
  rw [hW3] at bS
  rw [hW3]
  clear hW3 bO bN hb2
  have hR0 := h.grow hB0
  apply (fun a₁ => wpIn_rangeFunc_ownF (F := Fence.wide) rfl (by decide) (gf := 87) (lb := #[.pointer (some ⟨w.heap.size + 2, 0, none⟩)]) rfl trivial (enters_of Try.func87 (by kernel_rfl) rfl)
    (entries_pf Fence.wide (6 - 1) trivial rfl (by decide) (w.heap.size + 2) w.heap.size c A zs _ (by omega) (by omega) bS.cell hR0) belowK_t (belowK_b (by omega)) (Below.refl _ _) (fun _ => rfl)
    (fun pre W => (Boxed W w.heap.size 41 (.slice A zs.length c) ∧ Boxed W (w.heap.size + 1) 3 (.int .i64 ((leastOf zs pre).1 : Int))) ∧ Below w.heap.size w W)
    (fun cd pre W => (Boxed W (w.heap.size + 1) 3 (.int .i64 ((leastOf zs pre).1 : Int)) ∧ (cd = .exit 0 ∧ ∃ (l : List (Fin zs.length)) (x : Fin zs.length), pre = l ++ [x] ∧ zs.getD (leastOf zs l).1 0 < zs.getD x.1 0)) ∧ Below w.heap.size w W)
    (OwnFrom.and (OwnFrom.and (Own.from (boxed_own _ _ _) _) (Own.from (boxed_own _ _ _) _)) (ownFrom_below (Nat.le_refl _) (by omega)))
    (fun cd => OwnFrom.and (OwnFrom.and (Own.from (boxed_own _ _ _) _) (own_pure _ _)) (ownFrom_below (Nat.le_refl _) (by omega)))
    ⟨⟨bO3, bN3⟩, hB0⟩ a₁)
  case hassign =>
    intro l x W K hK
    gi_wp2
    exact hK
  case hbody =>
    rintro l pre x W ⟨⟨hO, hN⟩, hB⟩ hlt
    have hp := leastOf_lt (zs := zs) (by omega) pre
    obtain ⟨b, off, rfl, _, hbs, hc⟩ := (H.out.below hB (Nat.le_refl _)).at_ hp
    have HSN := Lib.hid (congrArg Prod.fst (leastOf_snoc zs pre x))
    obtain ⟨p, hpe⟩ : ∃ p, (leastOf zs pre).1 = p := ⟨_, rfl⟩
    have HP := Lib.hid hpe
    have hc' : W.cell? ⟨b, off + p, none⟩ = some (.int .i64 (zs.getD p 0)) := by rw [← hpe, hc, getD_in hp]
    have hlp : (p : Int) < (zs.length : Int) := by rw [← hpe]; omega
    have hgx : zs.getD x.1 0 = zs[x.1]'x.2 := getD_in x.2
    rw [hpe] at hN
    simp only [lstep] at HSN
    rw [hpe, hgx] at HSN
    obtain ⟨y, hy⟩ : ∃ y, zs.getD p 0 = y := ⟨_, rfl⟩
    rw [hy] at hc' HSN
    have HY := Lib.hid hy
    have c1 := hO.cell
    have c2 := hN.cell; have f2 := hN.frozen
    have HO := Lib.hid hO; have HN := Lib.hid hN; have HB := Lib.hid hB
    clear hO hN hB hp hc hpe hy hgx
    by_cases hlt1 : (zs[x.1]'x.2) < y
    · have HSS := Lib.hid (HSN.out.trans (if_pos hlt1))
      gi_wp2
      exact ⟨KeepsOthers.setCell _ _ _, (Below.refl _ W).setCell (p := ⟨w.heap.size + 1, 0, none⟩) (by show w.heap.size ≤ w.heap.size + 1; omega) _, ⟨HO.out.other (by omega) _, by rw [HSS.out]; exact HN.out.set _⟩, HB.out.setCell (p := ⟨w.heap.size + 1, 0, none⟩) (by show w.heap.size ≤ w.heap.size + 1; omega) _⟩
    · have HSS := Lib.hid (HSN.out.trans (if_neg hlt1))
      by_cases hlt2 : y < (zs[x.1]'x.2)
      · gi_wp2
        exact ⟨KeepsOthers.refl _, ⟨by rw [HSS.out]; exact HN.out, rfl, pre, x, rfl, by show zs.getD (leastOf zs pre).1 0 < (zs[x.1]'x.2); rw [HP.out, HY.out]; exact hlt2⟩, HB.out⟩
      · gi_wp2
        exact ⟨KeepsOthers.refl _, Below.refl _ _, ⟨HO.out, by rw [HSS.out]; exact HN.out⟩, HB.out⟩
  case hdone =>
    rintro D ys W hD rfl ⟨⟨hO, hN⟩, hB⟩ hK
    rw [leastOf_all] at hN
    have HM : Hid (((leastTo zs zs.length).1 : Int) = valleyI zs) := rfl
    rw [HM.out] at hN
    have c2 := hN.cell
    have HN := Lib.hid hN; have HB := Lib.hid hB
    clear hO hN hB
    gi_wp2
    refine ⟨by simp, .inl ⟨_, _, rfl, run_takeDeferred hK, ?_⟩⟩
    exact ⟨_, results_tmp rfl _ _ _, rfl, HB.out.trans (belowK_b (w := w) (Nat.le_refl _) _ D _ _ (by omega) hK rfl rfl)⟩
  case hstop =>
    rintro D cd pre W hD hp ⟨⟨hN, rfl, l, x, rfl, h1⟩, hB⟩ hK
    have e := finRange_init hp
    have hx := x.2
    have e1 : (leastOf zs l).1 = (leastTo zs x.1).1 := by rw [e, leastOf_take zs x.1 (by omega)]
    rw [e1] at h1
    have e2 := leastTo_stop HO.out hx h1
    have e3 : (leastOf zs (l ++ [x])).1 = (leastTo zs zs.length).1 := by
      rw [leastOf_snoc]
      show (if zs.getD x.1 0 < zs.getD (leastOf zs l).1 0 then x.1 else (leastOf zs l).1) = _
      rw [e1, if_neg (by omega), e2]
    rw [e3] at hN
    have HM : Hid (((leastTo zs zs.length).1 : Int) = valleyI zs) := rfl
    rw [HM.out] at hN
    have c2 := hN.cell
    have HN := Lib.hid hN; have HB := Lib.hid hB
    clear hN hB h1 hp e e1 e2 e3
    gi_wp2
    refine ⟨by simp, .inl ⟨_, _, rfl, run_takeDeferred hK, ?_⟩⟩
    exact ⟨_, results_tmp rfl _ _ _, rfl, HB.out.trans (belowK_b (w := w) (Nat.le_refl _) _ D _ _ (by omega) hK rfl rfl)⟩

theorem specValleyOne_of {b : Bool} (A : Option Addr) (c : Nat) (zs : List Int) (w : World) (h : IR w 0 w.heap.size A zs) (hb : valleyOneB zs = b) :
    Calls Try.prog 49 #[.slice A zs.length c] w fun e w' => e = .returned (.bool b) ∧ Below w.heap.size w w' := by
  have := specValleyOne_any A c zs w h; rwa [hb] at this
theorem implValleyOne_of {b : Bool} (A : Option Addr) (c : Nat) (zs : List Int) (w : World) (h : IR w 0 w.heap.size A zs) (hb : valleyOneB zs = b) :
    Calls Try.prog 16 #[.slice A zs.length c] w fun e w' => e = .returned (.bool b) ∧ Below w.heap.size w w' := by
  have := implValleyOne_any A c zs w h; rwa [hb] at this
/-- What ValleySearch answers. -/
def searchI (zs : List Int) : Int := if valleyOneB zs then valleyI zs else 0
theorem searchI_no {zs : List Int} (h : valleyOneB zs = false) : searchI zs = 0 := by simp [searchI, h]
theorem searchI_yes {zs : List Int} (h : valleyOneB zs = true) : searchI zs = valleyI zs := by simp [searchI, h]
theorem valleyOneB_true {zs : List Int} (h : valleyOneB zs = true) : rowB zs = true ∧ One zs := by
  unfold valleyOneB at h
  rw [Bool.and_eq_true] at h
  exact ⟨h.1, (oneB_iff zs).1 h.2⟩

set_option maxHeartbeats 400000 in
theorem implValleySearch_any (A : Option Addr) (c : Nat) (zs : List Int) (w : World) (h : IR w 0 w.heap.size A zs) :
    Calls Try.prog 18 #[.slice A zs.length c] w fun e w' => e = .returned (.tuple #[.int .i64 (searchI zs), .bool (valleyOneB zs)]) ∧ Below w.heap.size w w' := by
  have H := Lib.hid h; clear h
  cases hv : valleyOneB zs with
  | false =>
    have HM := Lib.hid (searchI_no hv)
    have HV := Lib.hid hv; clear hv
    go_enter Try.func18, Try.ntmps18
    go_wp2_with fail
    refine (implValleyOne_of _ _ zs _ H.out HV.out).mono ?_; rintro e w1 ⟨rfl, b1⟩
    go_wp2
    go_ret2
    rw [HM.out]
    exact ⟨rfl, b1⟩
  | true =>
    have HM := Lib.hid (searchI_yes hv)
    have HR := Lib.hid (valleyOneB_true hv)
    have HV := Lib.hid hv; clear hv
    go_enter Try.func18, Try.ntmps18
    go_wp2_with fail
    refine (implValleyOne_of _ _ zs _ H.out HV.out).mono ?_; rintro e w1 ⟨rfl, b1⟩
    have B1 := Lib.hid b1; have H1 := Lib.hid (H.out.grow b1).toAll; clear b1
    go_wp2_with fail
    refine (valley_any _ _ zs _ H1.out (rowB_true.1 HR.out.1).2.1 HR.out.2).mono ?_; rintro e w2 ⟨rfl, b2⟩
    have B2 := Lib.hid b2; clear b2
    rw [← HM.out]
    go_wp2
    go_ret2
    exact ⟨rfl, below_then B1.out (Nat.le_refl _) B2.out⟩

/-- None of the first k entries behind the place m is less than the entry there. -/
def stayB (zs : List Int) (m k : Nat) : Bool := (List.range k).all fun d => decide (zs.getD m 0 ≤ zs.getD (m + 1 + d) 0)
theorem stayB_succ (zs : List Int) (m k : Nat) (h : m + 1 + k < zs.length) : stayB zs m (k + 1) = (stayB zs m k && decide (zs[m] ≤ zs[m + 1 + k])) := by
  unfold stayB
  rw [List.range_succ, List.all_append]
  simp [h, show m < zs.length by omega]
theorem stayB_true {zs : List Int} {m k f : Nat} (hf : Fl zs f) (hk : m + 1 + k = zs.length) (h : stayB zs m k = true) : f ≤ m := by
  refine fl_stay hf fun j h1 h2 => ?_
  unfold stayB at h
  rw [List.all_eq_true] at h
  have := h (j - (m + 1)) (List.mem_range.2 (by omega))
  rw [decide_eq_true_eq, show m + 1 + (j - (m + 1)) = j by omega] at this
  exact this
theorem stayB_false {zs : List Int} {m k f : Nat} (ho : One zs) (hf : Fl zs f) (hk : m + 1 + k = zs.length) (h : stayB zs m k = false) : m + 1 ≤ f := by
  unfold stayB at h
  rw [List.all_eq_false] at h
  obtain ⟨d, h1, h2⟩ := h
  rw [decide_eq_true_eq] at h2
  have := List.mem_range.1 h1
  exact fl_less ho hf (show m < m + 1 + d by omega) (by omega) (by omega)

theorem drew2 (w : World) (a b c : Nat) : ∃ d, ((w.drewN a).drewN b).drewN c = w.drewN d := ⟨_, (World.drewN_drewN _ _ _).trans (World.drewN_drewN _ _ _)⟩
theorem drew1 (w : World) (a b : Nat) : ∃ d, (w.drewN a).drewN b = w.drewN d := ⟨a + b, World.drewN_drewN _ _ _⟩

set_option maxRecDepth 100000 in
set_option maxHeartbeats 4000000 in
theorem specValleySearch_any (A : Option Addr) (c : Nat) (zs : List Int) (w : World) (h : IR w 0 w.heap.size A zs) :
    Calls Try.prog 19 #[.slice A zs.length c] w fun e w' => e = .returned (.tuple #[.int .i64 (searchI zs), .bool (valleyOneB zs)]) ∧ Below w.heap.size w w' := by
  have H := Lib.hid h; clear h
  cases hv : valleyOneB zs with
  | false =>
    have HM := Lib.hid (searchI_no hv)
    have HV := Lib.hid hv; clear hv
    go_enter Try.func19, Try.ntmps19
    go_wp2_with fail
    refine (specValleyOne_of _ _ zs _ H.out HV.out).mono ?_; rintro e w1 ⟨rfl, b1⟩
    go_wp2
    go_ret2
    rw [HM.out]
    exact ⟨rfl, b1⟩
  | true =>
    have HM := Lib.hid (searchI_yes hv)
    have HR := Lib.hid (valleyOneB_true hv)
    have hl := (rowB_true.1 HR.out.1).2
    have HF := Lib.hid (leastTo_fl (zs := zs) hl.1)
    have HV := Lib.hid hv; clear hv
    obtain ⟨f, hf⟩ : ∃ f, (leastTo zs zs.length).1 = f := ⟨_, rfl⟩
    rw [hf] at HF
    have HVI : Hid (valleyI zs = (f : Int)) := by show _ = _; unfold valleyI; rw [hf]
    clear hf
    obtain ⟨hfl, hfn⟩ : f < zs.length ∧ 0 < zs.length := ⟨HF.out.1, hl.1⟩
    go_enter Try.func19, Try.ntmps19
    go_wp2_with fail
    refine (specValleyOne_of _ _ zs _ H.out HV.out).mono ?_; rintro e w1 ⟨rfl, b1⟩
    have B1 := Lib.hid b1; have H1 := Lib.hid (H.out.grow b1).toAll; clear b1 H
    go_wp2
    go_loopw [4, 5] (fun lv hv wr => ∃ l m : Nat, lv = .int .i64 (l : Int) ∧ hv = .int .i64 (m : Int) ∧ l ≤ f ∧ f ≤ m ∧ m < zs.length ∧ ∃ d : Nat, wr = w1.drewN d) (fun lv hv _ => (intOf hv).toNat - (intOf lv).toNat)
    case atStart => exact ⟨0, zs.length - 1, rfl, by go_num, Nat.zero_le _, by omega, by omega, 0, rfl⟩
    case round =>
      obtain ⟨l, m, rfl, rfl, hlf, hfm, hmn, d, rfl⟩ := hrel
      by_cases hlt : l < m
      · obtain ⟨md, hmd⟩ : ∃ md, md = (l + m) / 2 := ⟨_, rfl⟩
        have q0 : ((l : Int) + (m : Int)).tdiv 2 = (md : Int) := by rw [hmd, Int.tdiv_eq_ediv_of_nonneg (by omega)]; omega
        have hm1 : l ≤ md := by omega
        have hm2 : md + 1 ≤ m := by omega
        clear hmd
        obtain ⟨b, off, rfl, _, _, hc1⟩ := H1.out.at_ (k := md + 1) (by omega)
        obtain ⟨b', off', e, _, _, hc0⟩ := H1.out.at_ (k := md) (by omega)
        injection e with e; injection e with e1 e2 _; subst e1; subst e2
        have HUp := Lib.hid (fun c => fl_rise (m := md) HR.out.2 HF.out c)
        have HDn := Lib.hid (fun c => fl_fall (m := md) HR.out.2 HF.out c (by omega))
        rw [getD_in (show md + 1 < zs.length by omega), getD_in (show md < zs.length by omega)] at HUp HDn
        obtain ⟨x, hx⟩ : ∃ x, zs[md + 1] = x := ⟨_, rfl⟩
        obtain ⟨y, hy⟩ : ∃ y, zs[md] = y := ⟨_, rfl⟩
        have hc1' := hc1; have hc0' := hc0
        rw [hx] at hc1 HUp HDn
        rw [hy] at hc0 HUp HDn
        have HY := Lib.hid hy
        clear hx hy
        have p1 : (md : Int) + 1 < (zs.length : Int) := by omega
        have p0 : (md : Int) < (zs.length : Int) := by omega
        have z0 : (0 : Int) ≤ (md : Int) := by omega
        have z1 : (0 : Int) ≤ (md : Int) + 1 := by omega
        have t0 : (md : Int).toNat = md := by omega
        have t1 : ((md : Int) + 1).toNat = md + 1 := by omega
        by_cases hup : y < x
        · have hg := HUp.out hup
          have hq : (x == y) = false := by rw [beq_eq_false_iff_ne]; omega
          clear HUp HDn hc1' hc0'
          go_wp2
          go_quiet (fail)
          go_wp2
          go_quiet (fail)
          clear t0 t1 hc0 hc1
          go_wp2
          go_roundw
          case rel => exact ⟨l, md, rfl, rfl, hlf, hg, by omega, (by first | exact ⟨_, rfl⟩ | exact drew2 _ _ _ _)⟩
          case measure => simp [intOf]; omega
        · by_cases hdn : x < y
          · have hg := HDn.out hdn
            have hq : (x == y) = false := by rw [beq_eq_false_iff_ne]; omega
            clear HUp HDn hc1' hc0'
            go_wp2
            go_quiet (fail)
            go_wp2
            go_quiet (fail)
            clear t0 t1 hc0 hc1
            go_wp2
            go_roundw
            case rel => exact ⟨md + 1, m, by go_num, rfl, hg, hfm, hmn, (by first | exact ⟨_, rfl⟩ | exact drew2 _ _ _ _)⟩
            case measure => simp [intOf]; omega
          · have hq : (x == y) = true := by rw [beq_iff_eq]; omega
            obtain rfl : x = y := by omega
            clear HUp HDn hc1' hc0'
            go_wp2
            go_quiet (fail)
            go_wp2
            go_quiet (fail)
            go_wp2
            clear hc1 t1
            go_loopw [7, 8] (fun s i wr' => ∃ j : Nat, i = .int .i64 ((md : Int) + 1 + (j : Int)) ∧ s = .bool (stayB zs md j) ∧ md + 1 + j ≤ zs.length ∧ ∃ d' : Nat, wr' = w1.drewN d') (fun _ i _ => zs.length - (intOf i).toNat)
            case atStart => exact ⟨0, by go_num, rfl, by omega, (by first | exact ⟨_, rfl⟩ | exact drew2 _ _ _ _)⟩
            case round =>
              obtain ⟨j, rfl, rfl, hjn, d', rfl⟩ := hrel
              by_cases hlt2 : md + 1 + j < zs.length
              · obtain ⟨b', off', e, _, _, hc2⟩ := H1.out.at_ hlt2
                injection e with e; injection e with e1 e2 _; subst e1; subst e2
                have HN := Lib.hid (stayB_succ zs md j hlt2)
                rw [HY.out] at HN
                obtain ⟨x2, hx2⟩ : ∃ x2, zs[md + 1 + j] = x2 := ⟨_, rfl⟩
                rw [hx2] at hc2 HN
                clear hx2
                have t2 : ((md : Int) + 1 + (j : Int)).toNat = md + 1 + j := by omega
                have r1 : (md : Int) + 1 + (j : Int) < (zs.length : Int) := by omega
                have r0 : (0 : Int) ≤ (md : Int) + 1 + (j : Int) := by omega
                cases hst : stayB zs md j with
                | false =>
                  rw [hst] at HN
                  clear hst
                  go_wp2
                  go_quiet (fail)
                  go_wp2
                  go_roundw
                  case rel => exact ⟨j + 1, by go_num, by rw [HN.out]; simp, by omega, (by first | exact ⟨_, rfl⟩ | exact drew1 _ _ _)⟩
                  case measure => simp [intOf]; omega
                | true =>
                  rw [hst] at HN
                  clear hst
                  by_cases hge : x ≤ x2
                  · go_wp2
                    go_quiet (fail)
                    go_wp2
                    go_roundw
                    case rel => exact ⟨j + 1, by go_num, by rw [HN.out]; simp [hge], by omega, (by first | exact ⟨_, rfl⟩ | exact drew1 _ _ _)⟩
                    case measure => simp [intOf]; omega
                  · go_wp2
                    go_quiet (fail)
                    go_wp2
                    go_roundw
                    case rel => exact ⟨j + 1, by go_num, by rw [HN.out]; simp, by omega, (by first | exact ⟨_, rfl⟩ | exact drew1 _ _ _)⟩
                    case measure => simp [intOf]; omega
              · have hlt2' : ¬ (md : Int) + 1 + (j : Int) < (zs.length : Int) := by omega
                cases hst : stayB zs md j with
                | true =>
                  have hg := stayB_true HF.out (by omega) hst
                  clear hst t0 hc0
                  go_wp2
                  go_roundw
                  case rel => exact ⟨l, md, rfl, rfl, hlf, hg, by omega, d', rfl⟩
                  case measure => simp [intOf]; omega
                | false =>
                  have hg := stayB_false HR.out.2 HF.out (by omega) hst
                  clear hst t0 hc0
                  go_wp2
                  go_roundw
                  case rel => exact ⟨md + 1, m, by go_num, rfl, hg, hfm, hmn, d', rfl⟩
                  case measure => simp [intOf]; omega
      · obtain rfl : l = m := by omega
        obtain rfl : f = l := by omega
        go_wp2
        go_ret2
        rw [HM.out, HVI.out]
        exact ⟨rfl, below_drawN B1.out _⟩
end Go.Proofs.Ytnphmapiagiocaa
