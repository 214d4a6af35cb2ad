/-
  HillRound of the program. Conditions: the list's cells are there.
-/
import Derived.Test.YtnphmapiagiocaaHl1
import Derived.Test.YtnphmapiagiocaaIter3
import Derived.Test.YtnphmapiagiocaaHeld
namespace Go.Proofs.Ytnphmapiagiocaa
open Go.RowKit Go.Shelf
attribute [local go_sem] Oper.semAt_some

section
variable {F : Fence} {n : Nat} {P : Program} {ops : Array Oper} {Q : Exit → Act → World → Prop} {md : Region.Mode} {S : World → Prop}
/-- Two may come up. -/
theorem anyS_pair (i j : Nat) {fuel : Nat} {listed : Array Bool} {a : Act} {w : World} (hr : Region.ready md ops listed = [i, j]) (hS : S w)
    (h1 : wpOpIn F n P ops Q i (anyS F n P md ops Q S fuel (listed.setIfInBounds i true)) a w) (h2 : wpOpIn F n P ops Q j (anyS F n P md ops Q S fuel (listed.setIfInBounds j true)) a w) : anyS F n P md ops Q S (fuel + 1) listed a w :=
  ⟨hS, fun h0 => (by rw [hr] at h0; cases h0), fun k hk => by
    rw [hr] at hk
    rcases List.mem_cons.1 hk with rfl | hk
    · exact h1
    · obtain rfl := List.mem_singleton.1 hk; exact h2⟩
end

theorem keeps_below {W W' : World} (hb : Below W.heap.size W W') : KeepsOthers W W' := KeepsOthers.of_grownBy (row := none) ⟨hb.os, hb.tape, hb.output, hb.size, fun k hk _ => hb.block k hk⟩ (fun j o e _ => by cases e)
theorem boxed_below {W W' : World} {g : Nat} {t : TypeId} {v : Value} (h : Boxed W g t v) (hb : Below W.heap.size W W') : Boxed W' g t v := (hb.block _ h.lt).trans h
/-- Blocks that begin at the places seen. -/
def blocksP (zs : List Int) (pre : List (Fin zs.length)) : Nat := pre.foldl (fun (s : Nat) (x : Fin zs.length) => s + if newB zs x.1 then 1 else 0) 0
theorem blocksP_snoc (zs : List Int) (pre : List (Fin zs.length)) (x : Fin zs.length) : blocksP zs (pre ++ [x]) = blocksP zs pre + if newB zs x.1 then 1 else 0 := by simp [blocksP]
theorem blocksP_take (zs : List Int) : ∀ k : Nat, k ≤ zs.length → blocksP zs ((List.finRange zs.length).take k) = blocksTo zs k := by
  intro k
  induction k with
  | zero => intro _; rfl
  | succ k ih =>
    intro hk
    rw [← finRange_succ (show k < zs.length by omega), blocksP_snoc, ih (by omega), blocksTo]
theorem blocksP_all (zs : List Int) : blocksP zs (List.finRange zs.length) = blocksTo zs zs.length := by
  have := blocksP_take zs zs.length (Nat.le_refl _)
  rwa [List.take_of_length_le (by simp)] at this
theorem blocksP_le (zs : List Int) (pre : List (Fin zs.length)) : blocksP zs pre ≤ pre.length := by
  unfold blocksP
  suffices h : ∀ s : Nat, pre.foldl (fun (s : Nat) (x : Fin zs.length) => s + if newB zs x.1 then 1 else 0) s ≤ s + pre.length by
    have := h 0; omega
  induction pre with
  | nil => intro s; simp
  | cons x pre ih =>
    intro s
    rw [List.foldl_cons, List.length_cons]
    have := ih (s + if newB zs x.1 then 1 else 0)
    have h1 : (if newB zs x.1 then 1 else 0) ≤ 1 := by split <;> omega
    omega
/-- The place does not break roundness. -/
def FineAt (zs : List Int) (x : Fin zs.length) : Prop := zs.getD x.1 0 ≠ 0 → atI zs (((x.1 : Nat) : Int) - 1) * atI zs (((x.1 : Nat) : Int) + 1) ≤ zs.getD x.1 0 * zs.getD x.1 0
def BadAt (zs : List Int) (x : Fin zs.length) : Prop := zs.getD x.1 0 * zs.getD x.1 0 < atI zs (((x.1 : Nat) : Int) - 1) * atI zs (((x.1 : Nat) : Int) + 1)
theorem round_done {zs : List Int} (hn : nnB zs = true) (h : ∀ x, x ∈ List.finRange zs.length → FineAt zs x) : decide ((blocksP zs (List.finRange zs.length) : Int) ≤ 1) = roundB zs := by
  rw [blocksP_all]
  by_cases hb : blocksTo zs zs.length ≤ 1
  · rw [decide_eq_true (by omega), round_yes hn hb fun i hi => h ⟨i, hi⟩ (List.mem_finRange _)]
  · rw [decide_eq_false (by omega), round_no1 hn (by omega)]

set_option maxRecDepth 100000 in
set_option maxHeartbeats 4000000 in
theorem isRound_any (A : Option Addr) (c : Nat) (zs : List Int) (w : World) (h : IR w 0 w.heap.size A zs) (hh : hillB zs = true) :
    Calls Try.prog 56 #[.agg #[.slice A zs.length c]] w fun e w' => e = .returned (.bool (roundB zs)) ∧ Below w.heap.size w w' := by
  have hr := (hill_true hh).2
  have hl := (rowB_true.1 hr).2
  have HN := Lib.hid (hill_true hh).1
  have HR := Lib.hid hr
  clear hh hr
  have H := Lib.hid h
  refine (callsIn_wide (n := 6)).1 ?_
  refine callsIn_of_wp_marks Try.func56 rfl trivial ?_ rfl
  simp only [Try.ntmps56, List.size_toArray, List.length_cons, List.length_nil, Nat.reduceAdd, Nat.reduceSub, Array.replicate_succ, Array.replicate_zero, List.push_toArray, List.append_toArray, List.nil_append, List.cons_append]
  gi_wp2_with (refine ⟨trivial, ?_⟩; gi_at_call 67; refine (entries_in _ _ trivial rfl _ _ _ _).mono ?_; rintro e w' ⟨rfl, rfl⟩)
  have bH := Boxed.new w 52 (.slice A zs.length c)
  have bO := Boxed.new (w.alloc (.cells #[.slice A zs.length c] 52)) 4 (.bool false)
  have bN := Boxed.new ((w.alloc (.cells #[.slice A zs.length c] 52)).alloc (.cells #[.bool false] 4)) 3 (.int .i64 0)
  have bS := Boxed.new (((w.alloc (.cells #[.slice A zs.length c] 52)).alloc (.cells #[.bool false] 4)).alloc (.cells #[.int .i64 0] 3)) 41 (.slice A zs.length c)
  rw [World.size_alloc] at bO
  rw [World.size_alloc, World.size_alloc] at bN
  rw [World.size_alloc, World.size_alloc, World.size_alloc] at bS
  obtain ⟨W4, hW4⟩ : ∃ W4, (((w.alloc (.cells #[.slice A zs.length c] 52)).alloc (.cells #[.bool false] 4)).alloc (.cells #[.int .i64 0] 3)).alloc (.cells #[.slice A zs.length c] 41) = W4 := ⟨_, rfl⟩
  have bH4 : Boxed W4 w.heap.size 52 (.slice A zs.length c) := by rw [← hW4]; exact ((bH.alloc _).alloc _).alloc _
  have bO4 : Boxed W4 (w.heap.size + 1) 4 (.bool false) := by rw [← hW4]; exact (bO.alloc _).alloc _
  have bN4 : Boxed W4 (w.heap.size + 2) 3 (.int .i64 ((blocksP zs [] : Nat) : Int)) := by rw [← hW4]; exact bN.alloc _
  have hsz : W4.heap.size = w.heap.size + 4 := by rw [← hW4]; simp
  have hB0 : Below w.heap.size w W4 := by rw [← hW4]; exact ((((Below.refl _ w).alloc (Nat.le_refl _) _).alloc (by simp) _).alloc (by simp; omega) _).alloc (by simp; omega) _
  rw [hW4] at bS
  rw [hW4]
  clear hW4 bO bN bH
  have hR0 := h.grow hB0
  apply (fun a₁ => wpIn_rangeFunc_ownF (F := Fence.wide) rfl (by decide) (gf := 87) (lb := #[.pointer (some ⟨w.heap.size + 3, 0, none⟩)]) rfl trivial (enters_of Try.func87 (by kernel_rfl) rfl)
    (entries_stops Fence.wide (6 - 1) trivial rfl (by decide) (w.heap.size + 3) w.heap.size c A zs _ (by omega) (by omega) bS.cell hR0) belowK_t (belowK_b (by omega)) (Below.refl _ _) (fun _ => rfl)
    (fun pre W => ((Boxed W w.heap.size 52 (.slice A zs.length c) ∧ Boxed W (w.heap.size + 1) 4 (.bool false) ∧ Boxed W (w.heap.size + 2) 3 (.int .i64 ((blocksP zs pre : Nat) : Int))) ∧ ∀ x, x ∈ pre → FineAt zs x) ∧ Below w.heap.size w W)
    (fun cd pre W => (Boxed W (w.heap.size + 1) 4 (.bool false) ∧ (cd = .ret ∧ ∃ x : Fin zs.length, x ∈ pre ∧ BadAt zs x)) ∧ Below w.heap.size w W)
    (OwnFrom.and (OwnFrom.and (OwnFrom.and (Own.from (boxed_own _ _ _) _) (OwnFrom.and (Own.from (boxed_own _ _ _) _) (Own.from (boxed_own _ _ _) _))) (fun _ _ _ _ h _ _ => h)) (ownFrom_below (Nat.le_refl _) (by omega)))
    (fun cd => OwnFrom.and (OwnFrom.and (Own.from (boxed_own _ _ _) _) (fun _ _ _ _ h _ _ => h)) (ownFrom_below (Nat.le_refl _) (by omega)))
    ⟨⟨⟨bH4, bO4, bN4⟩, by simp⟩, hB0⟩ a₁)
  case hassign =>
    intro l x W K hK
    gi_wp2
    exact hK
  case hbody =>
    rintro l pre x W ⟨⟨⟨hH, hO, hN⟩, hall⟩, hB⟩ hlt
    have hbl := blocksP_le zs pre
    have HSN := Lib.hid (blocksP_snoc zs pre x)
    have gx := row_getD HR.out x.1 x.2
    have HIR := Lib.hid (H.out.below hB (Nat.le_refl _)).toAll
    have hgx : zs[x.1]'x.2 = zs.getD x.1 0 := (getD_in x.2).symm
    obtain ⟨bv, hbv⟩ : ∃ v : Nat, blocksP zs pre = v := ⟨_, rfl⟩
    rw [hbv] at hN hbl HSN
    have HFine : Hid (∀ y, y ∈ pre → FineAt zs y) := hall
    have c1 := hH.cell; have c2 := hO.cell; have f2 := hO.frozen
    have c3 := hN.cell; have f3 := hN.frozen
    have HH := Lib.hid hH; have HO := Lib.hid hO; have HNb := Lib.hid hN; have HB := Lib.hid hB
    have hxl := x.2
    have hbl2 : (bv : Int) ≤ 12 := by omega
    clear hH hO hN hall hB hbv hbl
    obtain ⟨v, hv⟩ : ∃ v, zs.getD x.1 0 = v := ⟨_, rfl⟩
    obtain ⟨gx1, gx2⟩ := gx
    rw [hv] at gx1 gx2 hgx
    have HV := Lib.hid hv; clear hv
    rw [hgx]
    clear hgx
    by_cases h0 : v = 0
    · have hq : (v == 0) = true := beq_iff_eq.2 h0
      have HSN2 : Hid (blocksP zs (pre ++ [x]) = bv) := by
        show _ = _
        rw [HSN.out, show newB zs x.1 = false from by unfold newB; rw [HV.out, decide_eq_false (fun c : v ≠ 0 => c h0)]; rfl]; simp
      have HF2 : Hid (∀ y, y ∈ pre ++ [x] → FineAt zs y) := by
        intro y hy
        rcases List.mem_append.1 hy with hy | hy
        · exact HFine.out y hy
        · obtain rfl := List.mem_singleton.1 hy
          exact fun c => absurd (HV.out.trans h0) c
      clear HSN h0
      gi_wp2
      exact ⟨KeepsOthers.refl _, Below.refl _ _, ⟨⟨HH.out, HO.out, by rw [HSN2.out]; exact HNb.out⟩, HF2.out⟩, HB.out⟩
    · have hq : (v == 0) = false := beq_eq_false_iff_ne.2 h0
      obtain ⟨u, hu⟩ : ∃ u, atI zs (((x.1 : Nat) : Int) - 1) = u := ⟨_, rfl⟩
      obtain ⟨r, hrr⟩ : ∃ u, atI zs (((x.1 : Nat) : Int) + 1) = u := ⟨_, rfl⟩
      obtain ⟨gu1, gu2⟩ := hu ▸ atI_bd HR.out (((x.1 : Nat) : Int) - 1)
      obtain ⟨gr1, gr2⟩ := hrr ▸ atI_bd HR.out (((x.1 : Nat) : Int) + 1)
      have hvv := mul_bd gx1 gx2 gx1 gx2
      have hur := mul_bd gu1 gu2 gr1 gr2
      obtain ⟨m1, m2⟩ := hvv
      obtain ⟨m3, m4⟩ := hur
      have HU := Lib.hid hu; have HRR := Lib.hid hrr
      have HV0 := Lib.hid h0
      have hxi : ((x.1 : Nat) : Int) ≤ 12 := by omega
      clear hu hrr h0
      gi_wp2_with fail
      refine ⟨trivial, ?_⟩
      refine (CallsIn.inRound l (callsIn_wide.2 (hillAt_any _ _ _ _ zs _ _ HIR.out))).mono ?_
      rintro e W5 ⟨rfl, hb5⟩
      rw [HU.out]
      have b1 := boxed_below HH.out hb5; have b2 := boxed_below HO.out hb5; have b3 := boxed_below HNb.out hb5
      have HIR5 := Lib.hid (HIR.out.grow hb5).toAll
      have HK5 := Lib.hid (keeps_below hb5)
      have HBB5 : Hid (Below w.heap.size W W5) := hb5.mono HB.out.size
      clear c1 c2 c3 f2 f3 HH HO HNb HIR hb5
      have c1 := b1.cell; have c2 := b2.cell; have f2 := b2.frozen; have c3 := b3.cell; have f3 := b3.frozen
      have HH := Lib.hid b1; have HO := Lib.hid b2; have HNb := Lib.hid b3
      clear b1 b2 b3
      by_cases hu0 : u = 0
      · have hq2 : (u == 0) = true := beq_iff_eq.2 hu0
        have HSN2 : Hid (blocksP zs (pre ++ [x]) = bv + 1) := by
          show _ = _
          rw [HSN.out, show newB zs x.1 = true from by unfold newB; rw [HV.out, HU.out, decide_eq_true (show v ≠ 0 from HV0.out), decide_eq_true hu0]; rfl]; simp
        have HU0 := Lib.hid hu0
        clear HSN hu0
        gi_wp2
        obtain ⟨W6, hW6⟩ : ∃ W6, W5.setCell ⟨w.heap.size + 1 + 1, 0, none⟩ (.int .i64 ((bv : Int) + 1)) = W6 := ⟨_, rfl⟩
        have hb6 : Below w.heap.size W5 W6 := by rw [← hW6]; exact (Below.refl _ W5).setCell (p := ⟨w.heap.size + 1 + 1, 0, none⟩) (by show w.heap.size ≤ w.heap.size + 1 + 1; omega) _
        have hk6 : KeepsOthers W W6 := by rw [← hW6]; exact HK5.out.trans (KeepsOthers.setCell _ _ _)
        have b1 : Boxed W6 w.heap.size 52 (.slice A zs.length c) := by rw [← hW6]; exact HH.out.other (by omega) _
        have b2 : Boxed W6 (w.heap.size + 1) 4 (.bool false) := by rw [← hW6]; exact HO.out.other (by omega) _
        have b3 : Boxed W6 (w.heap.size + 2) 3 (.int .i64 ((bv + 1 : Nat) : Int)) := by rw [← hW6]; exact HNb.out.set _
        rw [hW6]
        have HIR6 := Lib.hid ((H.out.below (HB.out.trans (HBB5.out.trans hb6)) (Nat.le_refl _)).toAll)
        have HK6 := Lib.hid hk6
        have HB6 : Hid (Below w.heap.size W W6) := HBB5.out.trans hb6
        clear c1 c2 c3 f2 f3 HH HO HNb hW6 hb6 hk6 HK5 HBB5 HIR5
        have HH := Lib.hid b1; have HO := Lib.hid b2; have HN6 := Lib.hid b3
        clear b1 b2 b3
        have SC : ∀ {W' : World}, Below W6.heap.size W6 W' → W'.cell? ⟨w.heap.size, 0, none⟩ = some (.slice A zs.length c) := fun hb => (boxed_below HH.out hb).cell
        have hvw : IntKind.i64.wrap (v * v) = v * v := IntWalk.i64_in _ (by omega)
        have huw : IntKind.i64.wrap (u * r) = u * r := IntWalk.i64_in _ (by omega)
        have hx1 : IntKind.i64.wrap (((x.1 : Nat) : Int) - 1) = ((x.1 : Nat) : Int) - 1 := IntWalk.i64_in _ (by omega)
        have hx2 : IntKind.i64.wrap (((x.1 : Nat) : Int) + 1) = ((x.1 : Nat) : Int) + 1 := IntWalk.i64_in _ (by omega)
        refine wpIn_mono (Q := Exit.then (fun a' w' => a' = { tmps := #[.agg #[.slice A zs.length c], .pointer (some ⟨w.heap.size, 0, none⟩), .pointer (some ⟨w.heap.size + 1, 0, none⟩), .pointer (some ⟨w.heap.size + 1 + 1, 0, none⟩), .int .i64 ((x.1 : Nat) : Int), .int .i64 v, .pointer (some ⟨w.heap.size, 0, none⟩), .slice A zs.length c, .func (.func 87) #[] #[.pointer (some ⟨w.heap.size + 1 + 1 + 1, 0, none⟩)], .int .i64 ((x.1 : Nat) : Int), .int .i64 v, .int .i64 v, .bool false, .agg #[.slice A zs.length c], .int .i64 ((x.1 : Nat) : Int), .int .i64 (((x.1 : Nat) : Int) - 1), .int .i64 u, .bool true, .int .i64 (bv : Int), .int .i64 ((bv : Int) + 1), .int .i64 v, .int .i64 v, .int .i64 (v * v), .agg #[.slice A zs.length c], .int .i64 ((x.1 : Nat) : Int), .int .i64 (((x.1 : Nat) : Int) - 1), .int .i64 u, .agg #[.slice A zs.length c], .int .i64 ((x.1 : Nat) : Int), .int .i64 (((x.1 : Nat) : Int) + 1), .int .i64 r, .int .i64 (u * r), .bool (decide (v * v < u * r)), undef, undef], defers := [] } ∧ Below W6.heap.size W6 w') (fun _ _ _ => False)) ?reg ?rest
        case reg =>
          refine region_anyS (fun W' => Below W6.heap.size W6 W') (by kernel_rfl) ?_
          have hS0 : Below W6.heap.size W6 W6.drew := (Below.refl _ _).drew
          refine anyS_first 0 (v := .int .i64 v) rfl (by kernel_rfl) (by kernel_rfl) (by kernel_rfl) (fun _ _ _ h => h) hS0 ⟨fun _ => rfl, .inl ⟨by rfl, fun W' hW' => (by go_simp)⟩⟩ ?_
          refine anyS_first 1 (v := .int .i64 v) rfl (by kernel_rfl) (by kernel_rfl) (by kernel_rfl) (fun _ _ _ h => h) hS0 ⟨fun _ => rfl, .inl ⟨by rfl, fun W' hW' => (by go_simp)⟩⟩ ?_
          refine anyS_first 2 (v := .int .i64 (v * v)) rfl (by kernel_rfl) (by kernel_rfl) (by kernel_rfl) (fun _ _ _ h => h) hS0 ⟨fun _ => rfl, .inl ⟨by rfl, fun W' hW' => (by go_simp)⟩⟩ ?_
          refine anyS_first 3 (v := .agg #[.slice A zs.length c]) rfl (by kernel_rfl) (by kernel_rfl) (by kernel_rfl) (fun _ _ _ h => h) hS0 ⟨fun _ => rfl, .inl ⟨by rfl, fun W' hW' => (by have e1 := SC hW'; go_simp)⟩⟩ ?_
          refine anyS_first 4 (v := .int .i64 ((x.1 : Nat) : Int)) rfl (by kernel_rfl) (by kernel_rfl) (by kernel_rfl) (fun _ _ _ h => h) hS0 ⟨fun _ => rfl, .inl ⟨by rfl, fun W' hW' => (by go_simp)⟩⟩ ?_
          refine anyS_first 5 (v := .int .i64 (((x.1 : Nat) : Int) - 1)) rfl (by kernel_rfl) (by kernel_rfl) (by kernel_rfl) (fun _ _ _ h => h) hS0 ⟨fun _ => rfl, .inl ⟨by rfl, fun W' hW' => (by go_simp)⟩⟩ ?_
          refine anyS_first 7 (v := .agg #[.slice A zs.length c]) rfl (by kernel_rfl) (by kernel_rfl) (by kernel_rfl) (fun _ _ _ h => h) hS0 ⟨fun _ => rfl, .inl ⟨by rfl, fun W' hW' => (by have e1 := SC hW'; go_simp)⟩⟩ ?_
          refine anyS_first 8 (v := .int .i64 ((x.1 : Nat) : Int)) rfl (by kernel_rfl) (by kernel_rfl) (by kernel_rfl) (fun _ _ _ h => h) hS0 ⟨fun _ => rfl, .inl ⟨by rfl, fun W' hW' => (by go_simp)⟩⟩ ?_
          refine anyS_first 9 (v := .int .i64 (((x.1 : Nat) : Int) + 1)) rfl (by kernel_rfl) (by kernel_rfl) (by kernel_rfl) (fun _ _ _ h => h) hS0 ⟨fun _ => rfl, .inl ⟨by rfl, fun W' hW' => (by go_simp)⟩⟩ ?_
          refine anyS_one 6 rfl (by kernel_rfl) hS0 ?_
          refine wpOpIn_step rfl fun K6 hK6 => ?_
          go_simp
          refine ⟨trivial, (CallsIn.inRound l (callsIn_wide.2 (hillAt_any _ _ _ _ zs _ _ (HIR6.out.grow hS0).toAll))).mono ?_⟩
          rintro e W7 ⟨rfl, hb7⟩
          rw [HU.out]
          have hS7 := below_then hS0 (Nat.le_refl _) hb7
          refine hK6 _ _ ?_
          refine anyS_one 10 rfl (by kernel_rfl) hS7 ?_
          refine wpOpIn_step rfl fun K10 hK10 => ?_
          go_simp
          refine ⟨trivial, (CallsIn.inRound l (callsIn_wide.2 (hillAt_any _ _ _ _ zs _ _ (HIR6.out.grow hS7).toAll))).mono ?_⟩
          rintro e W8 ⟨rfl, hb8⟩
          rw [HRR.out]
          have hS8 := below_then hS7 (Nat.le_refl _) hb8
          refine hK10 _ _ ?_
          refine anyS_one 11 rfl (by kernel_rfl) hS8 ?_
          refine wpOpIn_step rfl fun K16 hK16 => ?_
          go_simp
          refine hK16 _ _ ?_
          refine anyS_one 12 rfl (by kernel_rfl) hS8 ?_
          refine wpOpIn_step rfl fun K17 hK17 => ?_
          go_simp
          refine hK17 _ _ ?_
          refine anyS_done (by kernel_rfl) hS8 ?_
          exact ⟨rfl, hS8⟩
        case rest =>
          intro e a' w' hp
          cases e <;> try exact hp.elim
          obtain ⟨rfl, hb8⟩ := hp
          have b1 := boxed_below HH.out hb8; have b2 := boxed_below HO.out hb8; have b3 := boxed_below HN6.out hb8
          have HK8 := Lib.hid (HK6.out.trans (keeps_below hb8))
          have HB8 : Hid (Below w.heap.size W w') := HB6.out.trans (hb8.mono (Nat.le_trans HB.out.size HB6.out.size))
          have c2 := b2.cell; have f2 := b2.frozen
          have H1 := Lib.hid b1; have H2 := Lib.hid b2; have H3 := Lib.hid b3
          clear b1 b2 b3 hb8
          by_cases hsq : v * v < u * r
          · have HBad : Hid (BadAt zs x) := by show zs.getD x.1 0 * zs.getD x.1 0 < _; rw [HV.out, HU.out, HRR.out]; exact hsq
            gi_wp2
            exact ⟨HK8.out.trans (KeepsOthers.setCell _ _ _), ⟨H2.out.set _, rfl, x, by simp, HBad.out⟩, (HB.out.trans HB8.out).setCell (p := ⟨w.heap.size + 1, 0, none⟩) (by show w.heap.size ≤ w.heap.size + 1; omega) _⟩
          · have HF2 : Hid (∀ y, y ∈ pre ++ [x] → FineAt zs y) := by
              intro y hy
              rcases List.mem_append.1 hy with hy | hy
              · exact HFine.out y hy
              · obtain rfl := List.mem_singleton.1 hy
                intro _
                rw [HV.out, HU.out, HRR.out]; omega
            gi_wp2
            exact ⟨HK8.out, HB8.out, ⟨⟨H1.out, H2.out, by rw [HSN2.out]; exact H3.out⟩, HF2.out⟩, HB.out.trans HB8.out⟩
      · have hq2 : (u == 0) = false := beq_eq_false_iff_ne.2 hu0
        have HSN2 : Hid (blocksP zs (pre ++ [x]) = bv) := by
          show _ = _
          rw [HSN.out, show newB zs x.1 = false from by unfold newB; rw [HU.out, decide_eq_false hu0]; simp]; simp
        clear HSN hu0
        gi_wp2
        obtain ⟨W6, rfl⟩ : ∃ W6, W6 = W5 := ⟨_, rfl⟩
        have HIR6 := HIR5; have HK6 := HK5; have HB6 := HBB5; have HN6 := HNb
        clear c1 c2 c3 f2 f3 HIR5 HK5 HBB5 HNb
        have SC : ∀ {W' : World}, Below W6.heap.size W6 W' → W'.cell? ⟨w.heap.size, 0, none⟩ = some (.slice A zs.length c) := fun hb => (boxed_below HH.out hb).cell
        have hvw : IntKind.i64.wrap (v * v) = v * v := IntWalk.i64_in _ (by omega)
        have huw : IntKind.i64.wrap (u * r) = u * r := IntWalk.i64_in _ (by omega)
        have hx1 : IntKind.i64.wrap (((x.1 : Nat) : Int) - 1) = ((x.1 : Nat) : Int) - 1 := IntWalk.i64_in _ (by omega)
        have hx2 : IntKind.i64.wrap (((x.1 : Nat) : Int) + 1) = ((x.1 : Nat) : Int) + 1 := IntWalk.i64_in _ (by omega)
        refine wpIn_mono (Q := Exit.then (fun a' w' => a' = { tmps := #[.agg #[.slice A zs.length c], .pointer (some ⟨w.heap.size, 0, none⟩), .pointer (some ⟨w.heap.size + 1, 0, none⟩), .pointer (some ⟨w.heap.size + 1 + 1, 0, none⟩), .int .i64 ((x.1 : Nat) : Int), .int .i64 v, .pointer (some ⟨w.heap.size, 0, none⟩), .slice A zs.length c, .func (.func 87) #[] #[.pointer (some ⟨w.heap.size + 1 + 1 + 1, 0, none⟩)], .int .i64 ((x.1 : Nat) : Int), .int .i64 v, .int .i64 v, .bool false, .agg #[.slice A zs.length c], .int .i64 ((x.1 : Nat) : Int), .int .i64 (((x.1 : Nat) : Int) - 1), .int .i64 u, .bool false, undef, undef, .int .i64 v, .int .i64 v, .int .i64 (v * v), .agg #[.slice A zs.length c], .int .i64 ((x.1 : Nat) : Int), .int .i64 (((x.1 : Nat) : Int) - 1), .int .i64 u, .agg #[.slice A zs.length c], .int .i64 ((x.1 : Nat) : Int), .int .i64 (((x.1 : Nat) : Int) + 1), .int .i64 r, .int .i64 (u * r), .bool (decide (v * v < u * r)), undef, undef], defers := [] } ∧ Below W6.heap.size W6 w') (fun _ _ _ => False)) ?reg ?rest
        case reg =>
          refine region_anyS (fun W' => Below W6.heap.size W6 W') (by kernel_rfl) ?_
          have hS0 : Below W6.heap.size W6 W6.drew := (Below.refl _ _).drew
          refine anyS_first 0 (v := .int .i64 v) rfl (by kernel_rfl) (by kernel_rfl) (by kernel_rfl) (fun _ _ _ h => h) hS0 ⟨fun _ => rfl, .inl ⟨by rfl, fun W' hW' => (by go_simp)⟩⟩ ?_
          refine anyS_first 1 (v := .int .i64 v) rfl (by kernel_rfl) (by kernel_rfl) (by kernel_rfl) (fun _ _ _ h => h) hS0 ⟨fun _ => rfl, .inl ⟨by rfl, fun W' hW' => (by go_simp)⟩⟩ ?_
          refine anyS_first 2 (v := .int .i64 (v * v)) rfl (by kernel_rfl) (by kernel_rfl) (by kernel_rfl) (fun _ _ _ h => h) hS0 ⟨fun _ => rfl, .inl ⟨by rfl, fun W' hW' => (by go_simp)⟩⟩ ?_
          refine anyS_first 3 (v := .agg #[.slice A zs.length c]) rfl (by kernel_rfl) (by kernel_rfl) (by kernel_rfl) (fun _ _ _ h => h) hS0 ⟨fun _ => rfl, .inl ⟨by rfl, fun W' hW' => (by have e1 := SC hW'; go_simp)⟩⟩ ?_
          refine anyS_first 4 (v := .int .i64 ((x.1 : Nat) : Int)) rfl (by kernel_rfl) (by kernel_rfl) (by kernel_rfl) (fun _ _ _ h => h) hS0 ⟨fun _ => rfl, .inl ⟨by rfl, fun W' hW' => (by go_simp)⟩⟩ ?_
          refine anyS_first 5 (v := .int .i64 (((x.1 : Nat) : Int) - 1)) rfl (by kernel_rfl) (by kernel_rfl) (by kernel_rfl) (fun _ _ _ h => h) hS0 ⟨fun _ => rfl, .inl ⟨by rfl, fun W' hW' => (by go_simp)⟩⟩ ?_
          refine anyS_first 7 (v := .agg #[.slice A zs.length c]) rfl (by kernel_rfl) (by kernel_rfl) (by kernel_rfl) (fun _ _ _ h => h) hS0 ⟨fun _ => rfl, .inl ⟨by rfl, fun W' hW' => (by have e1 := SC hW'; go_simp)⟩⟩ ?_
          refine anyS_first 8 (v := .int .i64 ((x.1 : Nat) : Int)) rfl (by kernel_rfl) (by kernel_rfl) (by kernel_rfl) (fun _ _ _ h => h) hS0 ⟨fun _ => rfl, .inl ⟨by rfl, fun W' hW' => (by go_simp)⟩⟩ ?_
          refine anyS_first 9 (v := .int .i64 (((x.1 : Nat) : Int) + 1)) rfl (by kernel_rfl) (by kernel_rfl) (by kernel_rfl) (fun _ _ _ h => h) hS0 ⟨fun _ => rfl, .inl ⟨by rfl, fun W' hW' => (by go_simp)⟩⟩ ?_
          refine anyS_one 6 rfl (by kernel_rfl) hS0 ?_
          refine wpOpIn_step rfl fun K6 hK6 => ?_
          go_simp
          refine ⟨trivial, (CallsIn.inRound l (callsIn_wide.2 (hillAt_any _ _ _ _ zs _ _ (HIR6.out.grow hS0).toAll))).mono ?_⟩
          rintro e W7 ⟨rfl, hb7⟩
          rw [HU.out]
          have hS7 := below_then hS0 (Nat.le_refl _) hb7
          refine hK6 _ _ ?_
          refine anyS_one 10 rfl (by kernel_rfl) hS7 ?_
          refine wpOpIn_step rfl fun K10 hK10 => ?_
          go_simp
          refine ⟨trivial, (CallsIn.inRound l (callsIn_wide.2 (hillAt_any _ _ _ _ zs _ _ (HIR6.out.grow hS7).toAll))).mono ?_⟩
          rintro e W8 ⟨rfl, hb8⟩
          rw [HRR.out]
          have hS8 := below_then hS7 (Nat.le_refl _) hb8
          refine hK10 _ _ ?_
          refine anyS_one 11 rfl (by kernel_rfl) hS8 ?_
          refine wpOpIn_step rfl fun K16 hK16 => ?_
          go_simp
          refine hK16 _ _ ?_
          refine anyS_one 12 rfl (by kernel_rfl) hS8 ?_
          refine wpOpIn_step rfl fun K17 hK17 => ?_
          go_simp
          refine hK17 _ _ ?_
          refine anyS_done (by kernel_rfl) hS8 ?_
          exact ⟨rfl, hS8⟩
        case rest =>
          intro e a' w' hp
          cases e <;> try exact hp.elim
          obtain ⟨rfl, hb8⟩ := hp
          have b1 := boxed_below HH.out hb8; have b2 := boxed_below HO.out hb8; have b3 := boxed_below HN6.out hb8
          have HK8 := Lib.hid (HK6.out.trans (keeps_below hb8))
          have HB8 : Hid (Below w.heap.size W w') := HB6.out.trans (hb8.mono (Nat.le_trans HB.out.size HB6.out.size))
          have c2 := b2.cell; have f2 := b2.frozen
          have H1 := Lib.hid b1; have H2 := Lib.hid b2; have H3 := Lib.hid b3
          clear b1 b2 b3 hb8
          by_cases hsq : v * v < u * r
          · have HBad : Hid (BadAt zs x) := by show zs.getD x.1 0 * zs.getD x.1 0 < _; rw [HV.out, HU.out, HRR.out]; exact hsq
            gi_wp2
            exact ⟨HK8.out.trans (KeepsOthers.setCell _ _ _), ⟨H2.out.set _, rfl, x, by simp, HBad.out⟩, (HB.out.trans HB8.out).setCell (p := ⟨w.heap.size + 1, 0, none⟩) (by show w.heap.size ≤ w.heap.size + 1; omega) _⟩
          · have HF2 : Hid (∀ y, y ∈ pre ++ [x] → FineAt zs y) := by
              intro y hy
              rcases List.mem_append.1 hy with hy | hy
              · exact HFine.out y hy
              · obtain rfl := List.mem_singleton.1 hy
                intro _
                rw [HV.out, HU.out, HRR.out]; omega
            gi_wp2
            exact ⟨HK8.out, HB8.out, ⟨⟨H1.out, H2.out, by rw [HSN2.out]; exact H3.out⟩, HF2.out⟩, HB.out.trans HB8.out⟩
  case hdone =>
    rintro D ys W hD rfl ⟨⟨⟨hH, hO, hN⟩, hall⟩, hB⟩ hK
    have HM := Lib.hid (round_done HN.out hall)
    obtain ⟨bv, hbv⟩ : ∃ v : Nat, blocksP zs (List.finRange zs.length) = v := ⟨_, rfl⟩
    rw [hbv] at hN HM
    have c2 := hO.cell; have f2 := hO.frozen
    have c3 := hN.cell
    have HO := Lib.hid hO; have HB := Lib.hid hB
    clear hH hO hN hall hB hbv
    gi_wp2
    refine ⟨by simp, .inl ⟨_, _, rfl, run_takeDeferred ((KeepsOthers.setCell _ _ _).same D _ hK rfl), ?_⟩⟩
    refine ⟨.bool (decide ((bv : Int) ≤ 1)), ?_, ?_⟩
    · have hc4 : ((W.setCell ⟨w.heap.size + 1, 0, none⟩ (.bool (decide ((bv : Int) ≤ 1)))).putObj D (.deferred none)).cell? ⟨w.heap.size + 1, 0, none⟩ = some (.bool (decide ((bv : Int) ≤ 1))) :=
        cell_kept (HO.out.set (.bool (decide ((bv : Int) ≤ 1)))).cell (grownBy_putObj' _ D (.deferred none)) (fun r e => by cases e; exact ⟨_, (KeepsOthers.setCell _ _ _).same D _ hK rfl, rfl⟩)
      simp [results, Try.f56, go_sem, hc4]
    · exact ⟨ret_bool HM.out, (HB.out.setCell (p := ⟨w.heap.size + 1, 0, none⟩) (by show w.heap.size ≤ w.heap.size + 1; omega) _).trans (belowK_b (w := w) (Nat.le_refl _) _ D _ _ (by omega) ((KeepsOthers.setCell _ _ _).same D _ hK rfl) rfl rfl)⟩
  case hstop =>
    rintro D cd pre W hD hp ⟨⟨hO, rfl, x, -, hbad⟩, hB⟩ hK
    have HM := Lib.hid (round_no2 HN.out x.2 hbad)
    have c1 := hO.cell
    have HO := Lib.hid hO; have HB := Lib.hid hB
    clear hO hB hp hbad
    gi_wp2
    refine ⟨by simp, .inl ⟨_, _, rfl, run_takeDeferred hK, ?_⟩⟩
    refine ⟨.bool false, ?_, ?_⟩
    · have hc4 : (W.putObj D (.deferred none)).cell? ⟨w.heap.size + 1, 0, none⟩ = some (.bool false) :=
        cell_kept HO.out.cell (grownBy_putObj' _ D (.deferred none)) (fun r e => by cases e; exact ⟨_, hK, rfl⟩)
      simp [results, Try.f56, go_sem, hc4]
    · exact ⟨ret_bool HM.out.symm, HB.out.trans (belowK_b (w := w) (Nat.le_refl _) _ D _ _ (by omega) hK rfl rfl)⟩

theorem implHillRound_any (A : Option Addr) (c : Nat) (zs : List Int) (w : World) (h : IR w 0 w.heap.size A zs) :
    Calls Try.prog 24 #[.slice A zs.length c] w fun e w' => e = .returned (.bool (hillRoundB zs)) ∧ Below w.heap.size w w' := by
  have hb1 : Below w.heap.size w (w.alloc (.cells #[.slice A zs.length c] 52)) := (Below.refl _ w).alloc (Nat.le_refl _) _
  have H := Lib.hid (h.grow hb1).toAll; have B1 := Lib.hid hb1; clear h hb1
  cases hr : hillB zs with
  | false =>
    have HM : Hid (hillRoundB zs = false) := by show _ = _; simp [hillRoundB, hr]
    have HR := Lib.hid hr; clear hr
    go_enter Try.func24, Try.ntmps24
    go_wp2_with fail
    refine (isHill_of _ _ _ _ zs _ H.out HR.out).mono ?_; rintro e w1 ⟨rfl, b1⟩
    have B2 := Lib.hid b1; clear b1
    go_wp2
    go_ret
    exact ⟨ret_bool HM.out.symm, below_then B1.out (Nat.le_refl _) B2.out⟩
  | true =>
    have HM : Hid (hillRoundB zs = roundB zs) := by show _ = _; simp [hillRoundB, hr]
    have HR := Lib.hid hr; clear hr
    go_enter Try.func24, Try.ntmps24
    go_wp2_with fail
    refine (isHill_of _ _ _ _ zs _ H.out HR.out).mono ?_; rintro e w1 ⟨rfl, b1⟩
    have hcx : w1.cell? ⟨w.heap.size, 0, none⟩ = some (.slice A zs.length c) := (b1.cell (p := ⟨w.heap.size, 0, none⟩) (by show w.heap.size < _; rw [World.size_alloc]; omega)).trans (by rw [World.cell?_alloc_at _ _ _ _ rfl]; rfl)
    have B2 := Lib.hid (below_then B1.out (Nat.le_refl _) b1); have H1 := Lib.hid (H.out.grow b1).toAll; clear b1
    go_wp2_with fail
    refine (isRound_any _ _ zs _ H1.out HR.out).mono ?_; rintro e w2 ⟨rfl, b2⟩
    have B3 := Lib.hid b2; clear b2
    go_wp2
    go_ret
    exact ⟨ret_bool (by rw [HM.out]), below_then B2.out (Nat.le_refl _) B3.out⟩
end Go.Proofs.Ytnphmapiagiocaa
