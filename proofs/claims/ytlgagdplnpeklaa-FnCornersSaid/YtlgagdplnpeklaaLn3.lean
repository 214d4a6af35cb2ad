/-
  The model's corners, whole rows, rows that lead back from falls, and lines between: LineCorners, LineWhole, LineBack, LineBetween. Conditions: the rows' cells are there.
-/
import Derived.Test.YtlgagdplnpeklaaLn2
namespace Go.Proofs.Ytlgagdplnpeklaa
open Go.RowKit

/-- The list's own block is none of the blocks from lo up to below hi. -/
def Off (v : Value) (lo hi : Nat) : Prop := ∀ g, v.ownBlock = some g → ¬ (lo ≤ g ∧ g < hi)

theorem run_push_off (w : World) (base : Nat) (v : Value) (zs : List Int) (hown : OwnI w base v zs) (G : Nat) (y : Int) (hc : w.cell? ⟨G, 0, none⟩ = some (.int .i64 y)) (hl : zs.length < 17592186044416) (hy : I64 y) (ty : TypeId) :
    ∃ v' w', (Builtin.append_ #[23, 23] ty #[v, .slice (some ⟨G, 0, none⟩) 1 1]).run Try.prog w = .ok v' w' ∧ OwnI w' base v' (zs ++ [y]) ∧ w.grownBy w' v.ownBlock ∧ (v'.ownBlock = v.ownBlock ∨ v'.ownBlock = some w.heap.size) := by
  obtain ⟨i0, hi, hz0, hz1, hz2⟩ := info_parts info_int
  obtain ⟨v', w', hrun, h2, h3, _, h5⟩ := run_append_own_at (P := Try.prog) w base 23 ty 3 i0 (.int .i64 0) 1 8 Try.underlying23 hi hz0 hz1 hz2 rfl (by decide) v zs.length (zs.map (Value.int .i64)) hown.1 ⟨G, 0, none⟩ 1 1 [.int .i64 y] rfl
    (fun j u hj => by
      match j, hj with
      | 0, hj => simp at hj; subst hj; simpa [Addr.add] using hc) (by simp [Value.oneCell']) (by unfold maxLen; omega) (by omega) hown.2.2
  refine ⟨v', w', hrun, ⟨by simpa using h2, ?_, Nat.le_trans hown.2.2 h3.size⟩, h3, h5⟩
  intro z hz
  rcases List.mem_append.1 hz with hz | hz
  · exact hown.2.1 z hz
  · obtain rfl := List.mem_singleton.1 hz; exact hy

/-- In a plain region: and the blocks from lo up to below hi, which are not the list's own, lie as they lay. -/
theorem wpList_push_off {ops : Array Oper} {rest : List Oper} {o : Oper} {a : Act} {W : World} {y : Int} {Q : Exit → Act → World → Prop} (hgd : o.guard = none) (s x : Operand)
    (ho : o.op = .call { callee := .builtin .append, args := #[s, x], argTypes := #[23, 23] })
    (base lo hi : Nat) (v : Value) (zs : List Int) (hs : a.eval s = v) (hx : a.eval x = .slice (some ⟨W.heap.size, 0, none⟩) 1 1) (hown : OwnI W base v zs) (hoff : Off v lo hi) (hhi : hi ≤ W.heap.size)
    (hl : zs.length < 17592186044416) (hy : I64 y)
    (h : ∀ v' w', OwnI w' base v' (zs ++ [y]) → Below base W w' → Off v' lo hi → (∀ k, lo ≤ k → k < hi → w'.heap[k]? = W.heap[k]?) → wpList Try.prog ops Q rest (a.put o.dst v') w') : wpList Try.prog ops Q (o :: rest) a (W.alloc (.cells #[.int .i64 y] 3)) := by
  refine wpList_plain hgd fun K hK => ?_
  obtain ⟨v', w', hrun, h2, h3, h5⟩ := run_push_off (W.alloc (.cells #[.int .i64 y] 3)) base v zs hown.alloc W.heap.size y (by rw [World.cell?_alloc_at _ _ _ _ rfl]; rfl) hl hy o.type
  unfold Oper.wp execOp
  simp only [ho, resolve, invoke, builtin, Sem.run_bind, Sem.run_pure, Result.andThen_ok, List.map_toArray, List.map_cons, List.map_nil, hs, hx, hrun]
  have ho' : OwnI (W.alloc (.cells #[.int .i64 y] 3)) base v zs := hown.alloc
  have hB : Below base (W.alloc (.cells #[.int .i64 y] 3)) w' := (Below.refl base _).grown h3 ho'.2.2 fun k hk => (ho'.1.lt k hk).1
  refine hK _ _ (h v' w' h2 (OwnI.push_of hown.2.2 hB) ?_ fun k hk1 hk2 => ?_)
  · intro g hg hgl
    rcases h5 with e | e
    · exact hoff g (e ▸ hg) hgl
    · rw [e] at hg; injection hg with hg; rw [World.size_alloc] at hg; omega
  · refine (h3.block k (by rw [World.size_alloc]; omega) fun e => ?_).trans (Below.heap_alloc _ _ _ (by omega))
    exact hoff k e.symm ⟨hk1, hk2⟩
theorem OwnI.off {w : World} {base : Nat} {v : Value} {zs : List Int} (h : OwnI w base v zs) {lo hi : Nat} (hlo : w.heap.size ≤ lo) : Off v lo hi := fun g hg hgl => by
  have := (h.1.lt g hg).2
  omega
theorem IR.blocks {w w' : World} {lo hi : Nat} {A : Option Addr} {zs : List Int} (h : IR w lo hi A zs) (hs : w.heap.size ≤ w'.heap.size) (hk : ∀ k, lo ≤ k → k < hi → w'.heap[k]? = w.heap[k]?) : IR w' lo hi A zs :=
  h.keep hs fun p h1 h2 => World.cell?_of_block (hk p.block h1 h2)

theorem corners_hit {zs : List Int} {k : Nat} (h : (hangL zs).getD k 0 = zs.getD k 0) : cornersTo zs (k + 1) = cornersTo zs k ++ [(k : Int)] := by rw [cornersTo, if_pos h]
theorem corners_skip {zs : List Int} {k : Nat} (h : ¬ (hangL zs).getD k 0 = zs.getD k 0) : cornersTo zs (k + 1) = cornersTo zs k := by rw [cornersTo, if_neg h]

set_option maxHeartbeats 2000000 in
theorem specLineCorners_any (A : Option Addr) (c : Nat) (zs : List Int) (w : World) (h : IR w 0 w.heap.size A zs) :
    Calls Try.prog 42 #[.slice A zs.length c] w (RetRB w (cornersM zs)) := by
  have hb0 : Below w.heap.size w (w.alloc (.cells #[] 3)) := (Below.refl _ _).alloc (Nat.le_refl _) _
  have H := Lib.hid (h.grow hb0); clear h
  have HB0 := Lib.hid hb0; clear hb0
  cases hr : rowB zs with
  | false =>
    have HM : Hid (cornersM zs = none) := by show _ = _; simp [cornersM, hr]
    have HR := Lib.hid hr; clear hr
    go_enter Try.func42, Try.ntmps42
    go_wp2_with fail
    refine (specRowIn_false _ _ _ _ zs _ H.out HR.out).mono ?_; rintro e w' ⟨rfl, rfl⟩
    go_wp2
    go_ret2
    rw [HM.out]
    exact retSB_none HB0.out |>.toR
  | true =>
    have HM : Hid (cornersM zs = some (cornersL zs)) := by show _ = _; simp [cornersM, hr]
    have HR := Lib.hid hr; clear hr
    have hl := (rowB_true.1 HR.out).2
    go_enter Try.func42, Try.ntmps42
    go_wp2_with fail
    refine (specRowIn_true _ _ _ _ zs _ H.out HR.out).mono ?_; rintro e w' ⟨rfl, rfl⟩
    go_wp2_with fail
    refine (l2Hang_any _ _ zs _ H.out.toAll HR.out).mono ?_; rintro e w1 ⟨A1, c1, rfl, hi, hb⟩
    have HI := Lib.hid hi; have HB := Lib.hid (below_then HB0.out (Nat.le_refl _) hb)
    have HO0 := Lib.hid ((OwnI.made w).below hb (Nat.le_refl _))
    have HF0 := Lib.hid ((OwnI.made w).off (hi := w1.heap.size) (Nat.le_refl _))
    have HLh := Lib.hid (hang_len zs); have HS1 := Lib.hid hb.size
    have hlh' : ∃ n, n = (hangL zs).length := ⟨_, rfl⟩
    obtain ⟨n, hn⟩ := hlh'
    rw [← hn]
    have HNn := Lib.hid hn
    clear hi hb hn
    go_wp2
    go_loopw [4, 6] (fun v i wr => ∃ k : Nat, k ≤ zs.length ∧ i = .int .i64 (k : Int) ∧ OwnI wr w.heap.size v (cornersTo zs k) ∧ Below w.heap.size w wr ∧ IR wr (w.alloc (.cells #[] 3)).heap.size w1.heap.size A1 (hangL zs) ∧ Off v (w.alloc (.cells #[] 3)).heap.size w1.heap.size ∧ w1.heap.size ≤ wr.heap.size) (fun _ i _ => zs.length - (intOf i).toNat)
    case atStart => exact ⟨0, Nat.zero_le _, rfl, by simpa [cornersTo] using HO0.out, HB.out, HI.out.toIR, HF0.out, Nat.le_refl _⟩
    case round =>
      obtain ⟨k, hk, rfl, ho, hb, hi, hf, hs⟩ := hrel
      have HO := Lib.hid ho; have HBl := Lib.hid hb; have HIr := Lib.hid hi; have HFr := Lib.hid hf
      clear ho hb hi hf
      by_cases hlt : k < zs.length
      · have hlt' : (k : Int) < (zs.length : Int) := by omega
        have hlh : k < (hangL zs).length := by rw [HLh.out]; exact hlt
        obtain ⟨b', off', rfl, _, _, hc1⟩ := HIr.out.at_ hlh
        obtain ⟨b, off, rfl, _, _, hc0⟩ := (H.out.keep (w' := wr) (Nat.le_trans HS1.out hs) fun p _ h2 => (HBl.out.cell (p := p) h2).trans (HB0.out.cell (p := p) h2).symm).at_ hlt
        have hln : (k : Int) < (n : Int) := by have := HNn.out; omega
        have k0 : (0 : Int) ≤ (k : Int) := by omega
        have HLn := Lib.hid (show (cornersTo zs k).length < 17592186044416 by have := (corners_len zs k).1; omega)
        have HY := Lib.hid (show I64 (k : Int) from ⟨by omega, by omega⟩)
        by_cases he : (hangL zs)[k] = zs[k]
        · have HE := Lib.hid (corners_hit (zs := zs) (k := k) (by rw [getD_in hlh, getD_in hlt]; exact he))
          have hq : ((hangL zs)[k] == zs[k]) = true := by rw [beq_iff_eq]; exact he
          go_wp2
          go_quiet (fail)
          clear hc1 hc0
          go_wp2_with (at_builtin; refine wpList_push_off rfl _ _ rfl w.heap.size _ _ _ _ rfl rfl (HO.out.drewN _) HFr.out hs HLn.out HY.out ?_; intro v1 w2 ho1 hb1 hf1 hk1)
          rw [← HE.out] at ho1
          have HO1 := Lib.hid ho1; have HB1 := Lib.hid hb1; have HF1 := Lib.hid hf1; have HK1 := Lib.hid hk1
          clear ho1 hb1 hf1 hk1
          go_roundw
          case rel => exact ⟨k + 1, by omega, by go_num, HO1.out, (below_drawN HBl.out _).trans HB1.out, (HIr.out.drewN _).blocks HB1.out.size HK1.out, HF1.out, Nat.le_trans hs HB1.out.size⟩
          case measure => simp [intOf]; omega
        · have HE := Lib.hid (corners_skip (zs := zs) (k := k) (by rw [getD_in hlh, getD_in hlt]; exact he))
          have hq : ((hangL zs)[k] == zs[k]) = false := by rw [beq_eq_false_iff_ne]; exact he
          go_wp2
          go_quiet (fail)
          clear hc1 hc0
          go_wp2
          go_roundw
          case rel => exact ⟨k + 1, by omega, by go_num, by rw [HE.out]; exact HO.out.drewN _, below_drawN HBl.out _, HIr.out.drewN _, HFr.out, hs⟩
          case measure => simp [intOf]; omega
      · obtain rfl : k = zs.length := by omega
        have ho := HO.out
        have HLc := Lib.hid (corners_len zs zs.length).1
        obtain ⟨A', c', rfl, hiw⟩ := ho.iw (by have := HLc.out; omega)
        have HIW := Lib.hid hiw
        clear hiw ho HO HFr
        go_wp2
        go_ret2
        rw [HM.out]
        exact retRB_some rfl HIW.out.toIR.toAll HBl.out

theorem whole_len {zs : List Int} : decide ((cornersL zs).length = zs.length) = decide (hangL zs = zs) := by
  have h := (corners_len zs zs.length).2
  have e : (cornersL zs).length = zs.length ↔ hangL zs = zs := by
    show (cornersTo zs zs.length).length = zs.length ↔ _
    rw [h]
    constructor
    · intro h'
      exact list_ext (hang_len zs) fun k hk => h' k (by rw [hang_len] at hk; exact hk)
    · intro h' i _; rw [h']
  simp [e]
theorem row_turn {zs : List Int} (hr : rowB zs = true) : rowB (turnL zs) = true := by
  have h := rowB_true.1 hr
  refine rowB_true.2 ⟨fun z hz => ?_, by rw [turn_len]; exact h.2⟩
  obtain ⟨x, hx, rfl⟩ := List.mem_map.1 hz
  have := h.1 x hx
  omega
theorem turn_take (zs : List Int) (k : Nat) (h : k < zs.length) : (turnL zs).take k ++ [-zs[k]] = (turnL zs).take (k + 1) := by
  have hl : k < (turnL zs).length := by rw [turn_len]; exact h
  rw [← take_snoc _ k hl]; simp [turnL]
theorem betweenTo_hit {low high : List Int} {m : Nat} (h : betweenTo low high m = none) (hc : fallL (turnL low) (-(-2000 + (m : Int))) ≤ -fallL high (-2000 + (m : Int))) :
    ∀ n, betweenTo low high (m + 1 + n) = some (fallL (turnL low) (-(-2000 + (m : Int))), -2000 + (m : Int)) := by
  intro n
  induction n with
  | zero => rw [Nat.add_zero, betweenTo, h, Int.zero_sub, Int.zero_sub]; exact if_pos hc
  | succ n ih => rw [← Nat.add_assoc, betweenTo, ih]
theorem betweenTo_miss {low high : List Int} {m : Nat} (h : betweenTo low high m = none) (hc : ¬ fallL (turnL low) (-(-2000 + (m : Int))) ≤ -fallL high (-2000 + (m : Int))) : betweenTo low high (m + 1) = none := by
  rw [betweenTo, h, Int.zero_sub, Int.zero_sub]; exact if_neg hc
theorem l1Bent_of {b : Bool} {n : Nat} (A : Option Addr) (c lo hi : Nat) (zs : List Int) (w : World) (h : IR w lo hi A zs) (hr : rowB zs = true) (hb : bentB zs = b) (hn : n = zs.length) :
    Calls Try.prog 85 #[.slice A n c] w fun e w' => e = .returned (.bool b) ∧ Below w.heap.size w w' := by
  subst hn; subst hb; exact l1Bent_any A c lo hi zs w h hr
theorem specRowBelow_of {b : Bool} (A0 : Option Addr) (c0 : Nat) (zs0 : List Int) (A1 : Option Addr) (c1 : Nat) (zs1 : List Int) (w : World) (h0 : IR w 0 w.heap.size A0 zs0) (h1 : IR w 0 w.heap.size A1 zs1) (hb : belowB zs0 zs1 = b) :
    Calls Try.prog 20 #[.slice A0 zs0.length c0, .slice A1 zs1.length c1] w fun e w' => e = .returned (.bool b) ∧ Below w.heap.size w w' := by
  subst hb; exact specRowBelow_any A0 c0 zs0 A1 c1 zs1 w h0 h1

set_option maxHeartbeats 4000000 in
theorem specLineBetween_any (A0 : Option Addr) (c0 : Nat) (zs0 : List Int) (A1 : Option Addr) (c1 : Nat) (zs1 : List Int) (w : World) (h0 : IR w 0 w.heap.size A0 zs0) (h1 : IR w 0 w.heap.size A1 zs1) :
    Calls Try.prog 45 #[.slice A0 zs0.length c0, .slice A1 zs1.length c1] w fun e w' => e = .returned (tellII (betweenM zs0 zs1)) ∧ Below w.heap.size w w' := by
  have H0 := Lib.hid h0; have H1 := Lib.hid h1
  clear h0 h1
  cases hbl : belowB zs0 zs1 with
  | false =>
    have HM : Hid (betweenM zs0 zs1 = none) := by show _ = _; simp [betweenM, betweenOk, hbl]
    have HBl := Lib.hid hbl; clear hbl
    go_enter Try.func45, Try.ntmps45
    go_wp2_with fail
    refine (specRowBelow_of _ _ zs0 _ _ zs1 _ H0.out H1.out HBl.out).mono ?_; rintro e w1 ⟨rfl, bb⟩
    have HB := Lib.hid bb; clear bb
    go_wp2
    go_ret3
    rw [HM.out]; exact ⟨rfl, HB.out⟩
  | true =>
    have HBl := Lib.hid hbl; clear hbl
    obtain ⟨ht, _⟩ := belowB_true.1 HBl.out
    obtain ⟨hr0, hr1, hle⟩ := twoB_true ht
    have HR0 := Lib.hid hr0; have HR1 := Lib.hid hr1; have HL := Lib.hid hle
    have hl := (rowB_true.1 hr0).2
    clear ht hr0 hr1 hle
    cases hbh : bentB zs1 with
    | false =>
      have HM : Hid (betweenM zs0 zs1 = none) := by show _ = _; simp [betweenM, betweenOk, hbh]
      have HBh := Lib.hid hbh; clear hbh
      go_enter Try.func45, Try.ntmps45
      go_wp2_with fail
      refine (specRowBelow_of _ _ zs0 _ _ zs1 _ H0.out H1.out HBl.out).mono ?_; rintro e w1 ⟨rfl, bb⟩
      have HB := Lib.hid bb; have K1 := Lib.hid (H1.out.grow bb); clear bb
      go_wp2_with fail
      refine (l1Bent_of _ _ _ _ zs1 _ K1.out HR1.out HBh.out rfl).mono ?_; rintro e w2 ⟨rfl, bb⟩
      have HB2 := Lib.hid (below_then HB.out (Nat.le_refl _) bb); clear bb
      go_wp2
      go_ret3
      rw [HM.out]; exact ⟨rfl, HB2.out⟩
    | true =>
      have HBh := Lib.hid hbh; clear hbh
      go_enter Try.func45, Try.ntmps45
      go_wp2_with fail
      refine (specRowBelow_of _ _ zs0 _ _ zs1 _ H0.out H1.out HBl.out).mono ?_; rintro e w1 ⟨rfl, bb⟩
      have HB := Lib.hid bb; have K1 := Lib.hid (H1.out.grow bb); clear bb
      go_wp2_with fail
      refine (l1Bent_of _ _ _ _ zs1 _ K1.out HR1.out HBh.out rfl).mono ?_; rintro e w2 ⟨rfl, bb⟩
      have HB2 := Lib.hid (below_then HB.out (Nat.le_refl _) bb); clear bb
      go_wp2
      go_loopw [7, 8] (fun v i wr => ∃ k : Nat, k ≤ zs0.length ∧ i = .int .i64 (k : Int) ∧ OwnI wr w.heap.size v ((turnL zs0).take k) ∧ Below w.heap.size w wr) (fun _ i _ => zs0.length - (intOf i).toNat)
      case atStart => exact ⟨0, Nat.zero_le _, rfl, by have := OwnI.made w2; exact ⟨by simpa using ⟨this.1.1, this.1.2.imp id (fun ⟨g, cap, cur, e, hg, r⟩ => ⟨g, cap, cur, e, Nat.le_trans HB2.out.size hg, r⟩)⟩, by simp, Nat.le_trans HB2.out.size (by simp)⟩, HB2.out.alloc HB2.out.size _⟩
      case round =>
        obtain ⟨k, hk, rfl, ho, hb⟩ := hrel
        have HO := Lib.hid ho; have HBk := Lib.hid hb
        clear ho hb
        by_cases hlt : k < zs0.length
        · have hlt' : (k : Int) < (zs0.length : Int) := by omega
          obtain ⟨b, off, rfl, _, _, hc⟩ := (H0.out.below HBk.out (Nat.le_refl _)).at_ hlt
          have g1 := row_getD HR0.out k hlt
          rw [getD_in hlt] at g1
          obtain ⟨g11, g12⟩ := g1
          have HY := Lib.hid (show I64 (-zs0[k]) from ⟨by omega, by omega⟩)
          have HLn := Lib.hid (show ((turnL zs0).take k).length < 17592186044416 by simp [turn_len]; omega)
          have HN := Lib.hid (turn_take zs0 k hlt)
          go_wp2_with (at_builtin; refine wpList_push rfl _ _ rfl w.heap.size _ _ rfl rfl HO.out HLn.out HY.out ?_; intro v1 w3 ho1 hb1)
          rw [HN.out] at ho1
          have HO1 := Lib.hid ho1; have HB1 := Lib.hid hb1
          clear ho1 hb1
          go_roundw
          case rel => exact ⟨k + 1, by omega, by go_num, HO1.out, HBk.out.trans HB1.out⟩
          case measure => simp [intOf]; omega
        · obtain rfl : k = zs0.length := by omega
          have ho := HO.out
          rw [List.take_of_length_le (by rw [turn_len]; exact Nat.le_refl _)] at ho
          obtain ⟨A', c', rfl, hiw⟩ := ho.iw (by rw [turn_len]; omega)
          have HIW := Lib.hid hiw.toIR
          have HT := Lib.hid (turn_len zs0)
          have HRT := Lib.hid (row_turn HR0.out)
          clear hiw ho HO
          cases hbt : bentB (turnL zs0) with
          | false =>
            have HM : Hid (betweenM zs0 zs1 = none) := by show _ = _; simp [betweenM, betweenOk, hbt]
            have HBt := Lib.hid hbt; clear hbt
            go_wp2_with fail
            refine (l1Bent_of _ _ _ _ (turnL zs0) _ HIW.out HRT.out HBt.out (by simp [HT.out])).mono ?_; rintro e w4 ⟨rfl, bb⟩
            have HB4 := Lib.hid (below_then HBk.out (Nat.le_refl _) bb); clear bb
            go_wp2
            go_ret3
            rw [HM.out]; exact ⟨rfl, HB4.out⟩
          | true =>
            have HM : Hid (betweenM zs0 zs1 = betweenTo zs0 zs1 4001) := by show _ = _; simp [betweenM, betweenOk, hbt, HBh.out, HBl.out]
            have HBt := Lib.hid hbt; clear hbt
            go_wp2_with fail
            refine (l1Bent_of _ _ _ _ (turnL zs0) _ HIW.out HRT.out HBt.out (by simp [HT.out])).mono ?_; rintro e w4 ⟨rfl, bb⟩
            have HB4 := Lib.hid (below_then HBk.out (Nat.le_refl _) bb); have HI4 := Lib.hid (HIW.out.grow bb); have K4 := Lib.hid (H1.out.below (below_then HBk.out (Nat.le_refl _) bb) (Nat.le_refl _)); clear bb
            go_wp2
            go_loop [9] (fun i => ∃ m : Nat, m ≤ 4001 ∧ i = .int .i64 (-2000 + (m : Int)) ∧ Hid (betweenTo zs0 zs1 m = none)) (fun i => (2001 - intOf i).toNat)
            case atStart => exact ⟨0, by omega, rfl, Lib.hid rfl⟩
            case round =>
              obtain ⟨m, hm, rfl, hno⟩ := hrel
              by_cases hlt : m < 4001
              · have hle : -2000 + (m : Int) ≤ 2000 := by omega
                have s1 : -3000 ≤ -2000 + (m : Int) := by omega
                have s2 : -2000 + (m : Int) ≤ 3000 := by omega
                have s3 : -3000 ≤ -(-2000 + (m : Int)) := by omega
                have s4 : -(-2000 + (m : Int)) ≤ 3000 := by omega
                obtain ⟨F1, hF1⟩ : ∃ F, F = fallL (turnL zs0) (-(-2000 + (m : Int))) := ⟨_, rfl⟩
                obtain ⟨F2, hF2⟩ : ∃ F, F = fallL zs1 (-2000 + (m : Int)) := ⟨_, rfl⟩
                have g1 := fall_bd HRT.out s3 s4
                have g2 := fall_bd HR1.out s1 s2
                rw [← hF1] at g1
                rw [← hF2] at g2
                obtain ⟨g11, g12⟩ := g1
                obtain ⟨g21, g22⟩ := g2
                have HF1 := Lib.hid hF1; have HF2 := Lib.hid hF2
                clear hF1 hF2
                by_cases hc : F1 ≤ -F2
                · have HN := Lib.hid (betweenTo_hit hno.out (by rw [← HF1.out, ← HF2.out]; exact hc) (4000 - m))
                  rw [show m + 1 + (4000 - m) = 4001 by omega] at HN
                  go_wp2_with fail
                  refine (l2Fall_any _ _ _ _ _ (turnL zs0) _ _ HI4.out HRT.out s3 s4 (by simp [HT.out])).mono ?_; rintro e w' ⟨rfl, rfl⟩
                  rw [← HF1.out]
                  go_wp2_with fail
                  refine (l2Fall_any _ _ _ _ _ zs1 _ _ K4.out HR1.out s1 s2 rfl).mono ?_; rintro e w' ⟨rfl, rfl⟩
                  rw [← HF2.out]
                  go_wp2
                  go_ret3
                  rw [HM.out, HN.out, ← HF1.out]
                  exact ⟨rfl, HB4.out⟩
                · have HN := Lib.hid (betweenTo_miss hno.out (by rw [← HF1.out, ← HF2.out]; exact hc))
                  go_wp2_with fail
                  refine (l2Fall_any _ _ _ _ _ (turnL zs0) _ _ HI4.out HRT.out s3 s4 (by simp [HT.out])).mono ?_; rintro e w' ⟨rfl, rfl⟩
                  rw [← HF1.out]
                  go_wp2_with fail
                  refine (l2Fall_any _ _ _ _ _ zs1 _ _ K4.out HR1.out s1 s2 rfl).mono ?_; rintro e w' ⟨rfl, rfl⟩
                  rw [← HF2.out]
                  go_wp2
                  go_round
                  case rel => exact ⟨m + 1, by omega, by go_num, HN⟩
                  case measure => simp [intOf]; omega
              · obtain rfl : m = 4001 := by omega
                go_wp2
                go_ret3
                rw [HM.out, hno.out]
                exact ⟨rfl, HB4.out⟩
end Go.Proofs.Ytlgagdplnpeklaa
