/-
  RowFrom of the program: the row with a first entry and slopes. Conditions: the list's cells are there.
-/
import Derived.Test.YtgbcpbooonincaaFrom
namespace Go.Proofs.Ytgbcpbooonincaa
open Go.RowKit

/-- As wpList_push, for a list whose type is row. -/
theorem wpList_pushRow {ops : Array Oper} {rest : List Oper} {o : Oper} {a : Act} {W : World} {y : Int} {Q : Exit → Act → World → Prop} (hgd : o.guard = none) (s x : Operand)
    (ho : o.op = .call { callee := .builtin .append, args := #[s, x], argTypes := #[43, 43] })
    (base : Nat) (v : Value) (zs : List Int) (hs : a.eval s = v) (hx : a.eval x = .slice (some ⟨W.heap.size, 0, none⟩) 1 1) (hown : OwnI W base v zs)
    (hl : zs.length < 17592186044416) (hy : I64 y)
    (h : ∀ v' w', OwnI w' base v' (zs ++ [y]) → Below base W w' → wpList Try.prog ops Q rest (a.put o.dst v') w') : wpList Try.prog ops Q (o :: rest) a (W.alloc (.cells #[.int .i64 y] 3)) := by
  refine wpList_plain hgd fun K hK => ?_
  obtain ⟨i0, hi, hz0, hz1, hz2⟩ := info_parts info_int
  have hown' : OwnI (W.alloc (.cells #[.int .i64 y] 3)) base v zs := hown.alloc
  have hc : (W.alloc (.cells #[.int .i64 y] 3)).cell? ⟨W.heap.size, 0, none⟩ = some (.int .i64 y) := by rw [World.cell?_alloc_at _ _ _ _ rfl]; rfl
  obtain ⟨v', w', hrun, h2, h3, _⟩ := run_append_own (P := Try.prog) (W.alloc (.cells #[.int .i64 y] 3)) base 43 o.type 3 i0 (.int .i64 0) 1 8 Try.underlying43 hi hz0 hz1 hz2 rfl (by decide) v zs.length (zs.map (Value.int .i64)) hown'.1 ⟨W.heap.size, 0, none⟩ 1 1 [.int .i64 y] rfl
    (fun j u hj => by
      match j, hj with
      | 0, hj => simp at hj; subst hj; simp [Addr.add]) (by simp [Value.oneCell']) (by unfold maxLen; omega) (by omega) hown'.2.2
  have ho2 : OwnI w' base v' (zs ++ [y]) := by
    refine ⟨by simpa using h2, ?_, Nat.le_trans hown'.2.2 h3.size⟩
    intro z hz
    rcases List.mem_append.1 hz with hz | hz
    · exact hown.2.1 z hz
    · obtain rfl := List.mem_singleton.1 hz; exact hy
  have hb2 : Below base W w' := OwnI.push_of hown.2.2 ((Below.refl base _).grown h3 hown'.2.2 fun k hk => (hown'.1.lt k hk).1)
  unfold Oper.wp execOp
  simp only [ho, resolve, invoke, builtin, Sem.run_bind, Sem.run_pure, Result.andThen_ok, List.map_toArray, List.map_cons, List.map_nil, hs, hx, hrun]
  exact hK _ _ (h v' w' ho2 hb2)

theorem fromM_long {x : Int} {ss : List Int} (h : 12 ≤ ss.length) : fromM x ss = none := by
  unfold fromM
  cases hr : rowB (fromL x ss) with
  | false => rfl
  | true => have := (rowB_true.1 hr).2; rw [fromL_len] at this; omega

set_option maxRecDepth 100000 in
set_option maxHeartbeats 4000000 in
theorem implRowFrom_any (x0 : Int) (A : Option Addr) (c : Nat) (zs : List Int) (w : World) (hx : I64 x0) (h : IR w 0 w.heap.size A zs) :
    Calls Try.prog 30 #[.int .i64 x0, .slice A zs.length c] w (RetSB w (fromM x0 zs)) := by
  have hl := h.1
  by_cases hbig : (12 : Int) ≤ (zs.length : Int)
  · have HM := Lib.hid (fromM_long (x := x0) (ss := zs) (by omega))
    clear h
    go_enter Try.func30, Try.ntmps30
    go_wp2
    go_ret2
    rw [HM.out]
    exact retSB_none (Below.refl _ _)
  · have HX := Lib.hid hx; have HLn := Lib.hid (fromL_len x0 zs)
    have HLI := Lib.hid (fromL_i64 x0 zs hx)
    have o1 := Lib.hid (OwnI.one w x0 hx)
    have t1 : (fromL x0 zs).take 1 = [x0] := by
      have e0 := fromL_zero x0 zs
      have := take_snoc (fromL x0 zs) 0 (by rw [fromL_len]; omega)
      rw [e0] at this
      simpa using this.symm
    have T1 := Lib.hid t1
    clear hx t1
    go_enter Try.func30, Try.ntmps30
    go_wp2
    go_loopw [6, 16] (fun v i wr => ∃ k : Nat, k ≤ zs.length ∧ i = .int .i64 k ∧ OwnI wr w.heap.size v ((fromL x0 zs).take (k + 1)) ∧ IR wr 0 w.heap.size A zs ∧ Below w.heap.size w wr) (fun _ i _ => zs.length - (intOf i).toNat)
    case atStart => exact ⟨0, Nat.zero_le _, rfl, by rw [T1.out]; exact o1.out, h.grow ((Below.refl _ _).alloc (Nat.le_refl _) _), (Below.refl _ _).alloc (Nat.le_refl _) _⟩
    case round =>
      obtain ⟨k, hk, rfl, ho, hR, hb⟩ := hrel
      have HO := Lib.hid ho; have HR := Lib.hid hR; have HB := Lib.hid hb
      have htl : ((fromL x0 zs).take (k + 1)).length = k + 1 := by simp [HLn.out]; omega
      have HTL := Lib.hid htl
      obtain ⟨A', c', rfl, hiw⟩ := ho.iwn htl (by omega)
      have HIW := Lib.hid hiw
      clear ho hR hb htl hiw h
      by_cases hlt : k < zs.length
      · have hlt' : (k : Int) < (zs.length : Int) := by omega
        obtain ⟨b, off, rfl, _, _, hcs⟩ := HR.out.at_ hlt
        have hk1 : k < ((fromL x0 zs).take (k + 1)).length := by rw [HTL.out]; omega
        obtain ⟨g, og, rfl, _, _, hco⟩ := HIW.out.toIR.at_ hk1
        have hkL : k < (fromL x0 zs).length := by rw [HLn.out]; omega
        have hge : ((fromL x0 zs).take (k + 1))[k]'hk1 = (fromL x0 zs)[k]'hkL := by simp
        obtain ⟨a, ha⟩ : ∃ a, (fromL x0 zs)[k]'hkL = a := ⟨_, rfl⟩
        rw [hge, ha] at hco
        have hnx : (fromL x0 zs).take (k + 1) ++ [wrap64 (a + zs[k])] = (fromL x0 zs).take (k + 1 + 1) := by
          have hk2 : k + 1 < (fromL x0 zs).length := by rw [HLn.out]; omega
          have e := fromL_succ x0 zs k hlt
          rw [ha] at e
          rw [← e]
          exact take_snoc _ _ hk2
        have HY := Lib.hid (wrap64_i64 (a + zs[k])); have HN := Lib.hid hnx
        have HLL := Lib.hid (show ((fromL x0 zs).take (k + 1)).length < 17592186044416 by rw [HTL.out]; omega)
        have q0 : (0 : Int) ≤ (k : Int) := by omega
        have q1 : (k : Int) < (k : Int) + 1 := by omega
        clear hge ha hnx hk1
        go_wp2_with (at_builtin; refine wpList_pushRow rfl _ _ rfl w.heap.size _ _ rfl rfl HO.out HLL.out HY.out ?_; intro v1 w1 ho1 hb1)
        have ho1' : OwnI w1 w.heap.size v1 ((fromL x0 zs).take (k + 1 + 1)) := by rw [← HN.out]; exact ho1
        have HO1 := Lib.hid ho1'; have HB1 := Lib.hid hb1
        clear ho1 ho1' hb1 hco hcs q1
        go_roundw
        case rel => exact ⟨k + 1, by omega, by go_num, HO1.out, HR.out.below HB1.out (Nat.le_refl _), HB.out.trans HB1.out⟩
        case measure => simp [intOf]; omega
      · obtain rfl : k = zs.length := by omega
        have hall : (fromL x0 zs).take (zs.length + 1) = fromL x0 zs := List.take_of_length_le (by rw [HLn.out]; exact Nat.le_refl _)
        have hiw := HIW.out
        rw [hall] at hiw
        have HIR := Lib.hid hiw
        clear hiw hall
        cases hr2 : rowB (fromL x0 zs) with
        | false =>
          have HM : Hid (fromM x0 zs = none) := by show _ = _; simp [fromM, hr2]
          have hc := checked_false A' c' _ _ (fromL x0 zs) wr HIR.out.toIR hr2
          rw [HLn.out] at hc
          have HC := Lib.hid hc
          clear hc hr2
          go_wp2_with fail
          refine HC.out.mono ?_
          rintro e w5 ⟨rfl, hb5⟩
          have B5 := Lib.hid hb5; clear hb5
          go_wp2
          go_ret2
          rw [HM.out]
          exact retSB_none (below_then HB.out (Nat.le_refl _) B5.out)
        | true =>
          have HM : Hid (fromM x0 zs = some (fromL x0 zs)) := by show _ = _; simp [fromM, hr2]
          have hc := checked_true A' c' _ _ (fromL x0 zs) wr HIR.out.toIR hr2
          rw [HLn.out] at hc
          have HC := Lib.hid hc
          clear hc hr2
          go_wp2_with fail
          refine HC.out.mono ?_
          rintro e w5 ⟨rfl, hb5⟩
          have B5 := Lib.hid hb5; clear hb5
          go_wp2
          go_ret2
          rw [HM.out]
          exact retSB_some HLn.out.symm ((HIR.out.grow B5.out).wide (Nat.le_refl _) (HIR.out.grow B5.out).2.2.1 (Nat.le_refl _)) (below_then HB.out (Nat.le_refl _) B5.out)
end Go.Proofs.Ytgbcpbooonincaa
