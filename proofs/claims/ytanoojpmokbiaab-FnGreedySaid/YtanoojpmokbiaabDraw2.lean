/-
  What the laws draw, second part: lists added up (l3From) and sorted (l3Sorted). Conditions: the lists' cells are there.
-/
import Derived.Test.YtanoojpmokbiaabDraw
import Derived.Test.YtanoojpmokbiaabPart
import Derived.Deep.Upon
namespace Go.Proofs.Ytanoojpmokbiaab
open Go.RowKit

theorem OwnI.shape {w : World} {base : Nat} {v : Value} {zs : List Int} (h : OwnI w base v zs) : ∃ A c, v = .slice A zs.length c ∧ zs.length ≤ c := by
  rcases h.1.2 with ⟨rfl, h0⟩ | ⟨g, cap, cur, rfl, hg, hh, hn, r⟩
  · have : zs = [] := by simpa using h0
    subst this
    exact ⟨none, 0, rfl, Nat.le_refl _⟩
  · exact ⟨_, cap, rfl, hn⟩

/-- append(v, ys...), whatever ys is. -/
theorem run_appendsI (w : World) (base : Nat) (v : Value) (zs ys : List Int) (hown : OwnI w base v zs) (A : Option Addr) (lo hi c : Nat) (h : IR w lo hi A ys) (hl : zs.length + ys.length ≤ 17592186044416) (ty : TypeId) :
    ∃ v' w', (Builtin.append_ #[24, 24] ty #[v, .slice A ys.length c]).run Try.prog w = .ok v' w' ∧ OwnI w' base v' (zs ++ ys) ∧ Below base w w' := by
  rcases Nat.eq_zero_or_pos ys.length with h0 | h0
  · have hy : ys = [] := List.eq_nil_of_length_eq_zero h0
    subst hy
    obtain ⟨A', c', rfl, hle⟩ := hown.shape
    obtain ⟨i0, hi, hz0, hz1, hz2⟩ := info_parts info_int
    refine ⟨_, _, run_append_nothing w 24 24 ty 3 i0 Try.underlying24 hi A' zs.length c' hle _ ?_, by simpa using hown, Below.refl _ _⟩
    cases A with
    | none => exact Src.ofNil w Try.underlying24 c
    | some a => exact Src.ofSlice w Try.underlying24 a 0 c [] (by simp) (by simp) (by simp)
  · obtain ⟨b, off, rfl, _, _, hc⟩ := h.2.2.2 h0
    exact run_appends w base v zs ys hown b off c hc hl h.2.1 ty

theorem wpList_appendsI {ops : Array Oper} {rest : List Oper} {o : Oper} {a : Act} {w : World} {Q : Exit → Act → World → Prop} (hgd : o.guard = none) (s x : Operand)
    (ho : o.op = .call { callee := .builtin .append, args := #[s, x], argTypes := #[24, 24] })
    (base : Nat) (v : Value) (zs ys : List Int) (A : Option Addr) (lo hi n c : Nat) (hn : n = ys.length) (hs : a.eval s = v) (hx : a.eval x = .slice A n c) (hown : OwnI w base v zs)
    (hr : IR w lo hi A ys) (hl : zs.length + ys.length ≤ 17592186044416)
    (h : ∀ v' w', OwnI w' base v' (zs ++ ys) → Below base w w' → wpList Try.prog ops Q rest (a.put o.dst v') w') : wpList Try.prog ops Q (o :: rest) a w := by
  subst hn
  refine wpList_plain hgd fun K hK => ?_
  obtain ⟨v', w', hrun, h2, h3⟩ := run_appendsI w base v zs ys hown A lo hi c hr hl o.type
  unfold Oper.wp execOp
  simp only [ho, resolve, invoke, builtin, Sem.run_bind, Sem.run_pure, Result.andThen_ok, List.map_toArray, List.map_cons, List.map_nil, hs, hx, hrun]
  exact hK _ _ (h v' w' h2 h3)

theorem setI64 {ys : List Int} {k : Nat} {v : Int} (h : ∀ y, y ∈ ys → I64 y) (hv : I64 v) : ∀ y, y ∈ ys.set k v → I64 y := fun y hy => by
  rcases List.mem_or_eq_of_mem_set hy with hy | rfl
  · exact h y hy
  · exact hv
/-- The call returns a list of its own; its capacity is known to hold it. -/
def RetSC (w : World) (zs : List Int) (e : Ending) (w' : World) : Prop := ∃ A c, e = .returned (.slice A zs.length c) ∧ CapOk zs.length c ∧ IW w' w.heap.size w'.heap.size A zs ∧ Below w.heap.size w w'
theorem retSC_of {w w' : World} {A : Option Addr} {n c : Nat} {zs : List Int} (hn : n = zs.length) (hc : CapOk n c) (hi : IW w' w.heap.size w'.heap.size A zs) (hb : Below w.heap.size w w') : RetSC w zs (.returned (.slice A n c)) w' := by
  subst hn; exact ⟨A, c, rfl, hc, hi, hb⟩
theorem retS_of {w w' : World} {A : Option Addr} {n c : Nat} {zs : List Int} (hn : n = zs.length) (hi : IW w' w.heap.size w'.heap.size A zs) (hb : Below w.heap.size w w') : RetS w zs (.returned (.slice A n c)) w' := by
  subst hn; exact ⟨A, c, rfl, hi, hb⟩

set_option maxRecDepth 100000 in
set_option maxHeartbeats 4000000 in
theorem l3From_any (x0 : Int) (A : Option Addr) (n c : Nat) (zs : List Int) (w : World) (hx : I64 x0) (h : IR w 0 w.heap.size A zs) (hn : zs.length ≤ 1048576) (hnn : n = zs.length) :
    Calls Try.prog 66 #[.int .i64 x0, .slice A n c] w (RetSC w (fromL x0 zs)) := by
  subst hnn
  have hl := h.1
  have HLn := Lib.hid (fromL_len x0 zs)
  have HLI := Lib.hid (fromL_i64 x0 zs hx)
  have o1 := Lib.hid (OwnI.one w x0 hx)
  have t1 : (fromL x0 zs).take 1 = [x0] := by
    have e0 := fromL_zero x0 zs
    have := take_snoc (fromL x0 zs) 0 (by rw [fromL_len]; omega)
    rw [e0] at this
    simpa using this.symm
  have T1 := Lib.hid t1
  clear hx t1
  go_enter Try.func66, Try.ntmps66
  go_wp2
  go_loopw [5, 6] (fun v i wr => ∃ k : Nat, k ≤ zs.length ∧ i = .int .i64 k ∧ OwnI wr w.heap.size v ((fromL x0 zs).take (k + 1)) ∧ IR wr 0 w.heap.size A zs ∧ Below w.heap.size w wr) (fun _ i _ => zs.length - (intOf i).toNat)
  case atStart => exact ⟨0, Nat.zero_le _, rfl, by rw [T1.out]; exact o1.out, h.grow ((Below.refl _ _).alloc (Nat.le_refl _) _), (Below.refl _ _).alloc (Nat.le_refl _) _⟩
  case round =>
    obtain ⟨k, hk, rfl, ho, hR, hb⟩ := hrel
    have HO := Lib.hid ho; have HR := Lib.hid hR; have HB := Lib.hid hb
    have htl : ((fromL x0 zs).take (k + 1)).length = k + 1 := by simp [HLn.out]; omega
    have HTL := Lib.hid htl
    obtain ⟨A', c', rfl, hiw, hcap⟩ := ho.iwc htl (by omega)
    have HIW := Lib.hid hiw; have HC := Lib.hid hcap
    clear ho hR hb htl hiw h hcap
    by_cases hlt : k < zs.length
    · have hlt' : (k : Int) < (zs.length : Int) := by omega
      obtain ⟨b, off, rfl, _, _, hcs⟩ := HR.out.at_ hlt
      have hk1 : k < ((fromL x0 zs).take (k + 1)).length := by rw [HTL.out]; omega
      obtain ⟨g, og, rfl, _, _, hco⟩ := HIW.out.toIR.at_ hk1
      have hkL : k < (fromL x0 zs).length := by rw [HLn.out]; omega
      have hge : ((fromL x0 zs).take (k + 1))[k]'hk1 = (fromL x0 zs)[k]'hkL := by simp
      obtain ⟨a, ha⟩ : ∃ a, (fromL x0 zs)[k]'hkL = a := ⟨_, rfl⟩
      rw [hge, ha] at hco
      have hy := wrap64_i64 (a + zs[k])
      have hnx : (fromL x0 zs).take (k + 1) ++ [wrap64 (a + zs[k])] = (fromL x0 zs).take (k + 1 + 1) := by
        have hk2 : k + 1 < (fromL x0 zs).length := by rw [HLn.out]; omega
        have e := fromL_succ x0 zs k hlt
        rw [ha] at e
        rw [← e]
        exact take_snoc _ _ hk2
      have HY := Lib.hid hy; have HN := Lib.hid hnx
      have HLL := Lib.hid (show ((fromL x0 zs).take (k + 1)).length < 17592186044416 by rw [HTL.out]; omega)
      have s2 : IntKind.i64.wrap (a + zs[k]) = wrap64 (a + zs[k]) := IntWalk.i64_left _
      have q0 : (0 : Int) ≤ (k : Int) := by omega
      have t0 : (k : Int).toNat = k := by omega
      have hkk : (k : Int) < (k : Int) + 1 := by omega
      clear hge ha hy hnx hk1
      go_wp2
      go_region_law (refine step_push (by rfl) (.tmp 15) (.tmp 25) (by rfl) w.heap.size _ _ (by rfl) (by rfl) HO.out HLL.out HY.out ?_; intro v1 w1 ho1 hb1)
      all_goals
        have ho1' : OwnI w1 w.heap.size v1 ((fromL x0 zs).take (k + 1 + 1)) := by rw [← HN.out]; exact ho1
        have HO1 := Lib.hid ho1'; have HB1 := Lib.hid hb1
        clear ho1 ho1' hb1 s2 t0 hco hcs hkk
        go_wp2
        go_roundw
        case rel => exact ⟨k + 1, by omega, by go_num, HO1.out, HR.out.below HB1.out (Nat.le_refl _), HB.out.trans HB1.out⟩
        case measure => simp [intOf]; omega
    · obtain rfl : k = zs.length := by omega
      have hall : (fromL x0 zs).take (zs.length + 1) = fromL x0 zs := List.take_of_length_le (by rw [HLn.out]; exact Nat.le_refl _)
      have hiw := HIW.out
      rw [hall] at hiw
      have HIR := Lib.hid hiw
      clear hiw hall
      go_wp2
      go_ret
      exact retSC_of HLn.out.symm HC.out HIR.out HB.out

set_option maxRecDepth 100000 in
set_option maxHeartbeats 4000000 in
theorem l3Sorted_any (A : Option Addr) (n c : Nat) (zs : List Int) (w : World) (h : IR w 0 w.heap.size A zs) (hn : zs.length ≤ 1048576) (hnn : n = zs.length) :
    Calls Try.prog 67 #[.slice A n c] w fun e w' => ∃ zs', zs'.length = n ∧ RetS w zs' e w' := by
  subst hnn
  have H := Lib.hid h
  clear h
  have HA := Lib.hid (H.out.grow ((Below.refl _ _).alloc (Nat.le_refl _) (.cells #[] 3)))
  go_enter Try.func67, Try.ntmps67
  go_wp2_with (at_builtin; refine wpList_appendsI rfl _ _ rfl w.heap.size _ [] zs A _ _ _ c rfl rfl rfl (OwnI.made w) HA.out (by simp; omega) ?_; intro v1 w1 ho1 hb1; have HO1 := Lib.hid ho1; have HB1 := Lib.hid hb1; clear ho1 hb1)
  have HL1 : Hid (([] ++ zs : List Int).length = zs.length) := by show _ = _; simp
  obtain ⟨A1, c1, rfl, hi1⟩ := HO1.out.iwn HL1.out (by omega)
  have HI1 := Lib.hid hi1
  clear hi1 HO1 HA
  rcases Nat.eq_zero_or_pos zs.length with h0 | h0
  · have h0' : ¬ (1 : Int) < (zs.length : Int) := by omega
    go_wp2
    refine wp_loop_rounds 1 ?_
    rw [rounds_succ]
    go_wp2
    go_ret
    exact ⟨_, HL1.out, retS_of (by rw [HL1.out]; exact h0.symm) HI1.out (((Below.refl _ _).alloc (Nat.le_refl _) _).trans HB1.out)⟩
  · obtain ⟨b, off, rfl, hlo, hhi, hcs⟩ := HI1.out.2.2.2 (by rw [HL1.out]; exact h0)
    have HC1 : Hid (Cells w1 b off ([] ++ zs)) := hcs
    have HZ1 := Lib.hid HI1.out.2.1
    clear hcs HI1
    have HW1 : Hid (Below w.heap.size w w1) := ((Below.refl _ _).alloc (Nat.le_refl _) _).trans HB1.out
    clear HB1
    go_wp2
    go_loopw [4] (fun i wr => ∃ (k : Nat) (ys : List Int), i = .int .i64 ((k : Int) + 1) ∧ k < zs.length ∧ ys.length = zs.length ∧ (∀ y, y ∈ ys → I64 y) ∧ Cells wr b off ys ∧ Below w.heap.size w wr ∧ wr.heap.size = w1.heap.size) (fun i _ => zs.length - (intOf i).toNat)
    case atStart => exact ⟨0, _, rfl, h0, HL1.out, HZ1.out, HC1.out, HW1.out, rfl⟩
    case round =>
      obtain ⟨k, ys, rfl, hk, hys, hz, hc, hb, hsz⟩ := hrel
      have HZ := Lib.hid hz; have HC := Lib.hid hc; have HB := Lib.hid hb; have HS := Lib.hid hsz
      clear hz hc hb hsz HC1 HZ1 HW1
      by_cases hlt : k + 1 < zs.length
      · have hlt' : (k : Int) + 1 < (zs.length : Int) := by omega
        have hk1 : k + 1 < ys.length := by omega
        obtain ⟨hc1, -⟩ := HC.out (k + 1) hk1
        obtain ⟨X, hX⟩ : ∃ X, ys[k + 1]'hk1 = X := ⟨_, rfl⟩
        rw [hX] at hc1
        have hXi : I64 X := by rw [← hX]; exact HZ.out _ (List.getElem_mem hk1)
        obtain ⟨hX1, hX2⟩ := hXi
        have q0 : (0 : Int) ≤ (k : Int) + 1 := by omega
        have q1 : ((k : Int) + 1).toNat = k + 1 := by omega
        clear hX
        go_wp2
        go_loopw [6] (fun i wr => ∃ (M : Int) (ys : List Int), i = .int .i64 M ∧ 0 ≤ M ∧ M < (zs.length : Int) ∧ ys.length = zs.length ∧ (∀ y, y ∈ ys → I64 y) ∧ Cells wr b off ys ∧ Below w.heap.size w wr ∧ wr.heap.size = w1.heap.size) (fun i _ => (intOf i).toNat)
        case atStart => exact ⟨(k : Int) + 1, _, rfl, q0, hlt', hys, HZ.out, HC.out, HB.out, HS.out⟩
        case round =>
          clear hk1 hc1 q1 HZ HC HB HS hys
          obtain ⟨M, ys, rfl, p0, p1, hys, hz, hc, hb, hsz⟩ := hrel
          have HZ := Lib.hid hz; have HC := Lib.hid hc; have HB := Lib.hid hb; have HS := Lib.hid hsz
          clear hz hc hb hsz
          have hmy : M.toNat < ys.length := by omega
          obtain ⟨hcm, hfm⟩ := HC.out M.toNat hmy
          obtain ⟨Z, hZ⟩ : ∃ Z, ys[M.toNat]'hmy = Z := ⟨_, rfl⟩
          rw [hZ] at hcm
          clear hZ
          have HX : Hid (I64 X) := ⟨hX1, hX2⟩
          have HN := Lib.hid (HC.out.set_ M.toNat hmy X)
          by_cases p2 : 0 < M
          · have hj : (M.toNat - 1) < ys.length := by omega
            obtain ⟨hcj, -⟩ := HC.out (M.toNat - 1) hj
            obtain ⟨Y, hY⟩ : ∃ Y, ys[(M.toNat - 1)]'hj = Y := ⟨_, rfl⟩
            rw [hY] at hcj
            have HY : Hid (I64 Y) := by rw [← hY]; exact HZ.out _ (List.getElem_mem hj)
            have p3 : (0 : Int) ≤ M - 1 := by omega
            have p4 : M - 1 < (zs.length : Int) := by omega
            have HN2 := Lib.hid (HC.out.set_ M.toNat hmy Y)
            clear hY hj hmy
            by_cases hlt2 : X < Y
            · go_wp2
              go_roundw
              case rel => exact ⟨M - 1, _, rfl, p3, p4, by simpa using hys, setI64 HZ.out HY.out, HN2.out, HB.out.setCell hlo _, by simpa [World.setCell] using HS.out⟩
              case measure => simp [intOf]; omega
            · go_wp2
              go_roundw
              case rel => exact ⟨k + 1, _, by go_num, by omega, by simpa using hys, setI64 HZ.out HX.out, HN.out, HB.out.setCell hlo _, by simpa [World.setCell] using HS.out⟩
              case measure => simp [intOf]; omega
          · clear hmy
            go_wp2
            go_roundw
            case rel => exact ⟨k + 1, _, by go_num, by omega, by simpa using hys, setI64 HZ.out HX.out, HN.out, HB.out.setCell hlo _, by simpa [World.setCell] using HS.out⟩
            case measure => simp [intOf]; omega
      · have hkn : k + 1 = zs.length := by omega
        have hlt' : ¬ (k : Int) + 1 < (zs.length : Int) := by omega
        have HI2 : Hid (IW wr w.heap.size wr.heap.size (some ⟨b, off, none⟩) ys) := HC.out.iw hys hlo (by rw [HS.out]; exact hhi) (Nat.le_refl _) (by omega) HZ.out
        go_wp2
        go_ret
        exact ⟨_, hys, retS_of hys.symm HI2.out HB.out⟩
end Go.Proofs.Ytanoojpmokbiaab
