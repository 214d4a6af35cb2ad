/-
  SplitAny of the model. Conditions: the list's cells are there.
-/
import Derived.Test.YtfkmnlhmldjieaaScM
namespace Go.Proofs.Ytfkmnlhmldjieaa
open Go.RowKit

/-- A push to one of two lists of the call's own leaves the other one as it is. -/
theorem wpList_pushTwo {ops : Array Oper} {rest : List Oper} {o : Oper} {a : Act} {W : World} {y : Int} {Q : Exit → Act → World → Prop} (hgd : o.guard = none) (s x : Operand)
    (ho : o.op = .call { callee := .builtin .append, args := #[s, x], argTypes := #[23, 23] })
    (base : Nat) (v u : Value) (zs us : List Int) (hs : a.eval s = v) (hx : a.eval x = .slice (some ⟨W.heap.size, 0, none⟩) 1 1) (hown : OwnI W base v zs) (hu : OwnI W base u us) (hne : u.ownBlock = none ∨ u.ownBlock ≠ v.ownBlock)
    (hl : zs.length < 17592186044416) (hy : I64 y)
    (h : ∀ v' w', OwnI w' base v' (zs ++ [y]) → OwnI w' base u us → (u.ownBlock = none ∨ u.ownBlock ≠ v'.ownBlock) → Below base W w' → wpList Try.prog ops Q rest (a.put o.dst v') w') : wpList Try.prog ops Q (o :: rest) a (W.alloc (.cells #[.int .i64 y] 3)) := by
  refine wpList_plain hgd fun _ hK => ?_
  obtain ⟨i0, hi, hz0, hz1, hz2⟩ := info_parts info_int
  have hown' := hown.alloc (o := .cells #[.int .i64 y] 3)
  have hu' := hu.alloc (o := .cells #[.int .i64 y] 3)
  obtain ⟨v', w', hrun, h2, h3, _, h5⟩ := run_append_own_at (P := Try.prog) (W.alloc (.cells #[.int .i64 y] 3)) base 23 o.type 3 i0 (.int .i64 0) 1 8 Try.underlying23 hi hz0 hz1 hz2 rfl (by decide) v zs.length (zs.map (Value.int .i64)) hown'.1 ⟨W.heap.size, 0, none⟩ 1 1 [.int .i64 y] rfl
    (fun j u hj => by
      match j, hj with
      | 0, hj => simp at hj; subst hj; simp [Addr.add]) (by simp [Value.oneCell']) (by unfold maxLen; omega) (by omega) hown'.2.2
  unfold Oper.wp execOp
  simp only [ho, resolve, invoke, builtin, Sem.run_bind, Sem.run_pure, Result.andThen_ok, List.map_toArray, List.map_cons, List.map_nil, hs, hx, hrun]
  have hlt : ∀ g, u.ownBlock = some g → g < W.heap.size := fun g hg => (hu.1.lt g hg).2
  refine hK _ _ (h v' w' ⟨by simpa using h2, ?_, Nat.le_trans hown'.2.2 h3.size⟩ ⟨hu'.1.kept h3 hne, hu.2.1, Nat.le_trans hu'.2.2 h3.size⟩ ?_ (OwnI.push_of hown.2.2 ((Below.refl base _).grown h3 hown'.2.2 fun k hk => (hown'.1.lt k hk).1)))
  · intro z hz
    rcases List.mem_append.1 hz with hz | hz
    · exact hown.2.1 z hz
    · obtain rfl := List.mem_singleton.1 hz; exact hy
  · rcases h5 with h5 | h5
    · rw [h5]; exact hne
    · rw [h5]
      cases e : u.ownBlock with
      | none => exact .inl rfl
      | some g =>
        refine .inr fun e2 => ?_
        injection e2 with e2
        have := hlt g e
        simp at e2
        omega
theorem own_ne_symm {u v : Value} {w : World} {base : Nat} {us : List Int} (hu : OwnI w base u us) (h0 : 0 < us.length) (h : u.ownBlock = none ∨ u.ownBlock ≠ v.ownBlock) : v.ownBlock = none ∨ v.ownBlock ≠ u.ownBlock := by
  rcases h with h | h
  · rcases hu.1.2 with ⟨-, h1⟩ | ⟨g, cap, cur, e, _⟩
    · omega
    · rw [e] at h; simp [Value.ownBlock] at h
  · exact .inr fun e => h e.symm
theorem any_bd {W : Int → Int → Int} {n p : Int} (hW : ∀ i j, 0 ≤ i → i ≤ j → j < n → 0 ≤ W i j ∧ W i j ≤ 144000000) (hp : 0 ≤ p ∧ p ≤ 5000) (hn : n ≤ 12) {f : Nat} (hf : (f : Int) ≤ n) {q : Int × Int} (h : AnyOf W p (f : Int) q) : 0 ≤ q.1 ∧ q.1 ≤ 1800000000 ∧ 0 ≤ q.2 ∧ q.2 ≤ 12 := by
  obtain ⟨⟨l, h1, h2, h3⟩, -, -⟩ := h
  have b := segC_bd (n := (f : Int)) (fun i j h0 h1 h2 => hW i j h0 h1 (by omega)) (Int.le_refl 0) h1
  have hl := h1.le
  have m1 := Int.mul_le_mul_of_nonneg_right hp.2 (show 0 ≤ (l.length : Int) by omega)
  have m2 := Int.mul_nonneg hp.1 (show 0 ≤ (l.length : Int) by omega)
  omega

set_option maxRecDepth 100000 in
set_option maxHeartbeats 4000000 in
theorem specSplitAny_any (A : Option Addr) (c : Nat) (zs : List Int) (s : ByteArray) (x : Int) (_hx : I64 x) (w : World) (h : IR w 0 w.heap.size A zs) :
    Calls Try.prog 26 #[.slice A zs.length c, .string s, .int .i64 x] w fun e w' => e = .returned (splitAnyV zs s x) ∧ Below w.heap.size w w' := by
  have H := Lib.hid h; clear h
  cases hg : givenS zs s with
  | false =>
    have HM : Hid (splitAnyV zs s x = .tuple #[.int .i64 0, .int .i64 0, .bool false]) := by show _ = _; unfold splitAnyV anyOkB; rw [hg]; rfl
    have HG := Lib.hid hg; clear hg
    go_enter Try.func26, Try.ntmps26
    go_wp2_with fail
    refine (l8Given_of _ _ _ _ zs s _ H.out HG.out).mono ?_; rintro e w' ⟨rfl, rfl⟩
    go_wp2
    go_ret3
    exact ⟨by rw [HM.out]; rfl, Below.refl _ _⟩
  | true =>
    have hrow := given_row hg
    have hl := (rowB_true.1 hrow).2
    cases hi : inB 0 5000 x with
    | false =>
      have HM : Hid (splitAnyV zs s x = .tuple #[.int .i64 0, .int .i64 0, .bool false]) := by show _ = _; unfold splitAnyV anyOkB; rw [hi, Bool.and_false]; rfl
      have HG := Lib.hid hg; have HI := Lib.hid hi; clear hg hi hrow
      go_enter Try.func26, Try.ntmps26
      go_wp2_with fail
      refine (l8Given_of _ _ _ _ zs s _ H.out HG.out).mono ?_; rintro e w' ⟨rfl, rfl⟩
      go_wp2_with fail
      refine (l6In_false _ _ _ _ HI.out).mono ?_; rintro e w' ⟨rfl, rfl⟩
      go_wp2
      go_ret3
      exact ⟨by rw [HM.out]; rfl, Below.refl _ _⟩
    | true =>
      have hp := inB_true.1 hi
      have HW := Lib.hid (part_row (s := s) hrow)
      obtain ⟨V, hV⟩ : ∃ V, partV zs (sqB s) = V := ⟨_, rfl⟩
      have HP : Hid (∀ (i j : Int) (w : World), IR w 0 w.heap.size A zs → 0 ≤ i → i ≤ j → j < (zs.length : Int) → Calls Try.prog 45 #[.slice A zs.length c, .string s, .int .i64 i, .int .i64 j] w fun e w' => e = .returned (.int .i64 (V i j)) ∧ w = w') :=
        Lib.hid fun i j w h h0 h1 h2 => by rw [← hV]; exact l8Part_at A c _ _ zs.length zs s i j w h hrow h0 h1 h2 rfl
      obtain ⟨n, hn⟩ : ∃ n, zs.length = n := ⟨_, rfl⟩
      have HM : Hid (splitAnyV zs s x = .tuple #[.int .i64 ((anyTab V x n).getD n (0, 0)).1, .int .i64 ((anyTab V x n).getD n (0, 0)).2, .bool true]) := by
        show _ = _; unfold splitAnyV anyOkB; rw [hg, hi, if_pos (by rfl)]
        unfold splitAny anyL
        rw [hV, hn]
      rw [hV] at HW
      have HB : Hid (∀ k f : Nat, k ≤ n → f ≤ k → 0 ≤ ((anyTab V x k).getD f (0, 0)).1 ∧ ((anyTab V x k).getD f (0, 0)).1 ≤ 1800000000 ∧ 0 ≤ ((anyTab V x k).getD f (0, 0)).2 ∧ ((anyTab V x k).getD f (0, 0)).2 ≤ 12) :=
        Lib.hid fun k f hk hf => any_bd HW.out hp (by omega) (by omega) (anyTab_of V x k f hf)
      have HG := Lib.hid hg; have HI := Lib.hid hi
      have HGC := Lib.hid (l8Given_of A c _ _ zs s w H.out HG.out)
      rw [hn] at HW HP hl HGC
      have HN := Lib.hid hn
      have HPX := Lib.hid hp
      have ho1 := Lib.hid (OwnI.one w 0 (by unfold I64; omega))
      have hb1 : Below w.heap.size w (w.alloc (.cells #[.int .i64 0] 3)) := (Below.refl _ w).alloc (Nat.le_refl _) _
      have ho2 := Lib.hid (OwnI.one (w.alloc (.cells #[.int .i64 0] 3)) 0 (by unfold I64; omega))
      clear hg hi hrow hV hp
      rw [hn]
      clear hn
      go_enter Try.func26, Try.ntmps26
      go_wp2_with fail
      refine HGC.out.mono ?_; rintro e w' ⟨rfl, rfl⟩
      go_wp2_with fail
      refine (l6In_true _ _ _ _ HI.out).mono ?_; rintro e w' ⟨rfl, rfl⟩
      go_wp2
      have HN12 := Lib.hid hl.2
      clear hl
      have HO1 : Hid (OwnI ((w.alloc (.cells #[.int .i64 0] 3)).alloc (.cells #[.int .i64 0] 3)) w.heap.size (.slice (some ⟨w.heap.size, 0, none⟩) 1 1) ((anyTab V x 0).map (·.1))) := Lib.hid ho1.out.alloc
      have HO2 : Hid (OwnI ((w.alloc (.cells #[.int .i64 0] 3)).alloc (.cells #[.int .i64 0] 3)) w.heap.size (.slice (some ⟨w.heap.size + 1, 0, none⟩) 1 1) ((anyTab V x 0).map (·.2))) := by
        have := ho2.out
        rw [World.size_alloc] at this
        exact Lib.hid ⟨this.1.mono (by omega), this.2.1, by simp; omega⟩
      have HNE : Hid (Value.ownBlock (.slice (some ⟨w.heap.size + 1, 0, none⟩) 1 1) = none ∨ Value.ownBlock (.slice (some ⟨w.heap.size + 1, 0, none⟩) 1 1) ≠ Value.ownBlock (.slice (some ⟨w.heap.size, 0, none⟩) 1 1)) := Lib.hid (.inr (by simp [Value.ownBlock]))
      have hb2 := hb1.alloc (by simp) (.cells #[.int .i64 0] 3)
      have HB2 := Lib.hid hb2
      clear ho1 ho2 hb1 hb2
      go_loopw [9, 10, 11, 12, 13, 14, 15, 16] (fun vc vp i _ _ _ _ _ wr => ∃ (k : Nat), k ≤ n ∧ i = .int .i64 (k : Int) ∧ OwnI wr w.heap.size vc ((anyTab V x k).map (·.1)) ∧ OwnI wr w.heap.size vp ((anyTab V x k).map (·.2)) ∧ (vp.ownBlock = none ∨ vp.ownBlock ≠ vc.ownBlock) ∧ Below w.heap.size w wr) (fun _ _ i _ _ _ _ _ _ => n - (intOf i).toNat)
      case atStart => exact ⟨0, Nat.zero_le _, rfl, HO1.out, HO2.out, HNE.out, HB2.out⟩
      case round =>
        clear HO1 HO2 HNE HB2
        obtain ⟨k, hk, rfl, oc, op, hne, hb⟩ := hrel
        obtain ⟨W, hW⟩ : ∃ W, W = wr := ⟨_, rfl⟩
        subst hW
        have HNE := Lib.hid hne; have HBL := Lib.hid hb
        have HOC := Lib.hid oc; have HOP := Lib.hid op
        have HAB := Lib.hid (HB.out k)
        obtain ⟨T, hT⟩ : ∃ T, anyTab V x k = T := ⟨_, rfl⟩
        have hTl : T.length = k + 1 := by rw [← hT]; exact anyTab_len V x k
        have HTN : Hid (anyTab V x (k + 1) = T ++ [anyIn V x (fun f => T.getD f (0, 0)) k (k + 1)]) := by rw [← hT]; exact Lib.hid rfl
        rw [hT] at HOC HOP HAB
        have HTL := Lib.hid hTl
        clear hne hb oc op
        by_cases hlt : k < n
        · have hlt' : (k : Int) < (n : Int) := by omega
          have HK12 : Hid (k + 1 ≤ n ∧ k + 1 ≤ 12) := Lib.hid ⟨by omega, by have := HN12.out; omega⟩
          clear hT
          obtain ⟨C1, hC1⟩ : ∃ C1, T.map (·.1) = C1 := ⟨_, rfl⟩
          obtain ⟨C2, hC2⟩ : ∃ C2, T.map (·.2) = C2 := ⟨_, rfl⟩
          have HG1 : Hid (∀ j, C1.getD j 0 = (T.getD j (0, 0)).1) := Lib.hid fun j => by
            rw [← hC1]
            by_cases c : j < T.length
            · rw [getD_in (by simpa using c), List.getElem_map, List.getD_eq_getElem?_getD, List.getElem?_eq_getElem c]; rfl
            · rw [List.getD_eq_getElem?_getD, List.getElem?_eq_none (by simpa using c), List.getD_eq_getElem?_getD, List.getElem?_eq_none (by omega)]; rfl
          have HG2 : Hid (∀ j, C2.getD j 0 = (T.getD j (0, 0)).2) := Lib.hid fun j => by
            rw [← hC2]
            by_cases c : j < T.length
            · rw [getD_in (by simpa using c), List.getElem_map, List.getD_eq_getElem?_getD, List.getElem?_eq_getElem c]; rfl
            · rw [List.getD_eq_getElem?_getD, List.getElem?_eq_none (by simpa using c), List.getD_eq_getElem?_getD, List.getElem?_eq_none (by omega)]; rfl
          have HL1 : Hid (C1.length = k + 1) := Lib.hid (by rw [← hC1, List.length_map]; exact hTl)
          have HL2 : Hid (C2.length = k + 1) := Lib.hid (by rw [← hC2, List.length_map]; exact hTl)
          have HM1 := Lib.hid hC1; have HM2 := Lib.hid hC2
          rw [hC1] at HOC
          rw [hC2] at HOP
          have hoc := HOC.out; have hop := HOP.out
          obtain ⟨Ac, cc, rfl, iwc⟩ := hoc.iw (by rw [HL1.out]; have := HN12.out; omega)
          obtain ⟨Ap, cp, rfl, iwp⟩ := hop.iw (by rw [HL2.out]; have := HN12.out; omega)
          have HIC := Lib.hid iwc.toIR; have HIP := Lib.hid iwp.toIR
          obtain ⟨bc, oc, rfl, -, -, -⟩ := HIC.out.at_ (k := 0) (by rw [HL1.out]; have := HN12.out; omega)
          obtain ⟨bp, op, rfl, -, -, -⟩ := HIP.out.at_ (k := 0) (by rw [HL2.out]; omega)
          rw [HL1.out, HL2.out]
          rw [HL1.out] at HOC HNE
          rw [HL2.out] at HOP HNE
          clear iwc iwp hoc hop hC1 hC2 hTl
          go_wp2
          go_loopw [12, 13, 14, 15, 16] (fun be le fr _ _ wr => ∃ (j m : Nat), j ≤ k + 1 ∧ fr = .int .i64 (j : Int) ∧ be = .int .i64 (anyIn V x (fun f => T.getD f (0, 0)) k j).1 ∧ le = .int .i64 (anyIn V x (fun f => T.getD f (0, 0)) k j).2 ∧ wr = W.drewN m) (fun _ _ fr _ _ _ => k + 1 - (intOf fr).toNat)
          case atStart => exact ⟨0, 0, Nat.zero_le _, rfl, rfl, rfl, rfl⟩
          case round =>
            obtain ⟨j, m, hj, rfl, rfl, rfl, hwr⟩ := hrel
            by_cases hjl : j < k + 1
            · have hjl' : (j : Int) ≤ (k : Int) := by omega
              have HJL : Hid (j + 1 ≤ k + 1) := Lib.hid (by omega)
              have s0 : IntKind.i64.wrap ((j : Int) + 1) = (j : Int) + 1 := IntWalk.i64_in _ (by have := HK12.out; omega)
              have hj1 : (j : Int) < ((k + 1 : Nat) : Int) := by omega
              obtain ⟨_, _, e, _, _, hcc⟩ := HIC.out.at_ (k := j) (by rw [HL1.out]; omega)
              injection e with e; injection e with e1 e2 _; subst e1; subst e2
              obtain ⟨_, _, e, _, _, hcp⟩ := HIP.out.at_ (k := j) (by rw [HL2.out]; omega)
              injection e with e; injection e with e1 e2 _; subst e1; subst e2
              rw [← getD_in, HG1.out] at hcc
              rw [← getD_in, HG2.out] at hcp
              have hcc' : wr.cell? ⟨bc, oc + j, none⟩ = some (.int .i64 (T.getD j (0, 0)).1) := by rw [hwr]; exact hcc
              have hcp' : wr.cell? ⟨bp, op + j, none⟩ = some (.int .i64 (T.getD j (0, 0)).2) := by rw [hwr]; exact hcp
              have HAT := Lib.hid (HAB.out j (by omega) (by omega))
              have hvb := HW.out (j : Int) (k : Int) (by omega) (by omega) (by omega)
              have HC : Hid (∀ m' : Nat, Calls Try.prog 45 #[.slice A n c, .string s, .int .i64 (j : Int), .int .i64 (k : Int)] (wr.drewN m') fun e w' => e = .returned (.int .i64 (V (j : Int) (k : Int))) ∧ w' = wr.drewN m') :=
                Lib.hid fun m' => (HP.out (j : Int) (k : Int) (wr.drewN m') ((show IR wr 0 wr.heap.size A zs by rw [hwr]; exact (H.out.grow HBL.out).toAll).drewN m') (by omega) (by omega) (by omega)).mono fun e w' ⟨h1, h2⟩ => ⟨h1, h2.symm⟩
              have HST : Hid (anyIn V x (fun f => T.getD f (0, 0)) k (j + 1) = anyStep (anyIn V x (fun f => T.getD f (0, 0)) k j) (decide (j = 0)) ((T.getD j (0, 0)).1 + V (j : Int) (k : Int) + x) ((T.getD j (0, 0)).2 + 1)) := Lib.hid rfl
              have HWR := Lib.hid hwr
              have hat := HAT.out
              have hpx := HPX.out
              generalize T.getD j (0, 0) = q at hcc' hcp' hat HST HAT
              obtain ⟨q1, q2⟩ := q
              generalize V (j : Int) (k : Int) = y at HC HST hvb
              generalize anyIn V x (fun f => T.getD f (0, 0)) k j = a at HST
              obtain ⟨a1, a2⟩ := a
              dsimp only at hcc' hcp' hat HST
              dsimp only
              have t1 : IntKind.i64.wrap (q1 + y) = q1 + y := IntWalk.i64_in _ (by omega)
              have t2 : IntKind.i64.wrap (q1 + y + x) = q1 + y + x := IntWalk.i64_in _ (by omega)
              have t3 : IntKind.i64.wrap (q2 + 1) = q2 + 1 := IntWalk.i64_in _ (by omega)
              have t4 : (0 : Int) ≤ (j : Int) := by omega
              clear hwr hcc hcp hvb hat hpx HAT
              go_wp2
              go_quiet ((go_at_call 45; exact Calls.quiet_of_same (HC.out _)))
              have hst := HST.out
              unfold anyStep at hst
              have HS1 : Hid ((j = 0 ∨ q1 + y + x < a1 ∨ (q1 + y + x = a1 ∧ q2 + 1 < a2)) → anyIn V x (fun f => T.getD f (0, 0)) k (j + 1) = (q1 + y + x, q2 + 1)) := Lib.hid fun e => by
                rw [hst, if_pos (e.imp (fun e => by simpa using e) id)]
              have HS2 : Hid (¬ (j = 0 ∨ q1 + y + x < a1 ∨ (q1 + y + x = a1 ∧ q2 + 1 < a2)) → anyIn V x (fun f => T.getD f (0, 0)) k (j + 1) = (a1, a2)) := Lib.hid fun e => by
                rw [hst, if_neg (fun e2 => e (e2.imp (fun e => by simpa using e) id))]
              clear hst HST
              generalize q1 + y + x = Q at HS1 HS2 t2
              have HPOS : Hid ((j = 0 ∨ Q < a1 ∨ (Q = a1 ∧ q2 + 1 < a2)) ∨ ¬ (j = 0 ∨ Q < a1 ∨ (Q = a1 ∧ q2 + 1 < a2))) := Lib.hid (Classical.em _)
              by_cases c0 : j = 0
              · have HNEW := Lib.hid (HS1.out (.inl c0))
                have c0b : ((j : Int) == 0) = true := by rw [c0]; rfl
                clear c0 HS1 HS2 HPOS
                go_wp2
                go_roundw
                case rel => exact ⟨j + 1, _, HJL.out, by have := HK12.out; have := HJL.out; go_num, by rw [HNEW.out], by rw [HNEW.out], by rw [HWR.out]; exact World.drewN_drewN _ _ _⟩
                case measure => have := HJL.out; have := HK12.out; simp [intOf]; omega
              · have c0' : ¬ (j : Int) = 0 := by omega
                have c0b : ((j : Int) == 0) = false := by rw [beq_eq_false_iff_ne]; exact c0'
                by_cases c1 : Q < a1
                · have HNEW := Lib.hid (HS1.out (.inr (.inl c1)))
                  clear HS1 HS2 HPOS
                  go_wp2
                  go_roundw
                  case rel => exact ⟨j + 1, _, HJL.out, by have := HK12.out; have := HJL.out; go_num, by rw [HNEW.out], by rw [HNEW.out], by rw [HWR.out]; exact World.drewN_drewN _ _ _⟩
                  case measure => have := HJL.out; have := HK12.out; simp [intOf]; omega
                · by_cases c2 : Q = a1
                  · by_cases c3 : q2 + 1 < a2
                    · have HNEW := Lib.hid (HS1.out (.inr (.inr ⟨c2, c3⟩)))
                      have c2b : (Q == a1) = true := by simpa using c2
                      clear HS1 HS2 HPOS
                      go_wp2
                      go_roundw
                      case rel => exact ⟨j + 1, _, HJL.out, by have := HK12.out; have := HJL.out; go_num, by rw [HNEW.out], by rw [HNEW.out], by rw [HWR.out]; exact World.drewN_drewN _ _ _⟩
                      case measure => have := HJL.out; have := HK12.out; simp [intOf]; omega
                    · have HNEW := Lib.hid (HS2.out (fun e => by rcases e with e | e | e <;> first | exact c0 e | exact c1 e | exact c3 e.2))
                      have c2b : (Q == a1) = true := by simpa using c2
                      clear HS1 HS2 HPOS
                      go_wp2
                      go_roundw
                      case rel => exact ⟨j + 1, _, HJL.out, by have := HK12.out; have := HJL.out; go_num, by rw [HNEW.out], by rw [HNEW.out], by rw [HWR.out]; exact World.drewN_drewN _ _ _⟩
                      case measure => have := HJL.out; have := HK12.out; simp [intOf]; omega
                  · have HNEW := Lib.hid (HS2.out (fun e => by rcases e with e | e | e <;> first | exact c0 e | exact c1 e | exact c2 e.1))
                    have c2b : (Q == a1) = false := by simpa using c2
                    clear HS1 HS2 HPOS
                    go_wp2
                    go_roundw
                    case rel => exact ⟨j + 1, _, HJL.out, by have := HK12.out; have := HJL.out; go_num, by rw [HNEW.out], by rw [HNEW.out], by rw [HWR.out]; exact World.drewN_drewN _ _ _⟩
                    case measure => have := HJL.out; have := HK12.out; simp [intOf]; omega
            · obtain rfl : j = k + 1 := by omega
              have hjl' : ¬ ((k + 1 : Nat) : Int) ≤ (k : Int) := by omega
              have hjl2 : ¬ (k : Int) + 1 ≤ (k : Int) := by omega
              have HNB : Hid (0 ≤ (anyIn V x (fun f => T.getD f (0, 0)) k (k + 1)).1 ∧ (anyIn V x (fun f => T.getD f (0, 0)) k (k + 1)).1 ≤ 1800000000 ∧ 0 ≤ (anyIn V x (fun f => T.getD f (0, 0)) k (k + 1)).2 ∧ (anyIn V x (fun f => T.getD f (0, 0)) k (k + 1)).2 ≤ 12) := by
                have h1 := HB.out (k + 1) (k + 1) (by omega) (Nat.le_refl _)
                rw [HTN.out, List.getD_eq_getElem?_getD, List.getElem?_append_right (by rw [HTL.out]; exact Nat.le_refl _), HTL.out, Nat.sub_self] at h1
                exact Lib.hid h1
              generalize anyIn V x (fun f => T.getD f (0, 0)) k (k + 1) = q at HNB HTN
              obtain ⟨q1, q2⟩ := q
              have hnb := HNB.out
              dsimp only at hnb
              dsimp only
              have HY1 : Hid (I64 q1) := ⟨by omega, by omega⟩
              have HY2 : Hid (I64 q2) := ⟨by omega, by omega⟩
              have HWR := Lib.hid hwr
              have HOCm : Hid (OwnI wr w.heap.size (.slice (some ⟨bc, oc, none⟩) (k + 1) cc) C1) := Lib.hid (by rw [hwr]; exact HOC.out.drewN m)
              have HOPm : Hid (OwnI wr w.heap.size (.slice (some ⟨bp, op, none⟩) (k + 1) cp) C2) := Lib.hid (by rw [hwr]; exact HOP.out.drewN m)
              have HBm : Hid (Below w.heap.size w wr) := Lib.hid (by rw [hwr]; exact below_drawN HBL.out m)
              have HLL1 : Hid (C1.length < 17592186044416) := Lib.hid (by have := HL1.out; have := HN12.out; omega)
              have HLL2 : Hid (C2.length < 17592186044416) := Lib.hid (by have := HL2.out; have := HN12.out; omega)
              have HL10 : Hid (0 < C1.length) := Lib.hid (by have := HL1.out; omega)
              have HL20 : Hid (0 < C2.length) := Lib.hid (by have := HL2.out; omega)
              have s0 : IntKind.i64.wrap ((k : Int) + 1) = (k : Int) + 1 := IntWalk.i64_in _ (by have := HK12.out; omega)
              clear hwr hnb HNB
              go_wp2_with (at_builtin; first
                | (refine wpList_pushTwo rfl _ _ rfl w.heap.size _ (.slice (some ⟨bp, op, none⟩) (k + 1) cp) C1 C2 rfl rfl HOCm.out HOPm.out HNE.out HLL1.out HY1.out ?_; intro v5 w5 o5 p5 n5 b5; have HO5 := Lib.hid o5; have HP5 := Lib.hid p5; have HN5 := Lib.hid n5; have HB5 := Lib.hid b5; clear o5 p5 n5 b5)
                | (refine wpList_pushTwo rfl _ _ rfl w.heap.size _ v5 C2 (C1 ++ [q1]) rfl rfl HP5.out HO5.out (own_ne_symm HP5.out HL20.out HN5.out) HLL2.out HY2.out ?_; intro v6 w6 o6 p6 n6 b6; have HO6 := Lib.hid o6; have HP6 := Lib.hid p6; have HN6 := Lib.hid n6; have HB6 := Lib.hid b6; clear o6 p6 n6 b6))
              have HE1 : Hid ((anyTab V x (k + 1)).map (·.1) = C1 ++ [q1]) := Lib.hid (by rw [HTN.out, List.map_append, HM1.out]; rfl)
              have HE2 : Hid ((anyTab V x (k + 1)).map (·.2) = C2 ++ [q2]) := Lib.hid (by rw [HTN.out, List.map_append, HM2.out]; rfl)
              go_roundw
              case rel => exact ⟨k + 1, by omega, by have := HK12.out; go_num, by rw [HE1.out]; exact HP6.out, by rw [HE2.out]; exact HO6.out, own_ne_symm HP6.out (by simp) HN6.out, (HBm.out.trans HB5.out).trans HB6.out⟩
              case measure => have := HK12.out; simp [intOf]; omega
        · obtain rfl : k = n := by omega
          have hlt' : ¬ (k : Int) < (k : Int) := by omega
          rw [hT] at HM
          obtain ⟨C1, hC1⟩ : ∃ C1, T.map (·.1) = C1 := ⟨_, rfl⟩
          obtain ⟨C2, hC2⟩ : ∃ C2, T.map (·.2) = C2 := ⟨_, rfl⟩
          have HL1 : Hid (C1.length = k + 1) := Lib.hid (by rw [← hC1, List.length_map]; exact hTl)
          have HL2 : Hid (C2.length = k + 1) := Lib.hid (by rw [← hC2, List.length_map]; exact hTl)
          have hg1 : C1.getD k 0 = (T.getD k (0, 0)).1 := by
            rw [← hC1, getD_in (by rw [List.length_map]; omega), List.getElem_map, List.getD_eq_getElem?_getD, List.getElem?_eq_getElem (by omega)]; rfl
          have hg2 : C2.getD k 0 = (T.getD k (0, 0)).2 := by
            rw [← hC2, getD_in (by rw [List.length_map]; omega), List.getElem_map, List.getD_eq_getElem?_getD, List.getElem?_eq_getElem (by omega)]; rfl
          rw [hC1] at HOC
          rw [hC2] at HOP
          have hoc := HOC.out; have hop := HOP.out
          obtain ⟨Ac, cc, rfl, iwc⟩ := hoc.iw (by rw [HL1.out]; have := HN12.out; omega)
          obtain ⟨Ap, cp, rfl, iwp⟩ := hop.iw (by rw [HL2.out]; have := HN12.out; omega)
          obtain ⟨bc, oc, rfl, -, -, hcc⟩ := iwc.toIR.at_ (k := k) (by rw [HL1.out]; omega)
          obtain ⟨bp, op, rfl, -, -, hcp⟩ := iwp.toIR.at_ (k := k) (by rw [HL2.out]; omega)
          rw [← getD_in, hg1] at hcc
          rw [← getD_in, hg2] at hcp
          rw [HL1.out, HL2.out]
          have hj1 : (k : Int) < ((k + 1 : Nat) : Int) := by omega
          generalize T.getD k (0, 0) = q at HM hcc hcp hg1 hg2
          obtain ⟨q1, q2⟩ := q
          dsimp only at hcc hcp
          clear iwc iwp hoc hop hC1 hC2 hTl hg1 hg2 hT
          go_wp2
          go_quiet (fail)
          go_wp2
          go_ret3
          exact ⟨by rw [HM.out]; rfl, below_drawN HBL.out _⟩
end Go.Proofs.Ytfkmnlhmldjieaa
