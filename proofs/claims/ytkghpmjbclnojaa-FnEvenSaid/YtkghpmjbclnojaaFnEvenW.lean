/-
  The law FnEven walked: for all codes it returns true, and nothing that lay before has turned. Conditions: none but those of its row.
-/
import Derived.Test.YtkghpmjbclnojaaDrawEv
import Derived.Test.YtkghpmjbclnojaaEvB
import Derived.Test.YtkghpmjbclnojaaSame
namespace Go.Proofs.Ytkghpmjbclnojaa
open Go.RowKit

open Go.Shelf

set_option maxRecDepth 100000 in
set_option maxHeartbeats 4000000 in
theorem lawSorted_is (A : Option Addr) (n c : Nat) (zs : List Int) (w : World) (h : IR w 0 w.heap.size A zs) (hn : zs.length ≤ 1048576) (hnn : n = zs.length) :
    Calls Try.prog 35 #[.slice A n c] w fun e w' => ∃ zs', zs'.Perm zs ∧ Sorted zs' ∧ RetS w zs' e w' := by
  subst hnn
  have H := Lib.hid h
  clear h
  have HA := Lib.hid (H.out.grow ((Below.refl _ _).alloc (Nat.le_refl _) (.cells #[] 3)))
  go_enter Try.func35, Try.ntmps35
  go_wp2_with (at_builtin; refine wpList_appendsI rfl _ _ rfl w.heap.size _ [] zs A _ _ _ c rfl rfl rfl (OwnI.made w) HA.out (by simp; omega) ?_; intro v1 w1 ho1 hb1; have HO1 := Lib.hid ho1; have HB1 := Lib.hid hb1; clear ho1 hb1)
  have HL1 : Hid (([] ++ zs : List Int).length = zs.length) := by show _ = _; simp
  obtain ⟨A1, c1, rfl, hi1⟩ := HO1.out.iwn HL1.out (by omega)
  have HI1 := Lib.hid hi1
  clear hi1 HO1 HA
  rcases Nat.eq_zero_or_pos zs.length with h0 | h0
  · have h0' : ¬ (1 : Int) < (zs.length : Int) := by omega
    go_wp2
    refine wp_loop_rounds 1 ?_
    rw [rounds_succ]
    go_wp2
    go_ret
    exact ⟨_, by rw [List.nil_append], sorted_getD (fun i j h1 h2 => by rw [HL1.out] at h2; omega), retS_of (by rw [HL1.out]; exact h0.symm) HI1.out (((Below.refl _ _).alloc (Nat.le_refl _) _).trans HB1.out)⟩
  · obtain ⟨b, off, rfl, hlo, hhi, hcs⟩ := HI1.out.2.2.2 (by rw [HL1.out]; exact h0)
    have HC1 : Hid (Cells w1 b off ([] ++ zs)) := hcs
    have HZ1 := Lib.hid HI1.out.2.1
    clear hcs HI1
    have HW1 : Hid (Below w.heap.size w w1) := ((Below.refl _ _).alloc (Nat.le_refl _) _).trans HB1.out
    clear HB1
    go_wp2
    go_loopw [4] (fun i wr => ∃ (k : Nat) (ys : List Int), i = .int .i64 ((k : Int) + 1) ∧ k < zs.length ∧ UpTo zs ys k ∧ (∀ y, y ∈ ys → I64 y) ∧ Cells wr b off ys ∧ Below w.heap.size w wr ∧ wr.heap.size = w1.heap.size) (fun i _ => zs.length - (intOf i).toNat)
    case atStart => exact ⟨0, _, rfl, h0, ⟨HL1.out, by rw [List.nil_append], fun i j h1 h2 => by omega⟩, HZ1.out, HC1.out, HW1.out, rfl⟩
    case round =>
      obtain ⟨k, ys, rfl, hk, hup, hz, hc, hb, hsz⟩ := hrel
      have HU := Lib.hid hup
      have hys : ys.length = zs.length := hup.1
      clear hup
      have HZ := Lib.hid hz; have HC := Lib.hid hc; have HB := Lib.hid hb; have HS := Lib.hid hsz
      clear hz hc hb hsz HC1 HZ1 HW1
      by_cases hlt : k + 1 < zs.length
      · have hlt' : (k : Int) + 1 < (zs.length : Int) := by omega
        have hk1 : k + 1 < ys.length := by omega
        obtain ⟨hc1, -⟩ := HC.out (k + 1) hk1
        obtain ⟨X, hX⟩ : ∃ X, ys[k + 1]'hk1 = X := ⟨_, rfl⟩
        rw [hX] at hc1
        have hXi : I64 X := by rw [← hX]; exact HZ.out _ (List.getElem_mem hk1)
        obtain ⟨hX1, hX2⟩ := hXi
        have q0 : (0 : Int) ≤ (k : Int) + 1 := by omega
        have q1 : ((k : Int) + 1).toNat = k + 1 := by omega
        have HOL : Hid (Hole zs ys X (k + 1) (k + 1)) := by
          have := Hole.begin HU.out hlt
          rw [getD_in hk1, hX] at this; exact this
        clear hX
        go_wp2
        go_loopw [6] (fun i wr => ∃ (M : Int) (ys : List Int), i = .int .i64 M ∧ 0 ≤ M ∧ M < (zs.length : Int) ∧ Hole zs ys X M.toNat (k + 1) ∧ (∀ y, y ∈ ys → I64 y) ∧ Cells wr b off ys ∧ Below w.heap.size w wr ∧ wr.heap.size = w1.heap.size) (fun i _ => (intOf i).toNat)
        case atStart => exact ⟨(k : Int) + 1, _, rfl, q0, hlt', (by rw [q1]; exact HOL.out), HZ.out, HC.out, HB.out, HS.out⟩
        case round =>
          clear hk1 hc1 q1 HZ HC HB HS hys HU HOL
          obtain ⟨M, ys, rfl, p0, p1, hup, hz, hc, hb, hsz⟩ := hrel
          have HU := Lib.hid hup
          have hys : ys.length = zs.length := hup.1
          clear hup
          have HZ := Lib.hid hz; have HC := Lib.hid hc; have HB := Lib.hid hb; have HS := Lib.hid hsz
          clear hz hc hb hsz
          have hmy : M.toNat < ys.length := by omega
          obtain ⟨hcm, hfm⟩ := HC.out M.toNat hmy
          obtain ⟨Z, hZ⟩ : ∃ Z, ys[M.toNat]'hmy = Z := ⟨_, rfl⟩
          rw [hZ] at hcm
          clear hZ
          have HX : Hid (I64 X) := ⟨hX1, hX2⟩
          have HN := Lib.hid (HC.out.set_ M.toNat hmy X)
          by_cases p2 : 0 < M
          · have hj : (M.toNat - 1) < ys.length := by omega
            obtain ⟨hcj, -⟩ := HC.out (M.toNat - 1) hj
            obtain ⟨Y, hY⟩ : ∃ Y, ys[(M.toNat - 1)]'hj = Y := ⟨_, rfl⟩
            rw [hY] at hcj
            have HY : Hid (I64 Y) := by rw [← hY]; exact HZ.out _ (List.getElem_mem hj)
            have p3 : (0 : Int) ≤ M - 1 := by omega
            have p4 : M - 1 < (zs.length : Int) := by omega
            have HN2 := Lib.hid (HC.out.set_ M.toNat hmy Y)
            have HYD : Hid (ys.getD (M.toNat - 1) 0 = Y) := (getD_in hj).trans hY
            clear hY hj hmy
            by_cases hlt2 : X < Y
            · go_wp2
              go_roundw
              case rel => exact ⟨M - 1, _, rfl, p3, p4, (by have h9 := Hole.step HU.out (by omega) (by rw [HYD.out]; exact hlt2); rw [HYD.out] at h9; rw [show (M - 1).toNat = M.toNat - 1 by omega]; exact h9), setI64 HZ.out HY.out, HN2.out, HB.out.setCell hlo _, by simpa [World.setCell] using HS.out⟩
              case measure => simp [intOf]; omega
            · go_wp2
              go_roundw
              case rel => exact ⟨k + 1, _, by go_num, by omega, Hole.done HU.out (.inr (by rw [HYD.out]; omega)), setI64 HZ.out HX.out, HN.out, HB.out.setCell hlo _, by simpa [World.setCell] using HS.out⟩
              case measure => simp [intOf]; omega
          · clear hmy
            go_wp2
            go_roundw
            case rel => exact ⟨k + 1, _, by go_num, by omega, Hole.done HU.out (.inl (by omega)), setI64 HZ.out HX.out, HN.out, HB.out.setCell hlo _, by simpa [World.setCell] using HS.out⟩
            case measure => simp [intOf]; omega
      · have hkn : k + 1 = zs.length := by omega
        have hlt' : ¬ (k : Int) + 1 < (zs.length : Int) := by omega
        have HI2 : Hid (IW wr w.heap.size wr.heap.size (some ⟨b, off, none⟩) ys) := HC.out.iw hys hlo (by rw [HS.out]; exact hhi) (Nat.le_refl _) (by omega) HZ.out
        go_wp2
        go_ret
        exact ⟨_, HU.out.2.1, UpTo.sorted HU.out hkn, retS_of hys.symm HI2.out HB.out⟩

theorem lawSorted_any (A : Option Addr) (n c : Nat) (zs : List Int) (w : World) (h : IR w 0 w.heap.size A zs) (hl : zs.length ≤ 1048576) (hn : n = zs.length) :
    Calls Try.prog 35 #[.slice A n c] w (RetS w (ascL zs)) :=
  (lawSorted_is A n c zs w h hl hn).mono fun e w' ⟨ys, hp, hs, hr⟩ => by
    have e1 : ys = ascL zs := by rw [asc_rev, ← sorted_down hp hs, List.reverse_reverse]
    rw [← e1]; exact hr

/-- The sum, as int64 adds. -/
def totW (zs : List Int) : Int := zs.foldl (fun a z => wrap64 (a + z)) 0
theorem totW_snoc (zs : List Int) (z : Int) : totW (zs ++ [z]) = wrap64 (totW zs + z) := by simp [totW]

theorem totW_slopes (zs : List Int) (hr : rowB zs = true) (k : Nat) (hk : k < zs.length) : totW ((slopesL zs).take k) = zs[k] - zs[0]'(by omega) := by
  induction k with
  | zero => simp [totW]
  | succ k ih =>
    rw [← take_slopes zs k hk, totW_snoc, ih (by omega)]
    have b0 := (rowB_true.1 hr).1 _ (List.getElem_mem (show 0 < zs.length by omega))
    have b1 := (rowB_true.1 hr).1 _ (List.getElem_mem (show k < zs.length by omega))
    have b2 := (rowB_true.1 hr).1 _ (List.getElem_mem hk)
    unfold wrap64
    omega

set_option maxHeartbeats 400000 in
theorem total_any (A : Option Addr) (n c lo hi : Nat) (zs : List Int) (w : World) (h : IR w lo hi A zs) (hn : n = zs.length) :
    Calls Try.prog 16 #[.slice A n c] w fun e w' => e = .returned (.int .i64 (totW zs)) ∧ w' = w := by
  subst hn
  have hl := h.1
  go_enter Try.func16, Try.ntmps16
  go_wp2
  go_loop [3, 4] (fun s i => ∃ k : Nat, k ≤ zs.length ∧ i = .int .i64 k ∧ s = .int .i64 (totW (zs.take k))) (fun _ i => zs.length - (intOf i).toNat)
  case atStart => exact ⟨0, Nat.zero_le _, rfl, rfl⟩
  case round =>
    obtain ⟨k, hk, rfl, rfl⟩ := hrel
    by_cases hlt : k < zs.length
    · obtain ⟨b, off, rfl, _, _, hc⟩ := h.at_ hlt
      have hlt' : (k : Int) < (zs.length : Int) := by omega
      obtain ⟨T, hT⟩ : ∃ T, totW (zs.take k) = T := ⟨_, rfl⟩
      have HT : Hid (totW (zs.take (k + 1)) = wrap64 (T + zs[k])) := by show _ = _; rw [← take_snoc zs k hlt, totW_snoc, hT]
      have s1 : IntKind.i64.wrap (T + zs[k]) = wrap64 (T + zs[k]) := IntWalk.i64_left _
      rw [hT]
      clear hT
      go_wp2
      go_round
      case rel => exact ⟨k + 1, by omega, by go_num, by rw [HT.out]⟩
      case measure => simp [intOf]; omega
    · obtain rfl : k = zs.length := by omega
      have hall : zs.take zs.length = zs := List.take_length
      rw [hall]
      go_wp2
      go_ret
      exact ⟨rfl, rfl⟩
set_option maxHeartbeats 1000000 in
/-- Two lists of one length: whether they are alike. -/
theorem sameInts_decE (A A' : Option Addr) (n n' c c' lo hi lo' hi' : Nat) (xs ys : List Int) (w : World) (h : IR w lo hi A xs) (h' : IR w lo' hi' A' ys) (hn : n = xs.length) (hn' : n' = ys.length) (hl : ys.length = xs.length) :
    Calls Try.prog 13 #[.slice A n c, .slice A' n' c'] w fun e w' => e = .returned (.bool (decide (xs = ys))) ∧ Below w.heap.size w w' := by
  subst hn
  rw [hl] at hn'
  subst hn'
  have hlx := h.1
  have HL := Lib.hid hl
  clear hl
  go_enter Try.func13, Try.ntmps13
  go_wp2
  go_loopw [5] (fun i wr => ∃ k m : Nat, k ≤ xs.length ∧ i = .int .i64 k ∧ wr = w.drewN m ∧ ∀ j, j < k → xs.getD j 0 = ys.getD j 0) (fun i _ => xs.length - (intOf i).toNat)
  case atStart => exact ⟨0, 0, Nat.zero_le _, rfl, rfl, fun j hj => by omega⟩
  case round =>
    obtain ⟨k, m, hk, rfl, rfl, hall⟩ := hrel
    have HA := Lib.hid hall
    clear hall
    by_cases hlt : k < xs.length
    · have hlt2 : k < ys.length := by rw [HL.out]; exact hlt
      obtain ⟨b, off, rfl, _, _, hc⟩ := h.at_ hlt
      obtain ⟨b', off', rfl, _, _, hc'⟩ := h'.at_ hlt2
      have hlt' : (k : Int) < (xs.length : Int) := by omega
      have G1 := Lib.hid (getD_in hlt); have G2 := Lib.hid (getD_in hlt2)
      by_cases e : xs[k] = ys[k]
      · have E := Lib.hid e
        go_wp2
        go_quiet (fail)
        go_wp2
        go_roundw
        case rel =>
          refine ⟨k + 1, _, by omega, by go_num, rfl, fun j hj => ?_⟩
          by_cases ej : j = k
          · subst ej; rw [G1.out, G2.out]; exact E.out
          · exact HA.out j (by omega)
        case measure => simp [intOf]; omega
      · have E := Lib.hid e
        go_wp2
        go_quiet (fail)
        go_wp2
        go_ret
        refine ⟨ret_bool ?_, below_drawN (below_drawN (Below.refl _ _) _) _⟩
        rw [Eq.comm, decide_eq_false_iff_not]
        intro hq
        apply E.out
        subst hq; rfl
    · obtain rfl : k = xs.length := by omega
      go_wp2
      go_ret
      refine ⟨ret_bool ?_, below_drawN (Below.refl _ _) _⟩
      rw [Eq.comm, decide_eq_true_iff]
      apply List.ext_getElem HL.out.symm
      intro j j1 j2
      have := HA.out j j1
      rwa [getD_in j1, getD_in j2] at this
section
variable {P : Program} {Q : Exit → Act → World → Prop}
set_option maxRecDepth 100000 in
theorem wpT_enterG {o : Oper} {a : Act} {w w' : World} {K : Act → World → Prop} {f : FuncId} {args : Array Value} (hr : (execOp a.eval o).run P w = .ok (.enter f args) w')
    (h : Calls P f args w' fun e w'' => ∃ v, e = .returned v ∧ K (a.put o.dst v) w'') : WpT P o a w K Q := by
  refine ⟨?_⟩
  unfold Oper.wp
  rw [hr]
  exact h.mono fun e w' ⟨v, he, hK⟩ => by subst he; exact hK
set_option maxRecDepth 100000 in
theorem wpT_callG {o : Oper} {a : Act} {w : World} {K : Act → World → Prop} {f : FuncId} {ags : Array Operand} {ts : Array TypeId} {args : Array Value} (ho : o.op = .call { callee := .value (.func f), args := ags, argTypes := ts }) (hen : ∀ args w, (callFunc f args).run P w = .ok (.enter f args) w) (ha : ags.map a.eval = args)
    (h : Calls P f args w fun e w' => ∃ v, e = .returned v ∧ K (a.put o.dst v) w') : WpT P o a w K Q := by
  refine wpT_enterG (f := f) (args := args) ?_ h
  unfold execOp
  simp [ho, go_sem, ha, hen]
end

theorem wrap64_add (a z : Int) : wrap64 (wrap64 a + z) = wrap64 (a + z) := by unfold wrap64; omega
theorem tot_from : ∀ (zs : List Int) (a : Int), zs.foldl (fun a z => wrap64 (a + z)) (wrap64 a) = wrap64 (a + sumL zs)
  | [], a => by simp [sumL]
  | z :: zs, a => by
    have h1 : sumL (z :: zs) = z + sumL zs := by simp [sumL]
    rw [List.foldl_cons, wrap64_add, tot_from zs (a + z), h1, Int.add_assoc]
theorem tot_sum (zs : List Int) : totW zs = wrap64 (sumL zs) := by
  have h0 : wrap64 0 = 0 := by unfold wrap64; omega
  have := tot_from zs 0
  rw [h0, Int.zero_add] at this
  exact this
theorem even_law {a b : List Int} (h : evenIsB a b = true) : 0 < a.length ∧ (ascL a).length = a.length ∧ (ascL b).length = a.length ∧ a.length ≤ 12 ∧ b.length = a.length ∧ totW a = totW b ∧ (ascL a).getD (a.length - 1) 0 ≤ (ascL b).getD (a.length - 1) 0 ∧ (ascL b).getD 0 0 ≤ (ascL a).getD 0 0 ∧ evenIsB b a = decide (ascL a = ascL b) := by
  obtain ⟨h1, h2, h3⟩ := evenIs_true.1 h
  have h0 := row_pos h1
  have hl := h3.1
  obtain ⟨e1, e2⟩ := ev_ends h3 h0
  refine ⟨h0, (asc_perm a).length_eq, by rw [(asc_perm b).length_eq]; exact hl.symm, (rowB_true.1 h1).2.2, hl.symm, by rw [tot_sum, tot_sum, h3.2.1], e1, e2, ?_⟩
  have hd : (ascL a = ascL b) ↔ downL a = downL b := by rw [asc_rev, asc_rev, List.reverse_inj]
  by_cases c : downL a = downL b
  · rw [evenIs_true.2 ⟨h2, h1, (Ev.both h3).2 c⟩, decide_eq_true (hd.2 c)]
  · rw [decide_eq_false (fun e => c (hd.1 e))]
    cases hq : evenIsB b a with
    | false => rfl
    | true => exact absurd ((Ev.both h3).1 (evenIs_true.1 hq).2.2) c


theorem evenIs_n {n n' : Nat} (A0 : Option Addr) (c0 : Nat) (a : List Int) (A1 : Option Addr) (c1 : Nat) (b : List Int) (w : World) (h0 : IR w 0 w.heap.size A0 a) (h1 : IR w 0 w.heap.size A1 b) (hn : n = a.length) (hn' : n' = b.length) :
    Calls Try.prog 33 #[.slice A0 n c0, .slice A1 n' c1] w fun e w' => e = .returned (.bool (evenIsB a b)) ∧ Below w.heap.size w w' := by
  subst hn; subst hn'; exact implEvenIs_any A0 c0 a A1 c1 b w h0 h1

set_option maxHeartbeats 1500000 in
set_option maxRecDepth 100000 in
theorem lawFnEven_any (A0 : Option Addr) (c0 : Nat) (bs : List Int) (w : World) (h0 : BR w w.heap.size A0 bs) (hc : bs.length ≤ c0) (hc2 : c0 ≤ 9000000000000000000) :
    Calls Try.prog 9 #[.slice A0 bs.length c0] w fun e w' => e = .returned (.bool true) ∧ Below w.heap.size w w' := by
  by_cases hbig : (1048576 : Int) < (bs.length : Int)
  · clear h0
    go_enter Try.func9, Try.ntmps9
    go_wp2
    go_ret
    exact ⟨rfl, Below.refl _ _⟩
  have H0 := Lib.hid h0
  clear h0
  have BB := Lib.hid (Below.refl w.heap.size w)
  go_enter Try.func9, Try.ntmps9
  go_wp2_with fail
  refine (DrawEvenIs_any _ _ bs _ H0.out hc hc2).mono ?_
  rintro e w1 ⟨A, c, za, B, d, zb, rfl, hza, hzb, iwa, iwb, bb⟩
  replace BB := Lib.hid (below_then BB.out (Nat.le_refl _) bb)
  have ZA := Lib.hid iwa.toAll
  have ZB := Lib.hid iwb.toAll
  clear bb
  clear iwa iwb hza hzb
  go_wp2_with fail
  refine (implEvenIs_any _ _ za _ _ zb _ ZA.out.toAll ZB.out.toAll).mono ?_
  rintro e w2 ⟨rfl, bb⟩
  replace BB := Lib.hid (below_then BB.out (Nat.le_refl _) bb)
  replace ZA := Lib.hid (ZA.out.grow bb)
  replace ZB := Lib.hid (ZB.out.grow bb)
  clear bb
  go_wp2_with fail
  refine (specEvenIs_any _ _ za _ _ zb _ ZA.out.toAll ZB.out.toAll).mono ?_
  rintro e w3 ⟨rfl, bb⟩
  replace BB := Lib.hid (below_then BB.out (Nat.le_refl _) bb)
  replace ZA := Lib.hid (ZA.out.grow bb)
  replace ZB := Lib.hid (ZB.out.grow bb)
  clear bb
  cases hr : evenIsB za zb with
  | false =>
    clear hr
    go_wp2
    go_ret
    exact ⟨rfl, BB.out⟩
  | true =>
    obtain ⟨h0, hX, hY, h12, hbl, htt, hle, hge, hpq⟩ := even_law hr
    clear hr
    have HTT := Lib.hid htt
    have HPQ := Lib.hid hpq
    have HXN := Lib.hid hX
    have HYN := Lib.hid hY
    have HBL := Lib.hid hbl
    clear htt hpq hX hY hbl
    go_wp2_with fail
    refine (lawSorted_any _ _ _ za _ ZA.out.toAll (by omega) rfl).mono ?_
    rintro e w4 ⟨A5, c5, rfl, iw, bb⟩
    replace BB := Lib.hid (below_then BB.out (Nat.le_refl _) bb)
    replace ZA := Lib.hid (ZA.out.grow bb)
    replace ZB := Lib.hid (ZB.out.grow bb)
    have X := Lib.hid iw.toAll
    clear bb
    clear iw
    go_wp2_with fail
    refine (lawSorted_any _ _ _ zb _ ZB.out.toAll (by have := HBL.out; omega) rfl).mono ?_
    rintro e w5 ⟨A6, c6, rfl, iw, bb⟩
    replace BB := Lib.hid (below_then BB.out (Nat.le_refl _) bb)
    replace ZA := Lib.hid (ZA.out.grow bb)
    replace ZB := Lib.hid (ZB.out.grow bb)
    replace X := Lib.hid (X.out.grow bb)
    have Y := Lib.hid iw.toAll
    clear bb
    clear iw
    obtain ⟨XS, hxs⟩ : ∃ XS, ascL za = XS := ⟨_, rfl⟩
    obtain ⟨YS, hys⟩ : ∃ YS, ascL zb = YS := ⟨_, rfl⟩
    rw [hxs] at X HXN HPQ hle hge
    rw [hys] at Y HYN HPQ hle hge
    rw [hxs, hys]
    clear hxs hys
    obtain ⟨N, hN⟩ : ∃ N, za.length = N := ⟨_, rfl⟩
    have HNA := Lib.hid hN
    rw [hN] at h0 h12 hle HXN HYN HBL
    rw [HXN.out, HYN.out]
    clear hN
    obtain ⟨j, hj⟩ : ∃ j : Nat, N = j + 1 := ⟨N - 1, by omega⟩
    have hX0 : 0 < XS.length := by rw [HXN.out]; exact h0
    have hXj : j < XS.length := by rw [HXN.out]; omega
    have hY0 : 0 < YS.length := by rw [HYN.out]; exact h0
    have hYj : j < YS.length := by rw [HYN.out]; omega
    obtain ⟨bx, ox, eqx, _, _, hc1⟩ := X.out.at_ hX0
    obtain ⟨bx', ox', eqx', _, _, hc2⟩ := X.out.at_ hXj
    subst eqx
    obtain ⟨rfl, rfl⟩ : bx = bx' ∧ ox = ox' := by injection eqx' with e; injection e with e1 e2; exact ⟨e1, e2⟩
    obtain ⟨by_, oy, eqy, _, _, hc3⟩ := Y.out.at_ hY0
    obtain ⟨by', oy', eqy', _, _, hc4⟩ := Y.out.at_ hYj
    subst eqy
    obtain ⟨rfl, rfl⟩ : by_ = by' ∧ oy = oy' := by injection eqy' with e; injection e with e1 e2; exact ⟨e1, e2⟩
    clear eqx' eqy'
    rw [show N - 1 = j by omega, getD_in hXj, getD_in hYj] at hle
    rw [getD_in hX0, getD_in hY0] at hge
    obtain ⟨x0, hx0⟩ : ∃ x, XS[0] = x := ⟨_, rfl⟩
    obtain ⟨x1, hx1⟩ : ∃ x, XS[j] = x := ⟨_, rfl⟩
    obtain ⟨y0, hy0⟩ : ∃ x, YS[0] = x := ⟨_, rfl⟩
    obtain ⟨y1, hy1⟩ : ∃ x, YS[j] = x := ⟨_, rfl⟩
    rw [hx0] at hc1 hge
    rw [hx1] at hc2 hle
    rw [hy0] at hc3 hge
    rw [hy1] at hc4 hle
    rw [Nat.add_zero] at hc1 hc3
    have hd1 : decide (x1 ≤ y1) = true := decide_eq_true hle
    have hd2 : decide (y0 ≤ x0) = true := decide_eq_true hge
    have s18 : IntKind.i64.wrap ((N : Int) - 1) = (j : Int) := by rw [IntWalk.i64_in _ (by omega)]; omega
    have hbx : bx < w5.heap.size := by have := X.out.2.2.1; omega
    have hby : by_ < w5.heap.size := by have := Y.out.2.2.1; omega
    have j0 : (0 : Int) ≤ (j : Int) := by omega
    have jN : (j : Int) < (N : Int) := by omega
    have N0 : (0 : Int) < (N : Int) := by omega
    have Nz : ¬ N = 0 := by omega
    have HJ := Lib.hid hj
    clear hx0 hx1 hy0 hy1 hj hX0 hXj hY0 hYj
    have HNB : Hid (zb.length = N) := HBL
    obtain ⟨W, hW⟩ : ∃ W, w5 = W := ⟨_, rfl⟩
    rw [hW] at BB ZA ZB X Y hbx hby hc1 hc2 hc3 hc4
    rw [hW]
    clear hW HBL
    rw [HNA.out, HNB.out]
    go_wp2
    have hS : W.drew.cell? ⟨bx, ox, none⟩ = some (.int .i64 x0) ∧ W.drew.cell? ⟨bx, ox + j, none⟩ = some (.int .i64 x1) ∧ W.drew.cell? ⟨by_, oy, none⟩ = some (.int .i64 y0) ∧ W.drew.cell? ⟨by_, oy + j, none⟩ = some (.int .i64 y1) := ⟨hc1, hc2, hc3, hc4⟩
    refine wp_region_held_drew (S := (fun W' => W'.cell? ⟨bx, ox, none⟩ = some (.int .i64 x0) ∧ W'.cell? ⟨bx, ox + j, none⟩ = some (.int .i64 x1) ∧ W'.cell? ⟨by_, oy, none⟩ = some (.int .i64 y0) ∧ W'.cell? ⟨by_, oy + j, none⟩ = some (.int .i64 y1))) (by kernel_rfl) hS (fun _ => ?_)
    refine planH_take 0 (v := .slice A N c) rfl (by kernel_rfl) (by kernel_rfl) (by kernel_rfl) (fun _ _ _ h => h) rfl (fun W' hW => by kernel_rfl) hS ?_
    refine planH_take 2 (v := .slice B N d) rfl (by kernel_rfl) (by kernel_rfl) (by kernel_rfl) (fun _ _ _ h => h) rfl (fun W' hW => by kernel_rfl) hS ?_
    refine planH_one 1 rfl (by kernel_rfl) (by kernel_rfl) ?_
    refine wpT_callG (args := #[.slice A N c]) rfl Try.call16 (by kernel_rfl) ?_
    refine (total_any A N c _ _ za W.drew (ZA.out.drewN 1) HNA.out.symm).mono ?_
    rintro e w20 ⟨rfl, rfl⟩
    obtain ⟨tt, htt⟩ : ∃ tt, totW za = tt := ⟨_, rfl⟩
    rw [htt]
    rw [htt] at HTT
    refine ⟨_, rfl, hS, ?_⟩
    refine planH_one 3 rfl (by kernel_rfl) (by kernel_rfl) ?_
    refine wpT_callG (args := #[.slice B N d]) rfl Try.call16 (by kernel_rfl) ?_
    refine (total_any B N d _ _ zb W.drew (ZB.out.drewN 1) HNB.out.symm).mono ?_
    rintro e w21 ⟨rfl, rfl⟩
    rw [← HTT.out]
    refine ⟨_, rfl, hS, ?_⟩
    clear htt
    refine planH_take 4 (v := .bool true) rfl (by kernel_rfl) (by kernel_rfl) (by kernel_rfl) (fun _ _ _ h => h) rfl (fun W' hW => by go_simp) hS ?_
    refine planH_take 5 (v := .bool true) rfl (by kernel_rfl) (by kernel_rfl) (by kernel_rfl) (fun _ _ _ h => h) rfl (fun W' hW => by kernel_rfl) hS ?_
    refine planH_takeW 6 (v := .slice (some ⟨bx, ox, none⟩) N c5) rfl (by kernel_rfl) (by kernel_rfl) (by kernel_rfl) (fun _ _ _ h => h) (by kernel_rfl) (fun W' hW => by kernel_rfl) hS ?_
    refine planH_takeW 7 (v := .int .i64 (N : Int)) rfl (by kernel_rfl) (by kernel_rfl) (by kernel_rfl) (fun _ _ _ h => h) (by kernel_rfl) (fun W' hW => by kernel_rfl) hS ?_
    refine planH_takeW 8 (v := .int .i64 (j : Int)) rfl (by kernel_rfl) (by kernel_rfl) (by kernel_rfl) (fun _ _ _ h => h) (by kernel_rfl) (fun W' hW => by go_simp) hS ?_
    refine planH_takeW 9 (v := .pointer (some ⟨bx, ox + j, none⟩)) rfl (by kernel_rfl) (by kernel_rfl) (by kernel_rfl) (fun _ _ _ h => h) (by kernel_rfl) (fun W' hW => by go_simp) hS ?_
    refine planH_takeW 10 (v := .int .i64 x1) rfl (by kernel_rfl) (by kernel_rfl) (by kernel_rfl) (fun _ _ _ h => h) (by kernel_rfl) (fun W' hW => by have h1 := hW.2.1; go_simp) hS ?_
    refine planH_takeW 11 (v := .slice (some ⟨by_, oy, none⟩) N c6) rfl (by kernel_rfl) (by kernel_rfl) (by kernel_rfl) (fun _ _ _ h => h) (by kernel_rfl) (fun W' hW => by kernel_rfl) hS ?_
    refine planH_takeW 12 (v := .int .i64 (N : Int)) rfl (by kernel_rfl) (by kernel_rfl) (by kernel_rfl) (fun _ _ _ h => h) (by kernel_rfl) (fun W' hW => by kernel_rfl) hS ?_
    refine planH_takeW 13 (v := .int .i64 (j : Int)) rfl (by kernel_rfl) (by kernel_rfl) (by kernel_rfl) (fun _ _ _ h => h) (by kernel_rfl) (fun W' hW => by go_simp) hS ?_
    refine planH_takeW 14 (v := .pointer (some ⟨by_, oy + j, none⟩)) rfl (by kernel_rfl) (by kernel_rfl) (by kernel_rfl) (fun _ _ _ h => h) (by kernel_rfl) (fun W' hW => by go_simp) hS ?_
    refine planH_takeW 15 (v := .int .i64 y1) rfl (by kernel_rfl) (by kernel_rfl) (by kernel_rfl) (fun _ _ _ h => h) (by kernel_rfl) (fun W' hW => by have h1 := hW.2.2.2; go_simp) hS ?_
    refine planH_takeW 16 (v := .bool true) rfl (by kernel_rfl) (by kernel_rfl) (by kernel_rfl) (fun _ _ _ h => h) (by kernel_rfl) (fun W' hW => by go_simp) hS ?_
    refine planH_take 17 (v := .bool true) rfl (by kernel_rfl) (by kernel_rfl) (by kernel_rfl) (fun _ _ _ h => h) rfl (fun W' hW => by go_simp) hS ?_
    refine planH_take 18 (v := .bool true) rfl (by kernel_rfl) (by kernel_rfl) (by kernel_rfl) (fun _ _ _ h => h) rfl (fun W' hW => by kernel_rfl) hS ?_
    refine planH_takeW 19 (v := .slice (some ⟨bx, ox, none⟩) N c5) rfl (by kernel_rfl) (by kernel_rfl) (by kernel_rfl) (fun _ _ _ h => h) (by kernel_rfl) (fun W' hW => by kernel_rfl) hS ?_
    refine planH_takeW 20 (v := .pointer (some ⟨bx, ox, none⟩)) rfl (by kernel_rfl) (by kernel_rfl) (by kernel_rfl) (fun _ _ _ h => h) (by kernel_rfl) (fun W' hW => by go_simp) hS ?_
    refine planH_takeW 21 (v := .int .i64 x0) rfl (by kernel_rfl) (by kernel_rfl) (by kernel_rfl) (fun _ _ _ h => h) (by kernel_rfl) (fun W' hW => by have h1 := hW.1; go_simp) hS ?_
    refine planH_takeW 22 (v := .slice (some ⟨by_, oy, none⟩) N c6) rfl (by kernel_rfl) (by kernel_rfl) (by kernel_rfl) (fun _ _ _ h => h) (by kernel_rfl) (fun W' hW => by kernel_rfl) hS ?_
    refine planH_takeW 23 (v := .pointer (some ⟨by_, oy, none⟩)) rfl (by kernel_rfl) (by kernel_rfl) (by kernel_rfl) (fun _ _ _ h => h) (by kernel_rfl) (fun W' hW => by go_simp) hS ?_
    refine planH_takeW 24 (v := .int .i64 y0) rfl (by kernel_rfl) (by kernel_rfl) (by kernel_rfl) (fun _ _ _ h => h) (by kernel_rfl) (fun W' hW => by have h1 := hW.2.2.1; go_simp) hS ?_
    refine planH_takeW 25 (v := .bool true) rfl (by kernel_rfl) (by kernel_rfl) (by kernel_rfl) (fun _ _ _ h => h) (by kernel_rfl) (fun W' hW => by go_simp) hS ?_
    refine planH_take 26 (v := .bool true) rfl (by kernel_rfl) (by kernel_rfl) (by kernel_rfl) (fun _ _ _ h => h) rfl (fun W' hW => by go_simp) hS ?_
    refine planH_take 27 (v := .bool true) rfl (by kernel_rfl) (by kernel_rfl) (by kernel_rfl) (fun _ _ _ h => h) rfl (fun W' hW => by kernel_rfl) hS ?_
    refine planH_takeW 28 (v := .slice B N d) rfl (by kernel_rfl) (by kernel_rfl) (by kernel_rfl) (fun _ _ _ h => h) (by kernel_rfl) (fun W' hW => by kernel_rfl) hS ?_
    refine planH_takeW 29 (v := .slice A N c) rfl (by kernel_rfl) (by kernel_rfl) (by kernel_rfl) (fun _ _ _ h => h) (by kernel_rfl) (fun W' hW => by kernel_rfl) hS ?_
    refine planH_takeW 31 (v := .slice (some ⟨bx, ox, none⟩) N c5) rfl (by kernel_rfl) (by kernel_rfl) (by kernel_rfl) (fun _ _ _ h => h) (by kernel_rfl) (fun W' hW => by kernel_rfl) hS ?_
    refine planH_takeW 32 (v := .slice (some ⟨by_, oy, none⟩) N c6) rfl (by kernel_rfl) (by kernel_rfl) (by kernel_rfl) (fun _ _ _ h => h) (by kernel_rfl) (fun W' hW => by kernel_rfl) hS ?_
    refine planH_one 30 rfl (by kernel_rfl) (by kernel_rfl) ?_
    refine wpT_callG (args := #[.slice B N d, .slice A N c]) rfl Try.call33 (by kernel_rfl) ?_
    refine (evenIs_n B d zb A c za W.drew (ZB.out.drewN 1).toAll (ZA.out.drewN 1).toAll HNB.out.symm HNA.out.symm).mono ?_
    rintro e w22 ⟨rfl, bb⟩
    have hb22 : Below W.heap.size W w22 := ⟨bb.os, bb.tape, bb.output, bb.size, bb.block⟩
    have HB22 := Lib.hid hb22
    have hS22 : w22.cell? ⟨bx, ox, none⟩ = some (.int .i64 x0) ∧ w22.cell? ⟨bx, ox + j, none⟩ = some (.int .i64 x1) ∧ w22.cell? ⟨by_, oy, none⟩ = some (.int .i64 y0) ∧ w22.cell? ⟨by_, oy + j, none⟩ = some (.int .i64 y1) :=
      ⟨(hb22.cell (p := ⟨bx, ox, none⟩) hbx).trans hc1, (hb22.cell (p := ⟨bx, ox + j, none⟩) hbx).trans hc2, (hb22.cell (p := ⟨by_, oy, none⟩) hby).trans hc3, (hb22.cell (p := ⟨by_, oy + j, none⟩) hby).trans hc4⟩
    have HX22 := Lib.hid (X.out.grow HB22.out)
    have HY22 := Lib.hid (Y.out.grow HB22.out)
    clear bb hb22
    obtain ⟨p, hp⟩ : ∃ p, evenIsB zb za = p := ⟨_, rfl⟩
    rw [hp]
    rw [hp] at HPQ
    clear hp
    refine ⟨_, rfl, hS22, ?_⟩
    refine planH_one 33 rfl (by kernel_rfl) (by kernel_rfl) ?_
    refine wpT_callG (args := #[.slice (some ⟨bx, ox, none⟩) N c5, .slice (some ⟨by_, oy, none⟩) N c6]) rfl Try.call13 (by kernel_rfl) ?_
    refine (sameInts_decE _ _ _ _ _ _ _ _ _ _ XS YS _ HX22.out HY22.out HXN.out.symm HYN.out.symm (HYN.out.trans HXN.out.symm)).mono ?_
    rintro e w23 ⟨rfl, bb⟩
    rw [← HPQ.out]
    have hb23 : Below W.heap.size W w23 := below_then HB22.out (Nat.le_refl _) bb
    have HB23 := Lib.hid hb23
    have hS23 : w23.cell? ⟨bx, ox, none⟩ = some (.int .i64 x0) ∧ w23.cell? ⟨bx, ox + j, none⟩ = some (.int .i64 x1) ∧ w23.cell? ⟨by_, oy, none⟩ = some (.int .i64 y0) ∧ w23.cell? ⟨by_, oy + j, none⟩ = some (.int .i64 y1) :=
      ⟨(hb23.cell (p := ⟨bx, ox, none⟩) hbx).trans hc1, (hb23.cell (p := ⟨bx, ox + j, none⟩) hbx).trans hc2, (hb23.cell (p := ⟨by_, oy, none⟩) hby).trans hc3, (hb23.cell (p := ⟨by_, oy + j, none⟩) hby).trans hc4⟩
    clear bb hb23
    refine ⟨_, rfl, hS23, ?_⟩
    refine planH_takeW 34 (v := .bool true) rfl (by kernel_rfl) (by kernel_rfl) (by kernel_rfl) (fun _ _ _ h => h) (by kernel_rfl) (fun W' hW => by go_simp) hS23 ?_
    refine planH_take 35 (v := .bool true) rfl (by kernel_rfl) (by kernel_rfl) (by kernel_rfl) (fun _ _ _ h => h) rfl (fun W' hW => by go_simp) hS23 ?_
    refine planH_take 36 (v := .bool true) rfl (by kernel_rfl) (by kernel_rfl) (by kernel_rfl) (fun _ _ _ h => h) rfl (fun W' hW => by kernel_rfl) hS23 ?_
    refine wpAnyH_done (by kernel_rfl) ?_ _
    clear hS hS22 hS23 hc1 hc2 hc3 hc4
    go_simp
    go_wp2
    go_ret
    exact ⟨rfl, BB.out.trans (HB23.out.mono BB.out.size)⟩
end Go.Proofs.Ytkghpmjbclnojaa
