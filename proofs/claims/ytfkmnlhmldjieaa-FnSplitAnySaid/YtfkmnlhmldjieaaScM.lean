/-
  Chapter 8 of the model, second part: SplitCost, SplitCosts, SplitMany, SplitEven. Conditions: the lists' cells are there.
-/
import Derived.Test.YtfkmnlhmldjieaaScA
import Derived.Test.YtfkmnlhmldjieaaEvM
namespace Go.Proofs.Ytfkmnlhmldjieaa
open Go.RowKit

theorem take8_bd {l : List Int} (h : ∀ z, z ∈ l → -1000 ≤ z ∧ z ≤ 1000) : ∀ k : Nat, k ≤ l.length → -1000 * (k : Int) ≤ sumL (l.take k) ∧ sumL (l.take k) ≤ 1000 * (k : Int) := by
  intro k
  induction k with
  | zero => intro _; simp [sumL]
  | succ k ih =>
    intro hk
    obtain ⟨h1, h2⟩ := ih (by omega)
    have g := h _ (List.getElem_mem (show k < l.length by omega))
    rw [take_next l (by omega), getD_in (by omega)]
    omega
theorem take8_bd12 {l : List Int} (h : rowB l = true) {k : Nat} (hk : k ≤ l.length) : -12000 ≤ sumL (l.take k) ∧ sumL (l.take k) ≤ 12000 := by
  obtain ⟨h1, h2, h3⟩ := rowB_true.1 h
  have := take8_bd h1 k hk
  omega

set_option maxHeartbeats 400000 in
theorem l7Sum8_any (A : Option Addr) (n c lo hi : Nat) (zs : List Int) (w : World) (h : IR w lo hi A zs) (hr : rowB zs = true) (hn : n = zs.length) :
    Calls Try.prog 67 #[.slice A n c] w fun e w' => e = .returned (.int .i64 (sumL zs)) ∧ w' = w := by
  subst hn
  have hl := h.1
  have HR := Lib.hid hr
  clear hr
  go_enter Try.func67, Try.ntmps67
  go_wp2
  go_loop [3, 4] (fun s i => ∃ k : Nat, k ≤ zs.length ∧ i = .int .i64 k ∧ s = .int .i64 (sumL (zs.take k))) (fun _ i => zs.length - (intOf i).toNat)
  case atStart => exact ⟨0, Nat.zero_le _, rfl, rfl⟩
  case round =>
    obtain ⟨k, hk, rfl, rfl⟩ := hrel
    by_cases hlt : k < zs.length
    · obtain ⟨b, off, rfl, _, _, hc⟩ := h.at_ hlt
      have hlt' : (k : Int) < (zs.length : Int) := by omega
      have hb1 := take8_bd12 HR.out hk
      have hb2 := (rowB_true.1 HR.out).1 _ (List.getElem_mem hlt)
      have HT : Hid (sumL (zs.take (k + 1)) = sumL (zs.take k) + zs[k]) := by show _ = _; rw [take_next zs hlt, getD_in hlt]
      obtain ⟨T, hT⟩ : ∃ T, sumL (zs.take k) = T := ⟨_, rfl⟩
      rw [hT] at HT hb1
      rw [hT]
      clear hT
      have s1 : IntKind.i64.wrap (T + zs[k]) = T + zs[k] := IntWalk.i64_in _ (by omega)
      go_wp2
      go_round
      case rel => exact ⟨k + 1, by omega, by go_num, by rw [HT.out]⟩
      case measure => simp [intOf]; omega
    · obtain rfl : k = zs.length := by omega
      have hall : zs.take zs.length = zs := List.take_length
      rw [hall]
      go_wp2
      go_ret
      exact ⟨rfl, rfl⟩


theorem Seg.uniq : ∀ {l : List Int} {f c c' : Int}, Seg f l c → Seg f l c' → c = c'
  | [], f, c, c', h, h' => by have : f = c := h; have : f = c' := h'; omega
  | _ :: l, _, _, _, h, h' => Seg.uniq h.2 h'.2
theorem Seg.cut : ∀ {l : List Int} {f m : Int} (k : Nat), Seg f l m → ∃ c, Seg f (l.take k) c ∧ Seg c (l.drop k) m
  | l, f, m, 0, h => ⟨f, rfl, h⟩
  | [], f, m, k + 1, h => ⟨f, rfl, h⟩
  | x :: l, f, m, k + 1, h => by
    obtain ⟨c, h1, h2⟩ := Seg.cut k h.2
    exact ⟨c, ⟨h.1, h1⟩, h2⟩
theorem Seg.end_ : ∀ {l : List Int} {f c : Int}, Seg f l c → l ≠ [] → c = l.getD (l.length - 1) 0 + 1
  | [], _, _, _, h => absurd rfl h
  | [x], f, c, h, _ => by have : x + 1 = c := h.2; simp; omega
  | x :: y :: l, f, c, h, _ => by
    have := Seg.end_ h.2 (by simp)
    simpa using this
theorem Seg.snoc_ {l : List Int} {f c x : Int} (h : Seg f l c) (hx : c ≤ x) : Seg f (l ++ [x]) (x + 1) := h.append ⟨hx, rfl⟩
theorem take_more (l : List Int) {k : Nat} (h : k < l.length) : l.take (k + 1) = l.take k ++ [l.getD k 0] := by
  rw [← take_snoc l k h, getD_in h]
/-- A place that does not fit: no split. -/
theorem segOk_no {l : List Int} {c m : Int} {k : Nat} (hk : k < l.length) (h : Seg 0 (l.take k) c) (hx : ¬ (c ≤ l.getD k 0 ∧ l.getD k 0 ≤ m - 1)) : segOk 0 l m = false := by
  cases e : segOk 0 l m with
  | false => rfl
  | true =>
    obtain ⟨c', h1, h2⟩ := Seg.cut k (segOk_true.1 e)
    obtain rfl := h.uniq h1
    rw [List.drop_eq_getElem_cons hk] at h2
    have h3 := h2.2.le
    have h4 := h2.1
    rw [getD_in hk] at hx
    exact absurd ⟨h4, by omega⟩ hx

set_option maxRecDepth 100000 in
set_option maxHeartbeats 2000000 in
theorem specSplitCost_any (A : Option Addr) (c : Nat) (zs : List Int) (s : ByteArray) (B : Option Addr) (cb : Nat) (ys : List Int) (w : World) (h : IR w 0 w.heap.size A zs) (hy : IR w 0 w.heap.size B ys) :
    Calls Try.prog 12 #[.slice A zs.length c, .string s, .slice B ys.length cb] w fun e w' => e = .returned (splitCostV zs s ys) ∧ Below w.heap.size w w' := by
  have H := Lib.hid h; have HY := Lib.hid hy; clear h hy
  have hyl := HY.out.1
  cases hg : givenS zs s with
  | false =>
    have HM : Hid (splitCostV zs s ys = .tuple #[.int .i64 0, .bool false]) := by show _ = _; unfold splitCostV splitOkB; rw [hg]; rfl
    have HG := Lib.hid hg; clear hg
    go_enter Try.func12, Try.ntmps12
    go_wp2_with fail
    refine (l8Given_of _ _ _ _ zs s _ H.out HG.out).mono ?_; rintro e w' ⟨rfl, rfl⟩
    go_wp2
    go_ret2
    exact ⟨by rw [HM.out]; rfl, Below.refl _ _⟩
  | true =>
    have hr := given_row hg
    have hl := (rowB_true.1 hr).2
    have HV : Hid (splitCostV zs s ys = if segOk 0 ys (zs.length : Int) then .tuple #[.int .i64 (splitCost zs (sqB s) ys), .bool true] else .tuple #[.int .i64 0, .bool false]) := by
      show _ = _; unfold splitCostV splitOkB; rw [hg]; rfl
    have HR := Lib.hid hr
    have HG := Lib.hid hg; clear hg hr
    have no : segOk 0 ys (zs.length : Int) = false → Hid (splitCostV zs s ys = .tuple #[.int .i64 0, .bool false]) := fun e => by show _ = _; rw [HV.out, e]; rfl
    by_cases hy0 : ys.length = 0
    · have HM := no (by
        rw [List.eq_nil_of_length_eq_zero hy0]; show decide _ = false; simp; omega)
      have hy0' : (ys.length : Int) = 0 := by omega
      clear no
      go_enter Try.func12, Try.ntmps12
      go_wp2_with fail
      refine (l8Given_of _ _ _ _ zs s _ H.out HG.out).mono ?_; rintro e w' ⟨rfl, rfl⟩
      go_wp2
      go_ret2
      exact ⟨by rw [HM.out]; rfl, Below.refl _ _⟩
    · obtain ⟨b, off, rfl, _, _, hc⟩ := HY.out.at_ (k := ys.length - 1) (by omega)
      rw [← getD_in] at hc
      have hy0' : ¬ (ys.length : Int) = 0 := by omega
      have hyb : ((ys.length : Int) == 0) = false := by rw [beq_eq_false_iff_ne]; exact hy0'
      have e1 : IntKind.i64.wrap ((ys.length : Int) - 1) = (ys.length : Int) - 1 := IntWalk.i64_in _ (by omega)
      have e2 : IntKind.i64.wrap ((zs.length : Int) - 1) = (zs.length : Int) - 1 := IntWalk.i64_in _ (by omega)
      have e3 : ((ys.length : Int) - 1).toNat = ys.length - 1 := by omega
      have e4 : (0 : Int) ≤ (ys.length : Int) - 1 := by omega
      have e5 : (ys.length : Int) - 1 < (ys.length : Int) := by omega
      by_cases hlast : ys.getD (ys.length - 1) 0 = (zs.length : Int) - 1
      · have HLAST := Lib.hid hlast
        rw [hlast] at hc
        clear hlast
        go_enter Try.func12, Try.ntmps12
        go_wp2_with fail
        refine (l8Given_of _ _ _ _ zs s _ H.out HG.out).mono ?_; rintro e w' ⟨rfl, rfl⟩
        go_wp2
        clear hc
        have HW := Lib.hid (part_row (s := s) HR.out)
        have HP : Hid (∀ (i j : Int), 0 ≤ i → i ≤ j → j < (zs.length : Int) → Calls Try.prog 45 #[.slice A zs.length c, .string s, .int .i64 i, .int .i64 j] w fun e w' => e = .returned (.int .i64 (partV zs (sqB s) i j)) ∧ w = w') :=
          Lib.hid fun i j h0 h1 h2 => l8Part_at A c _ _ zs.length zs s i j w H.out HR.out h0 h1 h2 rfl
        have HSC : Hid (splitCost zs (sqB s) ys = segC (partV zs (sqB s)) 0 ys) := Lib.hid rfl
        rw [HSC.out] at HV
        clear HSC
        generalize partV zs (sqB s) = V at HW HP HV
        go_loop [8, 9, 10] (fun sm fr i => ∃ (k : Nat) (cc : Int), k ≤ ys.length ∧ i = .int .i64 (k : Int) ∧ sm = .int .i64 (segC V 0 (ys.take k)) ∧ fr = .int .i64 cc ∧ Hid (Seg 0 (ys.take k) cc ∧ cc ≤ (zs.length : Int))) (fun _ _ i => ys.length - (intOf i).toNat)
        case atStart => exact ⟨0, 0, Nat.zero_le _, rfl, rfl, rfl, Lib.hid ⟨rfl, by omega⟩⟩
        case round =>
          obtain ⟨k, cc, hk, rfl, rfl, rfl, hseg⟩ := hrel
          by_cases hlt : k < ys.length
          · obtain ⟨b', o', e, _, _, hc⟩ := HY.out.at_ hlt
            injection e with e; injection e with e1 e2 _; subst e1; subst e2
            rw [← getD_in] at hc
            have hlt' : (k : Int) < (ys.length : Int) := by omega
            obtain ⟨x, hx⟩ : ∃ x, ys.getD k 0 = x := ⟨_, rfl⟩
            rw [hx] at hc
            have HX := Lib.hid hx
            have HNO : Hid (¬ (cc ≤ x ∧ x ≤ (zs.length : Int) - 1) → segOk 0 ys (zs.length : Int) = false) := Lib.hid fun e => segOk_no hlt hseg.out.1 (by rw [hx]; exact e)
            clear hx
            cases hin : inB cc ((zs.length : Int) - 1) x with
            | false =>
              have HM := no (HNO.out (inB_false hin))
              have HI := Lib.hid hin; clear hin no
              go_wp2_with fail
              refine (l6In_false _ _ _ _ HI.out).mono ?_; rintro e w' ⟨rfl, rfl⟩
              go_wp2
              go_ret2
              exact ⟨by rw [HM.out]; rfl, Below.refl _ _⟩
            | true =>
              obtain ⟨g1, g2⟩ := inB_true.1 hin
              have hs0 := hseg.out.1.le
              have hc0 : 0 ≤ cc := by omega
              have HI := Lib.hid hin; clear hin
              have HC := Lib.hid (HP.out cc x hc0 g1 (by omega))
              have HT : Hid (segC V 0 (ys.take (k + 1)) = segC V 0 (ys.take k) + V cc x) := by
                show _ = _
                rw [take_more ys hlt, HX.out, hseg.out.1.cost V]; simp [segC]
              have HS2 : Hid (Seg 0 (ys.take (k + 1)) (x + 1) ∧ x + 1 ≤ (zs.length : Int)) := by
                show _ ∧ _
                rw [take_more ys hlt, HX.out]
                exact ⟨hseg.out.1.snoc_ g1, by omega⟩
              have hvb := HW.out cc x hc0 g1 (by omega)
              have hsb := segC_bd (n := cc) (fun i j h0 h1 h2 => HW.out i j h0 h1 (by have := hseg.out.2; omega)) (Int.le_refl 0) hseg.out.1
              have hkl : ((ys.take k).length : Int) ≤ 12 := by have := hseg.out.2; omega
              generalize V cc x = y at HC HT hvb
              generalize segC V 0 (ys.take k) = sm at HT hsb
              have s1 : IntKind.i64.wrap (sm + y) = sm + y := IntWalk.i64_in _ (by omega)
              have s2 : IntKind.i64.wrap (x + 1) = x + 1 := IntWalk.i64_in _ (by omega)
              clear hs0 hvb hsb hkl
              go_wp2_with fail
              refine (l6In_true _ _ _ _ HI.out).mono ?_; rintro e w' ⟨rfl, rfl⟩
              go_wp2_with fail
              refine HC.out.mono ?_; rintro e w' ⟨rfl, rfl⟩
              go_wp2
              go_round
              case rel => exact ⟨k + 1, x + 1, by omega, by go_num, by rw [HT.out], rfl, HS2⟩
              case measure => simp [intOf]; omega
          · obtain rfl : k = ys.length := by omega
            have HM : Hid (splitCostV zs s ys = .tuple #[.int .i64 (segC V 0 ys), .bool true]) := by
              have h1 := hseg.out.1
              rw [List.take_length] at h1
              have h2 := h1.end_ (by intro e; rw [e] at hy0; exact hy0 rfl)
              rw [HLAST.out] at h2
              have : segOk 0 ys (zs.length : Int) = true := segOk_true.2 (by rw [show (zs.length : Int) = cc by omega]; exact h1)
              show _ = _
              rw [HV.out, this]; rfl
            rw [List.take_length]
            clear no
            go_wp2
            go_ret2
            exact ⟨by rw [HM.out]; rfl, Below.refl _ _⟩
      · have HM := no (by
          cases e : segOk 0 ys (zs.length : Int) with
          | false => rfl
          | true =>
            have := (segOk_true.1 e).end_ (by intro e; rw [e] at hy0; exact hy0 rfl)
            omega)
        clear no
        obtain ⟨x, hx⟩ : ∃ x, ys.getD (ys.length - 1) 0 = x := ⟨_, rfl⟩
        rw [hx] at hc hlast
        have hlastb : (x == (zs.length : Int) - 1) = false := by rw [beq_eq_false_iff_ne]; exact hlast
        have hlastc : (x != (zs.length : Int) - 1) = true := by simpa using hlast
        clear hx
        go_enter Try.func12, Try.ntmps12
        go_wp2_with fail
        refine (l8Given_of _ _ _ _ zs s _ H.out HG.out).mono ?_; rintro e w' ⟨rfl, rfl⟩
        go_wp2
        go_ret2
        exact ⟨by rw [HM.out]; rfl, Below.refl _ _⟩

theorem take_costs {zs : List Int} {s : ByteArray} {k : Nat} (h : k < zs.length) : (splitCostsL zs s).take (k + 1) = (splitCostsL zs s).take k ++ [splitLeast zs (sqB s) (k + 1)] := by
  have hl : (splitCostsL zs s).length = zs.length := by simp [splitCostsL]
  rw [← take_snoc _ k (by omega)]
  simp [splitCostsL]
theorem costsL_len (zs : List Int) (s : ByteArray) : (splitCostsL zs s).length = zs.length := by simp [splitCostsL]
set_option maxRecDepth 100000 in
set_option maxHeartbeats 2000000 in
theorem specSplitCosts_any (A : Option Addr) (c : Nat) (zs : List Int) (s : ByteArray) (w : World) (h : IR w 0 w.heap.size A zs) :
    Calls Try.prog 23 #[.slice A zs.length c, .string s] w (RetSB w (splitCostsM zs s)) := by
  have H := Lib.hid h; clear h
  cases hg : givenS zs s with
  | false =>
    have HM : Hid (splitCostsM zs s = none) := by show _ = _; unfold splitCostsM; rw [hg]; rfl
    have HG := Lib.hid hg; clear hg
    have HH := Lib.hid (H.out.grow ((Below.refl _ w).alloc (Nat.le_refl _) (.cells #[] 3)))
    go_enter Try.func23, Try.ntmps23
    go_wp2_with fail
    refine (l8Given_of _ _ _ _ zs s _ HH.out HG.out).mono ?_; rintro e w' ⟨rfl, rfl⟩
    go_wp2
    go_ret2
    rw [HM.out]
    exact retSB_none ((Below.refl _ _).alloc (Nat.le_refl _) _)
  | true =>
    have HM : Hid (splitCostsM zs s = some (splitCostsL zs s)) := by show _ = _; unfold splitCostsM; rw [hg]; rfl
    have hr := given_row hg
    have hl := (rowB_true.1 hr).2
    have HR := Lib.hid hr
    have HG := Lib.hid hg; clear hg hr
    have HLN := Lib.hid (costsL_len zs s)
    have HH := Lib.hid (H.out.grow ((Below.refl _ w).alloc (Nat.le_refl _) (.cells #[] 3)))
    have HO := Lib.hid (OwnI.made w)
    have HBB := Lib.hid (fun (k : Nat) (h2 : (0 : Int) + (k : Int) + 1 ≤ (zs.length : Int)) => best_bd (part_row (s := s) HR.out) (Int.le_refl 0) h2)
    go_enter Try.func23, Try.ntmps23
    go_wp2_with fail
    refine (l8Given_of _ _ _ _ zs s _ HH.out HG.out).mono ?_; rintro e w' ⟨rfl, rfl⟩
    go_wp2
    go_loopw [6, 7, 8, 9] (fun v x _ _ wr => ∃ (k : Nat), k ≤ zs.length ∧ x = .int .i64 ((k : Int) + 1) ∧ OwnI wr w.heap.size v ((splitCostsL zs s).take k) ∧ Below w.heap.size w wr) (fun _ x _ _ _ => zs.length + 1 - (intOf x).toNat)
    case atStart => exact ⟨0, Nat.zero_le _, by go_num, HO.out, (Below.refl _ _).alloc (Nat.le_refl _) _⟩
    case round =>
      obtain ⟨k, hk, rfl, ho, hb⟩ := hrel
      have HOW := Lib.hid ho; have HB := Lib.hid hb; clear ho hb
      by_cases hlt : k < zs.length
      · have hlt' : (k : Int) + 1 ≤ (zs.length : Int) := by omega
        have HC := Lib.hid (l8Best_any A c zs.length zs s HR.out rfl k 0 0 ((k : Int) + 1) wr rfl rfl (by omega) (H.out.grow HB.out).toAll)
        have hbd := HBB.out k (by omega)
        have HT : Hid ((splitCostsL zs s).take (k + 1) = (splitCostsL zs s).take k ++ [(bestL (partV zs (sqB s)) (zs.length : Int) k 0).1]) := Lib.hid (take_costs hlt)
        have HLk : Hid (((splitCostsL zs s).take k).length < 17592186044416) := by show _ < _; rw [List.length_take]; omega
        generalize bestL (partV zs (sqB s)) (zs.length : Int) k 0 = q at HC hbd HT
        obtain ⟨q1, q2⟩ := q
        dsimp only at HC hbd HT
        have HY : Hid (I64 q1) := by
          have : (k : Int) ≤ 12 := by omega
          exact ⟨by omega, by omega⟩
        have s1 : IntKind.i64.wrap ((k : Int) + 1 + 1) = (k : Int) + 1 + 1 := IntWalk.i64_in _ (by omega)
        clear hbd
        go_wp2_with fail
        refine HC.out.mono ?_; rintro e w3 ⟨A3, c3, rfl, -, hb3⟩
        have HO3 := Lib.hid (HOW.out.below hb3 (Nat.le_refl _))
        have HB3 := Lib.hid (HB.out.trans (hb3.mono HB.out.size))
        clear hb3 HC
        go_wp2_with (at_builtin; refine wpList_push rfl _ _ rfl w.heap.size _ ((splitCostsL zs s).take k) rfl rfl HO3.out HLk.out HY.out ?_; intro v4 w4 ho4 hb4; have HO4 := Lib.hid ho4; have HB4 := Lib.hid hb4; clear ho4 hb4)
        go_roundw
        case rel => exact ⟨k + 1, by omega, by go_num, by rw [HT.out]; exact HO4.out, HB3.out.trans HB4.out⟩
        case measure => simp [intOf]; omega
      · obtain rfl : k = zs.length := by omega
        have hlt' : ¬ (zs.length : Int) + 1 ≤ (zs.length : Int) := by omega
        have ho := HOW.out
        rw [List.take_of_length_le (by rw [HLN.out]; exact Nat.le_refl _)] at ho
        obtain ⟨A1, c1, rfl, hi1⟩ := ho.iw (by rw [HLN.out]; omega)
        have HI := Lib.hid hi1
        clear ho hi1
        go_wp2
        go_ret2
        rw [HM.out]
        exact retSB_some rfl HI.out HB.out

set_option maxRecDepth 100000 in
set_option maxHeartbeats 1000000 in
theorem specSplitMany_any (A : Option Addr) (c : Nat) (zs : List Int) (x : Int) (_hx : I64 x) (w : World) (h : IR w 0 w.heap.size A zs) :
    Calls Try.prog 29 #[.slice A zs.length c, .int .i64 x] w fun e w' => e = .returned (splitManyV zs x) ∧ Below w.heap.size w w' := by
  have H := Lib.hid h; clear h
  cases hr : rowB zs with
  | false =>
    have HM : Hid (splitManyV zs x = .tuple #[.int .i64 0, .bool false]) := by show _ = _; unfold splitManyV manyOkB; rw [hr]; rfl
    have HR := Lib.hid hr; clear hr
    go_enter Try.func29, Try.ntmps29
    go_wp2_with fail
    refine (specRowIn_false _ _ _ _ zs _ H.out HR.out).mono ?_; rintro e w' ⟨rfl, rfl⟩
    go_wp2
    go_ret2
    exact ⟨by rw [HM.out]; rfl, Below.refl _ _⟩
  | true =>
    have hl := (rowB_true.1 hr).2
    cases hi : inB 1 (zs.length : Int) x with
    | false =>
      have HM : Hid (splitManyV zs x = .tuple #[.int .i64 0, .bool false]) := by show _ = _; unfold splitManyV manyOkB; rw [hi, Bool.and_false]; rfl
      have HR := Lib.hid hr; have HI := Lib.hid hi; clear hr hi
      go_enter Try.func29, Try.ntmps29
      go_wp2_with fail
      refine (specRowIn_true _ _ _ _ zs _ H.out HR.out).mono ?_; rintro e w' ⟨rfl, rfl⟩
      go_wp2_with fail
      refine (l6In_false _ _ _ _ HI.out).mono ?_; rintro e w' ⟨rfl, rfl⟩
      go_wp2
      go_ret2
      exact ⟨by rw [HM.out]; rfl, Below.refl _ _⟩
    | true =>
      have hx1 := inB_true.1 hi
      have HM : Hid (splitManyV zs x = .tuple #[.int .i64 (chooseN (zs.length - 1) (x.toNat - 1) : Int), .bool true]) := by
        show _ = _; unfold splitManyV manyOkB; rw [hr, hi]; rfl
      have HC := Lib.hid (l4Choose_any (zs.length - 1) (x.toNat - 1) (by omega) (by omega) w)
      rw [show ((zs.length - 1 : Nat) : Int) = (zs.length : Int) - 1 by omega, show ((x.toNat - 1 : Nat) : Int) = x - 1 by omega] at HC
      have e1 : IntKind.i64.wrap (x - 1) = x - 1 := IntWalk.i64_in _ (by omega)
      have e2 : IntKind.i64.wrap ((zs.length : Int) - 1) = (zs.length : Int) - 1 := IntWalk.i64_in _ (by omega)
      generalize chooseN (zs.length - 1) (x.toNat - 1) = N at HM HC
      have HR := Lib.hid hr; have HI := Lib.hid hi; clear hr hi hx1
      go_enter Try.func29, Try.ntmps29
      go_wp2_with fail
      refine (specRowIn_true _ _ _ _ zs _ H.out HR.out).mono ?_; rintro e w' ⟨rfl, rfl⟩
      go_wp2_with fail
      refine (l6In_true _ _ _ _ HI.out).mono ?_; rintro e w' ⟨rfl, rfl⟩
      go_wp2_with fail
      refine HC.out.mono ?_; rintro e w' ⟨rfl, rfl⟩
      go_wp2
      go_ret2
      exact ⟨by rw [HM.out]; rfl, Below.refl _ _⟩

set_option maxHeartbeats 1000000 in
theorem l8Fits_any (A : Option Addr) (c n : Nat) (zs : List Int) (m x : Int) (k : Nat) (w : World) (h : IR w 0 w.heap.size A zs) (hr : hillB zs = true) (_h0 : 0 ≤ m) (_hm : m ≤ 1000000) (hx : x = (k : Int)) (_hk : k ≤ 12) (hn : n = zs.length) :
    Calls Try.prog 68 #[.slice A n c, .int .i64 m, .int .i64 x] w fun e w' => e = .returned (.bool (fitsB zs m k)) ∧ w' = w := by
  subst hn; subst hx
  have H := Lib.hid h; have HR := Lib.hid (hill_true hr).2
  have HN : Hid (∀ x, x ∈ zs → 0 ≤ x) := by
    have := (hill_true hr).1
    unfold nnB at this
    exact Lib.hid fun z hz => by simpa using List.all_eq_true.1 this z hz
  have h12 := (rowB_true.1 HR.out).2.2
  have HZ := Lib.hid (rowB_true.1 HR.out).1
  clear h hr
  go_enter Try.func68, Try.ntmps68
  go_wp2
  go_loop [7, 8, 9] (fun ps sm i => ∃ k : Nat, k ≤ zs.length ∧ i = .int .i64 (k : Int) ∧ ps = .int .i64 (fitTo zs m k).1 ∧ sm = .int .i64 (fitTo zs m k).2 ∧ Hid ((∀ j, j < k → zs.getD j 0 ≤ m) ∧ (fitTo zs m k).1 ≤ (k : Int) + 1 ∧ 1 ≤ (fitTo zs m k).1 ∧ 0 ≤ (fitTo zs m k).2 ∧ (fitTo zs m k).2 ≤ 1000 * (k : Int))) (fun _ _ i => zs.length - (intOf i).toNat)
  case atStart => exact ⟨0, Nat.zero_le _, rfl, rfl, rfl, Lib.hid ⟨fun j hj => absurd hj (by omega), by simp [fitTo], by simp [fitTo], by simp [fitTo], by simp [fitTo]⟩⟩
  case round =>
    obtain ⟨k', hk', rfl, rfl, rfl, hh⟩ := hrel
    by_cases hlt : k' < zs.length
    · obtain ⟨b, off, rfl, _, _, hc⟩ := H.out.at_ hlt
      rw [← getD_in] at hc
      have hlt' : (k' : Int) < (zs.length : Int) := by omega
      obtain ⟨q1, q2, q3, q4, q5⟩ := hh.out
      have hy1 := HN.out _ (List.getElem_mem hlt)
      have hy2 := HZ.out _ (List.getElem_mem hlt)
      rw [← getD_in] at hy1 hy2
      have HST : Hid (fitTo zs m (k' + 1) = if m < (fitTo zs m k').2 + zs.getD k' 0 then ((fitTo zs m k').1 + 1, zs.getD k' 0) else ((fitTo zs m k').1, (fitTo zs m k').2 + zs.getD k' 0)) := Lib.hid rfl
      have HNO : Hid (m < zs.getD k' 0 → fitsB zs m k = false) := Lib.hid fun e => by
        cases e2 : fitsB zs m k with
        | false => rfl
        | true =>
          have := (fits_true.1 e2).1 _ (List.getElem_mem hlt)
          rw [← getD_in] at this; omega
      have HQ1 := Lib.hid q1
      obtain ⟨y, hy⟩ : ∃ y, zs.getD k' 0 = y := ⟨_, rfl⟩
      have HYD := Lib.hid hy
      rw [hy] at hc hy1 hy2 HST HNO
      obtain ⟨u, v, huv⟩ : ∃ u v, fitTo zs m k' = (u, v) := ⟨_, _, rfl⟩
      rw [huv] at HST q2 q3 q4 q5
      rw [huv]
      dsimp only at HST q2 q3 q4 q5
      dsimp only
      clear hy huv q1 hh
      have s1 : IntKind.i64.wrap (u + 1) = u + 1 := IntWalk.i64_in _ (by omega)
      have s2 : IntKind.i64.wrap (v + y) = v + y := IntWalk.i64_in _ (by omega)
      have s3 : IntKind.i64.wrap (0 + y) = 0 + y := IntWalk.i64_in _ (by omega)
      have s4 : IntKind.i64.wrap y = y := IntWalk.i64_in _ (by omega)
      by_cases c1 : m < y
      · have HM := Lib.hid (HNO.out c1)
        go_wp2
        go_ret
        exact ⟨ret_bool HM.out.symm, rfl⟩
      · by_cases c2 : m < v + y
        · have HNEW : Hid (fitTo zs m (k' + 1) = (u + 1, y)) := by show _ = _; rw [HST.out, if_pos c2]
          have HALL : Hid (∀ j, j < k' + 1 → zs.getD j 0 ≤ m) := Lib.hid fun j hj => by
            by_cases e : j = k'
            · rw [e, HYD.out]; omega
            · exact HQ1.out j (by omega)
          go_wp2
          go_round
          case rel => exact ⟨k' + 1, by omega, by go_num, by rw [HNEW.out], by rw [HNEW.out], Lib.hid (by rw [HNEW.out]; exact ⟨HALL.out, by dsimp only; omega, by dsimp only; omega, by dsimp only; omega, by dsimp only; omega⟩)⟩
          case measure => simp [intOf]; omega
        · have HNEW : Hid (fitTo zs m (k' + 1) = (u, v + y)) := by show _ = _; rw [HST.out, if_neg c2]
          have HALL : Hid (∀ j, j < k' + 1 → zs.getD j 0 ≤ m) := Lib.hid fun j hj => by
            by_cases e : j = k'
            · rw [e, HYD.out]; omega
            · exact HQ1.out j (by omega)
          go_wp2
          go_round
          case rel => exact ⟨k' + 1, by omega, by go_num, by rw [HNEW.out], by rw [HNEW.out], Lib.hid (by rw [HNEW.out]; exact ⟨HALL.out, by dsimp only; omega, by dsimp only; omega, by dsimp only; omega, by dsimp only; omega⟩)⟩
          case measure => simp [intOf]; omega
    · obtain rfl : k' = zs.length := by omega
      have HM : Hid (fitsB zs m k = decide ((fitTo zs m zs.length).1 ≤ (k : Int))) := by
        show _ = _
        unfold fitsB
        rw [show (zs.all fun x => decide (x ≤ m)) = true from List.all_eq_true.2 fun z hz => by
          obtain ⟨j, hj, rfl⟩ := List.getElem_of_mem hz
          have := hh.out.1 j hj
          rw [getD_in hj] at this; simpa using this]
        rfl
      obtain ⟨u, hu⟩ : ∃ u, (fitTo zs m zs.length).1 = u := ⟨_, rfl⟩
      rw [hu] at HM
      rw [hu]
      clear hh hu
      by_cases c1 : u ≤ (k : Int)
      · go_wp2
        go_ret
        exact ⟨ret_bool (by rw [HM.out]; simp [c1]), rfl⟩
      · go_wp2
        go_ret
        exact ⟨ret_bool (by rw [HM.out]; simp [c1]), rfl⟩

set_option maxRecDepth 100000 in
set_option maxHeartbeats 1000000 in
theorem specSplitEven_any (A : Option Addr) (c : Nat) (zs : List Int) (x : Int) (_hx : I64 x) (w : World) (h : IR w 0 w.heap.size A zs) :
    Calls Try.prog 33 #[.slice A zs.length c, .int .i64 x] w fun e w' => e = .returned (splitEvenV zs x) ∧ Below w.heap.size w w' := by
  have H := Lib.hid h; clear h
  cases hr : hillB zs with
  | false =>
    have HM : Hid (splitEvenV zs x = .tuple #[.int .i64 0, .bool false]) := by show _ = _; unfold splitEvenV evenOkB; rw [hr]; rfl
    have HR := Lib.hid hr; clear hr
    go_enter Try.func33, Try.ntmps33
    go_wp2_with fail
    refine (l4Hill_of _ _ _ _ zs _ H.out HR.out).mono ?_; rintro e w' ⟨rfl, rfl⟩
    go_wp2
    go_ret2
    exact ⟨by rw [HM.out]; rfl, Below.refl _ _⟩
  | true =>
    have hrow := (hill_true hr).2
    have hl := (rowB_true.1 hrow).2
    cases hi : inB 1 (zs.length : Int) x with
    | false =>
      have HM : Hid (splitEvenV zs x = .tuple #[.int .i64 0, .bool false]) := by show _ = _; unfold splitEvenV evenOkB; rw [hi, Bool.and_false]; rfl
      have HR := Lib.hid hr; have HI := Lib.hid hi; clear hr hi hrow
      go_enter Try.func33, Try.ntmps33
      go_wp2_with fail
      refine (l4Hill_of _ _ _ _ zs _ H.out HR.out).mono ?_; rintro e w' ⟨rfl, rfl⟩
      go_wp2_with fail
      refine (l6In_false _ _ _ _ HI.out).mono ?_; rintro e w' ⟨rfl, rfl⟩
      go_wp2
      go_ret2
      exact ⟨by rw [HM.out]; rfl, Below.refl _ _⟩
    | true =>
      have hx1 := inB_true.1 hi
      obtain ⟨k, rfl⟩ : ∃ k : Nat, x = (k : Int) := ⟨x.toNat, by omega⟩
      have HM : Hid (splitEvenV zs (k : Int) = .tuple #[.int .i64 (splitEven zs k), .bool true]) := by
        show _ = _; unfold splitEvenV evenOkB; rw [hr, hi, if_pos (by rfl), Int.toNat_natCast]
      have HN : ∀ x, x ∈ zs → 0 ≤ x := by
        have := (hill_true hr).1
        unfold nnB at this
        exact fun z hz => by simpa using List.all_eq_true.1 this z hz
      obtain ⟨-, s2, s3, s4⟩ := splitEven_is (k := k) HN (by omega)
      have hs := take8_bd12 hrow (k := zs.length) (Nat.le_refl _)
      rw [List.take_length] at hs
      have HS := Lib.hid s4
      have HRW := Lib.hid hrow
      have HR := Lib.hid hr; have HI := Lib.hid hi
      have HF := Lib.hid (fun (m : Int) (h0 : 0 ≤ m) (hm : m ≤ 1000000) => l8Fits_any A c zs.length zs m (k : Int) k w H.out hr h0 hm rfl (by omega) rfl)
      clear hr hi hx1 s4 HN hrow
      generalize splitEven zs k = E at HM s2 s3 HS
      go_enter Try.func33, Try.ntmps33
      go_wp2_with fail
      refine (l4Hill_of _ _ _ _ zs _ H.out HR.out).mono ?_; rintro e w' ⟨rfl, rfl⟩
      go_wp2_with fail
      refine (l6In_true _ _ _ _ HI.out).mono ?_; rintro e w' ⟨rfl, rfl⟩
      go_wp2_with fail
      refine (l7Sum8_any A _ c _ _ zs _ H.out HRW.out rfl).mono ?_; rintro e w' ⟨rfl, rfl⟩
      go_wp2
      clear hl
      go_loop [6, 7, 8] (fun lo hi _ => ∃ p q : Int, lo = .int .i64 p ∧ hi = .int .i64 q ∧ Hid (0 ≤ p ∧ p ≤ E ∧ E ≤ q ∧ q ≤ 12000)) (fun lo hi _ => (intOf hi - intOf lo).toNat)
      case atStart => exact ⟨0, _, rfl, rfl, Lib.hid ⟨by omega, s2, s3, hs.2⟩⟩
      case round =>
        obtain ⟨p, q, rfl, rfl, hh⟩ := hrel
        obtain ⟨h1, h2, h3, h4⟩ := hh.out
        by_cases hlt : p < q
        · have d1 : (p + q).tdiv 2 = (p + q) / 2 := Int.tdiv_eq_ediv_of_nonneg (by omega)
          obtain ⟨m, hm⟩ : ∃ m, (p + q).tdiv 2 = m := ⟨_, rfl⟩
          have hm1 : p ≤ m := by omega
          have hm2 : m < q := by omega
          have t1 : IntKind.i64.wrap (p + q) = p + q := IntWalk.i64_in _ (by omega)
          have t2 : IntKind.i64.wrap ((p + q).tdiv 2) = m := by rw [hm]; exact IntWalk.i64_in _ (by omega)
          have t3 : IntKind.i64.wrap (m + 1) = m + 1 := IntWalk.i64_in _ (by omega)
          have HC := Lib.hid (HF.out m (by omega) (by omega))
          have hiff := HS.out m (by omega)
          clear hm d1
          cases hf : fitsB zs m k with
          | true =>
            have := hiff.1 hf
            rw [hf] at HC
            clear hiff hf
            go_wp2_with fail
            refine HC.out.mono ?_; rintro e w' ⟨rfl, rfl⟩
            go_wp2
            go_round
            case rel => exact ⟨p, m, rfl, rfl, Lib.hid ⟨h1, h2, this, by omega⟩⟩
            case measure => simp [intOf]; omega
          | false =>
            have : ¬ E ≤ m := fun e => by rw [hiff.2 e] at hf; cases hf
            rw [hf] at HC
            clear hiff hf
            go_wp2_with fail
            refine HC.out.mono ?_; rintro e w' ⟨rfl, rfl⟩
            go_wp2
            go_round
            case rel => exact ⟨m + 1, q, rfl, rfl, Lib.hid ⟨by omega, by omega, h3, h4⟩⟩
            case measure => simp [intOf]; omega
        · obtain rfl : p = E := by omega
          go_wp2
          go_ret2
          exact ⟨by rw [HM.out]; rfl, Below.refl _ _⟩

end Go.Proofs.Ytfkmnlhmldjieaa
