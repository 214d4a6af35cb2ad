/-
  The law FnLevels walked: for all codes it returns true, and nothing that lay before has turned. Conditions: none but those of its row.
-/
import Derived.Test.YtkghpmjbclnojabDrawOne
import Derived.Test.YtkghpmjbclnojabEvD
import Derived.Test.YtkghpmjbclnojabSame
import Derived.StillTailTactics
namespace Go.Proofs.Ytkghpmjbclnojab
open Go.RowKit

open Go.Shelf

set_option maxRecDepth 100000 in
set_option maxHeartbeats 4000000 in
theorem lawSorted_is (A : Option Addr) (n c : Nat) (zs : List Int) (w : World) (h : IR w 0 w.heap.size A zs) (hn : zs.length ≤ 1048576) (hnn : n = zs.length) :
    Calls Try.prog 20 #[.slice A n c] w fun e w' => ∃ zs', zs'.Perm zs ∧ Sorted zs' ∧ RetS w zs' e w' := by
  subst hnn
  have H := Lib.hid h
  clear h
  have HA := Lib.hid (H.out.grow ((Below.refl _ _).alloc (Nat.le_refl _) (.cells #[] 3)))
  go_enter Try.func20, Try.ntmps20
  go_wp2_with (at_builtin; refine wpList_appendsI rfl _ _ rfl w.heap.size _ [] zs A _ _ _ c rfl rfl rfl (OwnI.made w) HA.out (by simp; omega) ?_; intro v1 w1 ho1 hb1; have HO1 := Lib.hid ho1; have HB1 := Lib.hid hb1; clear ho1 hb1)
  have HL1 : Hid (([] ++ zs : List Int).length = zs.length) := by show _ = _; simp
  obtain ⟨A1, c1, rfl, hi1⟩ := HO1.out.iwn HL1.out (by omega)
  have HI1 := Lib.hid hi1
  clear hi1 HO1 HA
  rcases Nat.eq_zero_or_pos zs.length with h0 | h0
  · have h0' : ¬ (1 : Int) < (zs.length : Int) := by omega
    go_wp2
    refine wp_loop_rounds 1 ?_
    rw [rounds_succ]
    go_wp2
    go_ret
    exact ⟨_, by rw [List.nil_append], sorted_getD (fun i j h1 h2 => by rw [HL1.out] at h2; omega), retS_of (by rw [HL1.out]; exact h0.symm) HI1.out (((Below.refl _ _).alloc (Nat.le_refl _) _).trans HB1.out)⟩
  · obtain ⟨b, off, rfl, hlo, hhi, hcs⟩ := HI1.out.2.2.2 (by rw [HL1.out]; exact h0)
    have HC1 : Hid (Cells w1 b off ([] ++ zs)) := hcs
    have HZ1 := Lib.hid HI1.out.2.1
    clear hcs HI1
    have HW1 : Hid (Below w.heap.size w w1) := ((Below.refl _ _).alloc (Nat.le_refl _) _).trans HB1.out
    clear HB1
    go_wp2
    go_loopw [4] (fun i wr => ∃ (k : Nat) (ys : List Int), i = .int .i64 ((k : Int) + 1) ∧ k < zs.length ∧ UpTo zs ys k ∧ (∀ y, y ∈ ys → I64 y) ∧ Cells wr b off ys ∧ Below w.heap.size w wr ∧ wr.heap.size = w1.heap.size) (fun i _ => zs.length - (intOf i).toNat)
    case atStart => exact ⟨0, _, rfl, h0, ⟨HL1.out, by rw [List.nil_append], fun i j h1 h2 => by omega⟩, HZ1.out, HC1.out, HW1.out, rfl⟩
    case round =>
      obtain ⟨k, ys, rfl, hk, hup, hz, hc, hb, hsz⟩ := hrel
      have HU := Lib.hid hup
      have hys : ys.length = zs.length := hup.1
      clear hup
      have HZ := Lib.hid hz; have HC := Lib.hid hc; have HB := Lib.hid hb; have HS := Lib.hid hsz
      clear hz hc hb hsz HC1 HZ1 HW1
      by_cases hlt : k + 1 < zs.length
      · have hlt' : (k : Int) + 1 < (zs.length : Int) := by omega
        have hk1 : k + 1 < ys.length := by omega
        obtain ⟨hc1, -⟩ := HC.out (k + 1) hk1
        obtain ⟨X, hX⟩ : ∃ X, ys[k + 1]'hk1 = X := ⟨_, rfl⟩
        rw [hX] at hc1
        have hXi : I64 X := by rw [← hX]; exact HZ.out _ (List.getElem_mem hk1)
        obtain ⟨hX1, hX2⟩ := hXi
        have q0 : (0 : Int) ≤ (k : Int) + 1 := by omega
        have q1 : ((k : Int) + 1).toNat = k + 1 := by omega
        have HOL : Hid (Hole zs ys X (k + 1) (k + 1)) := by
          have := Hole.begin HU.out hlt
          rw [getD_in hk1, hX] at this; exact this
        clear hX
        go_wp2
        go_loopw [6] (fun i wr => ∃ (M : Int) (ys : List Int), i = .int .i64 M ∧ 0 ≤ M ∧ M < (zs.length : Int) ∧ Hole zs ys X M.toNat (k + 1) ∧ (∀ y, y ∈ ys → I64 y) ∧ Cells wr b off ys ∧ Below w.heap.size w wr ∧ wr.heap.size = w1.heap.size) (fun i _ => (intOf i).toNat)
        case atStart => exact ⟨(k : Int) + 1, _, rfl, q0, hlt', (by rw [q1]; exact HOL.out), HZ.out, HC.out, HB.out, HS.out⟩
        case round =>
          clear hk1 hc1 q1 HZ HC HB HS hys HU HOL
          obtain ⟨M, ys, rfl, p0, p1, hup, hz, hc, hb, hsz⟩ := hrel
          have HU := Lib.hid hup
          have hys : ys.length = zs.length := hup.1
          clear hup
          have HZ := Lib.hid hz; have HC := Lib.hid hc; have HB := Lib.hid hb; have HS := Lib.hid hsz
          clear hz hc hb hsz
          have hmy : M.toNat < ys.length := by omega
          obtain ⟨hcm, hfm⟩ := HC.out M.toNat hmy
          obtain ⟨Z, hZ⟩ : ∃ Z, ys[M.toNat]'hmy = Z := ⟨_, rfl⟩
          rw [hZ] at hcm
          clear hZ
          have HX : Hid (I64 X) := ⟨hX1, hX2⟩
          have HN := Lib.hid (HC.out.set_ M.toNat hmy X)
          by_cases p2 : 0 < M
          · have hj : (M.toNat - 1) < ys.length := by omega
            obtain ⟨hcj, -⟩ := HC.out (M.toNat - 1) hj
            obtain ⟨Y, hY⟩ : ∃ Y, ys[(M.toNat - 1)]'hj = Y := ⟨_, rfl⟩
            rw [hY] at hcj
            have HY : Hid (I64 Y) := by rw [← hY]; exact HZ.out _ (List.getElem_mem hj)
            have p3 : (0 : Int) ≤ M - 1 := by omega
            have p4 : M - 1 < (zs.length : Int) := by omega
            have HN2 := Lib.hid (HC.out.set_ M.toNat hmy Y)
            have HYD : Hid (ys.getD (M.toNat - 1) 0 = Y) := (getD_in hj).trans hY
            clear hY hj hmy
            by_cases hlt2 : X < Y
            · go_wp2
              go_roundw
              case rel => exact ⟨M - 1, _, rfl, p3, p4, (by have h9 := Hole.step HU.out (by omega) (by rw [HYD.out]; exact hlt2); rw [HYD.out] at h9; rw [show (M - 1).toNat = M.toNat - 1 by omega]; exact h9), setI64 HZ.out HY.out, HN2.out, HB.out.setCell hlo _, by simpa [World.setCell] using HS.out⟩
              case measure => simp [intOf]; omega
            · go_wp2
              go_roundw
              case rel => exact ⟨k + 1, _, by go_num, by omega, Hole.done HU.out (.inr (by rw [HYD.out]; omega)), setI64 HZ.out HX.out, HN.out, HB.out.setCell hlo _, by simpa [World.setCell] using HS.out⟩
              case measure => simp [intOf]; omega
          · clear hmy
            go_wp2
            go_roundw
            case rel => exact ⟨k + 1, _, by go_num, by omega, Hole.done HU.out (.inl (by omega)), setI64 HZ.out HX.out, HN.out, HB.out.setCell hlo _, by simpa [World.setCell] using HS.out⟩
            case measure => simp [intOf]; omega
      · have hkn : k + 1 = zs.length := by omega
        have hlt' : ¬ (k : Int) + 1 < (zs.length : Int) := by omega
        have HI2 : Hid (IW wr w.heap.size wr.heap.size (some ⟨b, off, none⟩) ys) := HC.out.iw hys hlo (by rw [HS.out]; exact hhi) (Nat.le_refl _) (by omega) HZ.out
        go_wp2
        go_ret
        exact ⟨_, HU.out.2.1, UpTo.sorted HU.out hkn, retS_of hys.symm HI2.out HB.out⟩

theorem lawSorted_any (A : Option Addr) (n c : Nat) (zs : List Int) (w : World) (h : IR w 0 w.heap.size A zs) (hl : zs.length ≤ 1048576) (hn : n = zs.length) :
    Calls Try.prog 20 #[.slice A n c] w (RetS w (ascL zs)) :=
  (lawSorted_is A n c zs w h hl hn).mono fun e w' ⟨ys, hp, hs, hr⟩ => by
    have e1 : ys = ascL zs := by rw [asc_rev, ← sorted_down hp hs, List.reverse_reverse]
    rw [← e1]; exact hr

set_option maxHeartbeats 1000000 in
/-- Two lists of one length: whether they are alike. -/
theorem sameInts_decE (A A' : Option Addr) (n n' c c' lo hi lo' hi' : Nat) (xs ys : List Int) (w : World) (h : IR w lo hi A xs) (h' : IR w lo' hi' A' ys) (hn : n = xs.length) (hn' : n' = ys.length) (hl : ys.length = xs.length) :
    Calls Try.prog 19 #[.slice A n c, .slice A' n' c'] w fun e w' => e = .returned (.bool (decide (xs = ys))) ∧ Below w.heap.size w w' := by
  subst hn
  rw [hl] at hn'
  subst hn'
  have hlx := h.1
  have HL := Lib.hid hl
  clear hl
  go_enter Try.func19, Try.ntmps19
  go_wp2
  go_loopw [5] (fun i wr => ∃ k m : Nat, k ≤ xs.length ∧ i = .int .i64 k ∧ wr = w.drewN m ∧ ∀ j, j < k → xs.getD j 0 = ys.getD j 0) (fun i _ => xs.length - (intOf i).toNat)
  case atStart => exact ⟨0, 0, Nat.zero_le _, rfl, rfl, fun j hj => by omega⟩
  case round =>
    obtain ⟨k, m, hk, rfl, rfl, hall⟩ := hrel
    have HA := Lib.hid hall
    clear hall
    by_cases hlt : k < xs.length
    · have hlt2 : k < ys.length := by rw [HL.out]; exact hlt
      obtain ⟨b, off, rfl, _, _, hc⟩ := h.at_ hlt
      obtain ⟨b', off', rfl, _, _, hc'⟩ := h'.at_ hlt2
      have hlt' : (k : Int) < (xs.length : Int) := by omega
      have G1 := Lib.hid (getD_in hlt); have G2 := Lib.hid (getD_in hlt2)
      by_cases e : xs[k] = ys[k]
      · have E := Lib.hid e
        go_wp2
        go_quiet (fail)
        go_wp2
        go_roundw
        case rel =>
          refine ⟨k + 1, _, by omega, by go_num, rfl, fun j hj => ?_⟩
          by_cases ej : j = k
          · subst ej; rw [G1.out, G2.out]; exact E.out
          · exact HA.out j (by omega)
        case measure => simp [intOf]; omega
      · have E := Lib.hid e
        go_wp2
        go_quiet (fail)
        go_wp2
        go_ret
        refine ⟨ret_bool ?_, below_drawN (below_drawN (Below.refl _ _) _) _⟩
        rw [Eq.comm, decide_eq_false_iff_not]
        intro hq
        apply E.out
        subst hq; rfl
    · obtain rfl : k = xs.length := by omega
      go_wp2
      go_ret
      refine ⟨ret_bool ?_, below_drawN (Below.refl _ _) _⟩
      rw [Eq.comm, decide_eq_true_iff]
      apply List.ext_getElem HL.out.symm
      intro j j1 j2
      have := HA.out j j1
      rwa [getD_in j1, getD_in j2] at this

/-- Only draws. -/
def DrE (w w' : World) : Prop := ∃ m, w' = w.drewN m
theorem DrE.refl (w : World) : DrE w w := ⟨0, rfl⟩
theorem DrE.more {w w' : World} (h : DrE w w') (n : Nat) : DrE w (w'.drewN n) := by
  obtain ⟨m, rfl⟩ := h; exact ⟨m + n, by simp [World.drewN]; omega⟩
theorem DrE.irr {w w' : World} {lo hi : Nat} {A : Option Addr} {t : List (List Int)} (h : IRR w lo hi A t) (k : DrE w w') : IRR w' lo hi A t := by
  obtain ⟨m, rfl⟩ := k; exact h.drewN m
theorem DrE.below {w w' : World} (k : DrE w w') : Below w.heap.size w w' := by
  obtain ⟨m, rfl⟩ := k; exact below_drawN (Below.refl _ _) m

set_option maxHeartbeats 1000000 in
set_option maxRecDepth 100000 in
theorem sameRows_bE (A A' : Option Addr) (n n' c c' lo hi lo' hi' : Nat) (zss : List (List Int)) (w : World) (h : IRR w lo hi A zss) (h' : IRR w lo' hi' A' zss) (hn : n = zss.length) (hn' : n' = zss.length) :
    Calls Try.prog 17 #[.slice A n c, .slice A' n' c'] w fun e w' => e = .returned (.bool true) ∧ Below w.heap.size w w' := by
  refine Calls.mono (R := fun e w' => e = .returned (.bool true) ∧ DrE w w') ?_ fun _ _ ⟨he, d⟩ => ⟨he, d.below⟩
  have hl := h.1
  have H := Lib.hid h; have G := Lib.hid h'
  obtain ⟨N, hN⟩ : ∃ N, zss.length = N := ⟨_, rfl⟩
  have HN := Lib.hid hN
  rw [hN] at hn hn' hl
  subst hn
  have e : n = n' := hn'.symm
  subst e
  clear h h' hN hn'
  go_enter Try.func17, Try.ntmps17
  go_wp2
  go_loopw [5] (fun i wr => ∃ k : Nat, k ≤ n ∧ i = .int .i64 k ∧ DrE w wr) (fun i _ => n - (intOf i).toNat)
  case atStart => exact ⟨0, Nat.zero_le _, rfl, DrE.refl _⟩
  case round =>
    obtain ⟨W, hW⟩ : ∃ W, W = wr := ⟨_, rfl⟩
    subst hW
    obtain ⟨k, hk, rfl, hd⟩ := hrel
    have HD := Lib.hid hd
    by_cases hlt : k < n
    · have hkz : k < zss.length := by rw [HN.out]; exact hlt
      obtain ⟨b, off, Ak, ck, rfl, _, hc, _, hrow⟩ := (hd.irr H.out).at_ hkz
      obtain ⟨b', off', Ak', ck', rfl, _, hc', _, hrow'⟩ := (hd.irr G.out).at_ hkz
      have hlt' : (k : Int) < (n : Int) := by omega
      obtain ⟨zs, hzs⟩ : ∃ zs, zss[k] = zs := ⟨_, rfl⟩
      rw [hzs] at hc hc' hrow hrow'
      obtain ⟨m, hm⟩ : ∃ m, zs.length = m := ⟨_, rfl⟩
      rw [hm] at hc hc'
      have HR := Lib.hid hrow; have HR' := Lib.hid hrow'; have HM := Lib.hid hm.symm
      clear hrow hrow' hzs hd hm
      go_wp2
      go_still_tail 8, (by kernel_rfl)
      change wpList _ _ _ _ _ (World.drew W)
      go_wp2_with fail
      refine (sameInts_true Ak Ak' m m ck ck' _ _ _ _ zs _ (HR.out.drewN 1) (HR'.out.drewN 1) HM.out HM.out).mono ?_
      rintro e w' ⟨rfl, m', rfl⟩
      go_wp2
      go_roundw
      case rel => exact ⟨k + 1, by omega, by go_num, HD.out.more (1 + m')⟩
      case measure => simp [intOf]; omega
    · obtain rfl : k = n := by omega
      clear hd
      go_wp2
      go_ret
      exact ⟨rfl, HD.out⟩
set_option maxHeartbeats 1000000 in
theorem DrawEvenLevels_any (A : Option Addr) (c : Nat) (bs : List Int) (w : World) (h : BR w w.heap.size A bs) (hc : bs.length ≤ c) (hc2 : c ≤ 9000000000000000000) :
    Calls Try.prog 14 #[.slice A bs.length c] w (OnePost w 10) := by
  have H := Lib.hid h
  clear h
  go_enter Try.func14, Try.ntmps14
  go_wp2_with fail
  refine (l91One_any A c bs _ H.out hc hc2).mono ?_
  rintro e w1 ⟨A1, c1, zs, rfl, hz, hi, hb⟩
  have I0 := Lib.hid hi; have B0 := Lib.hid hb; have HZ := Lib.hid hz
  clear hi hb hz
  go_wp2
  go_ret
  exact ⟨A1, c1, zs, rfl, HZ.out, I0.out, B0.out⟩

theorem levels_each {a : List Int} (hr : rowB a = true) : ∀ z, z ∈ levelsL a → rowB z = true ∧ evenIsB z a = true ∧ evenIsB a z = false := fun z hz => by
  obtain ⟨h1, h2⟩ := levels_law hz
  have hz2 := ev_row h1 hr
  refine ⟨hz2, evenIs_true.2 ⟨hz2, hr, h1⟩, ?_⟩
  cases h : evenIsB a z with
  | false => rfl
  | true => exact absurd (evenIs_true.1 h).2.2 h2

set_option maxHeartbeats 1500000 in
set_option maxRecDepth 100000 in
theorem lawFnLevels_any (A0 : Option Addr) (c0 : Nat) (bs : List Int) (w : World) (h0 : BR w w.heap.size A0 bs) (hc : bs.length ≤ c0) (hc2 : c0 ≤ 9000000000000000000) :
    Calls Try.prog 4 #[.slice A0 bs.length c0] w fun e w' => e = .returned (.bool true) ∧ Below w.heap.size w w' := by
  by_cases hbig : (1048576 : Int) < (bs.length : Int)
  · clear h0
    go_enter Try.func4, Try.ntmps4
    go_wp2
    go_ret
    exact ⟨rfl, Below.refl _ _⟩
  have H0 := Lib.hid h0
  clear h0
  have BB := Lib.hid (Below.refl w.heap.size w)
  go_enter Try.func4, Try.ntmps4
  go_wp2_with fail
  refine (DrawEvenLevels_any _ _ bs _ H0.out hc hc2).mono ?_
  rintro e w1 ⟨A, c, zs, rfl, hz, iw, bb⟩
  replace BB := Lib.hid (below_then BB.out (Nat.le_refl _) bb)
  have Z := Lib.hid iw.toAll
  clear bb
  clear iw hz
  go_wp2_with fail
  refine (implEvenLevels_any _ _ zs _ Z.out.toAll).mono ?_
  rintro e w2 ⟨A2, c2, rfl, -, iw, bb⟩
  replace BB := Lib.hid (below_then BB.out (Nat.le_refl _) bb)
  replace Z := Lib.hid (Z.out.grow bb)
  have G := Lib.hid iw.toAll
  clear bb
  clear iw
  go_wp2_with fail
  refine (specEvenLevels_any _ _ zs _ Z.out.toAll).mono ?_
  rintro e w3 ⟨A3, c3, rfl, iw, bb⟩
  replace BB := Lib.hid (below_then BB.out (Nat.le_refl _) bb)
  replace Z := Lib.hid (Z.out.grow bb)
  replace G := Lib.hid (G.out.grow bb)
  have V := Lib.hid iw.toAll
  clear bb
  clear iw
  cases hr : rowB zs with
  | false =>
    have HM : Hid (levelsM zs = none) := by show _ = _; simp [levelsM, hr]
    rw [HM.out] at G V
    rw [HM.out]
    clear hr HM
    replace G : Hid (IRR w3 _ _ A2 []) := G
    replace V : Hid (IRR w3 _ _ A3 []) := V
    go_wp2_with fail
    refine (sameRows_bE _ _ _ _ _ _ _ _ _ _ [] _ G.out V.out rfl rfl).mono ?_
    rintro e w4 ⟨rfl, bb⟩
    replace BB := Lib.hid (below_then BB.out (Nat.le_refl _) bb)
    replace G := Lib.hid (G.out.grow bb)
    replace V := Lib.hid (V.out.grow bb)
    clear bb
    go_wp2_with fail
    refine (sameRows_bE _ _ _ _ _ _ _ _ _ _ [] _ G.out V.out rfl rfl).mono ?_
    rintro e w5 ⟨rfl, bb⟩
    replace BB := Lib.hid (below_then BB.out (Nat.le_refl _) bb)
    replace G := Lib.hid (G.out.grow bb)
    replace V := Lib.hid (V.out.grow bb)
    clear bb
    go_wp2
    go_ret
    exact ⟨rfl, BB.out⟩
  | true =>
    have HM : Hid (levelsM zs = some (levelsL zs)) := by show _ = _; simp [levelsM, hr]
    have FM : Hid (mostM zs = some (mostEv zs)) := by show _ = _; simp [mostM, hr]
    have HEA := Lib.hid (levels_each hr)
    have hz0 := row_pos hr
    have hz12 := (rowB_true.1 hr).2
    have HNO := Lib.hid (levels_none (a := zs) hz0)
    rw [HM.out] at G V
    rw [HM.out]
    have e1 : (some (levelsL zs)).getD [] = levelsL zs := rfl
    rw [e1]
    replace G : Hid (IRR w3 _ _ A2 (levelsL zs)) := G
    replace V : Hid (IRR w3 _ _ A3 (levelsL zs)) := V
    clear hr HM e1
    obtain ⟨L, hL⟩ : ∃ L, levelsL zs = L := ⟨_, rfl⟩
    rw [hL] at G V HEA HNO
    rw [hL]
    clear hL
    go_wp2_with fail
    refine (sameRows_bE _ _ _ _ _ _ _ _ _ _ L _ G.out V.out rfl rfl).mono ?_
    rintro e w4 ⟨rfl, bb⟩
    replace BB := Lib.hid (below_then BB.out (Nat.le_refl _) bb)
    replace Z := Lib.hid (Z.out.grow bb)
    replace G := Lib.hid (G.out.grow bb)
    replace V := Lib.hid (V.out.grow bb)
    clear bb
    clear V
    go_wp2_with fail
    refine (implEvenMost_any _ _ zs _ Z.out.toAll).mono ?_
    rintro e w5 ⟨A5, c5, rfl, iw, bb⟩
    replace BB := Lib.hid (below_then BB.out (Nat.le_refl _) bb)
    replace Z := Lib.hid (Z.out.grow bb)
    replace G := Lib.hid (G.out.grow bb)
    have X := Lib.hid iw.toAll
    clear bb
    clear iw
    rw [FM.out] at X
    rw [FM.out]
    have e1 : (some (mostEv zs)).getD [] = (mostEv zs) := rfl
    rw [e1]
    replace X : Hid (IR w5 _ _ A5 (mostEv zs)) := X
    clear e1
    have HML : Hid ((mostEv zs).length = zs.length) := most_len zs
    obtain ⟨mo, hmo⟩ : ∃ mo, mostEv zs = mo := ⟨_, rfl⟩
    rw [hmo] at X HML HNO
    rw [hmo]
    clear hmo FM
    have hLn := G.out.1
    go_wp2
    go_loopw [10] (fun x wr => ∃ k : Nat, k ≤ L.length ∧ x = .int .i64 (k : Int) ∧ Below w5.heap.size w5 wr) (fun x _ => L.length - (intOf x).toNat)
    case atStart => exact ⟨0, Nat.zero_le _, rfl, Below.refl _ _⟩
    case round =>
      obtain ⟨k, hk, rfl, hbl⟩ := hrel
      have HBL := Lib.hid hbl
      clear hbl
      by_cases hkt : k < L.length
      · have hkt' : (k : Int) < (L.length : Int) := by omega
        obtain ⟨b, off, Ak, ck, rfl, hbs, hcell, hcp, hrow⟩ := (G.out.grow HBL.out).at_ hkt
        have HROW := Lib.hid hrow
        have HZR := Lib.hid (Z.out.grow HBL.out)
        have HR1 := Lib.hid (HEA.out _ (List.getElem_mem hkt)).2.1
        have HR2 := Lib.hid (HEA.out _ (List.getElem_mem hkt)).2.2
        clear hrow hcp
        go_wp2_with fail
        refine (implEvenIs_any _ _ L[k] _ _ zs _ HROW.out.toAll HZR.out.toAll).mono ?_
        rintro e w0 ⟨rfl, bb⟩
        rw [HR1.out]
        have hcell0 := (bb.cell (p := ⟨b, off + k, none⟩) hbs).trans hcell
        have HROW0 := Lib.hid (HROW.out.grow bb)
        have HZR0 := Lib.hid (HZR.out.grow bb)
        have HB0 := Lib.hid (below_then HBL.out (Nat.le_refl _) bb)
        clear bb hcell
        go_wp2_with fail
        refine (implEvenIs_any _ _ zs _ _ L[k] _ HZR0.out.toAll HROW0.out.toAll).mono ?_
        rintro e w9 ⟨rfl, bb⟩
        rw [HR2.out]
        have HB9 := Lib.hid (below_then HB0.out (Nat.le_refl _) bb)
        clear bb hcell0
        go_wp2
        go_roundw
        case rel => exact ⟨k + 1, by omega, by go_num, HB9.out⟩
        case measure => simp [intOf]; omega
      · obtain rfl : k = L.length := by omega
        have hkt' : ¬ (L.length : Int) < (L.length : Int) := by omega
        replace BB := Lib.hid (below_then BB.out (Nat.le_refl _) HBL.out)
        have HZ1 := Lib.hid (Z.out.grow HBL.out)
        have HX1 := Lib.hid (X.out.grow HBL.out)
        clear Z X G
        go_wp2_with fail
        refine (lawSorted_any _ _ _ zs _ HZ1.out.toAll (by omega) rfl).mono ?_
        rintro e w5 ⟨A7, c7, rfl, iw, bb⟩
        have HS5 := Lib.hid iw.toAll
        replace BB := Lib.hid (below_then BB.out (Nat.le_refl _) bb)
        have HX5 := Lib.hid (HX1.out.grow bb)
        clear iw bb
        go_wp2_with fail
        refine (lawSorted_any _ _ _ mo _ HX5.out.toAll (by rw [HML.out]; omega) rfl).mono ?_
        rintro e w6 ⟨A8, c8, rfl, iw, bb⟩
        have HT6 := Lib.hid iw.toAll
        replace BB := Lib.hid (below_then BB.out (Nat.le_refl _) bb)
        have HS6 := Lib.hid (HS5.out.grow bb)
        clear iw bb
        have HLE : Hid ((ascL mo).length = (ascL zs).length) := by show _ = _; rw [(asc_perm mo).length_eq, (asc_perm zs).length_eq, HML.out]
        go_wp2_with fail
        refine (sameInts_decE _ _ _ _ _ _ _ _ _ _ (ascL zs) (ascL mo) _ HS6.out HT6.out rfl rfl HLE.out).mono ?_
        rintro e w7 ⟨rfl, bb⟩
        replace BB := Lib.hid (below_then BB.out (Nat.le_refl _) bb)
        have hiff := HNO.out
        clear bb
        by_cases e0 : L = []
        · have e1 : decide (ascL zs = ascL mo) = true := decide_eq_true (hiff.1 e0)
          rw [e1]
          have e2 : ((L.length : Int) == 0) = true := by rw [e0]; rfl
          clear e0 e1 hiff hLn hkt hkt'
          go_wp2
          go_ret
          exact ⟨rfl, BB.out⟩
        · have e1 : decide (ascL zs = ascL mo) = false := decide_eq_false fun h => e0 (hiff.2 h)
          rw [e1]
          have e3 := List.length_pos_iff.2 e0
          have e2 : ((L.length : Int) == 0) = false := beq_eq_false_iff_ne.2 (by omega)
          clear e0 e1 e3 hiff hLn hkt hkt'
          go_wp2
          go_ret
          exact ⟨rfl, BB.out⟩
end Go.Proofs.Ytkghpmjbclnojab
