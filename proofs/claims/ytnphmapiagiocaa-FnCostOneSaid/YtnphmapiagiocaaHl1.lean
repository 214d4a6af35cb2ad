/-
  HillRound of the model, and whether a list is a hill, of the model and of the program. Conditions: the list's cells are there.
-/
import Derived.Test.YtnphmapiagiocaaHvMath
import Derived.Test.YtnphmapiagiocaaImp2
namespace Go.Proofs.Ytnphmapiagiocaa
open Go.RowKit Go.Shelf

set_option maxHeartbeats 1000000 in
theorem l4Hill_any (A : Option Addr) (c lo hi : Nat) (zs : List Int) (w : World) (h : IR w lo hi A zs) :
    Calls Try.prog 57 #[.slice A zs.length c] w fun e w' => e = .returned (.bool (hillB zs)) ∧ w = w' := by
  have hl := h.1
  go_enter Try.func57, Try.ntmps57
  go_wp2
  go_loop [3] (fun i => ∃ k : Nat, k ≤ zs.length ∧ i = .int .i64 k ∧ Hid (∀ j, j < k → 0 ≤ zs.getD j 0)) (fun i => zs.length - (intOf i).toNat)
  case atStart => exact ⟨0, Nat.zero_le _, rfl, Lib.hid fun j hj => absurd hj (by omega)⟩
  case round =>
    obtain ⟨k, hk, rfl, hall⟩ := hrel
    by_cases hlt : k < zs.length
    · obtain ⟨b, off, rfl, _, _, hc⟩ := h.at_ hlt
      have hlt' : (k : Int) < (zs.length : Int) := by omega
      have hg := getD_in hlt
      obtain ⟨x, hx⟩ : ∃ x, zs[k] = x := ⟨_, rfl⟩
      rw [hx] at hc hg
      have HG := Lib.hid hg
      clear hx hg
      by_cases hneg : x < 0
      · have HN : Hid (hillB zs = false) := by
          show _ = _
          unfold hillB
          rw [nnB_false (k := k) (by rw [HG.out]; exact hneg)]; rfl
        go_wp2
        go_ret
        exact ⟨ret_bool HN.out.symm, rfl⟩
      · go_wp2
        go_round
        case rel => exact ⟨k + 1, by omega, by go_num, Lib.hid fun j hj => by
          by_cases e : j = k
          · subst e; rw [HG.out]; omega
          · exact hall.out j (by omega)⟩
        case measure => simp [intOf]; omega
    · obtain rfl : k = zs.length := by omega
      have HN : Hid (hillB zs = rowB zs) := by
        show _ = _
        unfold hillB
        rw [nnB_of hall.out]; rfl
      clear hall
      go_wp2_with fail
      refine (specRowIn_any _ _ _ _ zs _ h).mono ?_; rintro e w' ⟨rfl, rfl⟩
      go_wp2
      go_ret
      exact ⟨ret_bool (by rw [HN.out]), rfl⟩
theorem l4Hill_of {b : Bool} (A : Option Addr) (c lo hi : Nat) (zs : List Int) (w : World) (h : IR w lo hi A zs) (hb : hillB zs = b) :
    Calls Try.prog 57 #[.slice A zs.length c] w fun e w' => e = .returned (.bool b) ∧ w = w' := by
  have := l4Hill_any A c lo hi zs w h; rwa [hb] at this

theorem ends_get (zs : List Int) (k : Nat) (h : k + 1 < zs.length) : endsB zs (k + 1) = (endsB zs k || decide (0 < zs[k]) && decide (zs[k + 1] = 0)) := by
  rw [endsB_succ, getD_in h, getD_in (show k < zs.length by omega)]

set_option maxRecDepth 100000 in
set_option maxHeartbeats 4000000 in
theorem l4Round_any (A : Option Addr) (c : Nat) (zs : List Int) (w : World) (h : IR w 0 w.heap.size A zs) (hr : rowB zs = true) :
    Calls Try.prog 58 #[.slice A zs.length c] w fun e w' => e = .returned (.bool (roundB zs)) ∧ Below w.heap.size w w' := by
  have hl := (rowB_true.1 hr).2
  have H := Lib.hid h; clear h
  have HR := Lib.hid hr; clear hr
  go_enter Try.func58, Try.ntmps58
  go_wp2
  go_loopw [3, 4] (fun r i wr => ∃ k m : Nat, i = .int .i64 ((k : Int) + 1) ∧ r = .bool (endsB zs k) ∧ wr = w.drewN m ∧ k ≤ zs.length ∧ Hid (RoundTo zs k)) (fun _ i _ => zs.length + 1 - (intOf i).toNat)
  case atStart => exact ⟨0, 0, rfl, rfl, rfl, Nat.zero_le _, Lib.hid (roundTo_zero zs)⟩
  case round =>
    obtain ⟨k, m, rfl, rfl, rfl, hkl, hall⟩ := hrel
    by_cases hlt : k + 1 < zs.length
    · have i0 : k < zs.length := by omega
      obtain ⟨b, off, rfl, _, _, hc1⟩ := H.out.at_ hlt
      obtain ⟨b', off', e, _, _, hc0⟩ := H.out.at_ (k := k) (by omega)
      injection e with e; injection e with e1 e2 _; subst e1; subst e2
      have HE := Lib.hid (ends_get zs k hlt)
      have HF1 := Lib.hid (fun h1 h2 => round_bad1 (zs := zs) (k := k) hlt h1 h2)
      have HF2 := Lib.hid (fun h1 h2 => round_bad2 (zs := zs) (k := k) h1 h2)
      have HS := Lib.hid (fun h1 h2 => roundTo_succ hall.out h1 h2)
      have d1 := row_getD HR.out (k + 1) hlt
      have d0 := row_getD HR.out k i0
      rw [← getD_in hlt] at hc1 HE
      rw [← getD_in i0] at hc0 HE
      obtain ⟨y, hy⟩ : ∃ x, zs.getD k 0 = x := ⟨_, rfl⟩
      obtain ⟨x, hx⟩ : ∃ y, zs.getD (k + 1) 0 = y := ⟨_, rfl⟩
      rw [hx] at hc1 HE HF1 HF2 HS d1
      rw [hy] at hc0 HE HF2 HS d0
      clear hx hy
      obtain ⟨d11, d12⟩ := d1
      obtain ⟨d01, d02⟩ := d0
      have hxx := mul_bd d11 d12 d11 d12
      obtain ⟨m1, m2⟩ := hxx
      have hlt1 : (k : Int) + 1 < (zs.length : Int) := by omega
      have hlt0 : (k : Int) < (zs.length : Int) := by omega
      have p0 : (0 : Int) ≤ (k : Int) := by omega
      have p1 : (0 : Int) ≤ (k : Int) + 1 := by omega
      have t0 : (k : Int).toNat = k := by omega
      have t1 : ((k : Int) + 1).toNat = k + 1 := by omega
      have s0 : IntKind.i64.wrap ((k : Int) + 1 - 1) = (k : Int) := by rw [IntWalk.i64_in _ (by omega)]; omega
      have s0' : IntKind.i64.wrap (k : Int) = (k : Int) := IntWalk.i64_in _ (by omega)
      have s1 : IntKind.i64.wrap ((k : Int) + 1 + 1) = (k : Int) + 2 := by rw [IntWalk.i64_in _ (by omega)]; omega
      have s2 : IntKind.i64.wrap (x * x) = x * x := IntWalk.i64_in _ (by omega)
      -- whether a 0 stands behind a positive entry by now, and whether that ends the walk
      obtain ⟨e', he'⟩ : ∃ e', endsB zs (k + 1) = e' := ⟨_, rfl⟩
      rw [he'] at HE HF1 HS
      have HE' := Lib.hid he'; clear he'
      by_cases hstop : e' = true ∧ 0 < x
      · obtain ⟨rfl, hx0⟩ := hstop
        have HM := Lib.hid (HF1.out rfl hx0)
        have hx0' : (x == 0) = false := by rw [beq_eq_false_iff_ne]; omega
        clear HF1 HF2 HS d01 d02 d11 d12 m1 m2
        cases hek : endsB zs k with
        | true =>
          clear HE hek
          go_wp2
          go_ret
          exact ⟨ret_bool HM.out.symm, below_drawN (Below.refl _ _) _⟩
        | false =>
          have := HE.out
          rw [hek, decide_eq_false (show ¬ x = 0 by omega)] at this
          simp at this
      · by_cases hlast : k + 2 < zs.length
        · obtain ⟨b', off', e, _, _, hc2⟩ := H.out.at_ hlast
          injection e with e; injection e with e1 e2 _; subst e1; subst e2
          have d2 := row_getD HR.out (k + 2) hlast
          rw [← getD_in hlast] at hc2
          obtain ⟨z, hz⟩ : ∃ y, zs.getD (k + 2) 0 = y := ⟨_, rfl⟩
          rw [hz] at hc2 HF2 HS d2
          clear hz
          obtain ⟨d21, d22⟩ := d2
          have hyz := mul_bd d01 d02 d21 d22
          obtain ⟨m3, m4⟩ := hyz
          have s3 : IntKind.i64.wrap (y * z) = y * z := IntWalk.i64_in _ (by omega)
          have hlt2 : (k : Int) + 2 < (zs.length : Int) := by omega
          have p2 : (0 : Int) ≤ (k : Int) + 2 := by omega
          have t2 : ((k : Int) + 2).toNat = k + 2 := by omega
          by_cases hsq : x * x < y * z
          · have HM := Lib.hid (HF2.out hlast hsq)
            clear HF1 HF2 HS hall hlast d01 d02 d11 d12 d21 d22 m1 m2 m3 m4 i0
            cases hek : endsB zs k with
            | true =>
              rw [hek] at HE
              obtain rfl : e' = true := by simpa using HE.out
              have hx0 : ¬ 0 < x := fun c => hstop ⟨rfl, c⟩
              clear HE hek hstop
              go_wp2
              go_quiet (fail)
              clear t0 t1 s0 s0' s1 s2 hc0 hc1 t2 s3 hc2
              go_wp2
              go_ret
              exact ⟨ret_bool HM.out.symm, below_drawN (below_drawN (Below.refl _ _) _) _⟩
            | false =>
              rw [hek] at HE
              by_cases hy0 : 0 < y
              · by_cases hx0 : x = 0
                · obtain rfl : e' = true := by simpa [hy0, hx0] using HE.out
                  have hq : (x == 0) = true := beq_iff_eq.2 hx0
                  have hx1 : ¬ 0 < x := by omega
                  clear HE hek hstop hx0
                  go_wp2
                  go_quiet (fail)
                  clear t0 t1 s0 s0' s1 s2 hc0 hc1 t2 s3 hc2
                  go_wp2
                  go_ret
                  exact ⟨ret_bool HM.out.symm, below_drawN (below_drawN (Below.refl _ _) _) _⟩
                · obtain rfl : e' = false := by simpa [hy0, hx0] using HE.out
                  have hq : (x == 0) = false := beq_eq_false_iff_ne.2 hx0
                  clear HE hek hstop
                  go_wp2
                  go_quiet (fail)
                  clear t0 t1 s0 s0' s1 s2 hc0 hc1 t2 s3 hc2
                  go_wp2
                  go_ret
                  exact ⟨ret_bool HM.out.symm, below_drawN (below_drawN (Below.refl _ _) _) _⟩
              · obtain rfl : e' = false := by simpa [hy0] using HE.out
                clear HE hek hstop
                go_wp2
                go_quiet (fail)
                clear t0 t1 s0 s0' s1 s2 hc0 hc1 t2 s3 hc2
                go_wp2
                go_ret
                exact ⟨ret_bool HM.out.symm, below_drawN (below_drawN (Below.refl _ _) _) _⟩
          · have HN := Lib.hid (HS.out hstop (fun _ => hsq))
            clear HF1 HF2 HS hall hlast d01 d02 d11 d12 d21 d22 m1 m2 m3 m4 i0
            cases hek : endsB zs k with
            | true =>
              rw [hek] at HE
              obtain rfl : e' = true := by simpa using HE.out
              have hx0 : ¬ 0 < x := fun c => hstop ⟨rfl, c⟩
              clear HE hek hstop
              go_wp2
              go_quiet (fail)
              clear t0 t1 s0 s0' s1 s2 hc0 hc1 t2 s3 hc2
              go_wp2
              go_roundw
              case rel => exact ⟨k + 1, _, by go_num, by rw [HE'.out], rfl, by omega, HN⟩
              case measure => simp [intOf]; omega
            | false =>
              rw [hek] at HE
              by_cases hy0 : 0 < y
              · by_cases hx0 : x = 0
                · obtain rfl : e' = true := by simpa [hy0, hx0] using HE.out
                  have hq : (x == 0) = true := beq_iff_eq.2 hx0
                  have hx1 : ¬ 0 < x := by omega
                  clear HE hek hstop hx0
                  go_wp2
                  go_quiet (fail)
                  clear t0 t1 s0 s0' s1 s2 hc0 hc1 t2 s3 hc2
                  go_wp2
                  go_roundw
                  case rel => exact ⟨k + 1, _, by go_num, by rw [HE'.out], rfl, by omega, HN⟩
                  case measure => simp [intOf]; omega
                · obtain rfl : e' = false := by simpa [hy0, hx0] using HE.out
                  have hq : (x == 0) = false := beq_eq_false_iff_ne.2 hx0
                  clear HE hek hstop
                  go_wp2
                  go_quiet (fail)
                  clear t0 t1 s0 s0' s1 s2 hc0 hc1 t2 s3 hc2
                  go_wp2
                  go_roundw
                  case rel => exact ⟨k + 1, _, by go_num, by rw [HE'.out], rfl, by omega, HN⟩
                  case measure => simp [intOf]; omega
              · obtain rfl : e' = false := by simpa [hy0] using HE.out
                clear HE hek hstop
                go_wp2
                go_quiet (fail)
                clear t0 t1 s0 s0' s1 s2 hc0 hc1 t2 s3 hc2
                go_wp2
                go_roundw
                case rel => exact ⟨k + 1, _, by go_num, by rw [HE'.out], rfl, by omega, HN⟩
                case measure => simp [intOf]; omega
        · have HN := Lib.hid (HS.out hstop (fun c => absurd c hlast))
          have hlt2 : decide ((k : Int) + 2 < (zs.length : Int)) = false := decide_eq_false (by omega)
          clear HF1 HF2 HS hall d01 d02 d11 d12 m1 m2 i0
          cases hek : endsB zs k with
          | true =>
            rw [hek] at HE
            obtain rfl : e' = true := by simpa using HE.out
            have hx0 : ¬ 0 < x := fun c => hstop ⟨rfl, c⟩
            clear HE hek hstop
            go_wp2
            go_quiet (fail)
            clear t0 t1 s0 s0' s1 s2 hc0 hc1
            go_wp2
            go_roundw
            case rel => exact ⟨k + 1, _, by go_num, by rw [HE'.out], rfl, by omega, HN⟩
            case measure => simp [intOf]; omega
          | false =>
            rw [hek] at HE
            by_cases hy0 : 0 < y
            · by_cases hx0 : x = 0
              · obtain rfl : e' = true := by simpa [hy0, hx0] using HE.out
                have hq : (x == 0) = true := beq_iff_eq.2 hx0
                have hx1 : ¬ 0 < x := by omega
                clear HE hek hstop hx0
                go_wp2
                go_quiet (fail)
                clear t0 t1 s0 s0' s1 s2 hc0 hc1
                go_wp2
                go_roundw
                case rel => exact ⟨k + 1, _, by go_num, by rw [HE'.out], rfl, by omega, HN⟩
                case measure => simp [intOf]; omega
              · obtain rfl : e' = false := by simpa [hy0, hx0] using HE.out
                have hq : (x == 0) = false := beq_eq_false_iff_ne.2 hx0
                clear HE hek hstop
                go_wp2
                go_quiet (fail)
                clear t0 t1 s0 s0' s1 s2 hc0 hc1
                go_wp2
                go_roundw
                case rel => exact ⟨k + 1, _, by go_num, by rw [HE'.out], rfl, by omega, HN⟩
                case measure => simp [intOf]; omega
            · obtain rfl : e' = false := by simpa [hy0] using HE.out
              clear HE hek hstop
              go_wp2
              go_quiet (fail)
              clear t0 t1 s0 s0' s1 s2 hc0 hc1
              go_wp2
              go_roundw
              case rel => exact ⟨k + 1, _, by go_num, by rw [HE'.out], rfl, by omega, HN⟩
              case measure => simp [intOf]; omega
    · have hlt' : ¬ (k : Int) + 1 < (zs.length : Int) := by omega
      go_wp2
      go_ret
      exact ⟨ret_bool (roundTo_all hall.out (by omega)).symm, below_drawN (Below.refl _ _) _⟩

theorem specHillRound_any (A : Option Addr) (c : Nat) (zs : List Int) (w : World) (h : IR w 0 w.heap.size A zs) :
    Calls Try.prog 25 #[.slice A zs.length c] w fun e w' => e = .returned (.bool (hillRoundB zs)) ∧ Below w.heap.size w w' := by
  have H := Lib.hid h; clear h
  cases hr : hillB zs with
  | false =>
    have HM : Hid (hillRoundB zs = false) := by show _ = _; simp [hillRoundB, hr]
    have HR := Lib.hid hr; clear hr
    go_enter Try.func25, Try.ntmps25
    go_wp2_with fail
    refine (l4Hill_of _ _ _ _ zs _ H.out HR.out).mono ?_; rintro e w' ⟨rfl, rfl⟩
    go_wp2
    go_ret
    exact ⟨ret_bool HM.out.symm, Below.refl _ _⟩
  | true =>
    have HM : Hid (hillRoundB zs = roundB zs) := by show _ = _; simp [hillRoundB, hr]
    have HR := Lib.hid hr; clear hr
    go_enter Try.func25, Try.ntmps25
    go_wp2_with fail
    refine (l4Hill_of _ _ _ _ zs _ H.out HR.out).mono ?_; rintro e w' ⟨rfl, rfl⟩
    go_wp2_with fail
    refine (l4Round_any _ _ zs _ H.out (hill_true HR.out).2).mono ?_; rintro e w' ⟨rfl, hb⟩
    go_wp2
    go_ret
    exact ⟨ret_bool (by rw [HM.out]), hb⟩

/-! ### The program's -/
set_option maxHeartbeats 1000000 in
theorem min_any (A : Option Addr) (c lo hi : Nat) (zs : List Int) (w : World) (h : IR w lo hi A zs) (h0 : 0 < zs.length) :
    Calls Try.prog 82 #[.slice A zs.length c] w fun e w' => e = .returned (.int .i64 (minTo zs (zs.length - 1))) ∧ w = w' := by
  have hl := h.1
  have HB := Lib.hid (minTo_bd h.2.1)
  have hn0 : ¬ (zs.length : Int) < 1 := by omega
  have hn1 : (0 : Int) < (zs.length : Int) := by omega
  obtain ⟨b, off, rfl, _, _, hc0⟩ := h.at_ (k := 0) h0
  rw [← getD_in h0, Nat.add_zero] at hc0
  go_enter Try.func82, Try.ntmps82
  go_wp2
  go_loop [3, 4] (fun m i => ∃ k : Nat, k + 1 ≤ zs.length ∧ i = .int .i64 ((k : Int) + 1) ∧ m = .int .i64 (minTo zs k)) (fun _ i => zs.length - (intOf i).toNat)
  case atStart => exact ⟨0, h0, rfl, by rw [minTo, getD_in h0]⟩
  case round =>
    obtain ⟨k, hk, rfl, rfl⟩ := hrel
    by_cases hlt : k + 1 < zs.length
    · obtain ⟨b', off', e, _, _, hc1⟩ := h.at_ hlt
      injection e with e; injection e with e1 e2 _; subst e1; subst e2
      rw [← getD_in hlt] at hc1
      have HM : Hid (minTo zs (k + 1) = if zs.getD (k + 1) 0 < minTo zs k then zs.getD (k + 1) 0 else minTo zs k) := rfl
      obtain ⟨x, hx⟩ : ∃ x, zs.getD (k + 1) 0 = x := ⟨_, rfl⟩
      obtain ⟨m, hm⟩ : ∃ x, minTo zs k = x := ⟨_, rfl⟩
      rw [hx] at hc1 HM
      rw [hm] at HM
      rw [hm]
      have hlt1 : (k : Int) + 1 < (zs.length : Int) := by omega
      have t1 : ((k : Int) + 1).toNat = k + 1 := by omega
      have p1 : (0 : Int) ≤ (k : Int) + 1 := by omega
      clear hx hm hc0
      go_wp2
      go_round
      case rel => exact ⟨k + 1, by omega, by go_num, by rw [HM.out]⟩
      case measure => simp [intOf]; omega
    · have e : k = zs.length - 1 := by omega
      have hlt1 : ¬ (k : Int) + 1 < (zs.length : Int) := by omega
      clear hc0
      go_wp2
      go_ret
      first | exact ⟨rfl, rfl⟩ | exact ⟨by rw [e]; rfl, rfl⟩

theorem isHill_any (A : Option Addr) (c : Nat) (zs : List Int) (w : World) (h : IR w 0 w.heap.size A zs) :
    Calls Try.prog 55 #[.agg #[.slice A zs.length c]] w fun e w' => e = .returned (.bool (hillB zs)) ∧ Below w.heap.size w w' := by
  have hb1 : Below w.heap.size w (w.alloc (.cells #[.slice A zs.length c] 52)) := (Below.refl _ w).alloc (Nat.le_refl _) _
  have H := Lib.hid (h.grow hb1); have B1 := Lib.hid hb1; clear h hb1
  cases hr : rowB zs with
  | false =>
    have HM : Hid (hillB zs = false) := by show _ = _; unfold hillB; rw [hr]; simp
    have HR := Lib.hid hr; clear hr
    go_enter Try.func55, Try.ntmps55
    go_wp2_with fail
    refine (isRow_false _ _ _ _ zs _ H.out HR.out).mono ?_; rintro e w1 ⟨rfl, b1⟩
    have B2 := Lib.hid b1; clear b1
    go_wp2
    go_ret
    exact ⟨ret_bool HM.out.symm, below_then B1.out (Nat.le_refl _) B2.out⟩
  | true =>
    have HM := Lib.hid (minTo_hill hr)
    have HR := Lib.hid hr; clear hr
    go_enter Try.func55, Try.ntmps55
    go_wp2_with fail
    refine (isRow_true _ _ _ _ zs _ H.out HR.out).mono ?_; rintro e w1 ⟨rfl, b1⟩
    have hcx : w1.cell? ⟨w.heap.size, 0, none⟩ = some (.slice A zs.length c) := (b1.cell (p := ⟨w.heap.size, 0, none⟩) (by show w.heap.size < _; rw [World.size_alloc]; omega)).trans (by rw [World.cell?_alloc_at _ _ _ _ rfl]; rfl)
    have B2 := Lib.hid b1; have H1 := Lib.hid (H.out.grow b1).toAll; clear b1
    go_wp2_with fail
    refine (min_any _ _ _ _ zs _ H1.out (rowB_true.1 HR.out).2.1).mono ?_; rintro e w2 ⟨rfl, rfl⟩
    go_wp2
    go_ret
    exact ⟨ret_bool HM.out, below_then B1.out (Nat.le_refl _) B2.out⟩
theorem isHill_of {b : Bool} (A : Option Addr) (c lo hi : Nat) (zs : List Int) (w : World) (h : IR w lo hi A zs) (hb : hillB zs = b) :
    Calls Try.prog 55 #[.agg #[.slice A zs.length c]] w fun e w' => e = .returned (.bool b) ∧ Below w.heap.size w w' := by
  have := isHill_any A c zs w h.toAll; rwa [hb] at this

set_option maxHeartbeats 1000000 in
theorem hillAt_any (A : Option Addr) (c lo hi : Nat) (zs : List Int) (i : Int) (w : World) (h : IR w lo hi A zs) :
    Calls Try.prog 83 #[.agg #[.slice A zs.length c], .int .i64 i] w fun e w' => e = .returned (.int .i64 (atI zs i)) ∧ Below w.heap.size w w' := by
  have hl := h.1
  have hp : ∀ (i : Int) (w : World), Calls Try.prog 93 #[.slice A zs.length c, .int .i64 i] w fun e w' => e = .returned (.bool (decide (0 ≤ i) && decide (i < zs.length))) ∧ w' = w := by
    intro i w
    by_cases h0 : 0 ≤ i
    · go_enter Try.func93, Try.ntmps93
      go_wp2
      go_ret
      exact ⟨by simp [h0], rfl⟩
    · go_enter Try.func93, Try.ntmps93
      go_wp2
      go_ret
      exact ⟨congrArg (fun b => Ending.returned (.bool b)) (by rw [decide_eq_false (show ¬ 0 ≤ i by omega)]; rfl), rfl⟩
  have HP := Lib.hid hp; clear hp
  have hb1 : Below w.heap.size w (w.alloc (.cells #[.slice A zs.length c] 52)) := (Below.refl _ w).alloc (Nat.le_refl _) _
  have H := Lib.hid (h.toAll.grow hb1); have B1 := Lib.hid hb1; clear h hb1
  by_cases hin : 0 ≤ i ∧ i < (zs.length : Int)
  · obtain ⟨k, rfl⟩ : ∃ k : Nat, i = (k : Int) := ⟨i.toNat, by omega⟩
    obtain ⟨b, off, rfl, _, _, hc⟩ := H.out.at_ (k := k) (by omega)
    rw [← getD_in (show k < zs.length by omega), ← atI_nat] at hc
    have hb : (decide (0 ≤ (k : Int)) && decide ((k : Int) < zs.length)) = true := by rw [decide_eq_true hin.1, decide_eq_true hin.2]; rfl
    have HB := Lib.hid hb
    obtain ⟨h0, h1⟩ := hin
    obtain ⟨x, hx⟩ : ∃ x, atI zs (k : Int) = x := ⟨_, rfl⟩
    rw [hx] at hc ⊢
    clear hx hb
    go_enter Try.func83, Try.ntmps83
    go_wp2_with fail
    refine (HP.out _ _).mono ?_; rintro e w1 ⟨rfl, rfl⟩
    rw [HB.out]
    go_wp2
    go_ret
    exact ⟨rfl, B1.out⟩
  · have HM : Hid (atI zs i = 0) := by
      show _ = _
      unfold atI
      split
      · exact getD_out (by omega)
      · rfl
    have hb : (decide (0 ≤ i) && decide (i < zs.length)) = false := by
      rw [Bool.and_eq_false_imp]
      intro h1
      rw [decide_eq_true_eq] at h1
      exact decide_eq_false (by omega)
    have HB := Lib.hid hb
    clear hin hb
    go_enter Try.func83, Try.ntmps83
    go_wp2_with fail
    refine (HP.out _ _).mono ?_; rintro e w1 ⟨rfl, rfl⟩
    rw [HB.out]
    go_wp2
    go_ret
    exact ⟨by rw [HM.out]; rfl, B1.out⟩
end Go.Proofs.Ytnphmapiagiocaa
