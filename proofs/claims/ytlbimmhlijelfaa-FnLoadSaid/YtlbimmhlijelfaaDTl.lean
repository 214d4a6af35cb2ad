/-
  Amounts drawn, and a table with them: l92Amounts, DrawTableLoad, DrawTableBetter. Conditions: the reader's cells are there.
-/
import Derived.Test.YtlbimmhlijelfaaDW
namespace Go.Proofs.Ytlbimmhlijelfaa
open Go.RowKit
attribute [local go_sem] Oper.semAt_some

/-- Two lists of amounts. -/
def AmtPost (w : World) (R p n m k : Nat) (e : Ending) (w' : World) : Prop :=
  ∃ A c xs A2 c2 ys p', e = .returned (.tuple #[.slice A n c, .slice A2 m c2]) ∧ xs.length = n ∧ ys.length = m ∧ (n ≤ c ∧ c ≤ 9223372036854775807) ∧ (m ≤ c2 ∧ c2 ≤ 9223372036854775807) ∧
    IR w' w.heap.size w'.heap.size A xs ∧ IR w' w.heap.size w'.heap.size A2 ys ∧ But w.heap.size R w w' ∧ Rd w' R p' ∧ p' ≤ p + k
theorem Cells.but9 {w w' : World} {b off C R : Nat} {xs : List Int} (h : Cells w b off xs) (hb : But C R w w') (hlt : b < C) (hne : b ≠ R) : Cells w' b off xs := fun j hj =>
  ⟨(World.cell?_of_block (a := ⟨b, off + j, none⟩) (hb.block b hlt hne)).trans (h j hj).1, (World.frozen?_of_block (a := ⟨b, off + j, none⟩) (hb.block b hlt hne)).trans (h j hj).2⟩
theorem Cells.other {w : World} {b off b2 o2 : Nat} {xs : List Int} (h : Cells w b off xs) (v : Value) (hne : b2 ≠ b) : Cells (w.setCell ⟨b2, o2, none⟩ v) b off xs := fun j hj =>
  ⟨(World.cell?_of_block (a := ⟨b, off + j, none⟩) (heap_setCell_other w ⟨b2, o2, none⟩ b v (fun e => hne e.symm))).trans (h j hj).1, (World.frozen?_setCell _ _ _ _).trans (h j hj).2⟩
def Few (lo hi : Int) (xs : List Int) : Prop := ∀ z, z ∈ xs → lo ≤ z ∧ z ≤ hi
theorem Few.set_ {lo hi : Int} {xs : List Int} (h : Few lo hi xs) (k : Nat) {v : Int} (hv : lo ≤ v ∧ v ≤ hi) : Few lo hi (xs.set k v) := fun z hz => by
  rcases List.mem_or_eq_of_mem_set hz with hz | rfl
  · exact h z hz
  · exact hv

set_option maxRecDepth 100000 in
set_option maxHeartbeats 2000000 in
theorem l92Amounts_any (R p n m s : Nat) (w : World) (h : Rd w R p) (hp : p ≤ 800000000) (hn : 1 ≤ n ∧ n ≤ 12) (hm : 1 ≤ m ∧ m ≤ 12) (hs : s ≤ 100) :
    Calls Try.prog 64 #[.pointer (some ⟨R, 0, none⟩), .int .i64 (n : Int), .int .i64 (m : Int), .int .i64 (s : Int)] w (AmtPost w R p n m 300) := by
  have hR := h.lt
  have hmk1 := run_makeInts n (by omega)
  have hmk2 := run_makeInts m (by omega)
  obtain ⟨wa, hwa⟩ : ∃ wa, w.alloc (.cells (madeCells #[.int .i64 0] n) 3) = wa := ⟨_, rfl⟩
  obtain ⟨wb, hwb⟩ : ∃ wb, wa.alloc (.cells (madeCells #[.int .i64 0] m) 3) = wb := ⟨_, rfl⟩
  have hba : Below w.heap.size w wa := by rw [← hwa]; exact (Below.refl _ w).alloc (Nat.le_refl _) _
  have hbb : Below wa.heap.size wa wb := by rw [← hwb]; exact (Below.refl _ wa).alloc (Nat.le_refl _) _
  have hsa : wa.heap.size = w.heap.size + 1 := by rw [← hwa]; simp
  have hsb : wb.heap.size = w.heap.size + 2 := by rw [← hwb]; simp [hsa]
  have c1 : Cells wb w.heap.size 0 (List.replicate n 0) := by
    have := Cells.made w n 3
    rw [hwa] at this
    exact fun j hj => ⟨(hbb.cell (p := ⟨w.heap.size, 0 + j, none⟩) (show w.heap.size < wa.heap.size by omega)).trans (this j hj).1, (World.frozen?_of_block (a := ⟨w.heap.size, 0 + j, none⟩) (hbb.block w.heap.size (by omega))).trans (this j hj).2⟩
  have c2 : Cells wb (w.heap.size + 1) 0 (List.replicate m 0) := by
    have := Cells.made wa m 3
    rw [hwb, hsa] at this; exact this
  have hB : Below w.heap.size w wb := hba.trans (hbb.mono (by omega))
  have HI : Hid (∃ (q : Nat) (xs ys : List Int), xs.length = n ∧ ys.length = m ∧ Few 0 9 xs ∧ Few 0 9 ys ∧ Cells wb w.heap.size 0 xs ∧ Cells wb (w.heap.size + 1) 0 ys ∧ But w.heap.size R w wb ∧ Rd wb R q ∧ q ≤ p + 2 * 0 ∧ w.heap.size + 2 ≤ wb.heap.size) :=
    Lib.hid ⟨p, _, _, by simp, by simp, fun z hz => by rw [List.eq_of_mem_replicate hz]; omega, fun z hz => by rw [List.eq_of_mem_replicate hz]; omega, c1, c2, But.of hB, h.below hB hR, by omega, by omega⟩
  clear hba hbb c1 c2 hB h
  go_enter Try.func64, Try.ntmps64
  go_wp2
  try rw [hwa]
  try rw [hsa]
  try rw [hwb]
  clear hwa hwb hmk1 hmk2
  go_loopw [12] (fun x wr => ∃ (i : Nat), i ≤ s ∧ x = .int .i64 (i : Int) ∧ ∃ (q : Nat) (xs ys : List Int), xs.length = n ∧ ys.length = m ∧ Few 0 9 xs ∧ Few 0 9 ys ∧ Cells wr w.heap.size 0 xs ∧ Cells wr (w.heap.size + 1) 0 ys ∧ But w.heap.size R w wr ∧ Rd wr R q ∧ q ≤ p + 2 * i ∧ w.heap.size + 2 ≤ wr.heap.size) (fun x _ => s - (intOf x).toNat)
  case atStart => exact ⟨0, Nat.zero_le _, rfl, HI.out⟩
  case round =>
    clear HI
    obtain ⟨i, hi, rfl, q, xs, ys, hx, hy, fx, fy, cx, cy, hb, hr, hq, hz⟩ := hrel
    have FX := Lib.hid fx; have FY := Lib.hid fy; have CX := Lib.hid cx; have CY := Lib.hid cy; have HB := Lib.hid hb; have HR := Lib.hid hr; have HX := Lib.hid hx; have HY := Lib.hid hy
    clear fx fy cx cy hb hr hx hy
    by_cases hlt : i < s
    · have hlt' : (i : Int) < (s : Int) := by omega
      go_wp2_with fail
      refine (pick_any R q _ _ HR.out (by omega) (by omega)).mono ?_
      rintro e w1 ⟨v1, rfl, v10, v11, -, hb, hs1, hr⟩
      have v12 := v11 (by omega)
      obtain ⟨a, rfl⟩ : ∃ a : Nat, v1 = (a : Int) := ⟨v1.toNat, by omega⟩
      replace CX := Lib.hid (CX.out.but9 hb (by omega) (by omega))
      replace CY := Lib.hid (CY.out.but9 hb (by omega) (by omega))
      replace HB := Lib.hid (HB.out.trans (hb.mono (by omega)))
      replace HR := Lib.hid hr
      clear hb hr v11
      go_wp2_with fail
      refine (pick_any R (q + 1) _ _ HR.out (by omega) (by omega)).mono ?_
      rintro e w2 ⟨v2, rfl, v20, v21, -, hb, hs2, hr⟩
      have v22 := v21 (by omega)
      obtain ⟨k, rfl⟩ : ∃ k : Nat, v2 = (k : Int) := ⟨v2.toNat, by omega⟩
      replace CX := Lib.hid (CX.out.but9 hb (by omega) (by omega))
      replace CY := Lib.hid (CY.out.but9 hb (by omega) (by omega))
      replace HB := Lib.hid (HB.out.trans (hb.mono (by omega)))
      replace HR := Lib.hid hr
      clear hb hr v21
      have hax : a < xs.length := by rw [HX.out]; omega
      have hky : k < ys.length := by rw [HY.out]; omega
      obtain ⟨ca, fa⟩ := CX.out a hax
      obtain ⟨cb, fb⟩ := CY.out k hky
      rw [Nat.zero_add] at ca fa cb fb
      have b1 := FX.out _ (List.getElem_mem hax)
      have b2 := FY.out _ (List.getElem_mem hky)
      obtain ⟨x, hx⟩ : ∃ x, xs[a]'hax = x := ⟨_, rfl⟩
      obtain ⟨y, hy⟩ : ∃ y, ys[k]'hky = y := ⟨_, rfl⟩
      rw [hx] at ca b1
      rw [hy] at cb b2
      by_cases hx9 : x < 9
      · by_cases hy9 : y < 9
        · have s1 : IntKind.i64.wrap (x + 1) = x + 1 := IntWalk.i64_in _ (by omega)
          have s2 : IntKind.i64.wrap (y + 1) = y + 1 := IntWalk.i64_in _ (by omega)
          have HC1 := Lib.hid ((CX.out.set_ a hax (x + 1)).other (b2 := w.heap.size + 1) (o2 := 0 + k) (.int .i64 (y + 1)) (by omega))
          have HC2 := Lib.hid ((CY.out.other (b2 := w.heap.size) (o2 := 0 + a) (.int .i64 (x + 1)) (by omega)).set_ k hky (y + 1))
          have HF1 := Lib.hid (FX.out.set_ a (v := x + 1) ⟨by omega, by omega⟩)
          have HF2 := Lib.hid (FY.out.set_ k (v := y + 1) ⟨by omega, by omega⟩)
          rw [Nat.zero_add, Nat.zero_add] at HC1 HC2
          have HL1 : Hid ((xs.set a (x + 1)).length = n) := by show _ = _; rw [List.length_set]; exact HX.out
          have HL2 : Hid ((ys.set k (y + 1)).length = m) := by show _ = _; rw [List.length_set]; exact HY.out
          clear hx hy hax hky
          go_wp2
          go_roundw
          case rel => exact ⟨i + 1, by omega, by go_num, q + 2, _, _, HL1.out, HL2.out, HF1.out, HF2.out, HC1.out, HC2.out, (HB.out.setOther (Nat.le_refl _) _).setOther (Nat.le_add_right _ _) _, (HR.out.below ((Below.refl w.heap.size w2).setCell (p := ⟨w.heap.size, a, none⟩) (Nat.le_refl _) _) hR).below ((Below.refl w.heap.size _).setCell (p := ⟨w.heap.size + 1, k, none⟩) (Nat.le_add_right _ _) _) hR, by omega, by simp [World.setCell]; omega⟩
          case measure => simp [intOf]; omega
        · clear hx hy hax hky
          go_wp2
          go_roundw
          case rel => exact ⟨i + 1, by omega, by go_num, q + 2, _, _, HX.out, HY.out, FX.out, FY.out, CX.out, CY.out, HB.out, HR.out, by omega, by omega⟩
          case measure => simp [intOf]; omega
      · clear hx hy hax hky
        go_wp2
        go_roundw
        case rel => exact ⟨i + 1, by omega, by go_num, q + 2, _, _, HX.out, HY.out, FX.out, FY.out, CX.out, CY.out, HB.out, HR.out, by omega, by omega⟩
        case measure => simp [intOf]; omega
    · obtain rfl : i = s := by omega
      have hlt' : ¬ (i : Int) < (i : Int) := by omega
      go_wp2_with fail
      refine (pick_any R q _ _ HR.out (by omega) (by omega)).mono ?_
      rintro e w1 ⟨v1, rfl, v10, v11, -, hb, hs1, hr⟩
      replace CX := Lib.hid (CX.out.but9 hb (by omega) (by omega))
      replace CY := Lib.hid (CY.out.but9 hb (by omega) (by omega))
      replace HB := Lib.hid (HB.out.trans (hb.mono (by omega)))
      replace HR := Lib.hid hr
      clear hb hr v11
      have f64 : ∀ {zs : List Int}, Few 0 10 zs → ∀ z, z ∈ zs → I64 z := fun h z hz => by have := h z hz; exact ⟨by omega, by omega⟩
      have fup : ∀ {zs : List Int}, Few 0 9 zs → Few 0 10 zs := fun h z hz => by have := h z hz; omega
      by_cases hv : v1 = 0
      · have hvb : (v1 == 0) = true := by simpa using hv
        have hax : 0 < xs.length := by rw [HX.out]; omega
        obtain ⟨ca, fa⟩ := CX.out 0 hax
        rw [Nat.zero_add] at ca fa
        have b1 := FX.out _ (List.getElem_mem hax)
        obtain ⟨x, hx⟩ : ∃ x, xs[0]'hax = x := ⟨_, rfl⟩
        rw [hx] at ca b1
        have s1 : IntKind.i64.wrap (x + 1) = x + 1 := IntWalk.i64_in _ (by omega)
        have n0 : (0 : Int) < (n : Int) := by omega
        have HC1 := Lib.hid (CX.out.set_ 0 hax (x + 1))
        have HC2 := Lib.hid (CY.out.other (b2 := w.heap.size) (o2 := 0) (.int .i64 (x + 1)) (by omega))
        have HF1 := Lib.hid ((fup FX.out).set_ 0 (v := x + 1) ⟨by omega, by omega⟩)
        have HF2 := Lib.hid (fup FY.out)
        rw [Nat.zero_add] at HC1
        have HL1 : Hid ((xs.set 0 (x + 1)).length = n) := by show _ = _; rw [List.length_set]; exact HX.out
        clear hx hax hv
        go_wp2
        go_ret2
        exact ⟨_, _, _, _, _, _, q + 1, rfl, HL1.out, HY.out, ⟨Nat.le_refl _, by omega⟩, ⟨Nat.le_refl _, by omega⟩,
          (HC1.out.iw (n := n) HL1.out (Nat.le_refl _) (by simp [World.setCell]; omega) (Nat.le_refl _) (by omega) (f64 HF1.out)).toIR, (HC2.out.iw (n := m) HY.out (Nat.le_add_right _ _) (by simp [World.setCell]; omega) (Nat.le_refl _) (by omega) (f64 HF2.out)).toIR,
          HB.out.setOther (Nat.le_refl _) _, HR.out.below ((Below.refl w.heap.size w1).setCell (p := ⟨w.heap.size, 0, none⟩) (Nat.le_refl _) _) hR, by omega⟩
      · have hvb : (v1 == 0) = false := by rw [beq_eq_false_iff_ne]; exact hv
        clear hv
        go_wp2
        go_ret2
        exact ⟨_, _, _, _, _, _, q + 1, rfl, HX.out, HY.out, ⟨Nat.le_refl _, by omega⟩, ⟨Nat.le_refl _, by omega⟩,
          (CX.out.iw (n := n) HX.out (Nat.le_refl _) (by omega) (Nat.le_refl _) (by omega) (f64 (fup FX.out))).toIR, (CY.out.iw (n := m) HY.out (Nat.le_add_right _ _) (by omega) (Nat.le_refl _) (by omega) (f64 (fup FY.out))).toIR, HB.out, HR.out, by omega⟩

/-- A drawn table and two lists of amounts. -/
def LoadPost (w : World) (e : Ending) (w' : World) : Prop :=
  ∃ A n c t A2 n2 c2 xs A3 n3 c3 ys, e = .returned (.tuple #[.slice A n c, .slice A2 n2 c2, .slice A3 n3 c3]) ∧ t.length = n ∧ xs.length = n2 ∧ ys.length = n3 ∧ (n ≤ c ∧ c ≤ 9223372036854775807) ∧ (n2 ≤ c2 ∧ c2 ≤ 9223372036854775807) ∧ (n3 ≤ c3 ∧ c3 ≤ 9223372036854775807) ∧
    IRR w' 0 w'.heap.size A t ∧ IR w' 0 w'.heap.size A2 xs ∧ IR w' 0 w'.heap.size A3 ys ∧ Below w.heap.size w w'
theorem IRR.atBut {w w' : World} {lo hi C R : Nat} {A : Option Addr} {t : List (List Int)} (h : IRR w lo hi A t) (hb : But C R w w') (hC : hi ≤ C) (hR : R < lo) : IRR w' lo hi A t :=
  h.keep hb.size fun p h1 h2 => World.cell?_of_block (hb.block p.block (by omega) (by omega))

set_option maxRecDepth 100000 in
set_option maxHeartbeats 2000000 in
theorem DrawTableLoad_any (A : Option Addr) (c : Nat) (bs : List Int) (w : World) (h : BR w w.heap.size A bs) (hc : bs.length ≤ c) (hc2 : c ≤ 9000000000000000000) :
    Calls Try.prog 34 #[.slice A bs.length c] w (LoadPost w) := by
  have H := Lib.hid h
  clear h
  go_enter Try.func34, Try.ntmps34
  go_wp2_with fail
  refine (l6Open_any A c bs _ H.out hc hc2).mono ?_
  rintro e w1 ⟨rfl, hr, hb⟩
  have B0 := Lib.hid hb; have R0 := Lib.hid hr
  have hs2 := B0.out.size
  clear hb hr
  go_wp2_with fail
  refine (pick_any w.heap.size _ _ _ R0.out (by omega) (by omega)).mono ?_
  rintro e w2 ⟨v, rfl, v0, v1, -, hb, hs, hr⟩
  have v2 := v1 (by omega)
  obtain ⟨n, hn⟩ : ∃ n : Nat, 1 + v = (n : Int) := ⟨(1 + v).toNat, by omega⟩
  have t0 : IntKind.i64.wrap (1 + v) = (n : Int) := by rw [← hn]; exact IntWalk.i64_in _ (by omega)
  have hn1 : 1 ≤ n ∧ n ≤ 12 := by omega
  replace B0 := Lib.hid (B0.out.trans (hb.toBelow hs2 (Nat.le_refl _)))
  replace R0 := Lib.hid hr
  have hs2 := B0.out.size
  clear hb hs hr v1 hn v0 v2
  go_wp2_with fail
  refine (pick_any w.heap.size _ _ _ R0.out (by omega) (by omega)).mono ?_
  rintro e w3 ⟨v', rfl, v0, v1, -, hb, hs, hr⟩
  have v2 := v1 (by omega)
  obtain ⟨m, hm⟩ : ∃ m : Nat, 1 + v' = (m : Int) := ⟨(1 + v').toNat, by omega⟩
  have t1 : IntKind.i64.wrap (1 + v') = (m : Int) := by rw [← hm]; exact IntWalk.i64_in _ (by omega)
  have hm1 : 1 ≤ m ∧ m ≤ 12 := by omega
  replace B0 := Lib.hid (B0.out.trans (hb.toBelow hs2 (Nat.le_refl _)))
  replace R0 := Lib.hid hr
  have hs2 := B0.out.size
  clear hb hs hr v1 hm v0 v2
  go_wp2_with fail
  refine (l92Table_any w.heap.size _ n m _ R0.out (by omega) hn1 hm1).mono ?_
  rintro e w4 ⟨A4, n4, c4, t, p4, rfl, hl4, hcc, hcc2, hi, hb, hr, hp4⟩
  have hR4 := R0.out.lt
  have I0 := Lib.hid hi; have HL := Lib.hid hl4; have HC1 : Hid (n4 ≤ c4 ∧ c4 ≤ 9223372036854775807) := Lib.hid ⟨hcc, hcc2⟩
  replace B0 := Lib.hid (B0.out.trans (hb.toBelow hs2 (Nat.le_refl _)))
  replace R0 := Lib.hid hr
  have hs2 := B0.out.size
  clear hi hb hr hl4 hcc hcc2
  go_wp2_with fail
  refine (pick_any w.heap.size _ _ _ R0.out (by omega) (by omega)).mono ?_
  rintro e w5 ⟨v3, rfl, v0, v1, -, hb, hs, hr⟩
  have v2 := v1 (by omega)
  obtain ⟨s, rfl⟩ : ∃ s : Nat, v3 = (s : Int) := ⟨v3.toNat, by omega⟩
  replace I0 := Lib.hid (I0.out.atBut hb (Nat.le_refl _) hR4)
  replace B0 := Lib.hid (B0.out.trans (hb.toBelow hs2 (Nat.le_refl _)))
  replace R0 := Lib.hid hr
  have hs2 := B0.out.size
  clear hb hs hr v1 v0
  go_wp2_with fail
  refine (l92Amounts_any w.heap.size _ n m s _ R0.out (by omega) hn1 hm1 (by omega)).mono ?_
  rintro e w6 ⟨A6, c6, xs, A7, c7, ys, p6, rfl, hx, hy, hcx, hcy, hi1, hi2, hb, hr, hp6⟩
  replace I0 := Lib.hid (I0.out.atBut hb I0.out.2.1 hR4)
  replace B0 := Lib.hid (B0.out.trans (hb.toBelow hs2 (Nat.le_refl _)))
  have HX := Lib.hid hx; have HY := Lib.hid hy; have HCX := Lib.hid hcx; have HCY := Lib.hid hcy; have HI1 := Lib.hid hi1; have HI2 := Lib.hid hi2
  clear hb hr hx hy hcx hcy hi1 hi2
  go_wp2
  go_ret3
  exact ⟨_, _, _, t, _, _, _, xs, _, _, _, ys, rfl, HL.out, HX.out, HY.out, HC1.out, HCX.out, HCY.out, I0.out.toAll, HI1.out.toAll, HI2.out.toAll, B0.out⟩

set_option maxRecDepth 100000 in
set_option maxHeartbeats 2000000 in
theorem DrawTableBetter_any (A : Option Addr) (c : Nat) (bs : List Int) (w : World) (h : BR w w.heap.size A bs) (hc : bs.length ≤ c) (hc2 : c ≤ 9000000000000000000) :
    Calls Try.prog 36 #[.slice A bs.length c] w (LoadPost w) := by
  have H := Lib.hid h
  clear h
  go_enter Try.func36, Try.ntmps36
  go_wp2_with fail
  refine (l6Open_any A c bs _ H.out hc hc2).mono ?_
  rintro e w1 ⟨rfl, hr, hb⟩
  have B0 := Lib.hid hb; have R0 := Lib.hid hr
  have hs2 := B0.out.size
  clear hb hr
  go_wp2_with fail
  refine (pick_any w.heap.size _ _ _ R0.out (by omega) (by omega)).mono ?_
  rintro e w2 ⟨x1, rfl, v0, v1, -, hb, hs, hr⟩
  have x1_1 := v1 (by omega)
  have x1_0 := v0
  replace B0 := Lib.hid (B0.out.trans (hb.toBelow hs2 (Nat.le_refl _)))
  replace R0 := Lib.hid hr
  have hs2 := B0.out.size
  clear hb hs hr v1 v0
  go_wp2_with fail
  refine (pick_any w.heap.size _ _ _ R0.out (by omega) (by omega)).mono ?_
  rintro e w3 ⟨x2, rfl, v0, v1, -, hb, hs, hr⟩
  have x2_1 := v1 (by omega)
  have x2_0 := v0
  replace B0 := Lib.hid (B0.out.trans (hb.toBelow hs2 (Nat.le_refl _)))
  replace R0 := Lib.hid hr
  have hs2 := B0.out.size
  clear hb hs hr v1 v0
  go_wp2_with fail
  refine (pick_any w.heap.size _ _ _ R0.out (by omega) (by omega)).mono ?_
  rintro e w4 ⟨x3, rfl, v0, v1, -, hb, hs, hr⟩
  have x3_1 := v1 (by omega)
  have x3_0 := v0
  replace B0 := Lib.hid (B0.out.trans (hb.toBelow hs2 (Nat.le_refl _)))
  replace R0 := Lib.hid hr
  have hs2 := B0.out.size
  clear hb hs hr v1 v0
  go_wp2_with fail
  obtain ⟨n, hn⟩ : ∃ n : Nat, 1 + x1 + x2 / 39 = (n : Int) := ⟨(1 + x1 + x2 / 39).toNat, by omega⟩
  obtain ⟨m, hm⟩ : ∃ m : Nat, 1 + x3 = (m : Int) := ⟨(1 + x3).toNat, by omega⟩
  have hn1 : 1 ≤ n ∧ n ≤ 12 := by omega
  have hm1 : 1 ≤ m ∧ m ≤ 12 := by omega
  rw [hn, hm]
  refine (l92Table_any w.heap.size _ n m _ R0.out (by omega) hn1 hm1).mono ?_
  rintro e w5 ⟨A4, n4, c4, t, p4, rfl, hl4, hcc, hcc2, hi, hb, hr, hp4⟩
  have hR4 := R0.out.lt
  have I0 := Lib.hid hi; have HL := Lib.hid hl4; have HC1 : Hid (n4 ≤ c4 ∧ c4 ≤ 9223372036854775807) := Lib.hid ⟨hcc, hcc2⟩
  replace B0 := Lib.hid (B0.out.trans (hb.toBelow hs2 (Nat.le_refl _)))
  replace R0 := Lib.hid hr
  have hs2 := B0.out.size
  clear hi hb hr hl4 hcc hcc2 hn hm
  go_wp2_with fail
  refine (pick_any w.heap.size _ _ _ R0.out (by omega) (by omega)).mono ?_
  rintro e w6 ⟨x4, rfl, v0, v1, -, hb, hs, hr⟩
  have x4_1 := v1 (by omega)
  have x4_0 := v0
  replace I0 := Lib.hid (I0.out.atBut hb I0.out.2.1 hR4)
  replace B0 := Lib.hid (B0.out.trans (hb.toBelow hs2 (Nat.le_refl _)))
  replace R0 := Lib.hid hr
  have hs2 := B0.out.size
  clear hb hs hr v1 v0
  go_wp2_with fail
  refine (pick_any w.heap.size _ _ _ R0.out (by omega) (by omega)).mono ?_
  rintro e w7 ⟨x5, rfl, v0, v1, -, hb, hs, hr⟩
  have x5_1 := v1 (by omega)
  have x5_0 := v0
  replace I0 := Lib.hid (I0.out.atBut hb I0.out.2.1 hR4)
  replace B0 := Lib.hid (B0.out.trans (hb.toBelow hs2 (Nat.le_refl _)))
  replace R0 := Lib.hid hr
  have hs2 := B0.out.size
  clear hb hs hr v1 v0
  go_wp2_with fail
  obtain ⟨s, hs⟩ : ∃ s : Nat, x4 + x5 / 29 * 4 = (s : Int) := ⟨(x4 + x5 / 29 * 4).toNat, by omega⟩
  have hsl : s ≤ 100 := by omega
  rw [hs]
  refine (l92Amounts_any w.heap.size _ n m s _ R0.out (by omega) hn1 hm1 hsl).mono ?_
  rintro e w8 ⟨A6, c6, xs, A7, c7, ys, p6, rfl, hx, hy, hcx, hcy, hi1, hi2, hb, hr, hp6⟩
  replace I0 := Lib.hid (I0.out.atBut hb I0.out.2.1 hR4)
  replace B0 := Lib.hid (B0.out.trans (hb.toBelow hs2 (Nat.le_refl _)))
  have HX := Lib.hid hx; have HY := Lib.hid hy; have HCX := Lib.hid hcx; have HCY := Lib.hid hcy; have HI1 := Lib.hid hi1; have HI2 := Lib.hid hi2
  clear hb hr hx hy hcx hcy hi1 hi2 hs
  go_wp2
  go_ret3
  exact ⟨_, _, _, t, _, _, _, xs, _, _, _, ys, rfl, HL.out, HX.out, HY.out, HC1.out, HCX.out, HCY.out, I0.out.toAll, HI1.out.toAll, HI2.out.toAll, B0.out⟩
end Go.Proofs.Ytlbimmhlijelfaa
