/-
  The draws of chapter 8: lists, letters and numbers. Conditions: the code's bytes are there.
-/
import Derived.Test.YtfkmnlhmldjieaaDrawSp
import Derived.Test.YtfkmnlhmldjieaaDrawNum
namespace Go.Proofs.Ytfkmnlhmldjieaa
open Go.RowKit

/-- The call draws a list of its own, a text and a number. -/
def SplitPost (w : World) (e : Ending) (w' : World) : Prop :=
  ∃ A c zs s x, e = .returned (.tuple #[.slice A zs.length c, .string s, .int .i64 x]) ∧ (zs.length ≤ 9 ∧ CapOk zs.length c) ∧ s.size ≤ 1 ∧ I64 x ∧ IW w' w.heap.size w'.heap.size A zs ∧ Below w.heap.size w w'
set_option maxRecDepth 100000 in
set_option maxHeartbeats 4000000 in
theorem l92Split_any (A : Option Addr) (c : Nat) (bs : List Int) (w : World) (h : BR w w.heap.size A bs) (hc : bs.length ≤ c) (hc2 : c ≤ 9000000000000000000) :
    Calls Try.prog 35 #[.slice A bs.length c] w (SplitPost w) := by
  have H := Lib.hid h
  clear h
  go_enter Try.func35, Try.ntmps35
  go_wp2_with fail
  refine (l6Open_any A c bs _ H.out hc hc2).mono ?_
  rintro e w1 ⟨rfl, hr, hb⟩
  have B0 := Lib.hid hb; have R0 := Lib.hid hr
  have hs2 := hb.size
  clear hb hr
  have hsb := R0.out.lt
  go_wp2_with fail
  refine (l91Some_any w.heap.size _ 8 _ R0.out (by omega) (by omega)).mono ?_
  rintro e w' ⟨Aa, ca, zsa, pa, rfl, hza, hi, hb, hr, hpa, hcap⟩
  have HKa := Lib.hid hcap
  clear hcap
  have Ia := Lib.hid (hi.wide (lo' := w.heap.size + 1) hsb (Nat.le_refl _) (Nat.le_refl _))
  replace B0 := Lib.hid (B0.out.trans (hb.toBelow hs2 (Nat.le_refl _)))
  replace R0 := Lib.hid hr
  have hs2 := B0.out.size
  clear hi hb hr hsb
  go_wp2_with fail
  refine (pick_any w.heap.size _ _ _ R0.out (by omega) (by omega)).mono ?_
  rintro e w' ⟨v, rfl, v0, v1, -, hb, hs, hr⟩
  have v2 := v1 (by omega)
  replace Ia := Lib.hid (Ia.out.but hb (by have := Ia.out.2.2.1; omega) (.inl (Nat.lt_succ_self _)))
  replace B0 := Lib.hid (B0.out.trans (hb.toBelow hs2 (Nat.le_refl _)))
  replace R0 := Lib.hid hr
  have hs2 := B0.out.size
  clear hb hs hr v1
  by_cases hv : v = 0
  · skip
    have hsb := R0.out.lt
    go_wp2_with fail
    refine (l91Hill_any w.heap.size _ 7 _ R0.out (by omega) (by omega)).mono ?_
    rintro e w' ⟨Ab, cb, zsb, pb, rfl, hzb, hi, hb, hr, hpb, hcap⟩
    have HKb := Lib.hid hcap
    clear hcap
    have Ib := Lib.hid (hi.wide (lo' := w.heap.size + 1) hsb (Nat.le_refl _) (Nat.le_refl _))
    replace Ia := Lib.hid (Ia.out.but hb (by have := Ia.out.2.2.1; omega) (.inl (Nat.lt_succ_self _)))
    replace B0 := Lib.hid (B0.out.trans (hb.toBelow hs2 (Nat.le_refl _)))
    replace R0 := Lib.hid hr
    have hs2 := B0.out.size
    clear hi hb hr hsb
    go_wp2_with fail
    refine (l92Letter_any w.heap.size _ _ R0.out (by omega)).mono ?_
    rintro e w' ⟨s, rfl, hs1s, hb, hr, hsw⟩
    have HSS := Lib.hid hs1s
    replace Ib := Lib.hid (Ib.out.but hb (by have := Ib.out.2.2.1; omega) (.inl (Nat.lt_succ_self _)))
    replace B0 := Lib.hid (B0.out.trans (hb.toBelow hs2 (Nat.le_refl _)))
    replace R0 := Lib.hid hr
    have hs2 := B0.out.size
    clear hb hr hsw hs1s
    by_cases hm : (1 : Int) < (zsb.length : Int)
    · skip
      go_wp2_with fail
      refine (pick_any w.heap.size _ _ _ R0.out (by omega) (by omega)).mono ?_
      rintro e w' ⟨x, rfl, x0, x1, -, hb, hs, hr⟩
      have x2 := x1 (by omega)
      replace Ib := Lib.hid (Ib.out.but hb (by have := Ib.out.2.2.1; omega) (.inl (Nat.lt_succ_self _)))
      replace B0 := Lib.hid (B0.out.trans (hb.toBelow hs2 (Nat.le_refl _)))
      replace R0 := Lib.hid hr
      have hs2 := B0.out.size
      clear hb hs hr x1
      go_wp2_with fail
      refine (pick_any w.heap.size _ _ _ R0.out (by omega) (by omega)).mono ?_
      rintro e w' ⟨y, rfl, y0, y1, -, hb, hs, hr⟩
      have y2 := y1 (by omega)
      replace Ib := Lib.hid (Ib.out.but hb (by have := Ib.out.2.2.1; omega) (.inl (Nat.lt_succ_self _)))
      replace B0 := Lib.hid (B0.out.trans (hb.toBelow hs2 (Nat.le_refl _)))
      replace R0 := Lib.hid hr
      have hs2 := B0.out.size
      clear hb hs hr y1
      go_wp2_with fail
      refine (pick_any w.heap.size _ _ _ R0.out (by omega) (by omega)).mono ?_
      rintro e w' ⟨z, rfl, z0, z1, -, hb, hs, hr⟩
      have z2 := z1 (by omega)
      replace Ib := Lib.hid (Ib.out.but hb (by have := Ib.out.2.2.1; omega) (.inl (Nat.lt_succ_self _)))
      replace B0 := Lib.hid (B0.out.trans (hb.toBelow hs2 (Nat.le_refl _)))
      replace R0 := Lib.hid hr
      have hs2 := B0.out.size
      clear hb hs hr z1
      have hd1 : IntKind.i64.wrap (y.tdiv 23) = y / 23 := by rw [Int.tdiv_eq_ediv_of_nonneg y0, IntWalk.i64_in _ (by omega)]
      have hd2 : IntKind.i64.wrap (z.tdiv 23) = z / 23 := by rw [Int.tdiv_eq_ediv_of_nonneg z0, IntWalk.i64_in _ (by omega)]
      have t1 : IntKind.i64.wrap (1 + x) = 1 + x := IntWalk.i64_in _ (by omega)
      have t2 : IntKind.i64.wrap (1 + x + y / 23) = 1 + x + y / 23 := IntWalk.i64_in _ (by omega)
      have t3 : IntKind.i64.wrap (1 + x + y / 23 - z / 23) = 1 + x + y / 23 - z / 23 := IntWalk.i64_in _ (by omega)
      have HXI : Hid (I64 (1 + x + y / 23 - z / 23)) := ⟨by omega, by omega⟩
      go_wp2
      go_ret3
      exact ⟨Ab, cb, zsb, s, _, rfl, ⟨by omega, HKb.out⟩, HSS.out, HXI.out, Ib.out.wide (Nat.le_succ _) Ib.out.2.2.1 (Nat.le_refl _), B0.out⟩
    · skip
      go_wp2_with fail
      refine (pick_any w.heap.size _ _ _ R0.out (by omega) (by omega)).mono ?_
      rintro e w' ⟨x, rfl, x0, x1, -, hb, hs, hr⟩
      have x2 := x1 (by omega)
      replace Ib := Lib.hid (Ib.out.but hb (by have := Ib.out.2.2.1; omega) (.inl (Nat.lt_succ_self _)))
      replace B0 := Lib.hid (B0.out.trans (hb.toBelow hs2 (Nat.le_refl _)))
      replace R0 := Lib.hid hr
      have hs2 := B0.out.size
      clear hb hs hr x1
      go_wp2_with fail
      refine (pick_any w.heap.size _ _ _ R0.out (by omega) (by omega)).mono ?_
      rintro e w' ⟨y, rfl, y0, y1, -, hb, hs, hr⟩
      have y2 := y1 (by omega)
      replace Ib := Lib.hid (Ib.out.but hb (by have := Ib.out.2.2.1; omega) (.inl (Nat.lt_succ_self _)))
      replace B0 := Lib.hid (B0.out.trans (hb.toBelow hs2 (Nat.le_refl _)))
      replace R0 := Lib.hid hr
      have hs2 := B0.out.size
      clear hb hs hr y1
      go_wp2_with fail
      refine (pick_any w.heap.size _ _ _ R0.out (by omega) (by omega)).mono ?_
      rintro e w' ⟨z, rfl, z0, z1, -, hb, hs, hr⟩
      have z2 := z1 (by omega)
      replace Ib := Lib.hid (Ib.out.but hb (by have := Ib.out.2.2.1; omega) (.inl (Nat.lt_succ_self _)))
      replace B0 := Lib.hid (B0.out.trans (hb.toBelow hs2 (Nat.le_refl _)))
      replace R0 := Lib.hid hr
      have hs2 := B0.out.size
      clear hb hs hr z1
      have hd1 : IntKind.i64.wrap (y.tdiv 23) = y / 23 := by rw [Int.tdiv_eq_ediv_of_nonneg y0, IntWalk.i64_in _ (by omega)]
      have hd2 : IntKind.i64.wrap (z.tdiv 23) = z / 23 := by rw [Int.tdiv_eq_ediv_of_nonneg z0, IntWalk.i64_in _ (by omega)]
      have t1 : IntKind.i64.wrap (1 + x) = 1 + x := IntWalk.i64_in _ (by omega)
      have t2 : IntKind.i64.wrap (1 + x + y / 23) = 1 + x + y / 23 := IntWalk.i64_in _ (by omega)
      have t3 : IntKind.i64.wrap (1 + x + y / 23 - z / 23) = 1 + x + y / 23 - z / 23 := IntWalk.i64_in _ (by omega)
      have HXI : Hid (I64 (1 + x + y / 23 - z / 23)) := ⟨by omega, by omega⟩
      go_wp2
      go_ret3
      exact ⟨Ab, cb, zsb, s, _, rfl, ⟨by omega, HKb.out⟩, HSS.out, HXI.out, Ib.out.wide (Nat.le_succ _) Ib.out.2.2.1 (Nat.le_refl _), B0.out⟩
  · skip
    have hvb : (v == 0) = false := by rw [beq_eq_false_iff_ne]; exact hv
    go_wp2_with fail
    refine (l92Letter_any w.heap.size _ _ R0.out (by omega)).mono ?_
    rintro e w' ⟨s, rfl, hs1s, hb, hr, hsw⟩
    have HSS := Lib.hid hs1s
    replace Ia := Lib.hid (Ia.out.but hb (by have := Ia.out.2.2.1; omega) (.inl (Nat.lt_succ_self _)))
    replace B0 := Lib.hid (B0.out.trans (hb.toBelow hs2 (Nat.le_refl _)))
    replace R0 := Lib.hid hr
    have hs2 := B0.out.size
    clear hb hr hsw hs1s
    by_cases hm : (1 : Int) < (zsa.length : Int)
    · skip
      go_wp2_with fail
      refine (pick_any w.heap.size _ _ _ R0.out (by omega) (by omega)).mono ?_
      rintro e w' ⟨x, rfl, x0, x1, -, hb, hs, hr⟩
      have x2 := x1 (by omega)
      replace Ia := Lib.hid (Ia.out.but hb (by have := Ia.out.2.2.1; omega) (.inl (Nat.lt_succ_self _)))
      replace B0 := Lib.hid (B0.out.trans (hb.toBelow hs2 (Nat.le_refl _)))
      replace R0 := Lib.hid hr
      have hs2 := B0.out.size
      clear hb hs hr x1
      go_wp2_with fail
      refine (pick_any w.heap.size _ _ _ R0.out (by omega) (by omega)).mono ?_
      rintro e w' ⟨y, rfl, y0, y1, -, hb, hs, hr⟩
      have y2 := y1 (by omega)
      replace Ia := Lib.hid (Ia.out.but hb (by have := Ia.out.2.2.1; omega) (.inl (Nat.lt_succ_self _)))
      replace B0 := Lib.hid (B0.out.trans (hb.toBelow hs2 (Nat.le_refl _)))
      replace R0 := Lib.hid hr
      have hs2 := B0.out.size
      clear hb hs hr y1
      go_wp2_with fail
      refine (pick_any w.heap.size _ _ _ R0.out (by omega) (by omega)).mono ?_
      rintro e w' ⟨z, rfl, z0, z1, -, hb, hs, hr⟩
      have z2 := z1 (by omega)
      replace Ia := Lib.hid (Ia.out.but hb (by have := Ia.out.2.2.1; omega) (.inl (Nat.lt_succ_self _)))
      replace B0 := Lib.hid (B0.out.trans (hb.toBelow hs2 (Nat.le_refl _)))
      replace R0 := Lib.hid hr
      have hs2 := B0.out.size
      clear hb hs hr z1
      have hd1 : IntKind.i64.wrap (y.tdiv 23) = y / 23 := by rw [Int.tdiv_eq_ediv_of_nonneg y0, IntWalk.i64_in _ (by omega)]
      have hd2 : IntKind.i64.wrap (z.tdiv 23) = z / 23 := by rw [Int.tdiv_eq_ediv_of_nonneg z0, IntWalk.i64_in _ (by omega)]
      have t1 : IntKind.i64.wrap (1 + x) = 1 + x := IntWalk.i64_in _ (by omega)
      have t2 : IntKind.i64.wrap (1 + x + y / 23) = 1 + x + y / 23 := IntWalk.i64_in _ (by omega)
      have t3 : IntKind.i64.wrap (1 + x + y / 23 - z / 23) = 1 + x + y / 23 - z / 23 := IntWalk.i64_in _ (by omega)
      have HXI : Hid (I64 (1 + x + y / 23 - z / 23)) := ⟨by omega, by omega⟩
      go_wp2
      go_ret3
      exact ⟨Aa, ca, zsa, s, _, rfl, ⟨by omega, HKa.out⟩, HSS.out, HXI.out, Ia.out.wide (Nat.le_succ _) Ia.out.2.2.1 (Nat.le_refl _), B0.out⟩
    · skip
      go_wp2_with fail
      refine (pick_any w.heap.size _ _ _ R0.out (by omega) (by omega)).mono ?_
      rintro e w' ⟨x, rfl, x0, x1, -, hb, hs, hr⟩
      have x2 := x1 (by omega)
      replace Ia := Lib.hid (Ia.out.but hb (by have := Ia.out.2.2.1; omega) (.inl (Nat.lt_succ_self _)))
      replace B0 := Lib.hid (B0.out.trans (hb.toBelow hs2 (Nat.le_refl _)))
      replace R0 := Lib.hid hr
      have hs2 := B0.out.size
      clear hb hs hr x1
      go_wp2_with fail
      refine (pick_any w.heap.size _ _ _ R0.out (by omega) (by omega)).mono ?_
      rintro e w' ⟨y, rfl, y0, y1, -, hb, hs, hr⟩
      have y2 := y1 (by omega)
      replace Ia := Lib.hid (Ia.out.but hb (by have := Ia.out.2.2.1; omega) (.inl (Nat.lt_succ_self _)))
      replace B0 := Lib.hid (B0.out.trans (hb.toBelow hs2 (Nat.le_refl _)))
      replace R0 := Lib.hid hr
      have hs2 := B0.out.size
      clear hb hs hr y1
      go_wp2_with fail
      refine (pick_any w.heap.size _ _ _ R0.out (by omega) (by omega)).mono ?_
      rintro e w' ⟨z, rfl, z0, z1, -, hb, hs, hr⟩
      have z2 := z1 (by omega)
      replace Ia := Lib.hid (Ia.out.but hb (by have := Ia.out.2.2.1; omega) (.inl (Nat.lt_succ_self _)))
      replace B0 := Lib.hid (B0.out.trans (hb.toBelow hs2 (Nat.le_refl _)))
      replace R0 := Lib.hid hr
      have hs2 := B0.out.size
      clear hb hs hr z1
      have hd1 : IntKind.i64.wrap (y.tdiv 23) = y / 23 := by rw [Int.tdiv_eq_ediv_of_nonneg y0, IntWalk.i64_in _ (by omega)]
      have hd2 : IntKind.i64.wrap (z.tdiv 23) = z / 23 := by rw [Int.tdiv_eq_ediv_of_nonneg z0, IntWalk.i64_in _ (by omega)]
      have t1 : IntKind.i64.wrap (1 + x) = 1 + x := IntWalk.i64_in _ (by omega)
      have t2 : IntKind.i64.wrap (1 + x + y / 23) = 1 + x + y / 23 := IntWalk.i64_in _ (by omega)
      have t3 : IntKind.i64.wrap (1 + x + y / 23 - z / 23) = 1 + x + y / 23 - z / 23 := IntWalk.i64_in _ (by omega)
      have HXI : Hid (I64 (1 + x + y / 23 - z / 23)) := ⟨by omega, by omega⟩
      go_wp2
      go_ret3
      exact ⟨Aa, ca, zsa, s, _, rfl, ⟨by omega, HKa.out⟩, HSS.out, HXI.out, Ia.out.wide (Nat.le_succ _) Ia.out.2.2.1 (Nat.le_refl _), B0.out⟩

/-- The call draws a list of its own and a text. -/
def ListLetPost (w : World) (e : Ending) (w' : World) : Prop :=
  ∃ A c zs s, e = .returned (.tuple #[.slice A zs.length c, .string s]) ∧ (zs.length ≤ 9 ∧ CapOk zs.length c) ∧ s.size ≤ 1 ∧ IW w' w.heap.size w'.heap.size A zs ∧ Below w.heap.size w w'
/-- The call draws a list, a text and a list. -/
def ListLetListPost (w : World) (e : Ending) (w' : World) : Prop :=
  ∃ A c zs s A2 c2 ys, e = .returned (.tuple #[.slice A zs.length c, .string s, .slice A2 ys.length c2]) ∧ (zs.length ≤ 9 ∧ CapOk zs.length c) ∧ s.size ≤ 1 ∧ ys.length ≤ 12 ∧ IR w' 0 w'.heap.size A zs ∧ IR w' 0 w'.heap.size A2 ys ∧ Below w.heap.size w w'
theorem BR.below8 {w w' : World} {hi C : Nat} {A : Option Addr} {bs : List Int} (h : BR w hi A bs) (hb : Below C w w') (hC : hi ≤ C) : BR w' hi A bs := h.but (R := C) (But.of hb) hC hC
theorem BR.up8 {w : World} {hi hi' : Nat} {A : Option Addr} {bs : List Int} (h : BR w hi A bs) (hh : hi ≤ hi') (hs : hi' ≤ w.heap.size) : BR w hi' A bs :=
  ⟨h.1, h.2.1, hs, fun h0 => by
    obtain ⟨b, o, e, h1, h2⟩ := h.2.2.2 h0
    exact ⟨b, o, e, Nat.lt_of_lt_of_le h1 hh, h2⟩⟩
theorem Cells.but8 {w w' : World} {b off C R : Nat} {xs : List Int} (h : Cells w b off xs) (hb : But C R w w') (hlt : b < C) (hne : b ≠ R) : Cells w' b off xs := fun j hj =>
  ⟨(World.cell?_of_block (a := ⟨b, off + j, none⟩) (hb.block b hlt hne)).trans (h j hj).1, (World.frozen?_of_block (a := ⟨b, off + j, none⟩) (hb.block b hlt hne)).trans (h j hj).2⟩
set_option maxRecDepth 100000 in
set_option maxHeartbeats 4000000 in
theorem DrawSplitLeast_any (A : Option Addr) (c : Nat) (bs : List Int) (w : World) (h : BR w w.heap.size A bs) (hc : bs.length ≤ c) (hc2 : c ≤ 9000000000000000000) :
    Calls Try.prog 14 #[.slice A bs.length c] w (SplitPost w) := by
  have H := Lib.hid h
  clear h
  go_enter Try.func14, Try.ntmps14
  go_wp2_with fail
  refine (l92Split_any A c bs _ H.out hc hc2).mono ?_
  rintro e w1 ⟨A1, c1, zs, s, x, rfl, ⟨hz, hcap⟩, hs, hx, iw, bb⟩
  have HK := Lib.hid hcap; have HSS := Lib.hid hs; have HX := Lib.hid hx; have I0 := Lib.hid iw; have B0 := Lib.hid bb
  clear hcap hs hx iw bb
  go_wp2
  go_ret3
  exact ⟨A1, c1, zs, s, x, rfl, ⟨hz, HK.out⟩, HSS.out, HX.out, I0.out, B0.out⟩
set_option maxRecDepth 100000 in
set_option maxHeartbeats 4000000 in
theorem DrawSplitFirst_any (A : Option Addr) (c : Nat) (bs : List Int) (w : World) (h : BR w w.heap.size A bs) (hc : bs.length ≤ c) (hc2 : c ≤ 9000000000000000000) :
    Calls Try.prog 17 #[.slice A bs.length c] w (SplitPost w) := by
  have H := Lib.hid h
  clear h
  go_enter Try.func17, Try.ntmps17
  go_wp2_with fail
  refine (l92Split_any A c bs _ H.out hc hc2).mono ?_
  rintro e w1 ⟨A1, c1, zs, s, x, rfl, ⟨hz, hcap⟩, hs, hx, iw, bb⟩
  have HK := Lib.hid hcap; have HSS := Lib.hid hs; have HX := Lib.hid hx; have I0 := Lib.hid iw; have B0 := Lib.hid bb
  clear hcap hs hx iw bb
  go_wp2
  go_ret3
  exact ⟨A1, c1, zs, s, x, rfl, ⟨hz, HK.out⟩, HSS.out, HX.out, I0.out, B0.out⟩
set_option maxRecDepth 100000 in
set_option maxHeartbeats 4000000 in
theorem DrawSplitCosts_any (A : Option Addr) (c : Nat) (bs : List Int) (w : World) (h : BR w w.heap.size A bs) (hc : bs.length ≤ c) (hc2 : c ≤ 9000000000000000000) :
    Calls Try.prog 21 #[.slice A bs.length c] w (ListLetPost w) := by
  have H := Lib.hid h
  clear h
  go_enter Try.func21, Try.ntmps21
  go_wp2_with fail
  refine (l92Split_any A c bs _ H.out hc hc2).mono ?_
  rintro e w1 ⟨A1, c1, zs, s, x, rfl, ⟨hz, hcap⟩, hs, hx, iw, bb⟩
  have HK := Lib.hid hcap; have HSS := Lib.hid hs; have HX := Lib.hid hx; have I0 := Lib.hid iw; have B0 := Lib.hid bb
  clear hcap hs hx iw bb
  go_wp2
  go_ret2
  exact ⟨A1, c1, zs, s, rfl, ⟨hz, HK.out⟩, HSS.out, I0.out, B0.out⟩
set_option maxRecDepth 100000 in
set_option maxHeartbeats 4000000 in
theorem DrawSplitMany_any (A : Option Addr) (c : Nat) (bs : List Int) (w : World) (h : BR w w.heap.size A bs) (hc : bs.length ≤ c) (hc2 : c ≤ 9000000000000000000) :
    Calls Try.prog 27 #[.slice A bs.length c] w (ListNumPost w 9) := by
  have H := Lib.hid h
  clear h
  go_enter Try.func27, Try.ntmps27
  go_wp2_with fail
  refine (l92Split_any A c bs _ H.out hc hc2).mono ?_
  rintro e w1 ⟨A1, c1, zs, s, x, rfl, ⟨hz, hcap⟩, hs, hx, iw, bb⟩
  have HK := Lib.hid hcap; have HSS := Lib.hid hs; have HX := Lib.hid hx; have I0 := Lib.hid iw; have B0 := Lib.hid bb
  clear hcap hs hx iw bb
  go_wp2
  go_ret2
  exact ⟨A1, c1, zs, x, rfl, ⟨hz, HK.out⟩, HX.out, I0.out, B0.out⟩
set_option maxRecDepth 100000 in
set_option maxHeartbeats 4000000 in
theorem DrawSplitAny_any (A : Option Addr) (c : Nat) (bs : List Int) (w : World) (h : BR w w.heap.size A bs) (hc : bs.length ≤ c) (hc2 : c ≤ 9000000000000000000) :
    Calls Try.prog 24 #[.slice A bs.length c] w (SplitPost w) := by
  have H := Lib.hid h
  clear h
  go_enter Try.func24, Try.ntmps24
  go_wp2_with fail
  refine (l92Split_any A c bs _ H.out hc hc2).mono ?_
  rintro e w1 ⟨A1, c1, zs, s, x, rfl, ⟨hz, hcap⟩, hs, hx, iw, bb⟩
  have HK := Lib.hid hcap; have HSS := Lib.hid hs; have HX := Lib.hid hx; have I0 := Lib.hid iw; have B0 := Lib.hid bb
  clear hcap hs hx iw bb
  have J0 := Lib.hid I0.out
  clear I0
  have H2 := Lib.hid ((H.out.below8 B0.out (Nat.le_refl _)).up8 B0.out.size (Nat.le_refl _))
  have hs0 := B0.out.size
  obtain ⟨V, hV⟩ : ∃ V, w1 = V := ⟨_, rfl⟩
  clear hV
  go_wp2_with fail
  refine (l6Open_any A c bs _ H2.out hc hc2).mono ?_
  rintro e w3 ⟨rfl, hr, hb3⟩
  have hs3 := hb3.size
  have hR3 := hr.lt
  replace B0 := Lib.hid (B0.out.trans (hb3.mono hs0))
  replace J0 := Lib.hid (J0.out.grow hb3)
  have R0 := Lib.hid (hr.put8 61)
  have hrc := hr
  obtain ⟨_, _, _, _, _, c61, f61, _⟩ := hrc
  clear hr hb3 H2
  have hb61 : Below w1.heap.size w3 (w3.setCell ⟨w1.heap.size, 1, none⟩ (.int .i64 ((61 : Nat) : Int))) := (Below.refl _ _).setCell (p := ⟨w1.heap.size, 1, none⟩) (Nat.le_refl _) _
  replace B0 := Lib.hid (B0.out.trans (hb61.mono hs0))
  replace J0 := Lib.hid (J0.out.below hb61 (Nat.le_refl _))
  have hz61 : (w3.setCell ⟨w1.heap.size, 1, none⟩ (.int .i64 ((61 : Nat) : Int))).heap.size = w3.heap.size := by simp [World.setCell]
  clear hb61
  have hle : w1.heap.size ≤ (w3.setCell ⟨w1.heap.size, 1, none⟩ (.int .i64 ((61 : Nat) : Int))).heap.size := by rw [hz61]; exact hs3
  go_wp2_with fail
  refine (pick_any w1.heap.size _ _ _ R0.out (by omega) (by omega)).mono ?_
  rintro e w' ⟨u, rfl, u0, u1, -, hb, hs, hr⟩
  have u2 := u1 (by omega)
  replace J0 := Lib.hid (J0.out.but hb (by first | omega | (have := B0.out.size; omega)) (.inr (Nat.le_refl _)))
  replace B0 := Lib.hid (B0.out.trans (hb.toBelow B0.out.size hs0))
  replace R0 := Lib.hid hr
  have hzz := R0.out.lt
  clear hb hs hr u1
  go_wp2_with fail
  refine (pick_any w1.heap.size _ _ _ R0.out (by omega) (by omega)).mono ?_
  rintro e w' ⟨v, rfl, v0, v1, -, hb, hs, hr⟩
  have v2 := v1 (by omega)
  replace J0 := Lib.hid (J0.out.but hb (by first | omega | (have := B0.out.size; omega)) (.inr (Nat.le_refl _)))
  replace B0 := Lib.hid (B0.out.trans (hb.toBelow B0.out.size hs0))
  replace R0 := Lib.hid hr
  have hzz := R0.out.lt
  clear hb hs hr v1
  go_wp2_with fail
  refine (pick_any w1.heap.size _ _ _ R0.out (by omega) (by omega)).mono ?_
  rintro e w' ⟨y, rfl, y0, y1, -, hb, hs, hr⟩
  have y2 := y1 (by omega)
  replace J0 := Lib.hid (J0.out.but hb (by first | omega | (have := B0.out.size; omega)) (.inr (Nat.le_refl _)))
  replace B0 := Lib.hid (B0.out.trans (hb.toBelow B0.out.size hs0))
  replace R0 := Lib.hid hr
  have hzz := R0.out.lt
  clear hb hs hr y1
  have hd1 : IntKind.i64.wrap (v.tdiv 23) = v / 23 := by rw [Int.tdiv_eq_ediv_of_nonneg v0, IntWalk.i64_in _ (by omega)]
  have hd2 : IntKind.i64.wrap (y.tdiv 23) = y / 23 := by rw [Int.tdiv_eq_ediv_of_nonneg y0, IntWalk.i64_in _ (by omega)]
  have t1 : IntKind.i64.wrap (v / 23 * 5000) = v / 23 * 5000 := IntWalk.i64_in _ (by omega)
  have t2 : IntKind.i64.wrap (u + v / 23 * 5000) = u + v / 23 * 5000 := IntWalk.i64_in _ (by omega)
  have t3 : IntKind.i64.wrap (y / 23 * 40) = y / 23 * 40 := IntWalk.i64_in _ (by omega)
  have t4 : IntKind.i64.wrap (u + v / 23 * 5000 - y / 23 * 40) = u + v / 23 * 5000 - y / 23 * 40 := IntWalk.i64_in _ (by omega)
  have HXI : Hid (I64 (u + v / 23 * 5000 - y / 23 * 40)) := ⟨by omega, by omega⟩
  go_wp2
  go_ret3
  exact ⟨A1, c1, zs, s, _, rfl, ⟨hz, HK.out⟩, HSS.out, HXI.out, J0.out.wide (Nat.le_refl _) (by have := R0.out.lt; omega) (Nat.le_refl _), B0.out⟩

theorem IW.set8 {w : World} {lo hi b off k : Nat} {zs : List Int} (h : IW w lo hi (some ⟨b, off, none⟩) zs) (hk : k < zs.length) (v : Int) (hv : I64 v) : IW (w.setCell ⟨b, off + k, none⟩ (.int .i64 v)) lo hi (some ⟨b, off, none⟩) (zs.set k v) := by
  obtain ⟨h1, h2, h3, h4⟩ := h
  obtain ⟨b', o', e, hl, hh, hc⟩ := h4 (by omega)
  injection e with e; injection e with e1 e2 _; subst e1; subst e2
  have hcs : Cells w b off zs := hc
  exact (hcs.set_ k hk v).iw (by rw [List.length_set]) hl hh (by simpa [World.setCell] using h3) h1 (setI64 h2 hv)
set_option maxRecDepth 100000 in
set_option maxHeartbeats 4000000 in
theorem DrawSplitEven_any (A : Option Addr) (c : Nat) (bs : List Int) (w : World) (h : BR w w.heap.size A bs) (hc : bs.length ≤ c) (hc2 : c ≤ 9000000000000000000) :
    Calls Try.prog 31 #[.slice A bs.length c] w (ListNumPost w 9) := by
  have H := Lib.hid h
  clear h
  go_enter Try.func31, Try.ntmps31
  go_wp2_with fail
  refine (l6Open_any A c bs _ H.out hc hc2).mono ?_
  rintro e w1 ⟨rfl, hr, hb⟩
  have B0 := Lib.hid hb; have R0 := Lib.hid hr
  have hs2 := hb.size
  clear hb hr
  have hsb := R0.out.lt
  go_wp2_with fail
  refine (l91Hill_any w.heap.size _ 8 _ R0.out (by omega) (by omega)).mono ?_
  rintro e w' ⟨Aa, ca, zsa, pa, rfl, hza, hi, hb, hr, hpa, hcap⟩
  have HKa := Lib.hid hcap
  clear hcap
  have Ia := Lib.hid (hi.wide (lo' := w.heap.size + 1) hsb (Nat.le_refl _) (Nat.le_refl _))
  replace B0 := Lib.hid (B0.out.trans (hb.toBelow hs2 (Nat.le_refl _)))
  replace R0 := Lib.hid hr
  have hs2 := B0.out.size
  clear hi hb hr hsb
  go_wp2_with fail
  refine (pick_any w.heap.size _ _ _ R0.out (by omega) (by omega)).mono ?_
  rintro e w' ⟨v, rfl, v0, v1, -, hb, hs, hr⟩
  have v2 := v1 (by omega)
  replace Ia := Lib.hid (Ia.out.but hb (by have := Ia.out.2.2.1; omega) (.inl (Nat.lt_succ_self _)))
  replace B0 := Lib.hid (B0.out.trans (hb.toBelow hs2 (Nat.le_refl _)))
  replace R0 := Lib.hid hr
  have hs2 := B0.out.size
  clear hb hs hr v1
  obtain ⟨n, hn⟩ : ∃ n, zsa.length = n := ⟨_, rfl⟩
  have HN := Lib.hid hn
  rw [hn] at HKa hza
  rw [hn]
  clear hn
  by_cases hv : v = 0
  · skip
    go_wp2
    go_loopw [6] (fun i wr => ∃ (k : Nat) (ys : List Int) (p' : Nat), k ≤ n ∧ i = .int .i64 (k : Int) ∧ ys.length = n ∧ p' ≤ 200 + k ∧ IW wr (w.heap.size + 1) wr.heap.size Aa ys ∧ Rd wr w.heap.size p' ∧ Below w.heap.size w wr) (fun i _ => n - (intOf i).toNat)
    case atStart => exact ⟨0, zsa, _, Nat.zero_le _, rfl, HN.out, by omega, Ia.out.wide (Nat.le_refl _) (by have := Ia.out.2.2.1; have := R0.out.lt; omega) (Nat.le_refl _), R0.out, B0.out⟩
    case round =>
      clear Ia R0 B0 HN
      obtain ⟨k, ys, p', hk, rfl, hyl, hp', hi, hr, hb⟩ := hrel
      have Ia := Lib.hid hi; have R0 := Lib.hid hr; have B0 := Lib.hid hb
      have HYL := Lib.hid hyl; have HPP := Lib.hid hp'
      have hs2 := B0.out.size
      clear hi hr hb hyl
      by_cases hlt : k < n
      · skip
        have hlt' : (k : Int) < (n : Int) := by omega
        have s0 : IntKind.i64.wrap ((k : Int) + 1) = (k : Int) + 1 := IntWalk.i64_in _ (by omega)
        have HLT := Lib.hid hlt
        clear hlt
        go_wp2_with fail
        refine (pick_any w.heap.size _ _ _ R0.out (by have := HPP.out; omega) (by omega)).mono ?_
        rintro e w' ⟨u, rfl, u0, u1, -, hb, hs, hr⟩
        have u2 := u1 (by omega)
        replace Ia := Lib.hid (Ia.out.but hb (by have := Ia.out.2.2.1; omega) (.inl (Nat.lt_succ_self _)))
        replace B0 := Lib.hid (B0.out.trans (hb.toBelow hs2 (Nat.le_refl _)))
        replace R0 := Lib.hid hr
        have hs2 := B0.out.size
        clear hb hs hr u1
        obtain ⟨b, off, rfl, hb1, hb2, hcell⟩ := Ia.out.2.2.2 (by have := HYL.out; have := HLT.out; omega)
        obtain ⟨hc1, hc2⟩ := hcell k (by have := HYL.out; have := HLT.out; omega)
        obtain ⟨z0, hz0⟩ : ∃ z0, w'.cell? ⟨b, off + k, none⟩ = some (.int .i64 z0) := ⟨_, hc1⟩
        clear hcell hc1
        have IS := Lib.hid (Ia.out.set8 (k := k) (by have := HYL.out; have := HLT.out; omega) u ⟨by omega, by omega⟩)
        have hbw : Below (w.heap.size + 1) w' (w'.setCell ⟨b, off + k, none⟩ (.int .i64 u)) := (Below.refl _ _).setCell (p := ⟨b, off + k, none⟩) hb1 _
        have RS := Lib.hid (R0.out.below hbw (Nat.lt_succ_self _))
        have BS := Lib.hid (B0.out.trans (hbw.mono (Nat.le_succ _)))
        have hzs : (w'.setCell ⟨b, off + k, none⟩ (.int .i64 u)).heap.size = w'.heap.size := by simp [World.setCell]
        have ISW := Lib.hid (IS.out.wide (hi' := (w'.setCell ⟨b, off + k, none⟩ (.int .i64 u)).heap.size) (Nat.le_refl _) (by have := Ia.out.2.2.1; omega) (Nat.le_refl _))
        have HLN : Hid ((ys.set k u).length = n) := Lib.hid (by rw [List.length_set]; exact HYL.out)
        clear hbw hzs IS
        go_wp2
        go_roundw
        case rel => exact ⟨k + 1, ys.set k u, _, HLT.out, by go_num, HLN.out, by have := HPP.out; omega, ISW.out, RS.out, BS.out⟩
        case measure => have := HLT.out; simp [intOf]; omega
      · skip
        obtain rfl : k = n := by omega
        have hlt' : ¬ (k : Int) < (k : Int) := by omega
        obtain ⟨n, hn⟩ : ∃ n, n = k := ⟨_, rfl⟩
        subst hn
        have hp9 := HPP.out
        go_wp2_with fail
        refine (pick_any w.heap.size _ _ _ R0.out (by omega) (by omega)).mono ?_
        rintro e w' ⟨x, rfl, x0, x1, x9, hb, hs, hr⟩
        have x2 : x ≤ 9 := by
          by_cases hq : 1 ≤ (n : Int)
          · have := x1 hq; omega
          · have := x9 (by omega); omega
        replace Ia := Lib.hid (Ia.out.but hb (by have := Ia.out.2.2.1; omega) (.inl (Nat.lt_succ_self _)))
        replace B0 := Lib.hid (B0.out.trans (hb.toBelow hs2 (Nat.le_refl _)))
        replace R0 := Lib.hid hr
        have hs2 := B0.out.size
        clear hb hs hr x1 x9
        go_wp2_with fail
        refine (pick_any w.heap.size _ _ _ R0.out (by omega) (by omega)).mono ?_
        rintro e w' ⟨y, rfl, y0, y1, -, hb, hs, hr⟩
        have y2 := y1 (by omega)
        replace Ia := Lib.hid (Ia.out.but hb (by have := Ia.out.2.2.1; omega) (.inl (Nat.lt_succ_self _)))
        replace B0 := Lib.hid (B0.out.trans (hb.toBelow hs2 (Nat.le_refl _)))
        replace R0 := Lib.hid hr
        have hs2 := B0.out.size
        clear hb hs hr y1
        go_wp2_with fail
        refine (pick_any w.heap.size _ _ _ R0.out (by omega) (by omega)).mono ?_
        rintro e w' ⟨z, rfl, z0, z1, -, hb, hs, hr⟩
        have z2 := z1 (by omega)
        replace Ia := Lib.hid (Ia.out.but hb (by have := Ia.out.2.2.1; omega) (.inl (Nat.lt_succ_self _)))
        replace B0 := Lib.hid (B0.out.trans (hb.toBelow hs2 (Nat.le_refl _)))
        replace R0 := Lib.hid hr
        have hs2 := B0.out.size
        clear hb hs hr z1
        have hd1 : IntKind.i64.wrap (y.tdiv 23) = y / 23 := by rw [Int.tdiv_eq_ediv_of_nonneg y0, IntWalk.i64_in _ (by omega)]
        have hd2 : IntKind.i64.wrap (z.tdiv 23) = z / 23 := by rw [Int.tdiv_eq_ediv_of_nonneg z0, IntWalk.i64_in _ (by omega)]
        have t1 : IntKind.i64.wrap (1 + x) = 1 + x := IntWalk.i64_in _ (by omega)
        have t2 : IntKind.i64.wrap (1 + x + y / 23) = 1 + x + y / 23 := IntWalk.i64_in _ (by omega)
        have t3 : IntKind.i64.wrap (1 + x + y / 23 - z / 23) = 1 + x + y / 23 - z / 23 := IntWalk.i64_in _ (by omega)
        have HXI : Hid (I64 (1 + x + y / 23 - z / 23)) := ⟨by omega, by omega⟩
        go_wp2
        go_ret2
        exact ⟨Aa, ca, ys, _, by rw [HYL.out]; rfl, ⟨by have := HYL.out; omega, by have := HYL.out; rw [this]; exact HKa.out⟩, HXI.out, Ia.out.wide (Nat.le_succ _) Ia.out.2.2.1 (Nat.le_refl _), B0.out⟩
  · skip
    have hvb : (v == 0) = false := by rw [beq_eq_false_iff_ne]; exact hv
    go_wp2_with fail
    refine (pick_any w.heap.size _ _ _ R0.out (by omega) (by omega)).mono ?_
    rintro e w' ⟨x, rfl, x0, x1, x9, hb, hs, hr⟩
    have x2 : x ≤ 9 := by
      by_cases hq : 1 ≤ (n : Int)
      · have := x1 hq; omega
      · have := x9 (by omega); omega
    replace Ia := Lib.hid (Ia.out.but hb (by have := Ia.out.2.2.1; omega) (.inl (Nat.lt_succ_self _)))
    replace B0 := Lib.hid (B0.out.trans (hb.toBelow hs2 (Nat.le_refl _)))
    replace R0 := Lib.hid hr
    have hs2 := B0.out.size
    clear hb hs hr x1 x9
    go_wp2_with fail
    refine (pick_any w.heap.size _ _ _ R0.out (by omega) (by omega)).mono ?_
    rintro e w' ⟨y, rfl, y0, y1, -, hb, hs, hr⟩
    have y2 := y1 (by omega)
    replace Ia := Lib.hid (Ia.out.but hb (by have := Ia.out.2.2.1; omega) (.inl (Nat.lt_succ_self _)))
    replace B0 := Lib.hid (B0.out.trans (hb.toBelow hs2 (Nat.le_refl _)))
    replace R0 := Lib.hid hr
    have hs2 := B0.out.size
    clear hb hs hr y1
    go_wp2_with fail
    refine (pick_any w.heap.size _ _ _ R0.out (by omega) (by omega)).mono ?_
    rintro e w' ⟨z, rfl, z0, z1, -, hb, hs, hr⟩
    have z2 := z1 (by omega)
    replace Ia := Lib.hid (Ia.out.but hb (by have := Ia.out.2.2.1; omega) (.inl (Nat.lt_succ_self _)))
    replace B0 := Lib.hid (B0.out.trans (hb.toBelow hs2 (Nat.le_refl _)))
    replace R0 := Lib.hid hr
    have hs2 := B0.out.size
    clear hb hs hr z1
    have hd1 : IntKind.i64.wrap (y.tdiv 23) = y / 23 := by rw [Int.tdiv_eq_ediv_of_nonneg y0, IntWalk.i64_in _ (by omega)]
    have hd2 : IntKind.i64.wrap (z.tdiv 23) = z / 23 := by rw [Int.tdiv_eq_ediv_of_nonneg z0, IntWalk.i64_in _ (by omega)]
    have t1 : IntKind.i64.wrap (1 + x) = 1 + x := IntWalk.i64_in _ (by omega)
    have t2 : IntKind.i64.wrap (1 + x + y / 23) = 1 + x + y / 23 := IntWalk.i64_in _ (by omega)
    have t3 : IntKind.i64.wrap (1 + x + y / 23 - z / 23) = 1 + x + y / 23 - z / 23 := IntWalk.i64_in _ (by omega)
    have HXI : Hid (I64 (1 + x + y / 23 - z / 23)) := ⟨by omega, by omega⟩
    go_wp2
    go_ret2
    exact ⟨Aa, ca, zsa, _, by rw [HN.out]; rfl, ⟨by have := HN.out; omega, by have := HN.out; rw [this]; exact HKa.out⟩, HXI.out, Ia.out.wide (Nat.le_succ _) Ia.out.2.2.1 (Nat.le_refl _), B0.out⟩
set_option maxRecDepth 100000 in
set_option maxHeartbeats 4000000 in
theorem DrawSplitCost_any (A : Option Addr) (c : Nat) (bs : List Int) (w : World) (h : BR w w.heap.size A bs) (hc : bs.length ≤ c) (hc2 : c ≤ 9000000000000000000) :
    Calls Try.prog 10 #[.slice A bs.length c] w (ListLetListPost w) := by
  have H := Lib.hid h
  clear h
  go_enter Try.func10, Try.ntmps10
  go_wp2_with fail
  refine (l92Split_any A c bs _ H.out hc hc2).mono ?_
  rintro e w1 ⟨A1, c1, zs, s, x, rfl, ⟨hz, hcap⟩, hs, hx, iw, bb⟩
  have HK := Lib.hid hcap; have HSS := Lib.hid hs; have HX := Lib.hid hx; have I0 := Lib.hid iw; have B0 := Lib.hid bb
  clear hcap hs hx iw bb
  go_wp2_with fail
  refine (specSplitFirst_any A1 c1 zs s x HX.out w1 I0.out.toAll).mono ?_
  rintro e w2 ⟨A2, c2, rfl, hi2, hb2⟩
  have J0 := Lib.hid (I0.out.toAll.grow hb2).toAll
  have K0 := Lib.hid hi2.toAll
  replace B0 := Lib.hid (below_then B0.out (Nat.le_refl _) hb2)
  clear hi2 hb2 I0
  have hly : ((splitFirstM zs s x).getD []).length ≤ 12 := by
    unfold splitFirstM
    split
    · rename_i hok
      unfold leastOkB at hok
      obtain ⟨hg, hin⟩ := Bool.and_eq_true_iff.1 hok
      have hx1 := inB_true.1 hin
      have := (rowB_true.1 (given_row hg)).2
      have hp := split_first_law (a := zs) (sq := sqB s) (k := x.toNat) (by omega) (by omega)
      rw [Option.getD_some, hp.2.2.1]; omega
    · simp
  obtain ⟨o, ho⟩ : ∃ o, splitFirstM zs s x = o := ⟨_, rfl⟩
  rw [ho] at K0 hly
  rw [ho]
  clear ho
  have H2 := Lib.hid ((H.out.below8 B0.out (Nat.le_refl _)).up8 B0.out.size (Nat.le_refl _))
  have hs0 := B0.out.size
  obtain ⟨V, hV⟩ : ∃ V, w2 = V := ⟨_, rfl⟩
  clear hV
  go_wp2_with fail
  refine (l6Open_any A c bs _ H2.out hc hc2).mono ?_
  rintro e w3 ⟨rfl, hr, hb3⟩
  have hs3 := hb3.size
  have hR3 := hr.lt
  replace B0 := Lib.hid (B0.out.trans (hb3.mono hs0))
  replace J0 := Lib.hid (J0.out.grow hb3)
  replace K0 := Lib.hid (K0.out.grow hb3)
  have R0 := Lib.hid (hr.put8 61)
  have hrc := hr
  obtain ⟨_, _, _, _, _, c61, f61, _⟩ := hrc
  clear hr hb3 H2
  have hb61 : Below w2.heap.size w3 (w3.setCell ⟨w2.heap.size, 1, none⟩ (.int .i64 ((61 : Nat) : Int))) := (Below.refl _ _).setCell (p := ⟨w2.heap.size, 1, none⟩) (Nat.le_refl _) _
  replace B0 := Lib.hid (B0.out.trans (hb61.mono hs0))
  replace J0 := Lib.hid (J0.out.below hb61 (Nat.le_refl _))
  replace K0 := Lib.hid (K0.out.below hb61 (Nat.le_refl _))
  have hz61 : (w3.setCell ⟨w2.heap.size, 1, none⟩ (.int .i64 ((61 : Nat) : Int))).heap.size = w3.heap.size := by simp [World.setCell]
  clear hb61
  have hle : w2.heap.size ≤ (w3.setCell ⟨w2.heap.size, 1, none⟩ (.int .i64 ((61 : Nat) : Int))).heap.size := by rw [hz61]; exact hs3
  obtain ⟨n, hn⟩ : ∃ n, zs.length = n := ⟨_, rfl⟩
  have HN := Lib.hid hn
  have hn9 : n ≤ 9 := by omega
  rw [hn]
  clear hn
  obtain ⟨W3, hW3⟩ : ∃ W3, w3.setCell ⟨w2.heap.size, 1, none⟩ (.int .i64 ((61 : Nat) : Int)) = W3 := ⟨_, rfl⟩
  rw [hW3] at R0 J0 K0 B0 hle
  have hW3' : w3.setCell ⟨w2.heap.size, 1, none⟩ (.int .i64 61) = W3 := hW3
  cases o with
  | none =>
    have HZN := Lib.hid hz
    have hsz1 : w2.heap.size < (W3).heap.size := R0.out.lt
    have hown := OwnI.made (W3)
    have HOW : Hid (OwnI ((W3).alloc (.cells #[] 3)) (w2.heap.size + 1) (.slice (some ⟨(W3).heap.size, 0, none⟩) 0 0) []) := Lib.hid ⟨hown.1.mono hsz1, hown.2.1, by simp; omega⟩
    have hal : Below (W3).heap.size (W3) ((W3).alloc (.cells #[] 3)) := (Below.refl _ _).alloc (Nat.le_refl _) _
    have RW := Lib.hid (R0.out.below hal hsz1); have JW := Lib.hid (J0.out.below hal (Nat.le_of_lt hsz1)); have BW := Lib.hid (B0.out.trans (hal.mono B0.out.size))
    clear hown hal
    go_wp2
    skip
    go_loopw [11, 12] (fun v i wr => ∃ (k : Nat) (L : List Int) (p' : Nat), k ≤ n ∧ i = .int .i64 (k : Int) ∧ L.length ≤ k ∧ p' ≤ 200 + 2 * k ∧ OwnI wr (w2.heap.size + 1) v L ∧ Rd wr w2.heap.size p' ∧ IR wr 0 w2.heap.size A1 zs ∧ Below w.heap.size w wr) (fun _ i _ => n - (intOf i).toNat)
    case atStart => exact ⟨0, [], _, Nat.zero_le _, rfl, Nat.le_refl _, by omega, HOW.out, RW.out, JW.out, BW.out⟩
    case round =>
      clear HOW RW JW BW R0 J0 B0
      obtain ⟨k, L, p', hk, rfl, hL, hp', ho, hr, hj, hb⟩ := hrel
      have HO := Lib.hid ho; have R0 := Lib.hid hr; have J0 := Lib.hid hj; have B0 := Lib.hid hb; have HLL := Lib.hid hL; have HPP := Lib.hid hp'
      clear ho hr hj hb hL hp'
      by_cases hlt : k < n
      · skip
        have hlt' : (k : Int) < (n : Int) := by omega
        have s0 : IntKind.i64.wrap ((k : Int) + 1) = (k : Int) + 1 := IntWalk.i64_in _ (by omega)
        have s1 : IntKind.i64.wrap ((n : Int) - 1) = (n : Int) - 1 := IntWalk.i64_in _ (by omega)
        have HLT := Lib.hid hlt
        have HKI : Hid (I64 (k : Int)) := ⟨by omega, by omega⟩
        have hzz := R0.out.lt
        clear hlt
        go_wp2_with fail
        refine (pick_any w2.heap.size _ _ _ R0.out (by have := HPP.out; have := HLT.out; omega) (by omega)).mono ?_
        rintro e w' ⟨u, rfl, u0, u1, -, hb, hs, hr⟩
        have u2 := u1 (by omega)
        replace J0 := Lib.hid (J0.out.but hb (by omega) (.inr (Nat.le_refl _)))
        replace HO := Lib.hid (HO.out.but hb (Nat.le_refl _) (Nat.lt_succ_self _))
        replace B0 := Lib.hid (B0.out.trans (hb.toBelow B0.out.size hs0))
        replace R0 := Lib.hid hr
        have hzz := R0.out.lt
        clear hb hs hr u1
        by_cases hu : u = 0
        · skip
          have HLN : Hid (L.length < 17592186044416) := Lib.hid (by have := HLL.out; have := HLT.out; omega)
          go_wp2_with (at_builtin; refine wpList_push rfl _ _ rfl (w2.heap.size + 1) _ L rfl rfl HO.out HLN.out HKI.out ?_; intro v4 w4 ho4 hb4; have HO4 := Lib.hid ho4; have HB4 := Lib.hid hb4; clear ho4 hb4)
          have R4 := Lib.hid (R0.out.below HB4.out (Nat.lt_succ_self _)); have J4 := Lib.hid (J0.out.below HB4.out (Nat.le_succ _)); have B4 := Lib.hid (B0.out.trans (HB4.out.mono (by omega)))
          go_roundw
          case rel => exact ⟨k + 1, L ++ [(k : Int)], _, HLT.out, by have := HLT.out; go_num, by have := HLL.out; simp; omega, by have := HPP.out; omega, HO4.out, R4.out, J4.out, B4.out⟩
          case measure => have := HLT.out; simp [intOf]; omega
        · skip
          have hub : (u == 0) = false := by rw [beq_eq_false_iff_ne]; exact hu
          by_cases hkk : (k : Int) = (n : Int) - 1
          · skip
            have hkb : ((k : Int) == (n : Int) - 1) = true := by simpa using hkk
            clear hkk
            go_wp2_with fail
            refine (pick_any w2.heap.size _ _ _ R0.out (by have := HPP.out; have := HLT.out; omega) (by omega)).mono ?_
            rintro e w' ⟨t, rfl, t0, t1, -, hb, hs, hr⟩
            have t2 := t1 (by omega)
            replace J0 := Lib.hid (J0.out.but hb (by omega) (.inr (Nat.le_refl _)))
            replace HO := Lib.hid (HO.out.but hb (Nat.le_refl _) (Nat.lt_succ_self _))
            replace B0 := Lib.hid (B0.out.trans (hb.toBelow B0.out.size hs0))
            replace R0 := Lib.hid hr
            have hzz := R0.out.lt
            clear hb hs hr t1
            by_cases ht : 0 < t
            · skip
              have HLN : Hid (L.length < 17592186044416) := Lib.hid (by have := HLL.out; have := HLT.out; omega)
              go_wp2_with (at_builtin; refine wpList_push rfl _ _ rfl (w2.heap.size + 1) _ L rfl rfl HO.out HLN.out HKI.out ?_; intro v4 w4 ho4 hb4; have HO4 := Lib.hid ho4; have HB4 := Lib.hid hb4; clear ho4 hb4)
              have R4 := Lib.hid (R0.out.below HB4.out (Nat.lt_succ_self _)); have J4 := Lib.hid (J0.out.below HB4.out (Nat.le_succ _)); have B4 := Lib.hid (B0.out.trans (HB4.out.mono (by omega)))
              go_roundw
              case rel => exact ⟨k + 1, L ++ [(k : Int)], _, HLT.out, by have := HLT.out; go_num, by have := HLL.out; simp; omega, by have := HPP.out; omega, HO4.out, R4.out, J4.out, B4.out⟩
              case measure => have := HLT.out; simp [intOf]; omega
            · skip
              go_wp2
              go_roundw
              case rel => exact ⟨k + 1, L, _, HLT.out, by have := HLT.out; go_num, by have := HLL.out; omega, by have := HPP.out; omega, HO.out, R0.out, J0.out, B0.out⟩
              case measure => have := HLT.out; simp [intOf]; omega
          · skip
            have hkb : ((k : Int) == (n : Int) - 1) = false := by rw [beq_eq_false_iff_ne]; exact hkk
            clear hkk
            go_wp2
            go_roundw
            case rel => exact ⟨k + 1, L, _, HLT.out, by have := HLT.out; go_num, by have := HLL.out; omega, by have := HPP.out; omega, HO.out, R0.out, J0.out, B0.out⟩
            case measure => have := HLT.out; simp [intOf]; omega
      · skip
        obtain rfl : k = n := by omega
        have hlt' : ¬ (k : Int) < (k : Int) := by omega
        have hon := HO.out
        obtain ⟨A3, c3, rfl, hi3⟩ := hon.iw (by have := HLL.out; omega)
        have HI3 := Lib.hid hi3
        clear hon hi3
        go_wp2
        go_ret3
        exact ⟨A1, c1, zs, s, A3, c3, L, by rw [HN.out]; rfl, ⟨hz, HK.out⟩, HSS.out, by have := HLL.out; have := HN.out; omega, J0.out.toAll, HI3.out.toIR.toAll, B0.out⟩
  | some ys =>
    have hzz := R0.out.lt
    go_wp2_with fail
    refine (pick_any w2.heap.size _ _ _ R0.out (by omega) (by omega)).mono ?_
    rintro e w' ⟨v, rfl, v0, v1, -, hb, hs, hr⟩
    have v2 := v1 (by omega)
    replace J0 := Lib.hid (J0.out.but hb hle (.inr (Nat.le_refl _)))
    replace K0 := Lib.hid (K0.out.but hb hle (.inr (Nat.le_refl _)))
    replace B0 := Lib.hid (B0.out.trans (hb.toBelow B0.out.size hs0))
    replace R0 := Lib.hid hr
    have hzz := R0.out.lt
    clear hb hs hr v1
    by_cases hv : v = 0
    · skip
      have hly2 := hly
      rw [Option.getD_some] at hly2
      go_wp2
      go_ret3
      exact ⟨A1, c1, zs, s, A2, c2, ys, by rw [HN.out]; rfl, ⟨hz, HK.out⟩, HSS.out, hly2, J0.out.toAll, K0.out.toAll, B0.out⟩
    · skip
      have hvb : (v == 0) = false := by rw [beq_eq_false_iff_ne]; exact hv
      have HZN := Lib.hid hz
      have hsz1 : w2.heap.size < (w').heap.size := R0.out.lt
      have hown := OwnI.made (w')
      have HOW : Hid (OwnI ((w').alloc (.cells #[] 3)) (w2.heap.size + 1) (.slice (some ⟨(w').heap.size, 0, none⟩) 0 0) []) := Lib.hid ⟨hown.1.mono hsz1, hown.2.1, by simp; omega⟩
      have hal : Below (w').heap.size (w') ((w').alloc (.cells #[] 3)) := (Below.refl _ _).alloc (Nat.le_refl _) _
      have RW := Lib.hid (R0.out.below hal hsz1); have JW := Lib.hid (J0.out.below hal (Nat.le_of_lt hsz1)); have BW := Lib.hid (B0.out.trans (hal.mono B0.out.size))
      clear hown hal
      go_wp2
      skip
      go_loopw [11, 12] (fun v i wr => ∃ (k : Nat) (L : List Int) (p' : Nat), k ≤ n ∧ i = .int .i64 (k : Int) ∧ L.length ≤ k ∧ p' ≤ 200 + 2 * k ∧ OwnI wr (w2.heap.size + 1) v L ∧ Rd wr w2.heap.size p' ∧ IR wr 0 w2.heap.size A1 zs ∧ Below w.heap.size w wr) (fun _ i _ => n - (intOf i).toNat)
      case atStart => exact ⟨0, [], _, Nat.zero_le _, rfl, Nat.le_refl _, by omega, HOW.out, RW.out, JW.out, BW.out⟩
      case round =>
        clear HOW RW JW BW R0 J0 B0
        obtain ⟨k, L, p', hk, rfl, hL, hp', ho, hr, hj, hb⟩ := hrel
        have HO := Lib.hid ho; have R0 := Lib.hid hr; have J0 := Lib.hid hj; have B0 := Lib.hid hb; have HLL := Lib.hid hL; have HPP := Lib.hid hp'
        clear ho hr hj hb hL hp'
        by_cases hlt : k < n
        · skip
          have hlt' : (k : Int) < (n : Int) := by omega
          have s0 : IntKind.i64.wrap ((k : Int) + 1) = (k : Int) + 1 := IntWalk.i64_in _ (by omega)
          have s1 : IntKind.i64.wrap ((n : Int) - 1) = (n : Int) - 1 := IntWalk.i64_in _ (by omega)
          have HLT := Lib.hid hlt
          have HKI : Hid (I64 (k : Int)) := ⟨by omega, by omega⟩
          have hzz := R0.out.lt
          clear hlt
          go_wp2_with fail
          refine (pick_any w2.heap.size _ _ _ R0.out (by have := HPP.out; have := HLT.out; omega) (by omega)).mono ?_
          rintro e w' ⟨u, rfl, u0, u1, -, hb, hs, hr⟩
          have u2 := u1 (by omega)
          replace J0 := Lib.hid (J0.out.but hb (by omega) (.inr (Nat.le_refl _)))
          replace HO := Lib.hid (HO.out.but hb (Nat.le_refl _) (Nat.lt_succ_self _))
          replace B0 := Lib.hid (B0.out.trans (hb.toBelow B0.out.size hs0))
          replace R0 := Lib.hid hr
          have hzz := R0.out.lt
          clear hb hs hr u1
          by_cases hu : u = 0
          · skip
            have HLN : Hid (L.length < 17592186044416) := Lib.hid (by have := HLL.out; have := HLT.out; omega)
            go_wp2_with (at_builtin; refine wpList_push rfl _ _ rfl (w2.heap.size + 1) _ L rfl rfl HO.out HLN.out HKI.out ?_; intro v4 w4 ho4 hb4; have HO4 := Lib.hid ho4; have HB4 := Lib.hid hb4; clear ho4 hb4)
            have R4 := Lib.hid (R0.out.below HB4.out (Nat.lt_succ_self _)); have J4 := Lib.hid (J0.out.below HB4.out (Nat.le_succ _)); have B4 := Lib.hid (B0.out.trans (HB4.out.mono (by omega)))
            go_roundw
            case rel => exact ⟨k + 1, L ++ [(k : Int)], _, HLT.out, by have := HLT.out; go_num, by have := HLL.out; simp; omega, by have := HPP.out; omega, HO4.out, R4.out, J4.out, B4.out⟩
            case measure => have := HLT.out; simp [intOf]; omega
          · skip
            have hub : (u == 0) = false := by rw [beq_eq_false_iff_ne]; exact hu
            by_cases hkk : (k : Int) = (n : Int) - 1
            · skip
              have hkb : ((k : Int) == (n : Int) - 1) = true := by simpa using hkk
              clear hkk
              go_wp2_with fail
              refine (pick_any w2.heap.size _ _ _ R0.out (by have := HPP.out; have := HLT.out; omega) (by omega)).mono ?_
              rintro e w' ⟨t, rfl, t0, t1, -, hb, hs, hr⟩
              have t2 := t1 (by omega)
              replace J0 := Lib.hid (J0.out.but hb (by omega) (.inr (Nat.le_refl _)))
              replace HO := Lib.hid (HO.out.but hb (Nat.le_refl _) (Nat.lt_succ_self _))
              replace B0 := Lib.hid (B0.out.trans (hb.toBelow B0.out.size hs0))
              replace R0 := Lib.hid hr
              have hzz := R0.out.lt
              clear hb hs hr t1
              by_cases ht : 0 < t
              · skip
                have HLN : Hid (L.length < 17592186044416) := Lib.hid (by have := HLL.out; have := HLT.out; omega)
                go_wp2_with (at_builtin; refine wpList_push rfl _ _ rfl (w2.heap.size + 1) _ L rfl rfl HO.out HLN.out HKI.out ?_; intro v4 w4 ho4 hb4; have HO4 := Lib.hid ho4; have HB4 := Lib.hid hb4; clear ho4 hb4)
                have R4 := Lib.hid (R0.out.below HB4.out (Nat.lt_succ_self _)); have J4 := Lib.hid (J0.out.below HB4.out (Nat.le_succ _)); have B4 := Lib.hid (B0.out.trans (HB4.out.mono (by omega)))
                go_roundw
                case rel => exact ⟨k + 1, L ++ [(k : Int)], _, HLT.out, by have := HLT.out; go_num, by have := HLL.out; simp; omega, by have := HPP.out; omega, HO4.out, R4.out, J4.out, B4.out⟩
                case measure => have := HLT.out; simp [intOf]; omega
              · skip
                go_wp2
                go_roundw
                case rel => exact ⟨k + 1, L, _, HLT.out, by have := HLT.out; go_num, by have := HLL.out; omega, by have := HPP.out; omega, HO.out, R0.out, J0.out, B0.out⟩
                case measure => have := HLT.out; simp [intOf]; omega
            · skip
              have hkb : ((k : Int) == (n : Int) - 1) = false := by rw [beq_eq_false_iff_ne]; exact hkk
              clear hkk
              go_wp2
              go_roundw
              case rel => exact ⟨k + 1, L, _, HLT.out, by have := HLT.out; go_num, by have := HLL.out; omega, by have := HPP.out; omega, HO.out, R0.out, J0.out, B0.out⟩
              case measure => have := HLT.out; simp [intOf]; omega
        · skip
          obtain rfl : k = n := by omega
          have hlt' : ¬ (k : Int) < (k : Int) := by omega
          have hon := HO.out
          obtain ⟨A3, c3, rfl, hi3⟩ := hon.iw (by have := HLL.out; omega)
          have HI3 := Lib.hid hi3
          clear hon hi3
          go_wp2
          go_ret3
          exact ⟨A1, c1, zs, s, A3, c3, L, by rw [HN.out]; rfl, ⟨hz, HK.out⟩, HSS.out, by have := HLL.out; have := HN.out; omega, J0.out.toAll, HI3.out.toIR.toAll, B0.out⟩
end Go.Proofs.Ytfkmnlhmldjieaa
