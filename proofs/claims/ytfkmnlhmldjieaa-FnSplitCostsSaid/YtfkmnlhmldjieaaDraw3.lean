/-
  What the laws draw, third part: bent rows (l91Bent), rows of any kind (l91Some, l91One) and what FnSlopes and FnFrom begin with. Conditions: the reader has been asked at most 800,000,000 times.
-/
import Derived.Test.YtfkmnlhmldjieaaDraw2
namespace Go.Proofs.Ytfkmnlhmldjieaa
open Go.RowKit

set_option maxRecDepth 100000 in
set_option maxHeartbeats 4000000 in
theorem l91Bent_any (R p n : Nat) (w : World) (h : Rd w R p) (hp : p ≤ 900000000) (hn : n ≤ 1000) :
    Calls Try.prog 78 #[.pointer (some ⟨R, 0, none⟩), .int .i64 (n : Int)] w (DrawPost w R p (n - 1 + 1) (n + 2)) := by
  have H := Lib.hid h
  have hR := h.lt
  clear h
  go_enter Try.func78, Try.ntmps78
  go_wp2_with fail
  refine (pick_any R p _ _ (H.out.below ((Below.refl w.heap.size w).alloc (Nat.le_refl _) _) hR) (by omega) (by omega)).mono ?_
  rintro e w1 ⟨K, rfl, k0, k1, -, hb, hs, hr⟩
  have k2 := k1 (by omega)
  have O1 := Lib.hid ((OwnI.made w).but hb (Nat.le_refl _) hR)
  have B1 := Lib.hid ((But.of (R := R) ((Below.refl w.heap.size w).alloc (Nat.le_refl _) (.cells #[] 3))).trans (hb.mono (by simp)))
  have R1 := Lib.hid hr
  obtain ⟨W, hW⟩ : ∃ W, 3 + K * 4 = W := ⟨_, rfl⟩
  have hW0 : 3 ≤ W := by omega
  have hW1 : W ≤ 11 := by omega
  have s1 : IntKind.i64.wrap (K * 4) = K * 4 := IntWalk.i64_in _ (by omega)
  clear hb hs hr k1
  go_wp2
  clear s1
  go_loopw [5, 7] (fun v i wr => ∃ (k p' : Nat) (zs : List Int), k ≤ n - 1 ∧ i = .int .i64 ((k : Int) + 1) ∧ zs.length = k ∧ OwnI wr w.heap.size v zs ∧ But w.heap.size R w wr ∧ Rd wr R p' ∧ p' ≤ p + (1 + k)) (fun _ i _ => n - (intOf i).toNat)
  case atStart => exact ⟨0, p + 1, [], Nat.zero_le _, rfl, rfl, O1.out, B1.out, R1.out, by omega⟩
  case round =>
    clear O1 B1 R1 hW k0 k2
    obtain ⟨k, p', zs, hk, rfl, hz, ho, hb, hr, hp'⟩ := hrel
    have HO := Lib.hid ho; have HB := Lib.hid hb; have HR := Lib.hid hr
    clear ho hb hr
    by_cases hlt : k + 1 < n
    · have hlt' : (k : Int) + 1 < (n : Int) := by omega
      have HLL := Lib.hid (show zs.length < 17592186044416 by omega)
      go_wp2_with fail
      refine (pick_any R p' _ _ HR.out (by omega) (by omega)).mono ?_
      rintro e w2 ⟨x, rfl, x0, x1, -, hb, hs, hr⟩
      have x2 := x1 (by omega)
      replace HO := Lib.hid (HO.out.but hb (Nat.le_refl _) hR)
      replace HB := Lib.hid (HB.out.then_ (Nat.le_refl _) hb)
      replace HR := Lib.hid hr
      have HY : Hid (I64 (x - W / 2)) := ⟨by omega, by omega⟩
      clear hb hs hr x1
      go_wp2_with (at_builtin; refine wpList_push rfl _ _ rfl w.heap.size _ _ rfl rfl HO.out HLL.out HY.out ?_; intro v1 w3 ho1 hb1; have HO1 := Lib.hid ho1; have HB1 := Lib.hid hb1; clear ho1 hb1)
      go_roundw
      case rel => exact ⟨k + 1, p' + 1, _, by omega, by go_num, by simp [hz], HO1.out, HB.out.trans (But.of HB1.out), HR.out.below HB1.out hR, by omega⟩
      case measure => simp [intOf]; omega
    · have hlt' : ¬ (k : Int) + 1 < (n : Int) := by omega
      have hkn : zs.length = n - 1 := by omega
      go_wp2_with fail
      refine (pick_any R p' _ _ HR.out (by omega) (by omega)).mono ?_
      rintro e w2 ⟨x, rfl, x0, x1, -, hb, hs, hr⟩
      have x2 := x1 (by omega)
      obtain ⟨A', c', rfl, hiw⟩ := (HO.out.but hb (Nat.le_refl _) hR).iwn hz (by omega)
      have HI := Lib.hid hiw
      replace HB := Lib.hid (HB.out.then_ (Nat.le_refl _) hb)
      replace HR := Lib.hid hr
      have HX : Hid (I64 (x - 4)) := ⟨by omega, by omega⟩
      clear hb hs hr x1 hiw HO
      go_wp2_with fail
      refine (l3Sorted_any A' k c' zs _ HI.out.toAll (by omega) hz.symm).mono ?_
      rintro e w3 ⟨zs3, hz3, A3, c3, rfl, hi3, hb3⟩
      have HI3 := Lib.hid hi3
      have hw3 := hb3.size
      replace HB := Lib.hid (HB.out.then_ (Nat.le_refl _) (But.of hb3))
      replace HR := Lib.hid (HR.out.below hb3 HR.out.lt)
      have hlo := HB.out.size
      clear hi3 hb3 HI
      go_wp2_with fail
      refine (l3From_any (x - 4) A3 k c3 zs3 _ HX.out HI3.out.toAll (by omega) hz3.symm).mono ?_
      rintro e w4 ⟨A4, c4, rfl, hc4, hi4, hb4⟩
      have HC := Lib.hid hc4
      clear hc4
      have HI4 := Lib.hid hi4
      replace HB := Lib.hid (HB.out.then_ (Nat.le_refl _) (But.of hb4))
      replace HR := Lib.hid (HR.out.below hb4 HR.out.lt)
      have hw4 := hb4.size
      have HE : Hid ((fromL (x - 4) zs3).length = n - 1 + 1) := by show _ = _; rw [fromL_len]; omega
      clear hi4 hb4 HI3
      go_wp2
      go_ret
      exact drawPost_of HE.out HI4.out hlo HB.out HR.out (by omega) HE.out HC.out

theorem But.setOther {C R : Nat} {a w : World} (h : But C R a w) {b off : Nat} (hb : C ≤ b) (u : Value) : But C R a (w.setCell ⟨b, off, none⟩ u) :=
  h.trans (But.of ((Below.refl C w).setCell hb u))

/-- The call draws a list of at most `most` integers of its own; the reader is asked at most k times. -/
def SomePost (w : World) (R p most k : Nat) (e : Ending) (w' : World) : Prop :=
  ∃ A c zs p', e = .returned (.slice A zs.length c) ∧ zs.length ≤ most ∧ IW w' w.heap.size w'.heap.size A zs ∧ But w.heap.size R w w' ∧ Rd w' R p' ∧ p' ≤ p + k ∧ CapOk zs.length c
theorem somePost_of {w w' : World} {R p n most m k c p' : Nat} {A : Option Addr} {zs : List Int} (hz : zs.length = n) (hn : n ≤ most) (hi : IW w' w.heap.size w'.heap.size A zs) (hb : But w.heap.size R w w') (hr : Rd w' R p') (hp : p' ≤ p + k) (hm : m = n) (hcap : CapOk m c) : SomePost w R p most k (.returned (.slice A m c)) w' := by
  subst hm; subst hz; exact ⟨A, c, zs, p', rfl, hn, hi, hb, hr, hp, hcap⟩

set_option maxRecDepth 100000 in
set_option maxHeartbeats 4000000 in
theorem l91Some_any (R p most : Nat) (w : World) (h : Rd w R p) (hp : p ≤ 800000000) (hm : most ≤ 900) :
    Calls Try.prog 69 #[.pointer (some ⟨R, 0, none⟩), .int .i64 (most : Int)] w (SomePost w R p (most + 1) (3 * most + 9)) := by
  have H := Lib.hid h
  have hR := h.lt
  clear h
  go_enter Try.func69, Try.ntmps69
  go_wp2_with fail
  refine (pick_any R p _ _ H.out (by omega) (by omega)).mono ?_
  rintro e w1 ⟨N0, rfl, k0, k1, k2, hb, hs, hr⟩
  obtain ⟨n0, rfl⟩ := Int.eq_ofNat_of_zero_le k0
  have hn0 : n0 ≤ most := by
    by_cases hm1 : 1 ≤ (most : Int)
    · have := k1 hm1; omega
    · have := k2 (by omega); omega
  obtain ⟨n, hn⟩ : ∃ n, n0 + 1 = n := ⟨_, rfl⟩
  have hn1 : 1 + (n0 : Int) = (n : Int) := by omega
  have hn2 : 1 ≤ n ∧ n ≤ most + 1 := by omega
  have B0 := Lib.hid hb; have R0 := Lib.hid hr
  clear hb hs hr k0 k1 k2 hn hn0
  go_wp2_with fail
  clear hn1
  refine (l91Row_any R (p + 1) n _ R0.out (by omega) (by omega)).mono ?_
  rintro e w2 ⟨A1, c1, zs1, p1, rfl, hz1, hi1, hb1, hr1, hp1, hcap⟩
  have HK := Lib.hid hcap
  clear hcap
  have I0 := Lib.hid (hi1.wide (lo' := w.heap.size) B0.out.size (Nat.le_refl _) (Nat.le_refl _))
  replace B0 := Lib.hid (B0.out.then_ (Nat.le_refl _) hb1)
  replace R0 := Lib.hid hr1
  have HZ := Lib.hid hz1
  clear hi1 hb1 hr1 hz1
  go_wp2_with fail
  refine (pick_any R p1 _ _ R0.out (by omega) (by omega)).mono ?_
  rintro e w3 ⟨K, rfl, k0, -, -, hb, hs, hr⟩
  replace I0 := Lib.hid ((I0.out.but hb (Nat.le_refl _) (.inl hR)).wide (Nat.le_refl _) hb.size (Nat.le_refl _))
  replace B0 := Lib.hid (B0.out.then_ (Nat.le_refl _) hb)
  replace R0 := Lib.hid hr
  clear hb hs hr
  by_cases hK : K = 0
  · clear k0
    subst hK
    go_wp2_with fail
    refine (l91Bent_any R (p1 + 1) n _ R0.out (by omega) (by omega)).mono ?_
    rintro e w4 ⟨A2, c2, zs2, p2, rfl, hz2, hi2, hb2, hr2, hp2, hcap⟩
    rw [show n - 1 + 1 = n by omega] at hcap
    replace HK := Lib.hid hcap
    clear hcap
    replace I0 := Lib.hid (hi2.wide (lo' := w.heap.size) B0.out.size (Nat.le_refl _) (Nat.le_refl _))
    replace B0 := Lib.hid (B0.out.then_ (Nat.le_refl _) hb2)
    replace R0 := Lib.hid hr2
    replace HZ := Lib.hid (hz2.trans (show n - 1 + 1 = n by omega))
    have hnn : n - 1 + 1 = n := by omega
    clear hi2 hb2 hr2 hz2
    go_wp2_with fail
    refine (pick_any R p2 _ _ R0.out (by omega) (by omega)).mono ?_
    rintro e w5 ⟨L, rfl, -, -, -, hb, hs, hr⟩
    replace I0 := Lib.hid ((I0.out.but hb (Nat.le_refl _) (.inl hR)).wide (Nat.le_refl _) hb.size (Nat.le_refl _))
    replace B0 := Lib.hid (B0.out.then_ (Nat.le_refl _) hb)
    replace R0 := Lib.hid hr
    clear hb hs hr
    by_cases hL0 : L = 0
    · subst hL0
      obtain ⟨b, off, rfl, hlo, hhi, hcs⟩ := I0.out.2.2.2 (by rw [HZ.out]; exact hn2.1)
      have HC : Hid (Cells w5 b off zs2) := hcs
      have hpos : 0 < zs2.length := by rw [HZ.out]; exact hn2.1
      obtain ⟨hc0, hf0⟩ := HC.out 0 hpos
      obtain ⟨Z, hZ⟩ : ∃ Z, zs2[0]'hpos = Z := ⟨_, rfl⟩
      rw [hZ, Nat.add_zero] at hc0
      rw [Nat.add_zero] at hf0
      have HN := Lib.hid (HC.out.set_ 0 hpos 1001)
      rw [Nat.add_zero] at HN
      have HZ2 : Hid ((zs2.set 0 1001).length = n) := by show _ = _; simp [HZ.out]
      have HI64 : Hid (∀ y, y ∈ zs2.set 0 1001 → I64 y) := setI64 I0.out.2.1 ⟨by omega, by omega⟩
      have hn3 : ¬ (n : Int) = 0 := by omega
      have hn4 : (0 : Int) < (n : Int) := by omega
      clear hZ hpos hcs
      go_wp2
      go_ret
      exact somePost_of HZ2.out hn2.2 (HN.out.iw HZ2.out hlo (by simpa [World.setCell] using hhi) (by simp [World.setCell]) (by omega) HI64.out) (B0.out.setOther hlo _) (R0.out.below ((Below.refl w.heap.size _).setCell hlo _) hR) (by omega) rfl HK.out
    · by_cases hL1 : L = 1
      · subst hL1
        go_wp2
        go_ret
        exact somePost_of (zs := []) rfl (Nat.zero_le _) (IW.nil' _ _ _) (B0.out.then_ (Nat.le_refl _) (But.of ((Below.refl _ _).alloc (Nat.le_refl _) _))) (R0.out.below ((Below.refl _ _).alloc (Nat.le_refl _) _) R0.out.lt) (by omega) rfl ⟨Nat.le_refl _, by omega⟩
      · go_wp2
        go_ret
        exact somePost_of HZ.out hn2.2 I0.out B0.out R0.out (by omega) rfl HK.out
  · go_wp2_with fail
    refine (pick_any R (p1 + 1) _ _ R0.out (by omega) (by omega)).mono ?_
    rintro e w5 ⟨L, rfl, -, -, -, hb, hs, hr⟩
    replace I0 := Lib.hid ((I0.out.but hb (Nat.le_refl _) (.inl hR)).wide (Nat.le_refl _) hb.size (Nat.le_refl _))
    replace B0 := Lib.hid (B0.out.then_ (Nat.le_refl _) hb)
    replace R0 := Lib.hid hr
    clear hb hs hr
    by_cases hL0 : L = 0
    · subst hL0
      obtain ⟨b, off, rfl, hlo, hhi, hcs⟩ := I0.out.2.2.2 (by rw [HZ.out]; exact hn2.1)
      have HC : Hid (Cells w5 b off zs1) := hcs
      have hpos : 0 < zs1.length := by rw [HZ.out]; exact hn2.1
      obtain ⟨hc0, hf0⟩ := HC.out 0 hpos
      obtain ⟨Z, hZ⟩ : ∃ Z, zs1[0]'hpos = Z := ⟨_, rfl⟩
      rw [hZ, Nat.add_zero] at hc0
      rw [Nat.add_zero] at hf0
      have HN := Lib.hid (HC.out.set_ 0 hpos 1001)
      rw [Nat.add_zero] at HN
      have HZ2 : Hid ((zs1.set 0 1001).length = n) := by show _ = _; simp [HZ.out]
      have HI64 : Hid (∀ y, y ∈ zs1.set 0 1001 → I64 y) := setI64 I0.out.2.1 ⟨by omega, by omega⟩
      have hn3 : ¬ (n : Int) = 0 := by omega
      have hn4 : (0 : Int) < (n : Int) := by omega
      clear hZ hpos hcs
      go_wp2
      go_ret
      exact somePost_of HZ2.out hn2.2 (HN.out.iw HZ2.out hlo (by simpa [World.setCell] using hhi) (by simp [World.setCell]) (by omega) HI64.out) (B0.out.setOther hlo _) (R0.out.below ((Below.refl w.heap.size _).setCell hlo _) hR) (by omega) rfl HK.out
    · by_cases hL1 : L = 1
      · subst hL1
        go_wp2
        go_ret
        exact somePost_of (zs := []) rfl (Nat.zero_le _) (IW.nil' _ _ _) (B0.out.then_ (Nat.le_refl _) (But.of ((Below.refl _ _).alloc (Nat.le_refl _) _))) (R0.out.below ((Below.refl _ _).alloc (Nat.le_refl _) _) R0.out.lt) (by omega) rfl ⟨Nat.le_refl _, by omega⟩
      · go_wp2
        go_ret
        exact somePost_of HZ.out hn2.2 I0.out B0.out R0.out (by omega) rfl HK.out
end Go.Proofs.Ytfkmnlhmldjieaa
