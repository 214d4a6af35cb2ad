/-
  What the laws draw, third part: bent rows (l91Bent), rows of any kind (l91Some, l91One) and what FnSlopes and FnFrom begin with. Conditions: the reader has been asked at most 800,000,000 times.
-/
import Derived.Test.YtanoojpmokbiaabDraw2
namespace Go.Proofs.Ytanoojpmokbiaab
open Go.RowKit

set_option maxRecDepth 100000 in
set_option maxHeartbeats 4000000 in
theorem l91Bent_any (R p n : Nat) (w : World) (h : Rd w R p) (hp : p ≤ 900000000) (hn : n ≤ 1000) :
    Calls Try.prog 54 #[.pointer (some ⟨R, 0, none⟩), .int .i64 (n : Int)] w (DrawPost w R p (n - 1 + 1) (n + 2)) := by
  have H := Lib.hid h
  have hR := h.lt
  clear h
  go_enter Try.func54, Try.ntmps54
  go_wp2_with fail
  refine (pick_any R p _ _ (H.out.below ((Below.refl w.heap.size w).alloc (Nat.le_refl _) _) hR) (by omega) (by omega)).mono ?_
  rintro e w1 ⟨K, rfl, k0, k1, -, hb, hs, hr⟩
  have k2 := k1 (by omega)
  have O1 := Lib.hid ((OwnI.made w).but hb (Nat.le_refl _) hR)
  have B1 := Lib.hid ((But.of (R := R) ((Below.refl w.heap.size w).alloc (Nat.le_refl _) (.cells #[] 3))).trans (hb.mono (by simp)))
  have R1 := Lib.hid hr
  obtain ⟨W, hW⟩ : ∃ W, 3 + K * 4 = W := ⟨_, rfl⟩
  have hW0 : 3 ≤ W := by omega
  have hW1 : W ≤ 11 := by omega
  have s1 : IntKind.i64.wrap (K * 4) = K * 4 := IntWalk.i64_in _ (by omega)
  clear hb hs hr k1
  go_wp2
  clear s1
  go_loopw [5, 7] (fun v i wr => ∃ (k p' : Nat) (zs : List Int), k ≤ n - 1 ∧ i = .int .i64 ((k : Int) + 1) ∧ zs.length = k ∧ OwnI wr w.heap.size v zs ∧ But w.heap.size R w wr ∧ Rd wr R p' ∧ p' ≤ p + (1 + k)) (fun _ i _ => n - (intOf i).toNat)
  case atStart => exact ⟨0, p + 1, [], Nat.zero_le _, rfl, rfl, O1.out, B1.out, R1.out, by omega⟩
  case round =>
    clear O1 B1 R1 hW k0 k2
    obtain ⟨k, p', zs, hk, rfl, hz, ho, hb, hr, hp'⟩ := hrel
    have HO := Lib.hid ho; have HB := Lib.hid hb; have HR := Lib.hid hr
    clear ho hb hr
    by_cases hlt : k + 1 < n
    · have hlt' : (k : Int) + 1 < (n : Int) := by omega
      have HLL := Lib.hid (show zs.length < 17592186044416 by omega)
      go_wp2_with fail
      refine (pick_any R p' _ _ HR.out (by omega) (by omega)).mono ?_
      rintro e w2 ⟨x, rfl, x0, x1, -, hb, hs, hr⟩
      have x2 := x1 (by omega)
      replace HO := Lib.hid (HO.out.but hb (Nat.le_refl _) hR)
      replace HB := Lib.hid (HB.out.then_ (Nat.le_refl _) hb)
      replace HR := Lib.hid hr
      have HY : Hid (I64 (x - W / 2)) := ⟨by omega, by omega⟩
      clear hb hs hr x1
      go_wp2_with (at_builtin; refine wpList_push rfl _ _ rfl w.heap.size _ _ rfl rfl HO.out HLL.out HY.out ?_; intro v1 w3 ho1 hb1; have HO1 := Lib.hid ho1; have HB1 := Lib.hid hb1; clear ho1 hb1)
      go_roundw
      case rel => exact ⟨k + 1, p' + 1, _, by omega, by go_num, by simp [hz], HO1.out, HB.out.trans (But.of HB1.out), HR.out.below HB1.out hR, by omega⟩
      case measure => simp [intOf]; omega
    · have hlt' : ¬ (k : Int) + 1 < (n : Int) := by omega
      have hkn : zs.length = n - 1 := by omega
      go_wp2_with fail
      refine (pick_any R p' _ _ HR.out (by omega) (by omega)).mono ?_
      rintro e w2 ⟨x, rfl, x0, x1, -, hb, hs, hr⟩
      have x2 := x1 (by omega)
      obtain ⟨A', c', rfl, hiw⟩ := (HO.out.but hb (Nat.le_refl _) hR).iwn hz (by omega)
      have HI := Lib.hid hiw
      replace HB := Lib.hid (HB.out.then_ (Nat.le_refl _) hb)
      replace HR := Lib.hid hr
      have HX : Hid (I64 (x - 4)) := ⟨by omega, by omega⟩
      clear hb hs hr x1 hiw HO
      go_wp2_with fail
      refine (l3Sorted_any A' k c' zs _ HI.out.toAll (by omega) hz.symm).mono ?_
      rintro e w3 ⟨zs3, hz3, A3, c3, rfl, hi3, hb3⟩
      have HI3 := Lib.hid hi3
      have hw3 := hb3.size
      replace HB := Lib.hid (HB.out.then_ (Nat.le_refl _) (But.of hb3))
      replace HR := Lib.hid (HR.out.below hb3 HR.out.lt)
      have hlo := HB.out.size
      clear hi3 hb3 HI
      go_wp2_with fail
      refine (l3From_any (x - 4) A3 k c3 zs3 _ HX.out HI3.out.toAll (by omega) hz3.symm).mono ?_
      rintro e w4 ⟨A4, c4, rfl, hc4, hi4, hb4⟩
      have HC := Lib.hid hc4
      clear hc4
      have HI4 := Lib.hid hi4
      replace HB := Lib.hid (HB.out.then_ (Nat.le_refl _) (But.of hb4))
      replace HR := Lib.hid (HR.out.below hb4 HR.out.lt)
      have hw4 := hb4.size
      have HE : Hid ((fromL (x - 4) zs3).length = n - 1 + 1) := by show _ = _; rw [fromL_len]; omega
      clear hi4 hb4 HI3
      go_wp2
      go_ret
      exact drawPost_of HE.out HI4.out hlo HB.out HR.out (by omega) HE.out HC.out

theorem But.setOther {C R : Nat} {a w : World} (h : But C R a w) {b off : Nat} (hb : C ≤ b) (u : Value) : But C R a (w.setCell ⟨b, off, none⟩ u) :=
  h.trans (But.of ((Below.refl C w).setCell hb u))

/-- The call draws a list of at most `most` integers of its own; the reader is asked at most k times. -/
def SomePost (w : World) (R p most k : Nat) (e : Ending) (w' : World) : Prop :=
  ∃ A c zs p', e = .returned (.slice A zs.length c) ∧ zs.length ≤ most ∧ IW w' w.heap.size w'.heap.size A zs ∧ But w.heap.size R w w' ∧ Rd w' R p' ∧ p' ≤ p + k ∧ CapOk zs.length c
theorem somePost_of {w w' : World} {R p n most m k c p' : Nat} {A : Option Addr} {zs : List Int} (hz : zs.length = n) (hn : n ≤ most) (hi : IW w' w.heap.size w'.heap.size A zs) (hb : But w.heap.size R w w') (hr : Rd w' R p') (hp : p' ≤ p + k) (hm : m = n) (hcap : CapOk m c) : SomePost w R p most k (.returned (.slice A m c)) w' := by
  subst hm; subst hz; exact ⟨A, c, zs, p', rfl, hn, hi, hb, hr, hp, hcap⟩

end Go.Proofs.Ytanoojpmokbiaab
