/-
  The draw of two rows of which one is often below the other: DrawRowBelow. Conditions: the code's cells are there.
-/
import Derived.Test.YtlgagdplnpeklaaDrawTwo
import Derived.Test.YtlgagdplnpeklaaLnM
import Derived.Test.YtlgagdplnpeklaaSp2
namespace Go.Proofs.Ytlgagdplnpeklaa
open Go.RowKit

theorem specBelow_of {b : Bool} {n n' : Nat} (A0 : Option Addr) (c0 lo hi : Nat) (zs0 : List Int) (A1 : Option Addr) (c1 lo' hi' : Nat) (zs1 : List Int) (w : World) (h0 : IR w lo hi A0 zs0) (h1 : IR w lo' hi' A1 zs1) (hb : belowB zs0 zs1 = b) (hn : n = zs0.length) (hn' : n' = zs1.length) :
    Calls Try.prog 20 #[.slice A0 n c0, .slice A1 n' c1] w fun e w' => e = .returned (.bool b) ∧ Below w.heap.size w w' := by
  subst hn; subst hn'; subst hb
  exact specRowBelow_any A0 c0 zs0 A1 c1 zs1 w h0.toAll h1.toAll

set_option maxRecDepth 100000 in
set_option maxHeartbeats 4000000 in
theorem DrawRowBelow_any (A : Option Addr) (c : Nat) (bs : List Int) (w : World) (h : BR w w.heap.size A bs) (hc : bs.length ≤ c) (hc2 : c ≤ 9000000000000000000) :
    Calls Try.prog 18 #[.slice A bs.length c] w (TwoPost w 9) := by
  have H := Lib.hid h
  clear h
  go_enter Try.func18, Try.ntmps18
  go_wp2_with fail
  refine (l91Two_any A c bs _ H.out hc hc2).mono ?_
  rintro e w1 ⟨A1, c1, za, A2, c2, zb, rfl, hz1, hz2, hi1, hi2, hb⟩
  have I1 := Lib.hid hi1; have I2 := Lib.hid hi2; have B1 := Lib.hid hb
  have HZ1 := Lib.hid hz1; have HZ2 := Lib.hid hz2
  clear hi1 hi2 hb hz1 hz2
  cases hg0 : twoB za zb with
  | false =>
    have HG0 := Lib.hid hg0; clear hg0
    go_wp2_with fail
    go_at_call 55; refine (l1Two_false _ _ za _ _ zb _ _ _ _ _ I1.out.toIR I2.out.toIR HG0.out).mono ?_; rintro e w' ⟨rfl, rfl⟩
    go_wp2
    go_ret2
    exact ⟨A1, c1, za, A2, c2, zb, rfl, HZ1.out, HZ2.out, I1.out, I2.out, B1.out⟩
  | true =>
    have HG0 := Lib.hid hg0; clear hg0
    by_cases h3 : 0 < (bs.length : Int) % 3
    · have HI := Lib.hid (show ∀ x : Fin za.length, I64 ((highG za zb) x) from fun x => i64_of_fits (highG_fits HG0.out x))
      have hl := (rowB_true.1 (twoB_true HG0.out).1).2
      have HLl := Lib.hid (show (chgL za (highG za zb)).length = za.length by simp [chgL])
      go_wp2_with fail
      go_at_call 55; refine (l1Two_true _ _ za _ _ zb _ _ _ _ _ I1.out.toIR I2.out.toIR HG0.out).mono ?_; rintro e w' ⟨rfl, rfl⟩
      have HW1 := Lib.hid B1.out.size
      go_wp2
      go_loopw [6, 7] (fun v i wr => ∃ k : Nat, k ≤ za.length ∧ i = .int .i64 k ∧ OwnI wr w1.heap.size v ((chgL za (highG za zb)).take k) ∧ Below w1.heap.size w1 wr) (fun _ i _ => za.length - (intOf i).toNat)
      case atStart => exact ⟨0, Nat.zero_le _, rfl, by simpa using OwnI.made w1, (Below.refl _ _).alloc (Nat.le_refl _) _⟩
      case round =>
        obtain ⟨k, hk, rfl, ho, hb⟩ := hrel
        have HO := Lib.hid ho; have HBl := Lib.hid hb
        clear ho hb
        by_cases hlt : k < za.length
        · have hlt' : (k : Int) < (za.length : Int) := by omega
          have h00 : (0 : Int) ≤ (k : Int) := by omega
          obtain ⟨hr0, hr1, hlen2⟩ := twoB_true HG0.out
          have hlt1 : k < zb.length := by omega
          have hlt1' : (k : Int) < (zb.length : Int) := by omega
          have HL2 := Lib.hid hlen2
          clear hlen2
          obtain ⟨b, off, rfl, hbh, hbs, hc1⟩ := (I1.out.toIR.below HBl.out (Nat.le_refl _)).at_ hlt
          obtain ⟨b', off', rfl, hbh', hbs', hc2⟩ := (I2.out.toIR.below HBl.out (Nat.le_refl _)).at_ hlt1
          obtain ⟨b11, b12⟩ := (rowB_true.1 hr0).1 _ (List.getElem_mem hlt)
          obtain ⟨b21, b22⟩ := (rowB_true.1 hr1).1 _ (List.getElem_mem hlt1)
          clear hr0 hr1
          have t0 : (k : Int).toNat = k := by omega
          have HLn := Lib.hid (show ((chgL za (highG za zb)).take k).length < 17592186044416 by simp; omega)
          have HCM := Lib.hid (show (if za[k] < zb[k] then zb[k] else za[k]) = (highG za zb) ⟨k, hlt⟩ from by unfold highG; rw [getD_in hlt1]; rfl)
          have HY := Lib.hid (show I64 ((if za[k] < zb[k] then zb[k] else za[k])) by rw [HCM.out]; exact HI.out ⟨k, hlt⟩)
          have s2 : IntKind.i64.wrap ((if za[k] < zb[k] then zb[k] else za[k])) = (if za[k] < zb[k] then zb[k] else za[k]) := IntWalk.i64_in _ HY.out
          have HT := Lib.hid (take_chg za (highG za zb) k hlt)
          go_wp2
          go_region_held3 (fun w' => w'.cell? ⟨b, off + k, none⟩ = some (.int .i64 za[k]) ∧ w'.cell? ⟨b', off' + k, none⟩ = some (.int .i64 zb[k])) (first | exact ⟨q0, q1⟩ | go_keep)
            ((refine step_push (by rfl) (.tmp 29) (.tmp 39) (by rfl) w1.heap.size _ _ (by rfl) (by rfl) HO.out HLn.out HY.out ?_; intro v1 w2 ho1 hb1; have q0 := (hb1.cell (p := ⟨b, off + k, none⟩) hbh).trans hc1; have q1 := (hb1.cell (p := ⟨b', off' + k, none⟩) hbh').trans hc2))
          have ho1' : OwnI w2 w1.heap.size v1 ((chgL za (highG za zb)).take (k + 1)) := by rw [← HT.out, ← HCM.out]; exact ho1
          have HO1 := Lib.hid ho1'; have HB1 := Lib.hid hb1
          clear ho1 ho1' hb1 hc1 hc2 s2 t0
          go_wp2
          go_roundw
          case rel => exact ⟨k + 1, by omega, by go_num, HO1.out, HBl.out.trans HB1.out⟩
          case measure => simp [intOf]; omega
        · obtain rfl : k = za.length := by omega
          have ho := HO.out
          rw [List.take_of_length_le (by rw [HLl.out]; exact Nat.le_refl _)] at ho
          obtain ⟨A', c', rfl, hiw, hcap⟩ := ho.iwc HLl.out (by omega)
          have HIW := Lib.hid hiw; have HCAP := Lib.hid hcap
          clear hiw ho HO hcap
          go_wp2
          go_ret2
          refine twoPost_of rfl HLl.out HZ1.out.1 HZ1.out.1 (I1.out.below HBl.out (Nat.le_refl _)) HIW.out (Nat.le_refl _) HW1.out (B1.out.trans (HBl.out.mono HW1.out)) rfl rfl HZ1.out.2 HCAP.out
    · go_wp2_with fail
      go_at_call 55; refine (l1Two_true _ _ za _ _ zb _ _ _ _ _ I1.out.toIR I2.out.toIR HG0.out).mono ?_; rintro e w' ⟨rfl, rfl⟩
      go_wp2
      go_ret2
      exact ⟨A1, c1, za, A2, c2, zb, rfl, HZ1.out, HZ2.out, I1.out, I2.out, B1.out⟩
end Go.Proofs.Ytlgagdplnpeklaa
