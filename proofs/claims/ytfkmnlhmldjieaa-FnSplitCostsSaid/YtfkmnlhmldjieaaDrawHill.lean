/-
  Draws of chapter 4: rows with one valley, hills; and turned, the laws' helper. Conditions: the code's bytes are there.
-/
import Derived.Test.YtfkmnlhmldjieaaDrawOne
import Derived.Test.YtfkmnlhmldjieaaHl4
namespace Go.Proofs.Ytfkmnlhmldjieaa
open Go.RowKit

set_option maxRecDepth 100000 in
set_option maxHeartbeats 4000000 in
theorem l91Hill_any (R p most : Nat) (w : World) (h : Rd w R p) (hp : p ≤ 800000000) (hm : most ≤ 9) :
    Calls Try.prog 62 #[.pointer (some ⟨R, 0, none⟩), .int .i64 (most : Int)] w (SomePost w R p (most + 1) (most + 9)) := by
  have H := Lib.hid h
  have hR := h.lt
  clear h
  go_enter Try.func62, Try.ntmps62
  go_wp2_with fail
  refine (pick_any R p _ _ H.out (by omega) (by omega)).mono ?_
  rintro e w1 ⟨N0, rfl, k0, k1, k2, hb, hs, hr⟩
  obtain ⟨n0, rfl⟩ := Int.eq_ofNat_of_zero_le k0
  have hn0 : n0 ≤ most := by
    by_cases hm1 : 1 ≤ (most : Int)
    · have := k1 hm1; omega
    · have := k2 (by omega); omega
  obtain ⟨n, hn⟩ : ∃ n, n0 + 1 = n := ⟨_, rfl⟩
  have hn1 : 1 + (n0 : Int) = (n : Int) := by omega
  have hn2 : 1 ≤ n ∧ n ≤ most + 1 := by omega
  have B0 := Lib.hid hb; have R0 := Lib.hid (hr.below ((Below.refl w1.heap.size w1).alloc (Nat.le_refl _) (.cells #[] 3)) hr.lt)
  have hlt1 := hr.lt
  have hsz : w.heap.size ≤ w1.heap.size := hb.size
  clear hb hs hr k0 k1 k2 hn hn0
  have O0 := Lib.hid ((OwnI.made w1))
  have BA := Lib.hid (B0.out.trans (But.of ((Below.refl w.heap.size w1).alloc hsz (.cells #[] 3))))
  clear B0
  have sn1 : IntKind.i64.wrap (1 + (n0 : Int)) = (n : Int) := by rw [IntWalk.i64_in _ (by omega)]; exact hn1
  go_wp2_with fail
  refine (pick_any R (p + 1) _ _ R0.out (by omega) (by omega)).mono ?_
  rintro e w2 ⟨K, rfl, k0, k1, -, hb, hs, hr⟩
  have k2 := k1 (by omega)
  have O1 := Lib.hid (O0.out.but hb (Nat.le_refl _) hlt1)
  have B1 := Lib.hid (BA.out.then_ (by simp <;> omega) hb)
  have R1 := Lib.hid hr
  clear hb hs hr k1 O0 BA R0 sn1
  go_wp2
  go_loopw [6, 8] (fun v i wr => ∃ (k p' : Nat) (zs : List Int), k ≤ n ∧ i = .int .i64 k ∧ zs.length = k ∧ OwnI wr w1.heap.size v zs ∧ But w.heap.size R w wr ∧ Rd wr R p' ∧ p' ≤ p + (k + 2)) (fun _ i _ => n - (intOf i).toNat)
  case atStart => exact ⟨0, p + 2, [], Nat.zero_le _, rfl, rfl, O1.out, B1.out, R1.out, by omega⟩
  case round =>
    obtain ⟨k, p', zs, hk, rfl, hz, ho, hb, hr, hp'⟩ := hrel
    have HO := Lib.hid ho; have HB := Lib.hid hb; have HR := Lib.hid hr
    clear ho hb hr O1 B1 R1
    by_cases hlt : k < n
    · have hlt' : (k : Int) < (n : Int) := by omega
      have HLL := Lib.hid (show zs.length < 17592186044416 by omega)
      by_cases hK0 : K = 0
      · subst hK0
        go_wp2_with fail
        refine (pick_any R p' _ _ HR.out (by omega) (by omega)).mono ?_
        rintro e w3 ⟨x, rfl, x0, x1, -, hb, hs, hr⟩
        have x2 := x1 (by omega)
        replace HO := Lib.hid (HO.out.but hb (Nat.le_refl _) hlt1)
        replace HB := Lib.hid (HB.out.then_ (Nat.le_refl _) hb)
        replace HR := Lib.hid hr
        have HY : Hid (I64 x) := ⟨by omega, by omega⟩
        clear hb hs hr x1
        go_wp2_with (at_builtin; refine wpList_push rfl _ _ rfl w1.heap.size _ _ rfl rfl HO.out HLL.out HY.out ?_; intro v1 w4 ho1 hb1; have HO1 := Lib.hid ho1; have HB1 := Lib.hid hb1; clear ho1 hb1)
        go_roundw
        case rel => exact ⟨k + 1, p' + 1, _, by omega, by go_num, by simp [hz], HO1.out, HB.out.trans (But.of (HB1.out.mono hsz)), HR.out.below HB1.out hlt1, by omega⟩
        case measure => simp [intOf] <;> omega
      · by_cases hK1 : K = 1
        · subst hK1
          have HY : Hid (I64 1) := ⟨by omega, by omega⟩
          go_wp2_with (at_builtin; refine wpList_push rfl _ _ rfl w1.heap.size _ _ rfl rfl HO.out HLL.out HY.out ?_; intro v1 w4 ho1 hb1; have HO1 := Lib.hid ho1; have HB1 := Lib.hid hb1; clear ho1 hb1)
          go_roundw
          case rel => exact ⟨k + 1, p', _, by omega, by go_num, by simp [hz], HO1.out, HB.out.trans (But.of (HB1.out.mono hsz)), HR.out.below HB1.out hlt1, by omega⟩
          case measure => simp [intOf] <;> omega
        · have HC := Lib.hid (fun w' => l4Choose_any (n - 1) k (by omega) (by omega) w')
          have hle := choose_le (n - 1) (by omega) k (by omega)
          obtain ⟨m, hmm⟩ : ∃ m, chooseN (n - 1) k = m := ⟨_, rfl⟩
          rw [hmm] at HC hle
          clear hmm
          have s1 : IntKind.i64.wrap ((n : Int) - 1) = ((n - 1 : Nat) : Int) := by rw [IntWalk.i64_in _ (by omega)]; omega
          have hmod : K = 2 ∨ K = 3 := by omega
          have hm3 : (m : Int) ≤ 462 := by omega
          have hm0 : (0 : Int) ≤ (m : Int) := by omega
          rcases hmod with rfl | rfl
          all_goals
            go_wp2_with fail
            refine (HC.out _).mono ?_
            rintro e w3 ⟨rfl, rfl⟩
            go_wp2_with fail
            refine (pick_any R p' _ _ HR.out (by omega) (by omega)).mono ?_
            rintro e w3 ⟨x, rfl, x0, x1, -, hb, hs, hr⟩
            have x2 := x1 (by omega)
            replace HO := Lib.hid (HO.out.but hb (Nat.le_refl _) hlt1)
            replace HB := Lib.hid (HB.out.then_ (Nat.le_refl _) hb)
            replace HR := Lib.hid hr
            clear hb hs hr x1
            have HY1 : Hid (I64 ((m : Int) * 1 + x / 5)) := ⟨by omega, by omega⟩
            have HY0 : Hid (I64 ((m : Int) + x / 5)) := ⟨by omega, by omega⟩
            have HY2 : Hid (I64 ((m : Int) * 2 + x / 5)) := ⟨by omega, by omega⟩
            go_wp2_with (at_builtin; refine wpList_push rfl _ _ rfl w1.heap.size _ _ rfl rfl HO.out HLL.out (by first | exact HY1.out | exact HY0.out | exact HY2.out) ?_; intro v1 w4 ho1 hb1; have HO1 := Lib.hid ho1; have HB1 := Lib.hid hb1; clear ho1 hb1)
            go_roundw
            case rel => exact ⟨k + 1, p' + 1, _, by omega, by go_num, by simp [hz], HO1.out, HB.out.trans (But.of (HB1.out.mono hsz)), HR.out.below HB1.out hlt1, by omega⟩
            case measure => simp [intOf] <;> omega
    · obtain rfl : k = n := by omega
      obtain ⟨A', c', rfl, hiw, hcap⟩ := HO.out.iwc hz (by omega)
      have HI := Lib.hid hiw; have HC := Lib.hid hcap; have HZ := Lib.hid hz
      clear hcap hiw HO
      have hlt' : ¬ (k : Int) < (k : Int) := by omega
      have kpos : (0 : Int) < (k : Int) := by omega
      have kp : 0 < zs.length := by omega
      go_wp2_with fail
      refine (pick_any R p' _ _ HR.out (by omega) (by omega)).mono ?_
      rintro e w3 ⟨L, rfl, l0, l1, -, hb, hs, hr⟩
      replace HI := Lib.hid ((HI.out.but hb (by have := HI.out.2.2.1; omega) (.inl hlt1)).wide (Nat.le_refl _) hb.size (Nat.le_refl _))
      replace HB := Lib.hid (HB.out.then_ (Nat.le_refl _) hb)
      replace HR := Lib.hid hr
      clear hb hs hr l0 l1
      by_cases hL : L = 0
      · subst hL
        obtain ⟨b, off, rfl, hlo, hhi, hcs⟩ := HI.out.2.2.2 kp
        have HCl : Hid (Cells w3 b off zs) := hcs
        obtain ⟨hc0, hf0⟩ := HCl.out 0 kp
        rw [Nat.add_zero] at hc0 hf0
        have HN := Lib.hid (HCl.out.set_ 0 kp (-1))
        rw [Nat.add_zero] at HN
        have HZ2 : Hid ((zs.set 0 (-1)).length = k) := by show _ = _; simp [HZ.out]
        have HI64 : Hid (∀ y, y ∈ zs.set 0 (-1) → I64 y) := setI64 HI.out.2.1 ⟨by omega, by omega⟩
        clear hcs hz
        go_wp2
        go_ret
        exact somePost_of HZ2.out hn2.2 (HN.out.iw HZ2.out (by omega) (by simpa [World.setCell] using hhi) (by simp [World.setCell]) (by omega) HI64.out) (HB.out.setOther (by omega) _) (HR.out.below ((Below.refl w1.heap.size _).setCell (p := ⟨b, off, none⟩) hlo _) hlt1) (by omega) rfl HC.out
      · clear hz
        go_wp2
        go_ret
        exact somePost_of HZ.out hn2.2 (HI.out.wide hsz (Nat.le_refl _) (Nat.le_refl _)) HB.out HR.out (by omega) rfl HC.out

end Go.Proofs.Ytfkmnlhmldjieaa
