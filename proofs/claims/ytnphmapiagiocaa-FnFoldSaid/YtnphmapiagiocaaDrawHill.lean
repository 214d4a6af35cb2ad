/-
  Draws of chapter 4: rows with one valley, hills; and turned, the laws' helper. Conditions: the code's bytes are there.
-/
import Derived.Test.YtnphmapiagiocaaDrawOne
import Derived.Test.YtnphmapiagiocaaHl4
namespace Go.Proofs.Ytnphmapiagiocaa
open Go.RowKit

set_option maxRecDepth 100000 in
set_option maxHeartbeats 4000000 in
theorem l91Valley_any (A : Option Addr) (c : Nat) (bs : List Int) (w : World) (h : BR w w.heap.size A bs) (hc : bs.length ≤ c) (hc2 : c ≤ 9000000000000000000) :
    Calls Try.prog 47 #[.slice A bs.length c] w (OnePost w 12) := by
  have H := Lib.hid h
  clear h
  go_enter Try.func47, Try.ntmps47
  go_wp2_with fail
  refine (l6Open_any A c bs _ H.out hc hc2).mono ?_
  rintro e w1 ⟨rfl, hr, hb⟩
  have B0 := Lib.hid hb; have R0 := Lib.hid hr
  have hs := hb.size
  clear hb hr
  go_wp2_with fail
  refine (pick_any w.heap.size _ _ _ R0.out (by omega) (by omega)).mono ?_
  rintro e w2 ⟨N0, rfl, k0, k1, -, hb, hs2, hr⟩
  obtain ⟨n0, rfl⟩ := Int.eq_ofNat_of_zero_le k0
  have k2 := k1 (by omega)
  have hn0 : n0 ≤ 9 := by omega
  obtain ⟨n, hn⟩ : ∃ n, n0 + 1 = n := ⟨_, rfl⟩
  have hn1 : 1 + (n0 : Int) = (n : Int) := by omega
  have hn2 : 1 ≤ n ∧ n ≤ 10 := by omega
  replace B0 := Lib.hid (B0.out.trans (hb.toBelow hs (Nat.le_refl _))); replace R0 := Lib.hid hr
  replace hs := B0.out.size
  clear hb hs2 hr k0 k1 k2 hn hn0
  go_wp2_with fail
  refine (pick_any w.heap.size _ _ _ R0.out (by omega) (by omega)).mono ?_
  rintro e w3 ⟨K, rfl, k0, k1, -, hb, hs2, hr⟩
  replace B0 := Lib.hid (B0.out.trans (hb.toBelow hs (Nat.le_refl _))); replace R0 := Lib.hid hr
  have hlt := hr.lt
  replace hs := B0.out.size
  clear hb hs2 hr k0 k1
  by_cases hK : K = 0
  · subst hK
    go_wp2_with fail
    refine (l91Some_any w.heap.size _ 9 _ R0.out (by omega) (by omega)).mono ?_
    rintro e w4 ⟨A2, c2, zs, p', rfl, hz, hi, hb, hr, -, hcap⟩
    have I0 := Lib.hid (hi.wide hs (Nat.le_refl _) (Nat.le_refl _))
    replace B0 := Lib.hid (B0.out.trans (hb.toBelow hs (Nat.le_refl _)))
    have HZ := Lib.hid (And.intro (show zs.length ≤ 12 by omega) hcap)
    clear hi hb hr hz hcap
    go_wp2
    go_ret
    exact ⟨A2, c2, zs, rfl, HZ.out, I0.out, B0.out⟩
  · go_wp2_with fail
    refine (pick_any w.heap.size _ _ _ R0.out (by omega) (by omega)).mono ?_
    rintro e w4 ⟨low, rfl, l0, l1, -, hb, hs2, hr⟩
    replace B0 := Lib.hid (B0.out.trans (hb.toBelow hs (Nat.le_refl _))); replace R0 := Lib.hid hr
    replace hs := B0.out.size
    have hlt := hr.lt
    clear hb hs2 hr
    have R1 := Lib.hid (R0.out.below ((Below.refl w4.heap.size w4).alloc (Nat.le_refl _) (.cells #[] 3)) hlt)
    have hs4 : w.heap.size < (w4.alloc (.cells #[] 3)).heap.size := by simp; omega
    have B1 := Lib.hid (B0.out.alloc hs (.cells #[] 3))
    have O0 := Lib.hid (OwnI.made w4)
    go_wp2_with fail
    refine (pick_any w.heap.size _ _ _ R1.out (by omega) (by omega)).mono ?_
    rintro e w5 ⟨x0, rfl, x1, x2, -, hb, hs2, hr⟩
    have x3 := x2 (by omega)
    have O1 := Lib.hid (O0.out.but hb (Nat.le_refl _) hlt)
    have B2 := Lib.hid (B1.out.trans (hb.toBelow (by simp; omega) (Nat.le_refl _)))
    have R2 := Lib.hid hr
    have hlt5 := hr.lt
    clear hb hs2 hr B1 R1 O0 x2 B0 R0 hs4
    go_wp2
    go_loopw [6, 7, 8] (fun v xv i wr => ∃ (k p' : Nat) (x : Int) (zs : List Int), k ≤ n ∧ i = .int .i64 k ∧ xv = .int .i64 x ∧ (-20 * (k : Int) ≤ x ∧ x ≤ 20 + 20 * (k : Int)) ∧ zs.length = k ∧ OwnI wr w4.heap.size v zs ∧ Below w.heap.size w wr ∧ Rd wr w.heap.size p' ∧ p' ≤ 10 + k) (fun _ _ i _ => n - (intOf i).toNat)
    case atStart => exact ⟨0, _, x0, [], Nat.zero_le _, rfl, rfl, ⟨by omega, by omega⟩, rfl, O1.out, B2.out, R2.out, by omega⟩
    case round =>
      obtain ⟨k, p', x, zs, hk, rfl, rfl, hx, hz, ho, hb, hr, hp'⟩ := hrel
      have HO := Lib.hid ho; have HB := Lib.hid hb; have HR := Lib.hid hr
      clear ho hb hr O1 B2 R2
      obtain ⟨hx1, hx2⟩ := hx
      by_cases hlt2 : k < n
      · have hlt' : (k : Int) < (n : Int) := by omega
        have HLL := Lib.hid (show zs.length < 17592186044416 by omega)
        have HY : Hid (I64 x) := ⟨by omega, by omega⟩
        have hk12 : (k : Int) ≤ 10 := by omega
        by_cases hlow : (k : Int) < low
        · go_wp2_with (at_builtin; refine wpList_push rfl _ _ rfl w4.heap.size _ _ rfl rfl HO.out HLL.out HY.out ?_; intro v1 w6 ho1 hb1; have HO1 := Lib.hid ho1; have HB1 := Lib.hid hb1; clear ho1 hb1)
          have HR1 := Lib.hid (HR.out.below HB1.out hlt)
          go_wp2_with fail
          refine (pick_any w.heap.size _ _ _ HR1.out (by omega) (by omega)).mono ?_
          rintro e w7 ⟨d, rfl, d0, d1, -, hb, hs2, hr⟩
          have d2 := d1 (by omega)
          have HO2 := Lib.hid (HO1.out.but hb (Nat.le_refl _) hlt)
          have HBB := Lib.hid ((HB.out.trans (HB1.out.mono hs)).trans (hb.toBelow (by have := HB.out.size; have := HB1.out.size; omega) (Nat.le_refl _)))
          have HR2 := Lib.hid hr
          clear hb hs2 hr d1
          have sx : IntKind.i64.wrap (x - d) = x - d := IntWalk.i64_in _ (by omega)
          go_wp2
          go_roundw
          case rel => exact ⟨k + 1, _, x - d, _, by omega, by go_num, rfl, ⟨by omega, by omega⟩, by simp [hz], HO2.out, HBB.out, HR2.out, by omega⟩
          case measure => simp [intOf] <;> omega
        · go_wp2_with (at_builtin; refine wpList_push rfl _ _ rfl w4.heap.size _ _ rfl rfl HO.out HLL.out HY.out ?_; intro v1 w6 ho1 hb1; have HO1 := Lib.hid ho1; have HB1 := Lib.hid hb1; clear ho1 hb1)
          have HR1 := Lib.hid (HR.out.below HB1.out hlt)
          go_wp2_with fail
          refine (pick_any w.heap.size _ _ _ HR1.out (by omega) (by omega)).mono ?_
          rintro e w7 ⟨d, rfl, d0, d1, -, hb, hs2, hr⟩
          have d2 := d1 (by omega)
          have HO2 := Lib.hid (HO1.out.but hb (Nat.le_refl _) hlt)
          have HBB := Lib.hid ((HB.out.trans (HB1.out.mono hs)).trans (hb.toBelow (by have := HB.out.size; have := HB1.out.size; omega) (Nat.le_refl _)))
          have HR2 := Lib.hid hr
          clear hb hs2 hr d1
          have sx : IntKind.i64.wrap (x + d) = x + d := IntWalk.i64_in _ (by omega)
          go_wp2
          go_roundw
          case rel => exact ⟨k + 1, _, x + d, _, by omega, by go_num, rfl, ⟨by omega, by omega⟩, by simp [hz], HO2.out, HBB.out, HR2.out, by omega⟩
          case measure => simp [intOf] <;> omega
      · obtain rfl : k = n := by omega
        subst hz
        obtain ⟨A', c', rfl, hiw, hcap⟩ := HO.out.iwc rfl (by omega)
        have HI := Lib.hid hiw; have HC := Lib.hid hcap
        clear hcap hiw HO
        have hlt' : ¬ (zs.length : Int) < (zs.length : Int) := by omega
        go_wp2
        go_ret
        exact ⟨A', c', zs, rfl, ⟨by omega, HC.out⟩, HI.out.wide hs (Nat.le_refl _) (Nat.le_refl _), HB.out⟩

set_option maxRecDepth 100000 in
set_option maxHeartbeats 4000000 in
theorem l91Hill_any (R p most : Nat) (w : World) (h : Rd w R p) (hp : p ≤ 800000000) (hm : most ≤ 9) :
    Calls Try.prog 53 #[.pointer (some ⟨R, 0, none⟩), .int .i64 (most : Int)] w (SomePost w R p (most + 1) (most + 9)) := by
  have H := Lib.hid h
  have hR := h.lt
  clear h
  go_enter Try.func53, Try.ntmps53
  go_wp2_with fail
  refine (pick_any R p _ _ H.out (by omega) (by omega)).mono ?_
  rintro e w1 ⟨N0, rfl, k0, k1, k2, hb, hs, hr⟩
  obtain ⟨n0, rfl⟩ := Int.eq_ofNat_of_zero_le k0
  have hn0 : n0 ≤ most := by
    by_cases hm1 : 1 ≤ (most : Int)
    · have := k1 hm1; omega
    · have := k2 (by omega); omega
  obtain ⟨n, hn⟩ : ∃ n, n0 + 1 = n := ⟨_, rfl⟩
  have hn1 : 1 + (n0 : Int) = (n : Int) := by omega
  have hn2 : 1 ≤ n ∧ n ≤ most + 1 := by omega
  have B0 := Lib.hid hb; have R0 := Lib.hid (hr.below ((Below.refl w1.heap.size w1).alloc (Nat.le_refl _) (.cells #[] 3)) hr.lt)
  have hlt1 := hr.lt
  have hsz : w.heap.size ≤ w1.heap.size := hb.size
  clear hb hs hr k0 k1 k2 hn hn0
  have O0 := Lib.hid ((OwnI.made w1))
  have BA := Lib.hid (B0.out.trans (But.of ((Below.refl w.heap.size w1).alloc hsz (.cells #[] 3))))
  clear B0
  have sn1 : IntKind.i64.wrap (1 + (n0 : Int)) = (n : Int) := by rw [IntWalk.i64_in _ (by omega)]; exact hn1
  go_wp2_with fail
  refine (pick_any R (p + 1) _ _ R0.out (by omega) (by omega)).mono ?_
  rintro e w2 ⟨K, rfl, k0, k1, -, hb, hs, hr⟩
  have k2 := k1 (by omega)
  have O1 := Lib.hid (O0.out.but hb (Nat.le_refl _) hlt1)
  have B1 := Lib.hid (BA.out.then_ (by simp <;> omega) hb)
  have R1 := Lib.hid hr
  clear hb hs hr k1 O0 BA R0 sn1
  go_wp2
  go_loopw [6, 8] (fun v i wr => ∃ (k p' : Nat) (zs : List Int), k ≤ n ∧ i = .int .i64 k ∧ zs.length = k ∧ OwnI wr w1.heap.size v zs ∧ But w.heap.size R w wr ∧ Rd wr R p' ∧ p' ≤ p + (k + 2)) (fun _ i _ => n - (intOf i).toNat)
  case atStart => exact ⟨0, p + 2, [], Nat.zero_le _, rfl, rfl, O1.out, B1.out, R1.out, by omega⟩
  case round =>
    obtain ⟨k, p', zs, hk, rfl, hz, ho, hb, hr, hp'⟩ := hrel
    have HO := Lib.hid ho; have HB := Lib.hid hb; have HR := Lib.hid hr
    clear ho hb hr O1 B1 R1
    by_cases hlt : k < n
    · have hlt' : (k : Int) < (n : Int) := by omega
      have HLL := Lib.hid (show zs.length < 17592186044416 by omega)
      by_cases hK0 : K = 0
      · subst hK0
        go_wp2_with fail
        refine (pick_any R p' _ _ HR.out (by omega) (by omega)).mono ?_
        rintro e w3 ⟨x, rfl, x0, x1, -, hb, hs, hr⟩
        have x2 := x1 (by omega)
        replace HO := Lib.hid (HO.out.but hb (Nat.le_refl _) hlt1)
        replace HB := Lib.hid (HB.out.then_ (Nat.le_refl _) hb)
        replace HR := Lib.hid hr
        have HY : Hid (I64 x) := ⟨by omega, by omega⟩
        clear hb hs hr x1
        go_wp2_with (at_builtin; refine wpList_push rfl _ _ rfl w1.heap.size _ _ rfl rfl HO.out HLL.out HY.out ?_; intro v1 w4 ho1 hb1; have HO1 := Lib.hid ho1; have HB1 := Lib.hid hb1; clear ho1 hb1)
        go_roundw
        case rel => exact ⟨k + 1, p' + 1, _, by omega, by go_num, by simp [hz], HO1.out, HB.out.trans (But.of (HB1.out.mono hsz)), HR.out.below HB1.out hlt1, by omega⟩
        case measure => simp [intOf] <;> omega
      · by_cases hK1 : K = 1
        · subst hK1
          have HY : Hid (I64 1) := ⟨by omega, by omega⟩
          go_wp2_with (at_builtin; refine wpList_push rfl _ _ rfl w1.heap.size _ _ rfl rfl HO.out HLL.out HY.out ?_; intro v1 w4 ho1 hb1; have HO1 := Lib.hid ho1; have HB1 := Lib.hid hb1; clear ho1 hb1)
          go_roundw
          case rel => exact ⟨k + 1, p', _, by omega, by go_num, by simp [hz], HO1.out, HB.out.trans (But.of (HB1.out.mono hsz)), HR.out.below HB1.out hlt1, by omega⟩
          case measure => simp [intOf] <;> omega
        · have HC := Lib.hid (fun w' => l4Choose_any (n - 1) k (by omega) (by omega) w')
          have hle := choose_le (n - 1) (by omega) k (by omega)
          obtain ⟨m, hmm⟩ : ∃ m, chooseN (n - 1) k = m := ⟨_, rfl⟩
          rw [hmm] at HC hle
          clear hmm
          have s1 : IntKind.i64.wrap ((n : Int) - 1) = ((n - 1 : Nat) : Int) := by rw [IntWalk.i64_in _ (by omega)]; omega
          have hmod : K = 2 ∨ K = 3 := by omega
          have hm3 : (m : Int) ≤ 462 := by omega
          have hm0 : (0 : Int) ≤ (m : Int) := by omega
          rcases hmod with rfl | rfl
          all_goals
            go_wp2_with fail
            refine (HC.out _).mono ?_
            rintro e w3 ⟨rfl, rfl⟩
            go_wp2_with fail
            refine (pick_any R p' _ _ HR.out (by omega) (by omega)).mono ?_
            rintro e w3 ⟨x, rfl, x0, x1, -, hb, hs, hr⟩
            have x2 := x1 (by omega)
            replace HO := Lib.hid (HO.out.but hb (Nat.le_refl _) hlt1)
            replace HB := Lib.hid (HB.out.then_ (Nat.le_refl _) hb)
            replace HR := Lib.hid hr
            clear hb hs hr x1
            have HY1 : Hid (I64 ((m : Int) * 1 + x / 5)) := ⟨by omega, by omega⟩
            have HY0 : Hid (I64 ((m : Int) + x / 5)) := ⟨by omega, by omega⟩
            have HY2 : Hid (I64 ((m : Int) * 2 + x / 5)) := ⟨by omega, by omega⟩
            go_wp2_with (at_builtin; refine wpList_push rfl _ _ rfl w1.heap.size _ _ rfl rfl HO.out HLL.out (by first | exact HY1.out | exact HY0.out | exact HY2.out) ?_; intro v1 w4 ho1 hb1; have HO1 := Lib.hid ho1; have HB1 := Lib.hid hb1; clear ho1 hb1)
            go_roundw
            case rel => exact ⟨k + 1, p' + 1, _, by omega, by go_num, by simp [hz], HO1.out, HB.out.trans (But.of (HB1.out.mono hsz)), HR.out.below HB1.out hlt1, by omega⟩
            case measure => simp [intOf] <;> omega
    · obtain rfl : k = n := by omega
      obtain ⟨A', c', rfl, hiw, hcap⟩ := HO.out.iwc hz (by omega)
      have HI := Lib.hid hiw; have HC := Lib.hid hcap; have HZ := Lib.hid hz
      clear hcap hiw HO
      have hlt' : ¬ (k : Int) < (k : Int) := by omega
      have kpos : (0 : Int) < (k : Int) := by omega
      have kp : 0 < zs.length := by omega
      go_wp2_with fail
      refine (pick_any R p' _ _ HR.out (by omega) (by omega)).mono ?_
      rintro e w3 ⟨L, rfl, l0, l1, -, hb, hs, hr⟩
      replace HI := Lib.hid ((HI.out.but hb (by have := HI.out.2.2.1; omega) (.inl hlt1)).wide (Nat.le_refl _) hb.size (Nat.le_refl _))
      replace HB := Lib.hid (HB.out.then_ (Nat.le_refl _) hb)
      replace HR := Lib.hid hr
      clear hb hs hr l0 l1
      by_cases hL : L = 0
      · subst hL
        obtain ⟨b, off, rfl, hlo, hhi, hcs⟩ := HI.out.2.2.2 kp
        have HCl : Hid (Cells w3 b off zs) := hcs
        obtain ⟨hc0, hf0⟩ := HCl.out 0 kp
        rw [Nat.add_zero] at hc0 hf0
        have HN := Lib.hid (HCl.out.set_ 0 kp (-1))
        rw [Nat.add_zero] at HN
        have HZ2 : Hid ((zs.set 0 (-1)).length = k) := by show _ = _; simp [HZ.out]
        have HI64 : Hid (∀ y, y ∈ zs.set 0 (-1) → I64 y) := setI64 HI.out.2.1 ⟨by omega, by omega⟩
        clear hcs hz
        go_wp2
        go_ret
        exact somePost_of HZ2.out hn2.2 (HN.out.iw HZ2.out (by omega) (by simpa [World.setCell] using hhi) (by simp [World.setCell]) (by omega) HI64.out) (HB.out.setOther (by omega) _) (HR.out.below ((Below.refl w1.heap.size _).setCell (p := ⟨b, off, none⟩) hlo _) hlt1) (by omega) rfl HC.out
      · clear hz
        go_wp2
        go_ret
        exact somePost_of HZ.out hn2.2 (HI.out.wide hsz (Nat.le_refl _) (Nat.le_refl _)) HB.out HR.out (by omega) rfl HC.out

set_option maxHeartbeats 1000000 in
theorem turned_any (A : Option Addr) (n c : Nat) (zs : List Int) (w : World) (h : IR w 0 w.heap.size A zs) (hr : rowB zs = true) (hn : n = zs.length) :
    Calls Try.prog 26 #[.slice A n c] w (RetSC w (negL zs)) := by
  subst hn
  have hl := (rowB_true.1 hr).2
  have H := Lib.hid h; clear h
  have HRB := Lib.hid hr; clear hr
  have HLN := Lib.hid (neg_len zs)
  go_enter Try.func26, Try.ntmps26
  go_wp2
  go_loopw [3, 4] (fun v i wr => ∃ k : Nat, k ≤ zs.length ∧ i = .int .i64 (k : Int) ∧ OwnI wr w.heap.size v ((negL zs).take k) ∧ Below w.heap.size w wr) (fun _ i _ => zs.length - (intOf i).toNat)
  case atStart => exact ⟨0, Nat.zero_le _, rfl, OwnI.made w, (Below.refl _ _).alloc (Nat.le_refl _) _⟩
  case round =>
    obtain ⟨k, hk, rfl, ho, hb⟩ := hrel
    have HO := Lib.hid ho; have HBl := Lib.hid hb
    clear ho hb
    by_cases hlt : k < zs.length
    · obtain ⟨b, off, rfl, _, _, hc⟩ := (H.out.below HBl.out H.out.2.2.1).at_ hlt
      obtain ⟨g1, g2⟩ := row_getD HRB.out k hlt
      rw [getD_in hlt] at g1 g2
      have HLn : Hid (((negL zs).take k).length < 17592186044416) := by show _ < _; rw [List.length_take]; omega
      have HT := Lib.hid (take_snoc (negL zs) k (by rw [HLN.out]; exact hlt))
      rw [show (negL zs)[k]'(by rw [HLN.out]; exact hlt) = 0 - zs[k] by simp [negL]] at HT
      obtain ⟨x, hx⟩ : ∃ x, zs[k] = x := ⟨_, rfl⟩
      rw [hx] at hc g1 g2 HT
      rw [show 0 - x = -x by omega] at HT
      have HY : Hid (I64 (-x)) := ⟨by omega, by omega⟩
      have hlt' : (k : Int) < (zs.length : Int) := by omega
      have hw0 : IntKind.i64.wrap (-x) = -x := IntWalk.i64_in _ (by omega)
      clear hx
      go_wp2_with (at_builtin; refine wpList_push rfl _ _ rfl w.heap.size _ _ rfl rfl HO.out HLn.out HY.out ?_; intro v1 w1 ho1 hb1)
      rw [HT.out] at ho1
      have HO1 := Lib.hid ho1; have HB1 := Lib.hid hb1
      clear ho1 hb1 hc
      go_roundw
      case rel => exact ⟨k + 1, by omega, by go_num, HO1.out, HBl.out.trans HB1.out⟩
      case measure => simp [intOf]; omega
    · obtain rfl : k = zs.length := by omega
      have ho := HO.out
      rw [List.take_of_length_le (by rw [HLN.out]; omega)] at ho
      obtain ⟨A', c', rfl, hiw, hcap⟩ := ho.iwc HLN.out (by omega)
      have HIW := Lib.hid hiw; have HCP := Lib.hid hcap
      clear hiw hcap ho HO
      have hlt' : ¬ (zs.length : Int) < (zs.length : Int) := by omega
      go_wp2
      go_ret
      exact retSC_of HLN.out.symm HCP.out HIW.out HBl.out
end Go.Proofs.Ytnphmapiagiocaa
