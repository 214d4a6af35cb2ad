/-
  The law FnFall walked: for all codes it returns true, and nothing that lay before has turned. Conditions: none but those of its row.
-/
import Derived.Test.YtlgagdplnpeklaaDrawOne
import Derived.Test.YtlgagdplnpeklaaSame
import Derived.Test.YtlgagdplnpeklaaMath
import Derived.Test.YtlgagdplnpeklaaLnM
import Derived.Test.YtlgagdplnpeklaaDrawNum
namespace Go.Proofs.Ytlgagdplnpeklaa
open Go.RowKit

set_option maxRecDepth 100000 in
set_option maxHeartbeats 2000000 in
theorem l91Slope_any (A : Option Addr) (c : Nat) (bs : List Int) (w : World) (h : BR w w.heap.size A bs) (hc : bs.length ≤ c) (hc2 : c ≤ 9000000000000000000) :
    Calls Try.prog 62 #[.slice A bs.length c] w (ListNumPost w 10) := by
  have H := Lib.hid h
  clear h
  go_enter Try.func62, Try.ntmps62
  go_wp2_with fail
  refine (l6Open_any A c bs _ H.out hc hc2).mono ?_
  rintro e w1 ⟨rfl, hr, hb⟩
  have B0 := Lib.hid hb; have R0 := Lib.hid hr
  have hs := hb.size
  clear hb hr
  go_wp2_with fail
  refine (l91Some_any w.heap.size 0 9 _ R0.out (by omega) (by omega)).mono ?_
  rintro e w2 ⟨A2, c2, zs, p2, rfl, hz, hi, hb, hr, hp2, hcap⟩
  have HK := Lib.hid hcap
  clear hcap
  have hs1 : w.heap.size < w1.heap.size := R0.out.lt
  have I0 := Lib.hid hi
  replace B0 := Lib.hid (B0.out.trans (hb.toBelow hs (Nat.le_refl _)))
  replace R0 := Lib.hid hr
  have hs2 := B0.out.size
  clear hi hb hr hs
  go_wp2_with fail
  refine (pick_any w.heap.size _ _ _ R0.out (by omega) (by omega)).mono ?_
  rintro e w3 ⟨v0, rfl, v00, v01, -, hb, hs, hr⟩
  have v02 := v01 (by omega)
  replace I0 := Lib.hid (I0.out.but hb (by have := I0.out.2.2.1; omega) (.inl hs1))
  replace B0 := Lib.hid (B0.out.trans (hb.toBelow hs2 (Nat.le_refl _)))
  replace R0 := Lib.hid hr
  have hs2 := B0.out.size
  clear hb hs hr v01
  go_wp2_with fail
  refine (pick_any w.heap.size _ _ _ R0.out (by omega) (by omega)).mono ?_
  rintro e w4 ⟨v1, rfl, v10, v11, -, hb, hs, hr⟩
  have v12 := v11 (by omega)
  replace I0 := Lib.hid (I0.out.but hb (by have := I0.out.2.2.1; omega) (.inl hs1))
  replace B0 := Lib.hid (B0.out.trans (hb.toBelow hs2 (Nat.le_refl _)))
  replace R0 := Lib.hid hr
  have hs2 := B0.out.size
  clear hb hs hr v11
  have HX0 : Hid (I64 (v0 - 12 + v1 / 23 * 3000)) := ⟨by omega, by omega⟩
  go_wp2
  go_ret2
  exact ⟨A2, c2, zs, v0 - 12 + v1 / 23 * 3000, rfl, ⟨hz, HK.out⟩, HX0.out, I0.out.wide (Nat.le_of_lt hs1) I0.out.2.2.1 (Nat.le_refl _), B0.out⟩
set_option maxHeartbeats 1000000 in
theorem DrawLineFall_any (A : Option Addr) (c : Nat) (bs : List Int) (w : World) (h : BR w w.heap.size A bs) (hc : bs.length ≤ c) (hc2 : c ≤ 9000000000000000000) :
    Calls Try.prog 23 #[.slice A bs.length c] w (ListNumPost w 10) := by
  have H := Lib.hid h
  clear h
  go_enter Try.func23, Try.ntmps23
  go_wp2_with fail
  refine (l91Slope_any A c bs _ H.out hc hc2).mono ?_
  rintro e w1 ⟨A1, c1, zs, x, rfl, hz, hx, hi, hb⟩
  have I0 := Lib.hid hi; have B0 := Lib.hid hb; have HZ := Lib.hid hz; have HX := Lib.hid hx
  clear hi hb hz hx
  go_wp2
  go_ret2
  exact ⟨A1, c1, zs, x, rfl, HZ.out, HX.out, I0.out, B0.out⟩

set_option maxHeartbeats 4000000 in
set_option maxRecDepth 100000 in
theorem lawFnFall_any (A0 : Option Addr) (c0 : Nat) (bs : List Int) (w : World) (h0 : BR w w.heap.size A0 bs) (hc : bs.length ≤ c0) (hc2 : c0 ≤ 9000000000000000000) :
    Calls Try.prog 4 #[.slice A0 bs.length c0] w fun e w' => e = .returned (.bool true) ∧ Below w.heap.size w w' := by
  by_cases hbig : (1048576 : Int) < (bs.length : Int)
  · clear h0
    go_enter Try.func4, Try.ntmps4
    go_wp2
    go_ret
    exact ⟨rfl, Below.refl _ _⟩
  have H0 := Lib.hid h0
  clear h0
  have BB := Lib.hid (Below.refl w.heap.size w)
  go_enter Try.func4, Try.ntmps4
  go_wp2_with fail
  refine (DrawLineFall_any _ _ bs _ H0.out hc hc2).mono ?_
  rintro e w1 ⟨A, c, zs, s, rfl, hz, hs, iw, bb⟩
  replace BB := Lib.hid (below_then BB.out (Nat.le_refl _) bb)
  have Z := Lib.hid iw.toAll
  clear bb
  clear iw hz hs
  go_wp2_with fail
  refine (implLineFall_v _ _ zs _ _ Z.out.toAll).mono ?_
  rintro e w2 ⟨rfl, bb⟩
  replace BB := Lib.hid (below_then BB.out (Nat.le_refl _) bb)
  replace Z := Lib.hid (Z.out.grow bb)
  clear bb
  go_wp2_with fail
  refine (specLineFall_v _ _ zs _ _ Z.out.toAll).mono ?_
  rintro e w3 ⟨rfl, bb⟩
  replace BB := Lib.hid (below_then BB.out (Nat.le_refl _) bb)
  replace Z := Lib.hid (Z.out.grow bb)
  clear bb
  obtain ⟨o, ho⟩ : ∃ o, lineFallM zs s = o := ⟨_, rfl⟩
  rw [fallA, fallB, ho]
  cases o with
  | none =>
    clear ho
    have e1 : (none : Option Int).getD 0 = 0 := rfl
    have e2 : (none : Option Int).isSome = false := rfl
    rw [e1, e2]
    clear e1 e2
    go_wp2
    go_ret
    exact ⟨rfl, BB.out⟩
  | some out =>
    have HF := Lib.hid ho
    clear ho
    have e1 : (some out).getD 0 = out := rfl
    have e2 : (some out).isSome = true := rfl
    rw [e1, e2]
    clear e1 e2
    obtain ⟨hr, ⟨s1, s2⟩, ho⟩ := fallM_some HF.out
    have HR := Lib.hid hr; have HO := Lib.hid ho
    have hl := (rowB_true.1 hr).2
    clear hr ho
    go_wp2
    go_loop [9, 10] (fun m i => ∃ (j : Nat) (b : Bool), j ≤ zs.length ∧ i = .int .i64 j ∧ m = .bool b ∧ (b = true ↔ ∃ k, k < j ∧ zs.getD k 0 - s * (k : Int) + out = 0)) (fun _ i => zs.length - (intOf i).toNat)
    case atStart => exact ⟨0, false, Nat.zero_le _, rfl, rfl, by simp⟩
    case round =>
      obtain ⟨j, b, hj, rfl, rfl, hb⟩ := hrel
      have HB := Lib.hid hb
      clear hb
      by_cases hlt : j < zs.length
      · obtain ⟨b0, off, rfl, _, _, hcj⟩ := Z.out.at_ hlt
        obtain ⟨y1, y2⟩ := row_getD HR.out j hlt
        obtain ⟨m1, m2⟩ := sk_bd s1 s2 hlt hl.2
        have hd0 := fall_ge zs s j hlt
        rw [← HO.out] at hd0
        obtain ⟨o1, o2⟩ := fall_bd HR.out s1 s2
        rw [← HO.out] at o1 o2
        have HG := Lib.hid (getD_in hlt)
        rw [HG.out] at y1 y2 hd0
        have hlt' : (j : Int) < (zs.length : Int) := by omega
        have hd1 : ¬ zs[j] - s * (j : Int) + out < 0 := by omega
        by_cases hq : zs[j] - s * (j : Int) + out = 0
        · have hq' : (zs[j] - s * (j : Int) + out == 0) = true := beq_iff_eq.2 hq
          have HN : Hid (∀ b' : Bool, b' = true → (b' = true ↔ ∃ k, k < j + 1 ∧ zs.getD k 0 - s * (k : Int) + out = 0)) := by
            intro b' h
            exact ⟨fun _ => ⟨j, by omega, by rw [HG.out]; exact hq⟩, fun _ => h⟩
          cases b with
          | true =>
            go_wp2
            go_round
            case rel => exact ⟨j + 1, true, by omega, by go_num, rfl, HN.out _ rfl⟩
            case measure => simp [intOf]; omega
          | false =>
            go_wp2
            go_round
            case rel => exact ⟨j + 1, true, by omega, by go_num, rfl, HN.out _ rfl⟩
            case measure => simp [intOf]; omega
        · have hq' : (zs[j] - s * (j : Int) + out == 0) = false := by rw [beq_eq_false_iff_ne]; exact hq
          have HN : Hid (b = true ↔ ∃ k, k < j + 1 ∧ zs.getD k 0 - s * (k : Int) + out = 0) := by
            refine HB.out.trans ⟨fun ⟨k, h1, h2⟩ => ⟨k, by omega, h2⟩, fun ⟨k, h1, h2⟩ => ?_⟩
            by_cases e : k = j
            · subst e; rw [HG.out] at h2; exact absurd h2 hq
            · exact ⟨k, by omega, h2⟩
          cases b with
          | true =>
            go_wp2
            go_round
            case rel => exact ⟨j + 1, true, by omega, by go_num, rfl, HN.out⟩
            case measure => simp [intOf]; omega
          | false =>
            go_wp2
            go_round
            case rel => exact ⟨j + 1, false, by omega, by go_num, rfl, HN.out⟩
            case measure => simp [intOf]; omega
      · obtain rfl : j = zs.length := by omega
        obtain ⟨k, h1, h2⟩ := fall_at zs s (by omega)
        have hbt : b = true := HB.out.2 ⟨k, h1, by rw [HO.out, h2]; omega⟩
        subst hbt
        go_wp2
        go_ret
        exact ⟨rfl, BB.out⟩
end Go.Proofs.Ytlgagdplnpeklaa
