/-
  The law FnBelow walked: for all codes it returns true, and nothing that lay before has turned. Conditions: none but those of its row.
-/
import Derived.Test.YtlgagdplnpeklaaDrawOne
import Derived.Test.YtlgagdplnpeklaaSame
import Derived.Test.YtlgagdplnpeklaaMath
import Derived.Test.YtlgagdplnpeklaaLnM
import Derived.Test.YtlgagdplnpeklaaDrawBelow
namespace Go.Proofs.Ytlgagdplnpeklaa
open Go.RowKit

set_option maxHeartbeats 4000000 in
set_option maxRecDepth 100000 in
theorem lawFnBelow_any (A0 : Option Addr) (c0 : Nat) (bs : List Int) (w : World) (h0 : BR w w.heap.size A0 bs) (hc : bs.length ≤ c0) (hc2 : c0 ≤ 9000000000000000000) :
    Calls Try.prog 3 #[.slice A0 bs.length c0] w fun e w' => e = .returned (.bool true) ∧ Below w.heap.size w w' := by
  by_cases hbig : (1048576 : Int) < (bs.length : Int)
  · clear h0
    go_enter Try.func3, Try.ntmps3
    go_wp2
    go_ret
    exact ⟨rfl, Below.refl _ _⟩
  have H0 := Lib.hid h0
  clear h0
  have BB := Lib.hid (Below.refl w.heap.size w)
  go_enter Try.func3, Try.ntmps3
  go_wp2_with fail
  refine (DrawRowBelow_any _ _ bs _ H0.out hc hc2).mono ?_
  rintro e w1 ⟨A, c, za, B, d, zb, rfl, hza, hzb, iwa, iwb, bb⟩
  replace BB := Lib.hid (below_then BB.out (Nat.le_refl _) bb)
  have ZA := Lib.hid iwa.toAll
  have ZB := Lib.hid iwb.toAll
  clear bb
  clear iwa iwb hza hzb
  obtain ⟨q, hq⟩ : ∃ q, belowB za zb = q := ⟨_, rfl⟩
  have HQ := Lib.hid hq
  go_wp2_with fail
  refine (implBelow_of _ _ _ _ za _ _ _ _ zb _ ZA.out ZB.out HQ.out rfl rfl).mono ?_
  rintro e w2 ⟨rfl, bb⟩
  replace BB := Lib.hid (below_then BB.out (Nat.le_refl _) bb)
  replace ZA := Lib.hid (ZA.out.grow bb)
  replace ZB := Lib.hid (ZB.out.grow bb)
  clear bb
  go_wp2_with fail
  refine (specBelow_of _ _ _ _ za _ _ _ _ zb _ ZA.out ZB.out HQ.out rfl rfl).mono ?_
  rintro e w3 ⟨rfl, bb⟩
  replace BB := Lib.hid (below_then BB.out (Nat.le_refl _) bb)
  replace ZA := Lib.hid (ZA.out.grow bb)
  replace ZB := Lib.hid (ZB.out.grow bb)
  clear bb
  cases q with
  | false =>
    go_wp2
    go_ret
    exact ⟨rfl, BB.out⟩
  | true =>
    obtain ⟨h2, hle⟩ := belowB_true.1 hq
    obtain ⟨hra, hrb, hl⟩ := twoB_true h2
    have FA := Lib.hid (hangM_row hra)
    have FB := Lib.hid (hangM_row hrb)
    have HU := Lib.hid (hang_under hq)
    have hF : ∀ s : Int, -3000 ≤ s → s ≤ 3000 → lineFallM za s = some (fallL za s) ∧ lineFallM zb s = some (fallL zb s) ∧ ¬ fallL za s < fallL zb s := fun s h1 h2 =>
      ⟨fallM_row hra h1 h2, fallM_row hrb h1 h2, by have := fall_mono (by have := (rowB_true.1 hrb).2; omega) hl hle s; omega⟩
    have HF := Lib.hid hF
    clear h2 hle hra hrb hl hq hF
    go_wp2
    go_loopw [7] (fun i wr => ∃ k : Nat, k ≤ 3 ∧ i = .int .i64 (-3 + 3 * (k : Int)) ∧ (IR wr 0 wr.heap.size A za ∧ IR wr 0 wr.heap.size B zb) ∧ Below w.heap.size w wr) (fun i _ => (6 - intOf i).toNat)
    case atStart => exact ⟨0, by omega, by go_num, ⟨ZA.out.toAll, ZB.out.toAll⟩, BB.out⟩
    case round =>
      clear ZA ZB BB
      obtain ⟨k, hk, rfl, ⟨hz1, hz2⟩, hbb⟩ := hrel
      have ZA := Lib.hid hz1; have ZB := Lib.hid hz2; have BB := Lib.hid hbb
      clear hz1 hz2 hbb
      by_cases hlt : k < 3
      · obtain ⟨g1, g2, g3⟩ := HF.out (-3 + 3 * (k : Int)) (by omega) (by omega)
        obtain ⟨x, hx⟩ : ∃ x, fallL za (-3 + 3 * (k : Int)) = x := ⟨_, rfl⟩
        obtain ⟨y, hy⟩ : ∃ y, fallL zb (-3 + 3 * (k : Int)) = y := ⟨_, rfl⟩
        rw [hx] at g1 g3
        rw [hy] at g2 g3
        have G1 := Lib.hid g1; have G2 := Lib.hid g2
        have hle3 : (-3 + 3 * (k : Int)) ≤ 3 := by omega
        clear g1 g2 hx hy
        go_wp2_with fail
        refine (implFall_of _ _ _ _ za _ _ ZA.out G1.out rfl).mono ?_
        rintro e w4 ⟨rfl, bb⟩
        replace BB := Lib.hid (below_then BB.out (Nat.le_refl _) bb)
        replace ZA := Lib.hid (ZA.out.grow bb)
        replace ZB := Lib.hid (ZB.out.grow bb)
        clear bb
        go_wp2_with fail
        refine (implFall_of _ _ _ _ zb _ _ ZB.out G2.out rfl).mono ?_
        rintro e w5 ⟨rfl, bb⟩
        replace BB := Lib.hid (below_then BB.out (Nat.le_refl _) bb)
        replace ZA := Lib.hid (ZA.out.grow bb)
        replace ZB := Lib.hid (ZB.out.grow bb)
        clear bb
        go_wp2
        go_roundw
        case rel => exact ⟨k + 1, by omega, by go_num, ⟨ZA.out.toAll, ZB.out.toAll⟩, BB.out⟩
        case measure => simp [intOf]; omega
      · obtain rfl : k = 3 := by omega
        go_wp2_with fail
        refine (implLineHang_any _ _ za _ ZA.out.toAll).mono ?_
        rintro e w4 ⟨A5, c5, rfl, iw, bb⟩
        replace BB := Lib.hid (below_then BB.out (Nat.le_refl _) bb)
        replace ZA := Lib.hid (ZA.out.grow bb)
        replace ZB := Lib.hid (ZB.out.grow bb)
        have X := Lib.hid iw.toAll
        clear bb
        clear iw
        rw [FA.out] at X
        rw [FA.out]
        have e1 : (some (hangL za)).getD [] = (hangL za) := rfl
        rw [e1]
        replace X : Hid (IR w4 _ _ A5 (hangL za)) := X
        clear e1
        go_wp2_with fail
        refine (implLineHang_any _ _ zb _ ZB.out.toAll).mono ?_
        rintro e w5 ⟨A6, c6, rfl, iw, bb⟩
        replace BB := Lib.hid (below_then BB.out (Nat.le_refl _) bb)
        replace ZA := Lib.hid (ZA.out.grow bb)
        replace ZB := Lib.hid (ZB.out.grow bb)
        replace X := Lib.hid (X.out.grow bb)
        have Y := Lib.hid iw.toAll
        clear bb
        clear iw
        rw [FB.out] at Y
        rw [FB.out]
        have e1 : (some (hangL zb)).getD [] = (hangL zb) := rfl
        rw [e1]
        replace Y : Hid (IR w5 _ _ A6 (hangL zb)) := Y
        clear e1
        go_wp2_with fail
        refine (implBelow_of _ _ _ _ (hangL za) _ _ _ _ (hangL zb) _ X.out Y.out HU.out rfl rfl).mono ?_
        rintro e w6 ⟨rfl, bb⟩
        replace BB := Lib.hid (below_then BB.out (Nat.le_refl _) bb)
        replace ZA := Lib.hid (ZA.out.grow bb)
        replace ZB := Lib.hid (ZB.out.grow bb)
        replace X := Lib.hid (X.out.grow bb)
        replace Y := Lib.hid (Y.out.grow bb)
        clear bb
        go_wp2
        go_ret
        exact ⟨rfl, BB.out⟩
end Go.Proofs.Ytlgagdplnpeklaa
