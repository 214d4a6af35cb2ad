/-
  The law FnCrossedOr walked: for all codes it returns true, and nothing that lay before has turned. Conditions: none but those of its row.
-/
import Derived.Test.YtanoojpmokbiaaaDW
import Derived.Test.YtanoojpmokbiaaaTbL
import Derived.Test.YtanoojpmokbiaaaTbA
import Derived.Test.YtanoojpmokbiaaaTsA
import Derived.Test.YtanoojpmokbiaaaPcB
import Derived.Test.YtanoojpmokbiaaaLawR
import Derived.Test.YtanoojpmokbiaaaSame
import Derived.Test.YtanoojpmokbiaaaMathA
namespace Go.Proofs.Ytanoojpmokbiaaa
open Go.RowKit

theorem implCrd_of {b : Bool} {lo hi : Nat} (A : Option Addr) (c : Nat) (t : List (List Int)) (w : World) (h : IRR w lo hi A t) (hb : crossedB t = b) :
    Calls Try.prog 14 #[.slice A t.length c] w fun e w' => e = .returned (.bool b) ∧ Below w.heap.size w w' := by subst hb; exact implTableCrossed_any A c t w h.toAll
theorem implPcb_of {b : Bool} {lo hi : Nat} (A : Option Addr) (c : Nat) (t : List (List Int)) (w : World) (h : IRR w lo hi A t) (hb : (pcM t).isSome = b) :
    Calls Try.prog 11 #[.slice A t.length c] w fun e w' => e = .returned (.tuple #[.int .i64 (pcI t), .int .i64 (pcK t), .bool b]) ∧ Below w.heap.size w w' := by subst hb; exact implProofCrossed_b A c t w h.toAll
theorem pc_or {t : List (List Int)} (ht : tableB t = true) : (pcM t).isSome = !crossedB t := by
  cases h : pcM t with
  | none => rw [(pc_none ht).1 h]; rfl
  | some p => rw [(pc_some h).2.2.2.2]; rfl
theorem leastC_tab {t : List (List Int)} {o : List Int} (h : leastCM t = some o) : tableB t = true := by
  unfold leastCM at h
  split at h
  · next e => exact e
  · cases h

set_option maxHeartbeats 8000000 in
set_option maxRecDepth 100000 in
theorem lawFnCrossedOr_any (A0 : Option Addr) (c0 : Nat) (bs : List Int) (w : World) (h0 : BR w w.heap.size A0 bs) (hc : bs.length ≤ c0) (hc2 : c0 ≤ 9000000000000000000) :
    Calls Try.prog 5 #[.slice A0 bs.length c0] w fun e w' => e = .returned (.bool true) ∧ Below w.heap.size w w' := by
  by_cases hbig : (1048576 : Int) < (bs.length : Int)
  · clear h0
    go_enter Try.func5, Try.ntmps5
    go_wp2
    go_ret
    exact ⟨rfl, Below.refl _ _⟩
  have H0 := Lib.hid h0
  clear h0
  have BB := Lib.hid (Below.refl w.heap.size w)
  go_enter Try.func5, Try.ntmps5
  go_wp2_with fail
  refine (DrawTableLeast_any _ _ bs _ H0.out hc hc2).mono ?_
  rintro e w1 ⟨A, c, t, rfl, iw, bb⟩
  replace BB := Lib.hid (below_then BB.out (Nat.le_refl _) bb)
  have Z := Lib.hid iw.toAll
  clear bb
  clear iw
  go_wp2_with fail
  refine (implTableLeast_any _ _ t _ Z.out.toAll).mono ?_
  rintro e w2 ⟨A2, c2, rfl, iw, bb⟩
  replace BB := Lib.hid (below_then BB.out (Nat.le_refl _) bb)
  replace Z := Lib.hid (Z.out.grow bb)
  have G := Lib.hid iw.toAll
  clear bb
  clear iw
  go_wp2_with fail
  refine (specTableLeast_any _ _ _ _ t _ Z.out).mono ?_
  rintro e w3 ⟨A3, c3, rfl, iw, bb⟩
  replace BB := Lib.hid (below_then BB.out (Nat.le_refl _) bb)
  replace Z := Lib.hid (Z.out.grow bb)
  replace G := Lib.hid (G.out.grow bb)
  have V := Lib.hid iw.toAll
  clear bb
  clear iw
  obtain ⟨o, hm⟩ : ∃ o, leastCM t = o := ⟨_, rfl⟩
  rw [hm] at G V
  rw [hm]
  cases o with
  | none =>
    clear hm
    replace G : Hid (IR w3 _ _ A2 []) := G
    replace V : Hid (IR w3 _ _ A3 []) := V
    go_wp2_with fail
    refine (sameInts_b _ _ _ _ _ _ _ _ _ _ [] _ G.out V.out rfl rfl).mono ?_
    rintro e w4 ⟨rfl, bb⟩
    replace BB := Lib.hid (below_then BB.out (Nat.le_refl _) bb)
    replace G := Lib.hid (G.out.grow bb)
    replace V := Lib.hid (V.out.grow bb)
    clear bb
    go_wp2_with fail
    refine (sameInts_b _ _ _ _ _ _ _ _ _ _ [] _ G.out V.out rfl rfl).mono ?_
    rintro e w5 ⟨rfl, bb⟩
    replace BB := Lib.hid (below_then BB.out (Nat.le_refl _) bb)
    replace G := Lib.hid (G.out.grow bb)
    replace V := Lib.hid (V.out.grow bb)
    clear bb
    go_wp2
    go_ret
    exact ⟨rfl, BB.out⟩
  | some out =>
    have e1 : (some out).getD [] = out := rfl
    rw [e1]
    replace G : Hid (IR w3 _ _ A2 out) := G
    replace V : Hid (IR w3 _ _ A3 out) := V
    have HM := Lib.hid hm
    clear hm e1
    go_wp2_with fail
    refine (sameInts_b _ _ _ _ _ _ _ _ _ _ out _ G.out V.out rfl rfl).mono ?_
    rintro e w4 ⟨rfl, bb⟩
    replace BB := Lib.hid (below_then BB.out (Nat.le_refl _) bb)
    replace Z := Lib.hid (Z.out.grow bb)
    replace G := Lib.hid (G.out.grow bb)
    replace V := Lib.hid (V.out.grow bb)
    clear bb
    clear V
    have ht := leastC_tab HM.out
    have hor := pc_or ht
    obtain ⟨b, hb⟩ : ∃ b, crossedB t = b := ⟨_, rfl⟩
    rw [hb] at hor
    have HBB := Lib.hid hb; have HOR := Lib.hid hor
    obtain ⟨x, hx⟩ : ∃ x, pcI t = x := ⟨_, rfl⟩
    obtain ⟨y, hy⟩ : ∃ y, pcK t = y := ⟨_, rfl⟩
    clear ht hor hb HM
    go_wp2_with fail
    refine (implPcb_of _ _ t _ Z.out HOR.out).mono ?_
    rw [hx, hy]
    rintro e w5 ⟨rfl, bb⟩
    replace BB := Lib.hid (below_then BB.out (Nat.le_refl _) bb)
    replace Z := Lib.hid (Z.out.grow bb)
    clear bb hx hy
    go_wp2_with fail
    refine (implCrd_of _ _ t _ Z.out HBB.out).mono ?_
    rintro e w6 ⟨rfl, bb⟩
    replace BB := Lib.hid (below_then BB.out (Nat.le_refl _) bb)
    clear bb
    cases b with
    | false =>
      go_wp2
      go_ret
      exact ⟨rfl, BB.out⟩
    | true =>
      go_wp2
      go_ret
      exact ⟨rfl, BB.out⟩
end Go.Proofs.Ytanoojpmokbiaaa
