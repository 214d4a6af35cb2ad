/-
  What the laws of chapter 6 draw: rows, and an amount or a list of places. Conditions: the reader has been asked at most 800,000,000 times.
-/
import Derived.Test.YtanoojpmokbiaabDW
import Derived.Test.YtanoojpmokbiaabSsA
import Derived.Test.YtanoojpmokbiaabTbA
namespace Go.Proofs.Ytanoojpmokbiaab
open Go.RowKit

theorem OwnT.keep {w w' : World} {base hi : Nat} {v : Value} {zss : List (List Int)} (h : OwnT w base hi v zss) (hs : w.heap.size ≤ w'.heap.size) (hk : ∀ k, base ≤ k → k < hi → w'.heap[k]? = w.heap[k]?) : OwnT w' base hi v zss := by
  obtain ⟨h1, h2, F, K, ho, hg, hr, ha⟩ := h
  refine ⟨h1, Nat.le_trans h2 hs, F, K, ⟨ho.1, ?_⟩, hg, fun k hk' => ⟨(hr k hk').1, (hr k hk').2.1.keep hs hk, (hr k hk').2.2⟩, ha⟩
  rcases ho.2 with h0 | ⟨g, cap, cur, e, hg2, hh, r⟩
  · exact .inl h0
  · exact .inr ⟨g, cap, cur, e, hg2, (hk g hg2 (hg g (by rw [e]; rfl))).trans hh, r⟩
theorem OwnT.but {w w' : World} {base hi R : Nat} {v : Value} {zss : List (List Int)} (h : OwnT w base hi v zss) (hb : But w.heap.size R w w') (hR : R < base) : OwnT w' base hi v zss :=
  h.keep hb.size fun k h1 h2 => hb.block k (by have := h.2.1; omega) (by omega)
theorem OwnT.open_ {w : World} {base hi : Nat} {v : Value} {zss : List (List Int)} (h : OwnT w base hi v zss) (hl : zss.length ≤ 17592186044416) (h0 : 0 < zss.length) :
    ∃ g cap F C, v = .slice (some ⟨g, 0, none⟩) zss.length cap ∧ base ≤ g ∧ (∀ o, w.frozen? ⟨g, o, none⟩ = false) ∧ Rows_ w base hi (some ⟨g, 0, none⟩) zss g 0 F C := by
  obtain ⟨A, c, rfl, h1, h2, h3⟩ := h.iww hl
  obtain ⟨b1, b2, F, K, ho, hg, hr, ha⟩ := h
  have hcell := ho
  rcases ho.2 with ⟨e, h0'⟩ | ⟨g, cap, cur, e, hgb, hh, hn, hcap, hs, ht⟩
  · omega
  · injection e with e1 e2 e3
    subst e1; subst e3
    refine ⟨g, c, F, K, rfl, hgb, fun o => frozen_of_row w g o _ _ hh, fun _ => ⟨rfl, hgb, hg g rfl⟩, fun k hk => ⟨?_, (hr k hk).1, (hr k hk).2.1, fun b' o' e h0 e2 => (hr k hk).2.2 b' o' e h0 (by rw [e2]; rfl)⟩, ha⟩
    have := hcell.cellAt k (by simpa using hk)
    rw [rowsV_get _ _ _ _ hk] at this
    simpa using this
/-- The call draws some rows, of few entries each. -/
def RowsPost (w : World) (R p k : Nat) (e : Ending) (w' : World) : Prop :=
  ∃ A c zss p', e = .returned (.slice A zss.length c) ∧ zss.length ≤ 4 ∧ (∀ r, r ∈ zss → r.length ≤ 12) ∧ IRR w' w.heap.size w'.heap.size A zss ∧ But w.heap.size R w w' ∧ Rd w' R p' ∧ p' ≤ p + k

set_option maxRecDepth 100000 in
set_option maxHeartbeats 4000000 in
theorem l91Rows_any (R p : Nat) (w : World) (h : Rd w R p) (hp : p ≤ 800000000) :
    Calls Try.prog 39 #[.pointer (some ⟨R, 0, none⟩), .int .i64 5] w (RowsPost w R p 200) := by
  have H := Lib.hid h
  have hR := h.lt
  have D0 := Lib.hid (OwnT.made w)
  clear h
  go_enter Try.func39, Try.ntmps39
  go_wp2_with fail
  refine (pick_any R p 3 _ (H.out.below ((Below.refl w.heap.size w).alloc (Nat.le_refl _) _) hR) (by omega) (by omega)).mono ?_
  rintro e w1 ⟨v0, rfl, v00, v01, -, hb, hs, hr⟩
  have v02 := v01 (by omega)
  replace D0 := Lib.hid (D0.out.but hb hR)
  have B0 := Lib.hid ((But.of (R := R) ((Below.refl w.heap.size w).alloc (Nat.le_refl _) (.cells #[] 24))).trans (hb.mono (by simp)))
  have R0 := Lib.hid hr
  have hs0 : w.heap.size + 1 ≤ w1.heap.size := by rw [hs]; simp
  clear hb hs hr v01
  go_wp2_with fail
  refine (pick_any R _ 24 _ R0.out (by omega) (by omega)).mono ?_
  rintro e w2 ⟨v1, rfl, v10, v11, -, hb, hs, hr⟩
  have v12 := v11 (by omega)
  replace D0 := Lib.hid (D0.out.but hb hR)
  replace B0 := Lib.hid (B0.out.trans (hb.mono (by omega)))
  replace R0 := Lib.hid hr
  have hs1 := hb.size
  clear hb hs hr v11
  obtain ⟨n, hn⟩ : ∃ n : Nat, 1 + v0 + v1 / 23 = (n : Int) := ⟨(1 + v0 + v1 / 23).toNat, by omega⟩
  have t0 : IntKind.i64.wrap (1 + v0) = 1 + v0 := IntWalk.i64_in _ (by omega)
  have hn4 : n ≤ 4 := by omega
  have hn1 : 1 ≤ n := by omega
  go_wp2_with fail
  refine (pick_any R _ 3 _ R0.out (by omega) (by omega)).mono ?_
  rintro e w3 ⟨v2, rfl, v20, v21, -, hb, hs, hr⟩
  have v22 := v21 (by omega)
  replace D0 := Lib.hid (D0.out.but hb hR)
  replace B0 := Lib.hid (B0.out.trans (hb.mono (by omega)))
  replace R0 := Lib.hid hr
  have hs2 := hb.size
  have hp3 : p + 1 + 1 + 1 ≤ p + 3 := by omega
  clear hb hs hr v21
  by_cases c2 : 0 < v2
  · go_wp2
    go_loopw [5, 8] (fun v x wr => ∃ (i p' hi : Nat) (zss : List (List Int)), i ≤ n ∧ x = .int .i64 (i : Int) ∧ zss.length = i ∧ (∀ r, r ∈ zss → r.length ≤ 12) ∧ OwnT wr w.heap.size hi v zss ∧ But w.heap.size R w wr ∧ Rd wr R p' ∧ p' ≤ p + 3 + i * 20) (fun _ x _ => n - (intOf x).toNat)
    case atStart => exact ⟨0, p + 1 + 1 + 1, _, [], Nat.zero_le _, rfl, rfl, fun r hr => absurd hr (by simp), D0.out, B0.out, R0.out, by omega⟩
    case round =>
      clear D0 B0 R0
      obtain ⟨i, p', hi, zss, hin, rfl, hzl, hrl, hD, hB, hr, hp'⟩ := hrel
      have D0 := Lib.hid hD; have B0 := Lib.hid hB; have R0 := Lib.hid hr; have HRL := Lib.hid hrl; have HZL := Lib.hid hzl
      clear hD hB hr hrl hzl
      by_cases hlt : i < n
      · have hlt' : (i : Int) < (n : Int) := by omega
        go_wp2_with fail
        refine (pick_any R p' 5 _ R0.out (by omega) (by omega)).mono ?_
        rintro e w4 ⟨v3, rfl, v30, v31, -, hb, hs, hr⟩
        have v32 := v31 (by omega)
        replace D0 := Lib.hid (D0.out.but hb hR)
        replace B0 := Lib.hid (B0.out.trans (hb.mono (by have := B0.out.size; omega)))
        replace R0 := Lib.hid hr
        clear hb hs hr v31
        obtain ⟨m, hm⟩ : ∃ m : Nat, 1 + v3 = (m : Int) := ⟨(1 + v3).toNat, by omega⟩
        have t3 : IntKind.i64.wrap (1 + v3) = (m : Int) := by rw [← hm]; exact IntWalk.i64_in _ (by omega)
        have hm5 : 1 ≤ m ∧ m ≤ 5 := by omega
        clear hm
        have hzb : zss.length < 1000000 := by rw [HZL.out]; omega
        have HZB := Lib.hid hzb
        have HH4 := Lib.hid D0.out.2.1
        clear hzb
        go_wp2_with fail
        refine (l91Bent_any R _ m _ R0.out (by omega) (by omega)).mono ?_
        rintro e w5 ⟨A5, c5, zs, p5, rfl, hz5, hi5, hb, hr, hp5, hcap⟩
        replace D0 := Lib.hid (D0.out.but hb hR)
        replace B0 := Lib.hid (B0.out.trans (hb.mono (by have := B0.out.size; omega)))
        replace R0 := Lib.hid hr
        have HI5 := Lib.hid hi5; have HCP := Lib.hid hcap
        have HZ5 : Hid (zs.length = m) := by show _ = _; omega
        have hmm : m - 1 + 1 = m := by omega
        rw [hmm] at HCP ⊢
        clear hb hr hi5 hcap hz5 hmm
        go_wp2_with (at_builtin; refine wpList_pushT rfl _ _ rfl w.heap.size hi w4.heap.size _ zss rfl rfl D0.out zs HZ5.out.symm HCP.out HH4.out HI5.out HZB.out ?_; intro v6 w6 ho6 hb6)
        have D6 := Lib.hid ho6; have B6 := Lib.hid hb6
        clear ho6 hb6
        go_roundw
        case rel => exact ⟨i + 1, p5, _, zss ++ [zs], by omega, by go_num, by rw [List.length_append, HZL.out]; rfl, fun r hr => by
          rcases List.mem_append.1 hr with hr | hr
          · exact HRL.out r hr
          · obtain rfl := List.mem_singleton.1 hr; rw [HZ5.out]; omega, D6.out, B0.out.trans (But.of B6.out), R0.out.below B6.out hR, by omega⟩
        case measure => simp [intOf]; omega
      · obtain rfl : i = n := by omega
        have hlt' : ¬ (i : Int) < (i : Int) := by omega
        go_wp2_with fail
        refine (pick_any R p' 60 _ R0.out (by omega) (by omega)).mono ?_
        rintro e w4 ⟨v3, rfl, v30, v31, -, hb, hs, hr⟩
        replace D0 := Lib.hid (D0.out.but hb hR)
        replace B0 := Lib.hid (B0.out.trans (hb.mono (by have := B0.out.size; omega)))
        replace R0 := Lib.hid hr
        clear hb hs hr v31
        have hs4 := B0.out.size
        obtain ⟨g, cap, F, C, rfl, hgb, hfz, hrows⟩ := D0.out.open_ (by rw [HZL.out]; omega) (by rw [HZL.out]; omega)
        have HFZ := Lib.hid hfz; have HRW := Lib.hid hrows
        clear hfz hrows
        by_cases c0 : v3 = 0
        · subst c0
          go_wp2
          go_ret
          exact ⟨_, 0, [], p' + 1, rfl, by simp, fun r hr => absurd hr (by simp), ⟨by simp, Nat.le_refl _, fun k hk => absurd hk (by simp)⟩, B0.out.trans (But.of ((Below.refl _ _).alloc hs4 _)), R0.out.below ((Below.refl w4.heap.size w4).alloc (Nat.le_refl _) _) (by omega), by omega⟩
        · have c0' : (v3 == 0) = false := by rw [beq_eq_false_iff_ne]; exact c0
          by_cases c1 : v3 = 1
          · subst c1
            have hz0 : 0 < zss.length := by rw [HZL.out]; omega
            obtain ⟨q1, q2, q3, q4⟩ := HRW.out.row 0 hz0
            rw [Nat.add_zero] at q1
            have hgs := (HRW.out.top hz0).2.2
            have hhi := D0.out.2.1
            have b4 : Below w4.heap.size w4 (w4.alloc (.cells #[] 3)) := (Below.refl _ _).alloc (Nat.le_refl _) _
            have x0 := (b4.cell (p := ⟨g, 0, none⟩) (by show g < _; omega)).trans q1
            have f0 : (w4.alloc (.cells #[] 3)).frozen? ⟨g, 0, none⟩ = false := (World.frozen?_of_block (b4.block g (by omega))).trans (HFZ.out 0)
            have hput := HRW.out.put (A' := some ⟨w4.heap.size, 0, none⟩) (ys := []) (n := 0) (c := 0) hhi hz0 b4 rfl (IW.nil' _ _ _) ⟨Nat.le_refl _, by omega⟩
            rw [Nat.add_zero] at hput
            have HP := Lib.hid hput
            have HG := Lib.hid hgb
            have i0 : (0 : Int) < (i : Int) := by omega
            clear q1 q2 q3 q4 hput
            have hz1 := HZL.out
            rw [hz1]
            go_wp2
            go_ret
            refine ⟨_, cap, zss.set 0 [], p' + 1, by rw [List.length_set, HZL.out]; rfl, by rw [List.length_set, HZL.out]; exact hn4, fun r hr => ?_, ?_, B0.out.trans (But.of (((Below.refl w.heap.size w4).alloc hs4 _).setCell (p := ⟨g, 0, none⟩) HG.out _)), R0.out.below (((Below.refl w.heap.size w4).alloc hs4 _).setCell (p := ⟨g, 0, none⟩) HG.out _) hR, by omega⟩
            · rcases List.mem_or_eq_of_mem_set hr with hr | hr
              · exact HRL.out r hr
              · rw [hr]; simp
            · refine (IWW.toIRR ⟨by rw [List.length_set, HZL.out]; omega, ?_, g, 0, _, _, HP.out⟩).wide (Nat.le_refl _) ?_ (Nat.le_refl _)
              · simp [World.setCell]
              · simp [World.setCell]
          · have c1' : (v3 == 1) = false := by rw [beq_eq_false_iff_ne]; exact c1
            have hhi := D0.out.2.1
            go_wp2
            go_ret
            exact ⟨_, cap, zss, p' + 1, rfl, by rw [HZL.out]; exact hn4, HRL.out, (IWW.toIRR ⟨by rw [HZL.out]; omega, hhi, g, 0, _, _, HRW.out⟩).wide (Nat.le_refl _) hhi (Nat.le_refl _), B0.out, R0.out, by omega⟩
  · go_wp2
    go_loopw [5, 8] (fun v x wr => ∃ (i p' hi : Nat) (zss : List (List Int)), i ≤ n ∧ x = .int .i64 (i : Int) ∧ zss.length = i ∧ (∀ r, r ∈ zss → r.length ≤ 12) ∧ OwnT wr w.heap.size hi v zss ∧ But w.heap.size R w wr ∧ Rd wr R p' ∧ p' ≤ p + 3 + i * 20) (fun _ x _ => n - (intOf x).toNat)
    case atStart => exact ⟨0, p + 1 + 1 + 1, _, [], Nat.zero_le _, rfl, rfl, fun r hr => absurd hr (by simp), D0.out, B0.out, R0.out, by omega⟩
    case round =>
      clear D0 B0 R0
      obtain ⟨i, p', hi, zss, hin, rfl, hzl, hrl, hD, hB, hr, hp'⟩ := hrel
      have D0 := Lib.hid hD; have B0 := Lib.hid hB; have R0 := Lib.hid hr; have HRL := Lib.hid hrl; have HZL := Lib.hid hzl
      clear hD hB hr hrl hzl
      by_cases hlt : i < n
      · have hlt' : (i : Int) < (n : Int) := by omega
        go_wp2_with fail
        refine (pick_any R p' 5 _ R0.out (by omega) (by omega)).mono ?_
        rintro e w4 ⟨v3, rfl, v30, v31, -, hb, hs, hr⟩
        have v32 := v31 (by omega)
        replace D0 := Lib.hid (D0.out.but hb hR)
        replace B0 := Lib.hid (B0.out.trans (hb.mono (by have := B0.out.size; omega)))
        replace R0 := Lib.hid hr
        clear hb hs hr v31
        obtain ⟨m, hm⟩ : ∃ m : Nat, 1 + v3 = (m : Int) := ⟨(1 + v3).toNat, by omega⟩
        have t3 : IntKind.i64.wrap (1 + v3) = (m : Int) := by rw [← hm]; exact IntWalk.i64_in _ (by omega)
        have hm5 : 1 ≤ m ∧ m ≤ 5 := by omega
        clear hm
        have hzb : zss.length < 1000000 := by rw [HZL.out]; omega
        have HZB := Lib.hid hzb
        have HH4 := Lib.hid D0.out.2.1
        clear hzb
        go_wp2_with fail
        refine (l91Row_any R _ m _ R0.out (by omega) (by omega)).mono ?_
        rintro e w5 ⟨A5, c5, zs, p5, rfl, hz5, hi5, hb, hr, hp5, hcap⟩
        replace D0 := Lib.hid (D0.out.but hb hR)
        replace B0 := Lib.hid (B0.out.trans (hb.mono (by have := B0.out.size; omega)))
        replace R0 := Lib.hid hr
        have HI5 := Lib.hid hi5; have HCP := Lib.hid hcap
        have HZ5 : Hid (zs.length = m) := by show _ = _; omega
        have hmm : m = m := by omega
        rw [hmm] at HCP ⊢
        clear hb hr hi5 hcap hz5 hmm
        go_wp2_with (at_builtin; refine wpList_pushT rfl _ _ rfl w.heap.size hi w4.heap.size _ zss rfl rfl D0.out zs HZ5.out.symm HCP.out HH4.out HI5.out HZB.out ?_; intro v6 w6 ho6 hb6)
        have D6 := Lib.hid ho6; have B6 := Lib.hid hb6
        clear ho6 hb6
        go_roundw
        case rel => exact ⟨i + 1, p5, _, zss ++ [zs], by omega, by go_num, by rw [List.length_append, HZL.out]; rfl, fun r hr => by
          rcases List.mem_append.1 hr with hr | hr
          · exact HRL.out r hr
          · obtain rfl := List.mem_singleton.1 hr; rw [HZ5.out]; omega, D6.out, B0.out.trans (But.of B6.out), R0.out.below B6.out hR, by omega⟩
        case measure => simp [intOf]; omega
      · obtain rfl : i = n := by omega
        have hlt' : ¬ (i : Int) < (i : Int) := by omega
        go_wp2_with fail
        refine (pick_any R p' 60 _ R0.out (by omega) (by omega)).mono ?_
        rintro e w4 ⟨v3, rfl, v30, v31, -, hb, hs, hr⟩
        replace D0 := Lib.hid (D0.out.but hb hR)
        replace B0 := Lib.hid (B0.out.trans (hb.mono (by have := B0.out.size; omega)))
        replace R0 := Lib.hid hr
        clear hb hs hr v31
        have hs4 := B0.out.size
        obtain ⟨g, cap, F, C, rfl, hgb, hfz, hrows⟩ := D0.out.open_ (by rw [HZL.out]; omega) (by rw [HZL.out]; omega)
        have HFZ := Lib.hid hfz; have HRW := Lib.hid hrows
        clear hfz hrows
        by_cases c0 : v3 = 0
        · subst c0
          go_wp2
          go_ret
          exact ⟨_, 0, [], p' + 1, rfl, by simp, fun r hr => absurd hr (by simp), ⟨by simp, Nat.le_refl _, fun k hk => absurd hk (by simp)⟩, B0.out.trans (But.of ((Below.refl _ _).alloc hs4 _)), R0.out.below ((Below.refl w4.heap.size w4).alloc (Nat.le_refl _) _) (by omega), by omega⟩
        · have c0' : (v3 == 0) = false := by rw [beq_eq_false_iff_ne]; exact c0
          by_cases c1 : v3 = 1
          · subst c1
            have hz0 : 0 < zss.length := by rw [HZL.out]; omega
            obtain ⟨q1, q2, q3, q4⟩ := HRW.out.row 0 hz0
            rw [Nat.add_zero] at q1
            have hgs := (HRW.out.top hz0).2.2
            have hhi := D0.out.2.1
            have b4 : Below w4.heap.size w4 (w4.alloc (.cells #[] 3)) := (Below.refl _ _).alloc (Nat.le_refl _) _
            have x0 := (b4.cell (p := ⟨g, 0, none⟩) (by show g < _; omega)).trans q1
            have f0 : (w4.alloc (.cells #[] 3)).frozen? ⟨g, 0, none⟩ = false := (World.frozen?_of_block (b4.block g (by omega))).trans (HFZ.out 0)
            have hput := HRW.out.put (A' := some ⟨w4.heap.size, 0, none⟩) (ys := []) (n := 0) (c := 0) hhi hz0 b4 rfl (IW.nil' _ _ _) ⟨Nat.le_refl _, by omega⟩
            rw [Nat.add_zero] at hput
            have HP := Lib.hid hput
            have HG := Lib.hid hgb
            have i0 : (0 : Int) < (i : Int) := by omega
            clear q1 q2 q3 q4 hput
            have hz1 := HZL.out
            rw [hz1]
            go_wp2
            go_ret
            refine ⟨_, cap, zss.set 0 [], p' + 1, by rw [List.length_set, HZL.out]; rfl, by rw [List.length_set, HZL.out]; exact hn4, fun r hr => ?_, ?_, B0.out.trans (But.of (((Below.refl w.heap.size w4).alloc hs4 _).setCell (p := ⟨g, 0, none⟩) HG.out _)), R0.out.below (((Below.refl w.heap.size w4).alloc hs4 _).setCell (p := ⟨g, 0, none⟩) HG.out _) hR, by omega⟩
            · rcases List.mem_or_eq_of_mem_set hr with hr | hr
              · exact HRL.out r hr
              · rw [hr]; simp
            · refine (IWW.toIRR ⟨by rw [List.length_set, HZL.out]; omega, ?_, g, 0, _, _, HP.out⟩).wide (Nat.le_refl _) ?_ (Nat.le_refl _)
              · simp [World.setCell]
              · simp [World.setCell]
          · have c1' : (v3 == 1) = false := by rw [beq_eq_false_iff_ne]; exact c1
            have hhi := D0.out.2.1
            go_wp2
            go_ret
            exact ⟨_, cap, zss, p' + 1, rfl, by rw [HZL.out]; exact hn4, HRL.out, (IWW.toIRR ⟨by rw [HZL.out]; omega, hhi, g, 0, _, _, HRW.out⟩).wide (Nat.le_refl _) hhi (Nat.le_refl _), B0.out, R0.out, by omega⟩
end Go.Proofs.Ytanoojpmokbiaab

namespace Go.Proofs.Ytanoojpmokbiaab
open Go.RowKit

theorem Rd.put {w : World} {R p : Nat} (h : Rd w R p) (q : Nat) : Rd (w.setCell ⟨R, 1, none⟩ (.int .i64 (q : Int))) R q := by
  obtain ⟨A, c, bs, h1, h2, h3, h4, h5⟩ := h
  refine ⟨A, c, bs, by simpa [World.setCell] using h1, ?_, ?_, (World.frozen?_setCell _ _ _ _).trans h4, h5.but ((But.refl R R w).set_ 1 _) (Nat.le_refl _) (Nat.le_refl _)⟩
  · rw [World.cell?_setCell_other _ _ _ _ (by simp)]; exact h2
  · rw [World.cell?_setCell_same' _ _ _ (by rw [h3]; rfl)]
/-- The call draws rows and an amount. -/
def SharePost (w : World) (e : Ending) (w' : World) : Prop :=
  ∃ A c rs n, e = .returned (.tuple #[.slice A rs.length c, .int .i64 n]) ∧ (rs.length ≤ 4 ∧ ∀ r, r ∈ rs → r.length ≤ 12) ∧ (-1 ≤ n ∧ n ≤ 100) ∧ IRR w' 0 w'.heap.size A rs ∧ Below w.heap.size w w'
/-- The call draws rows and a list. -/
def SharedPost (w : World) (e : Ending) (w' : World) : Prop :=
  ∃ A c rs A1 c1 l, e = .returned (.tuple #[.slice A rs.length c, .slice A1 l.length c1]) ∧ IRR w' 0 w'.heap.size A rs ∧ IR w' 0 w'.heap.size A1 l ∧ Below w.heap.size w w'

set_option maxRecDepth 100000 in
set_option maxHeartbeats 2000000 in
theorem l92Share_any (A : Option Addr) (c : Nat) (bs : List Int) (w : World) (h : BR w w.heap.size A bs) (hc : bs.length ≤ c) (hc2 : c ≤ 9000000000000000000) :
    Calls Try.prog 28 #[.slice A bs.length c] w (SharePost w) := by
  have H := Lib.hid h
  clear h
  go_enter Try.func28, Try.ntmps28
  go_wp2_with fail
  refine (l6Open_any A c bs _ H.out hc hc2).mono ?_
  rintro e w1 ⟨rfl, hr, hb⟩
  have B0 := Lib.hid hb; have R0 := Lib.hid hr
  have hs1 := R0.out.lt
  have hs2 := hb.size
  clear hb hr
  go_wp2_with fail
  refine (l91Rows_any w.heap.size 0 _ R0.out (by omega)).mono ?_
  rintro e w2 ⟨A2, c2, rs, p2, rfl, h4, h12, hi, hb, hr, hp2⟩
  have I0 := Lib.hid hi
  replace B0 := Lib.hid (B0.out.trans (hb.toBelow hs2 (Nat.le_refl _)))
  replace R0 := Lib.hid hr
  have H12 := Lib.hid h12
  have hmb := mostTo_bd h12 rs.length (Nat.le_refl _)
  rw [mostTo_all] at hmb
  have hs3 := B0.out.size
  clear hb hr hi h12
  have HMO := Lib.hid (l6sMost_any A2 c2 _ _ rs w2 I0.out H12.out h4)
  obtain ⟨M, hM⟩ : ∃ M, mostL rs = M := ⟨_, rfl⟩
  rw [hM] at HMO hmb
  clear hM
  go_wp2_with fail
  refine HMO.out.mono ?_
  rintro e w9 ⟨rfl, h9⟩
  subst h9
  have t0 : IntKind.i64.wrap (M + 1) = M + 1 := IntWalk.i64_in _ (by omega)
  have key : ∀ q : Int, 1 ≤ q → q ≤ 60 → Hid (Calls Try.prog 40 #[.pointer (some ⟨w.heap.size, 0, none⟩), .int .i64 q] w9 (PickPost w9 w.heap.size p2 q)) := fun q _ _ => pick_any w.heap.size p2 q _ R0.out (by omega) (by omega)
  by_cases hm1 : 1 < M + 1
  · go_wp2_with fail
    refine ((key (M + 1) (by omega) (by omega)).out).mono ?_
    rintro e w3 ⟨v0, rfl, v00, v01, -, hb, hs, hr⟩
    have v02 := v01 (by omega)
    replace B0 := Lib.hid (B0.out.trans (hb.toBelow hs3 (Nat.le_refl _)))
    replace I0 := Lib.hid ((I0.out.but hb (Nat.le_refl _) (by omega)).wide (Nat.le_refl _) hb.size (Nat.le_refl _))
    replace R0 := Lib.hid hr
    have hs4 := B0.out.size
    clear hb hs hr v01 key
    go_wp2_with fail
    refine (pick_any w.heap.size _ 24 _ R0.out (by omega) (by omega)).mono ?_
    rintro e w4 ⟨v1, rfl, v10, v11, -, hb, hs, hr⟩
    have v12 := v11 (by omega)
    replace B0 := Lib.hid (B0.out.trans (hb.toBelow hs4 (Nat.le_refl _)))
    replace I0 := Lib.hid ((I0.out.but hb (Nat.le_refl _) (by omega)).wide (Nat.le_refl _) hb.size (Nat.le_refl _))
    replace R0 := Lib.hid hr
    have hs5 := B0.out.size
    clear hb hs hr v11
    go_wp2_with fail
    refine (pick_any w.heap.size _ 24 _ R0.out (by omega) (by omega)).mono ?_
    rintro e w5 ⟨v2, rfl, v20, v21, -, hb, hs, hr⟩
    have v22 := v21 (by omega)
    replace B0 := Lib.hid (B0.out.trans (hb.toBelow hs5 (Nat.le_refl _)))
    replace I0 := Lib.hid ((I0.out.but hb (Nat.le_refl _) (by omega)).wide (Nat.le_refl _) hb.size (Nat.le_refl _))
    replace R0 := Lib.hid hr
    clear hb hs hr v21
    go_wp2
    go_ret2
    exact ⟨A2, c2, rs, _, rfl, ⟨h4, H12.out⟩, by omega, I0.out.toAll, B0.out⟩
  · go_wp2_with fail
    refine ((key 1 (by omega) (by omega)).out).mono ?_
    rintro e w3 ⟨v0, rfl, v00, v01, -, hb, hs, hr⟩
    have v02 := v01 (by omega)
    replace B0 := Lib.hid (B0.out.trans (hb.toBelow hs3 (Nat.le_refl _)))
    replace I0 := Lib.hid ((I0.out.but hb (Nat.le_refl _) (by omega)).wide (Nat.le_refl _) hb.size (Nat.le_refl _))
    replace R0 := Lib.hid hr
    have hs4 := B0.out.size
    clear hb hs hr v01 key
    go_wp2_with fail
    refine (pick_any w.heap.size _ 24 _ R0.out (by omega) (by omega)).mono ?_
    rintro e w4 ⟨v1, rfl, v10, v11, -, hb, hs, hr⟩
    have v12 := v11 (by omega)
    replace B0 := Lib.hid (B0.out.trans (hb.toBelow hs4 (Nat.le_refl _)))
    replace I0 := Lib.hid ((I0.out.but hb (Nat.le_refl _) (by omega)).wide (Nat.le_refl _) hb.size (Nat.le_refl _))
    replace R0 := Lib.hid hr
    have hs5 := B0.out.size
    clear hb hs hr v11
    go_wp2_with fail
    refine (pick_any w.heap.size _ 24 _ R0.out (by omega) (by omega)).mono ?_
    rintro e w5 ⟨v2, rfl, v20, v21, -, hb, hs, hr⟩
    have v22 := v21 (by omega)
    replace B0 := Lib.hid (B0.out.trans (hb.toBelow hs5 (Nat.le_refl _)))
    replace I0 := Lib.hid ((I0.out.but hb (Nat.le_refl _) (by omega)).wide (Nat.le_refl _) hb.size (Nat.le_refl _))
    replace R0 := Lib.hid hr
    clear hb hs hr v21
    go_wp2
    go_ret2
    exact ⟨A2, c2, rs, _, rfl, ⟨h4, H12.out⟩, by omega, I0.out.toAll, B0.out⟩

set_option maxHeartbeats 1000000 in
theorem DrawShareGreedy_any (A : Option Addr) (c : Nat) (bs : List Int) (w : World) (h : BR w w.heap.size A bs) (hc : bs.length ≤ c) (hc2 : c ≤ 9000000000000000000) :
    Calls Try.prog 14 #[.slice A bs.length c] w (SharePost w) := by
  have H := Lib.hid h
  clear h
  go_enter Try.func14, Try.ntmps14
  go_wp2_with fail
  refine (l92Share_any A c bs _ H.out hc hc2).mono ?_
  rintro e w1 ⟨A1, c1, rs, n, rfl, h1, h2, hi, hb⟩
  have I0 := Lib.hid hi; have B0 := Lib.hid hb; have H1 := Lib.hid h1
  clear hi hb h1
  go_wp2
  go_ret2
  exact ⟨A1, c1, rs, n, rfl, H1.out, h2, I0.out, B0.out⟩

end Go.Proofs.Ytanoojpmokbiaab
