/-
  What the laws of chapter 6 draw: rows and a list of places (l92Shared). Conditions: none.
-/
import Derived.Test.YtanmjaljcnihlaaDS
namespace Go.Proofs.Ytanmjaljcnihlaa
open Go.RowKit

theorem BR.below {w w' : World} {hi C : Nat} {A : Option Addr} {bs : List Int} (h : BR w hi A bs) (hb : Below C w w') (hC : hi ≤ C) : BR w' hi A bs :=
  h.but (R := hi) ⟨hb.os, hb.tape, hb.output, hb.size, fun k hk _ => hb.block k hk⟩ hC (Nat.le_refl _)
theorem BR.up {w : World} {hi hi' : Nat} {A : Option Addr} {bs : List Int} (h : BR w hi A bs) (hh : hi ≤ hi') (hs : hi' ≤ w.heap.size) : BR w hi' A bs :=
  ⟨h.1, h.2.1, hs, fun hn => by
    obtain ⟨b, off, e, h2, h3⟩ := h.2.2.2 hn
    exact ⟨b, off, e, by omega, h3⟩⟩

set_option maxRecDepth 100000 in
set_option maxHeartbeats 4000000 in
theorem l92Shared_any (A : Option Addr) (c : Nat) (bs : List Int) (w : World) (h : BR w w.heap.size A bs) (hc : bs.length ≤ c) (hc2 : c ≤ 9000000000000000000) :
    Calls Try.prog 49 #[.slice A bs.length c] w (SharedPost w) := by
  have H := Lib.hid h
  clear h
  go_enter Try.func49, Try.ntmps49
  go_wp2_with fail
  refine (l92Share_any A c bs _ H.out hc hc2).mono ?_
  rintro e w1 ⟨A1, c1, rs, n, rfl, hfit, hn, hi, hb⟩
  have B0 := Lib.hid hb; have I0 := Lib.hid hi; have HF := Lib.hid hfit
  have H1 := Lib.hid ((H.out.below hb (Nat.le_refl _)).up hb.size (Nat.le_refl _))
  have hs1 := hb.size
  have hn4 := hfit.1
  clear hi hb hfit
  go_wp2_with fail
  refine (specShareTry_any A1 c1 _ _ rs n _ I0.out).mono ?_
  rintro e w2 ⟨A2, c2, rfl, hi2, hb2⟩
  replace B0 := Lib.hid (B0.out.trans (hb2.mono hs1))
  replace I0 := Lib.hid (I0.out.grow hb2).toAll
  have G := Lib.hid hi2.toAll
  have H2 := Lib.hid ((H1.out.below hb2 (Nat.le_refl _)).up hb2.size (Nat.le_refl _))
  clear hi2 hb2 H1
  obtain ⟨o, ho⟩ : ∃ o, shareM rs n = o := ⟨_, rfl⟩
  obtain ⟨cs, hcs⟩ : ∃ x, shareC rs n = x := ⟨_, rfl⟩
  rw [ho] at G
  rw [ho, hcs]
  clear ho hcs
  go_wp2_with fail
  refine (l6Open_any A c bs _ H2.out hc hc2).mono ?_
  rintro e w3 ⟨rfl, hr, hb3⟩
  have hs2 := B0.out.size
  have hs3 := hb3.size
  have hR3 := hr.lt
  replace B0 := Lib.hid (B0.out.trans (hb3.mono hs2))
  replace I0 := Lib.hid (I0.out.grow hb3)
  replace G := Lib.hid (G.out.grow hb3)
  have RP := Lib.hid (hr.put 61)
  have hrc := hr
  obtain ⟨_, _, _, _, _, c61, f61, _⟩ := hrc
  clear hr hb3 H2
  have hb61 : Below w2.heap.size w3 (w3.setCell ⟨w2.heap.size, 1, none⟩ (.int .i64 ((61 : Nat) : Int))) := (Below.refl _ _).setCell (p := ⟨w2.heap.size, 1, none⟩) (Nat.le_refl _) _
  have B1 := Lib.hid (B0.out.trans (hb61.mono hs2))
  have I1 := Lib.hid (I0.out.below hb61 (Nat.le_refl _))
  have G1 := Lib.hid (G.out.below hb61 (Nat.le_refl _))
  obtain ⟨W4, hW4⟩ : ∃ W4, w3.setCell ⟨w2.heap.size, 1, none⟩ (.int .i64 ((61 : Nat) : Int)) = W4 := ⟨_, rfl⟩
  have hs4 : w2.heap.size < W4.heap.size := by rw [← hW4]; simpa [World.setCell] using hR3
  rw [hW4] at RP B1 I1 G1
  have hW4' : w3.setCell ⟨w2.heap.size, 1, none⟩ (.int .i64 61) = W4 := hW4
  clear B0 I0 G hb61 hW4
  cases o with
  | some out =>
    replace G1 : Hid (IR W4 0 w2.heap.size A2 out) := G1
    have e1 : (some out).getD [] = out := rfl
    rw [e1]
    clear e1
    go_wp2_with fail
    refine (pick_any w2.heap.size 61 3 _ RP.out (by omega) (by omega)).mono ?_
    rintro e w5 ⟨v0, rfl, v00, v01, -, hb, hs, hr⟩
    have v02 := v01 (by omega)
    have hb5 := hb.toBelow (B := w2.heap.size) (Nat.le_of_lt hs4) (Nat.le_refl _)
    have B2 := Lib.hid (B1.out.trans (hb5.mono hs2))
    have I2 := Lib.hid (I1.out.below hb5 (Nat.le_refl _))
    have G2 := Lib.hid (G1.out.below hb5 (Nat.le_refl _))
    have R2 := Lib.hid hr
    have hs5 : w2.heap.size < w5.heap.size := by rw [hs]; exact hs4
    clear hb hr hb5 v01 B1 I1 G1 RP c61 f61 hW4' hs
    by_cases hv : 0 < v0
    · go_wp2
      go_ret2
      exact ⟨A1, c1, rs, A2, c2, out, rfl, I2.out.toAll, G2.out.toAll, B2.out⟩
    · clear G2
      go_wp2
      have HO0 : Hid (OwnI (w5.alloc (.cells #[] 3)) w5.heap.size (.slice (some ⟨w5.heap.size, 0, none⟩) 0 0) []) := OwnI.made w5
      have b0 : Below w5.heap.size w5 (w5.alloc (.cells #[] 3)) := (Below.refl _ _).alloc (Nat.le_refl _) _
      have HB0 : Hid (Below w2.heap.size w5 (w5.alloc (.cells #[] 3))) := b0.mono (by omega)
      have HR0 : Hid (Rd (w5.alloc (.cells #[] 3)) w2.heap.size (61 + 1)) := R2.out.below b0 (by omega)
      clear b0
      go_loopw [10, 11] (fun v x wr => ∃ (i p' : Nat) (zs : List Int), i ≤ rs.length ∧ x = .int .i64 (i : Int) ∧ zs.length = i ∧ OwnI wr w5.heap.size v zs ∧ Below w2.heap.size w5 wr ∧ Rd wr w2.heap.size p' ∧ p' ≤ 62 + 2 * i) (fun _ x _ => rs.length - (intOf x).toNat)
      case atStart => exact ⟨0, (61 + 1), [], Nat.zero_le _, rfl, rfl, HO0.out, HB0.out, HR0.out, by omega⟩
      case round =>
        clear HO0 HB0 HR0
        obtain ⟨v, hv⟩ : ∃ v, v = u10 := ⟨_, rfl⟩
        subst hv
        obtain ⟨i, p', zs, hi, rfl, hzl, ho, hb, hr, hp'⟩ := hrel
        have HO := Lib.hid ho; have HB := Lib.hid hb; have HR := Lib.hid hr; have HZL := Lib.hid hzl
        clear ho hb hr hzl
        have hsW := HB.out.size
        have HI := Lib.hid (I2.out.below HB.out (Nat.le_refl _))
        by_cases hir : i < rs.length
        · have hir' : (i : Int) < (rs.length : Int) := by omega
          have i0 : (0 : Int) ≤ (i : Int) := by omega
          obtain ⟨b, off, Ak, ck, rfl, -, hbw, hcell, -, -⟩ := HI.out.2.2 i hir
          have hm12 := HF.out.2 rs[i] (List.getElem_mem hir)
          obtain ⟨m, hm⟩ : ∃ m, rs[i].length = m := ⟨_, rfl⟩
          rw [hm] at hcell hm12
          have HLn : Hid (zs.length < 17592186044416) := by show _ < _; rw [HZL.out]; omega
          clear hm
          obtain ⟨q, hq, hq1, hq2⟩ : ∃ q : Int, max 1 (m : Int) = q ∧ 1 ≤ q ∧ q ≤ 12 := ⟨_, rfl, by omega, by omega⟩
          have hmx : q = if (1 : Int) < (m : Int) then (m : Int) else 1 := by rw [← hq]; split <;> omega
          go_wp2
          refine wp_region_held_drew (S := fun W => W.cell? ⟨b, off + i, none⟩ = some (.slice Ak m ck)) (by kernel_rfl) hcell (fun hS => ?_)
          refine anyH_take 0 (v := v) rfl (by kernel_rfl) (by kernel_rfl) (by kernel_rfl) (fun _ _ _ h => h) rfl (fun W hW => by kernel_rfl) hS ?_
          refine anyH_take 1 (v := .pointer (some ⟨w2.heap.size, 0, none⟩)) rfl (by kernel_rfl) (by kernel_rfl) (by kernel_rfl) (fun _ _ _ h => h) rfl (fun W hW => by kernel_rfl) hS ?_
          refine anyH_take 2 (v := .slice (some ⟨b, off, none⟩) rs.length c1) rfl (by kernel_rfl) (by kernel_rfl) (by kernel_rfl) (fun _ _ _ h => h) rfl (fun W hW => by kernel_rfl) hS ?_
          refine anyH_take 3 (v := .int .i64 (i : Int)) rfl (by kernel_rfl) (by kernel_rfl) (by kernel_rfl) (fun _ _ _ h => h) rfl (fun W hW => by kernel_rfl) hS ?_
          refine anyH_take 4 (v := .pointer (some ⟨b, off + i, none⟩)) rfl (by kernel_rfl) (by kernel_rfl) (by kernel_rfl) (fun _ _ _ h => h) rfl (fun W hW => by go_simp) hS ?_
          refine anyH_take 5 (v := .slice Ak m ck) rfl (by kernel_rfl) (by kernel_rfl) (by kernel_rfl) (fun _ _ _ h => h) rfl (fun W hW => by go_simp) hS ?_
          refine anyH_take 6 (v := .int .i64 (m : Int)) rfl (by kernel_rfl) (by kernel_rfl) (by kernel_rfl) (fun _ _ _ h => h) rfl (fun W hW => by go_simp) hS ?_
          refine anyH_take 7 (v := .int .i64 q) rfl (by kernel_rfl) (by kernel_rfl) (by kernel_rfl) (fun _ _ _ h => h) rfl (fun W hW => by rw [hmx]; go_simp) hS ?_
          clear hmx
          refine anyH_take 8 (v := .pointer (some ⟨w2.heap.size, 0, none⟩)) rfl (by kernel_rfl) (by kernel_rfl) (by kernel_rfl) (fun _ _ _ h => h) rfl (fun W hW => by kernel_rfl) hS ?_
          refine anyH_one 9 rfl (by kernel_rfl) (by kernel_rfl) ?_
          refine wp_callF (args := #[.pointer (some ⟨w2.heap.size, 0, none⟩), .int .i64 40]) rfl Try.call59 (by kernel_rfl) ?_
          refine (pick_any w2.heap.size p' 40 wr.drew HR.out.drew (by omega) (by omega)).mono ?_
          rintro e w6 ⟨v1, rfl, v10, v11, -, hb6, hs6, hr6⟩
          have v12 := v11 (by omega)
          have hd1 : IntKind.i64.wrap (v1.tdiv 39) = v1 / 39 := by rw [Int.tdiv_eq_ediv_of_nonneg v10, IntWalk.i64_in _ (by omega)]
          have hd2 : IntKind.i64.wrap (q + v1 / 39) = q + v1 / 39 := IntWalk.i64_in _ (by omega)
          have hdw : wr.drew.heap.size = wr.heap.size := rfl
          have hS6 : w6.cell? ⟨b, off + i, none⟩ = some (.slice Ak m ck) := (World.cell?_of_block (hb6.block b (by omega) (by omega))).trans hS
          have HO6 := Lib.hid (OwnI.but (w := wr.drew) HO.out.drew hb6 (Nat.le_refl _) (by omega))
          have hbd : Below w2.heap.size w5 wr.drew := below_drawN HB.out 1
          have HB6 := Lib.hid (hbd.trans (hb6.toBelow (B := w2.heap.size) (by omega) (Nat.le_refl _)))
          have HR6 := Lib.hid hr6
          refine ⟨_, rfl, hS6, ?_⟩
          refine anyH_take 10 (v := .int .i64 (v1 / 39)) rfl (by kernel_rfl) (by kernel_rfl) (by kernel_rfl) (fun _ _ _ h => h) rfl (fun W hW => by go_simp) hS6 ?_
          refine anyH_take 11 (v := .int .i64 (q + v1 / 39)) rfl (by kernel_rfl) (by kernel_rfl) (by kernel_rfl) (fun _ _ _ h => h) rfl (fun W hW => by go_simp) hS6 ?_
          refine anyH_one 12 rfl (by kernel_rfl) (by kernel_rfl) ?_
          refine wp_callF (args := #[.pointer (some ⟨w2.heap.size, 0, none⟩), .int .i64 (q + v1 / 39)]) rfl Try.call59 (by kernel_rfl) ?_
          refine (pick_any w2.heap.size (p' + 1) (q + v1 / 39) w6 hr6 (by omega) (by omega)).mono ?_
          rintro e w7 ⟨v2, rfl, v20, v21, -, hb7, hs7, hr7⟩
          have v22 := v21 (by omega)
          have hsz6 := hb6.size
          have hS7 : w7.cell? ⟨b, off + i, none⟩ = some (.slice Ak m ck) := (World.cell?_of_block (hb7.block b (by omega) (by omega))).trans hS6
          have HO7 := Lib.hid (OwnI.but HO6.out hb7 (Nat.le_refl _) (by omega))
          have HB7 := Lib.hid (HB6.out.trans (hb7.toBelow (B := w2.heap.size) (by omega) (Nat.le_refl _)))
          have HR7 := Lib.hid hr7
          have hsz7 := hb7.size
          refine ⟨_, rfl, hS7, ?_⟩
          refine anyH_one 13 rfl (by kernel_rfl) (by kernel_rfl) ?_
          refine wp_value (v := .slice (some ⟨w7.heap.size, 0, none⟩) 1 1) (w' := w7.alloc (.cells #[.int .i64 v2] 3)) (by go_simp) ?_
          have b8 : Below w7.heap.size w7 (w7.alloc (.cells #[.int .i64 v2] 3)) := (Below.refl _ _).alloc (Nat.le_refl _) _
          have hS8 : (w7.alloc (.cells #[.int .i64 v2] 3)).cell? ⟨b, off + i, none⟩ = some (.slice Ak m ck) := (b8.cell (p := ⟨b, off + i, none⟩) (by show b < _; omega)).trans hS7
          refine ⟨hS8, ?_⟩
          refine anyH_one 14 rfl (by kernel_rfl) (by kernel_rfl) ?_
          refine ⟨wp_push (.tmp 44) (.tmp 57) rfl w5.heap.size v zs v2 w7.heap.size (by kernel_rfl) (by kernel_rfl) HO7.out.alloc (by rw [World.cell?_alloc_at _ _ _ _ rfl]; rfl) HLn.out ⟨by omega, by omega⟩ fun v8 w8 ho8 hb8 => ⟨(hb8.cell (p := ⟨b, off + i, none⟩) (by show b < _; omega)).trans hS8, ?_⟩⟩
          have hS9 : w8.cell? ⟨b, off + i, none⟩ = some (.slice Ak m ck) := (hb8.cell (p := ⟨b, off + i, none⟩) (by show b < _; omega)).trans hS8
          refine anyH_take 15 (v := v8) rfl (by kernel_rfl) (by kernel_rfl) (by kernel_rfl) (fun _ _ _ h => h) rfl (fun W hW => by kernel_rfl) hS9 ?_
          refine wpAnyH_done (by kernel_rfl) ?_ _
          have HO9 := Lib.hid ho8
          have HB9 := Lib.hid ((HB7.out.trans (b8.mono (by omega))).trans (hb8.mono (by omega)))
          have HR9 := Lib.hid ((HR7.out.below b8 (by omega)).below hb8 (by omega))
          clear ho8 hb8 b8 hS hS6 hS7 hS8 hS9 hb6 hb7 hr6 hr7 hs6 hs7 hcell
          go_wp2
          go_roundw
          case rel => exact ⟨i + 1, p' + 1 + 1, zs ++ [v2], by omega, by go_num, by rw [List.length_append, HZL.out]; rfl, HO9.out, HB9.out, HR9.out, by omega⟩
          case measure => simp [intOf]; omega
        · obtain rfl : i = rs.length := by omega
          have hir' : ¬ (rs.length : Int) < (rs.length : Int) := by omega
          obtain ⟨A9, c9, rfl, hi9⟩ := HO.out.iw (by rw [HZL.out]; omega)
          have HI9 := Lib.hid hi9
          clear hi9 HO
          go_wp2
          go_ret2
          exact ⟨A1, c1, rs, A9, c9, zs, rfl, HI.out.toAll, HI9.out.toAll, B2.out.trans (HB.out.mono hs2)⟩
  | none =>
    clear G1
    have e1 : (none : Option (List Int)).getD [] = [] := rfl
    rw [e1]
    clear e1
    go_wp2
    have HO0 : Hid (OwnI (W4.alloc (.cells #[] 3)) W4.heap.size (.slice (some ⟨W4.heap.size, 0, none⟩) 0 0) []) := OwnI.made W4
    have b0 : Below W4.heap.size W4 (W4.alloc (.cells #[] 3)) := (Below.refl _ _).alloc (Nat.le_refl _) _
    have HB0 : Hid (Below w2.heap.size W4 (W4.alloc (.cells #[] 3))) := b0.mono (by omega)
    have HR0 : Hid (Rd (W4.alloc (.cells #[] 3)) w2.heap.size 61) := RP.out.below b0 (by omega)
    clear b0
    go_loopw [10, 11] (fun v x wr => ∃ (i p' : Nat) (zs : List Int), i ≤ rs.length ∧ x = .int .i64 (i : Int) ∧ zs.length = i ∧ OwnI wr W4.heap.size v zs ∧ Below w2.heap.size W4 wr ∧ Rd wr w2.heap.size p' ∧ p' ≤ 62 + 2 * i) (fun _ x _ => rs.length - (intOf x).toNat)
    case atStart => exact ⟨0, 61, [], Nat.zero_le _, rfl, rfl, HO0.out, HB0.out, HR0.out, by omega⟩
    case round =>
      clear HO0 HB0 HR0
      obtain ⟨v, hv⟩ : ∃ v, v = u10 := ⟨_, rfl⟩
      subst hv
      obtain ⟨i, p', zs, hi, rfl, hzl, ho, hb, hr, hp'⟩ := hrel
      have HO := Lib.hid ho; have HB := Lib.hid hb; have HR := Lib.hid hr; have HZL := Lib.hid hzl
      clear ho hb hr hzl
      have hsW := HB.out.size
      have HI := Lib.hid (I1.out.below HB.out (Nat.le_refl _))
      by_cases hir : i < rs.length
      · have hir' : (i : Int) < (rs.length : Int) := by omega
        have i0 : (0 : Int) ≤ (i : Int) := by omega
        obtain ⟨b, off, Ak, ck, rfl, -, hbw, hcell, -, -⟩ := HI.out.2.2 i hir
        have hm12 := HF.out.2 rs[i] (List.getElem_mem hir)
        obtain ⟨m, hm⟩ : ∃ m, rs[i].length = m := ⟨_, rfl⟩
        rw [hm] at hcell hm12
        have HLn : Hid (zs.length < 17592186044416) := by show _ < _; rw [HZL.out]; omega
        clear hm
        obtain ⟨q, hq, hq1, hq2⟩ : ∃ q : Int, max 1 (m : Int) = q ∧ 1 ≤ q ∧ q ≤ 12 := ⟨_, rfl, by omega, by omega⟩
        have hmx : q = if (1 : Int) < (m : Int) then (m : Int) else 1 := by rw [← hq]; split <;> omega
        go_wp2
        refine wp_region_held_drew (S := fun W => W.cell? ⟨b, off + i, none⟩ = some (.slice Ak m ck)) (by kernel_rfl) hcell (fun hS => ?_)
        refine anyH_take 0 (v := v) rfl (by kernel_rfl) (by kernel_rfl) (by kernel_rfl) (fun _ _ _ h => h) rfl (fun W hW => by kernel_rfl) hS ?_
        refine anyH_take 1 (v := .pointer (some ⟨w2.heap.size, 0, none⟩)) rfl (by kernel_rfl) (by kernel_rfl) (by kernel_rfl) (fun _ _ _ h => h) rfl (fun W hW => by kernel_rfl) hS ?_
        refine anyH_take 2 (v := .slice (some ⟨b, off, none⟩) rs.length c1) rfl (by kernel_rfl) (by kernel_rfl) (by kernel_rfl) (fun _ _ _ h => h) rfl (fun W hW => by kernel_rfl) hS ?_
        refine anyH_take 3 (v := .int .i64 (i : Int)) rfl (by kernel_rfl) (by kernel_rfl) (by kernel_rfl) (fun _ _ _ h => h) rfl (fun W hW => by kernel_rfl) hS ?_
        refine anyH_take 4 (v := .pointer (some ⟨b, off + i, none⟩)) rfl (by kernel_rfl) (by kernel_rfl) (by kernel_rfl) (fun _ _ _ h => h) rfl (fun W hW => by go_simp) hS ?_
        refine anyH_take 5 (v := .slice Ak m ck) rfl (by kernel_rfl) (by kernel_rfl) (by kernel_rfl) (fun _ _ _ h => h) rfl (fun W hW => by go_simp) hS ?_
        refine anyH_take 6 (v := .int .i64 (m : Int)) rfl (by kernel_rfl) (by kernel_rfl) (by kernel_rfl) (fun _ _ _ h => h) rfl (fun W hW => by go_simp) hS ?_
        refine anyH_take 7 (v := .int .i64 q) rfl (by kernel_rfl) (by kernel_rfl) (by kernel_rfl) (fun _ _ _ h => h) rfl (fun W hW => by rw [hmx]; go_simp) hS ?_
        clear hmx
        refine anyH_take 8 (v := .pointer (some ⟨w2.heap.size, 0, none⟩)) rfl (by kernel_rfl) (by kernel_rfl) (by kernel_rfl) (fun _ _ _ h => h) rfl (fun W hW => by kernel_rfl) hS ?_
        refine anyH_one 9 rfl (by kernel_rfl) (by kernel_rfl) ?_
        refine wp_callF (args := #[.pointer (some ⟨w2.heap.size, 0, none⟩), .int .i64 40]) rfl Try.call59 (by kernel_rfl) ?_
        refine (pick_any w2.heap.size p' 40 wr.drew HR.out.drew (by omega) (by omega)).mono ?_
        rintro e w6 ⟨v1, rfl, v10, v11, -, hb6, hs6, hr6⟩
        have v12 := v11 (by omega)
        have hd1 : IntKind.i64.wrap (v1.tdiv 39) = v1 / 39 := by rw [Int.tdiv_eq_ediv_of_nonneg v10, IntWalk.i64_in _ (by omega)]
        have hd2 : IntKind.i64.wrap (q + v1 / 39) = q + v1 / 39 := IntWalk.i64_in _ (by omega)
        have hdw : wr.drew.heap.size = wr.heap.size := rfl
        have hS6 : w6.cell? ⟨b, off + i, none⟩ = some (.slice Ak m ck) := (World.cell?_of_block (hb6.block b (by omega) (by omega))).trans hS
        have HO6 := Lib.hid (OwnI.but (w := wr.drew) HO.out.drew hb6 (Nat.le_refl _) (by omega))
        have hbd : Below w2.heap.size W4 wr.drew := below_drawN HB.out 1
        have HB6 := Lib.hid (hbd.trans (hb6.toBelow (B := w2.heap.size) (by omega) (Nat.le_refl _)))
        have HR6 := Lib.hid hr6
        refine ⟨_, rfl, hS6, ?_⟩
        refine anyH_take 10 (v := .int .i64 (v1 / 39)) rfl (by kernel_rfl) (by kernel_rfl) (by kernel_rfl) (fun _ _ _ h => h) rfl (fun W hW => by go_simp) hS6 ?_
        refine anyH_take 11 (v := .int .i64 (q + v1 / 39)) rfl (by kernel_rfl) (by kernel_rfl) (by kernel_rfl) (fun _ _ _ h => h) rfl (fun W hW => by go_simp) hS6 ?_
        refine anyH_one 12 rfl (by kernel_rfl) (by kernel_rfl) ?_
        refine wp_callF (args := #[.pointer (some ⟨w2.heap.size, 0, none⟩), .int .i64 (q + v1 / 39)]) rfl Try.call59 (by kernel_rfl) ?_
        refine (pick_any w2.heap.size (p' + 1) (q + v1 / 39) w6 hr6 (by omega) (by omega)).mono ?_
        rintro e w7 ⟨v2, rfl, v20, v21, -, hb7, hs7, hr7⟩
        have v22 := v21 (by omega)
        have hsz6 := hb6.size
        have hS7 : w7.cell? ⟨b, off + i, none⟩ = some (.slice Ak m ck) := (World.cell?_of_block (hb7.block b (by omega) (by omega))).trans hS6
        have HO7 := Lib.hid (OwnI.but HO6.out hb7 (Nat.le_refl _) (by omega))
        have HB7 := Lib.hid (HB6.out.trans (hb7.toBelow (B := w2.heap.size) (by omega) (Nat.le_refl _)))
        have HR7 := Lib.hid hr7
        have hsz7 := hb7.size
        refine ⟨_, rfl, hS7, ?_⟩
        refine anyH_one 13 rfl (by kernel_rfl) (by kernel_rfl) ?_
        refine wp_value (v := .slice (some ⟨w7.heap.size, 0, none⟩) 1 1) (w' := w7.alloc (.cells #[.int .i64 v2] 3)) (by go_simp) ?_
        have b8 : Below w7.heap.size w7 (w7.alloc (.cells #[.int .i64 v2] 3)) := (Below.refl _ _).alloc (Nat.le_refl _) _
        have hS8 : (w7.alloc (.cells #[.int .i64 v2] 3)).cell? ⟨b, off + i, none⟩ = some (.slice Ak m ck) := (b8.cell (p := ⟨b, off + i, none⟩) (by show b < _; omega)).trans hS7
        refine ⟨hS8, ?_⟩
        refine anyH_one 14 rfl (by kernel_rfl) (by kernel_rfl) ?_
        refine ⟨wp_push (.tmp 44) (.tmp 57) rfl W4.heap.size v zs v2 w7.heap.size (by kernel_rfl) (by kernel_rfl) HO7.out.alloc (by rw [World.cell?_alloc_at _ _ _ _ rfl]; rfl) HLn.out ⟨by omega, by omega⟩ fun v8 w8 ho8 hb8 => ⟨(hb8.cell (p := ⟨b, off + i, none⟩) (by show b < _; omega)).trans hS8, ?_⟩⟩
        have hS9 : w8.cell? ⟨b, off + i, none⟩ = some (.slice Ak m ck) := (hb8.cell (p := ⟨b, off + i, none⟩) (by show b < _; omega)).trans hS8
        refine anyH_take 15 (v := v8) rfl (by kernel_rfl) (by kernel_rfl) (by kernel_rfl) (fun _ _ _ h => h) rfl (fun W hW => by kernel_rfl) hS9 ?_
        refine wpAnyH_done (by kernel_rfl) ?_ _
        have HO9 := Lib.hid ho8
        have HB9 := Lib.hid ((HB7.out.trans (b8.mono (by omega))).trans (hb8.mono (by omega)))
        have HR9 := Lib.hid ((HR7.out.below b8 (by omega)).below hb8 (by omega))
        clear ho8 hb8 b8 hS hS6 hS7 hS8 hS9 hb6 hb7 hr6 hr7 hs6 hs7 hcell
        go_wp2
        go_roundw
        case rel => exact ⟨i + 1, p' + 1 + 1, zs ++ [v2], by omega, by go_num, by rw [List.length_append, HZL.out]; rfl, HO9.out, HB9.out, HR9.out, by omega⟩
        case measure => simp [intOf]; omega
      · obtain rfl : i = rs.length := by omega
        have hir' : ¬ (rs.length : Int) < (rs.length : Int) := by omega
        obtain ⟨A9, c9, rfl, hi9⟩ := HO.out.iw (by rw [HZL.out]; omega)
        have HI9 := Lib.hid hi9
        clear hi9 HO
        go_wp2
        go_ret2
        exact ⟨A1, c1, rs, A9, c9, zs, rfl, HI.out.toAll, HI9.out.toAll, B1.out.trans (HB.out.mono hs2)⟩

set_option maxHeartbeats 1000000 in
theorem DrawShareCost_any (A : Option Addr) (c : Nat) (bs : List Int) (w : World) (h : BR w w.heap.size A bs) (hc : bs.length ≤ c) (hc2 : c ≤ 9000000000000000000) :
    Calls Try.prog 22 #[.slice A bs.length c] w (SharedPost w) := by
  have H := Lib.hid h
  clear h
  go_enter Try.func22, Try.ntmps22
  go_wp2_with fail
  refine (l92Shared_any A c bs _ H.out hc hc2).mono ?_
  rintro e w1 ⟨A1, c1, rs, A2, c2, l, rfl, hi, hj, hb⟩
  have I0 := Lib.hid hi; have J0 := Lib.hid hj; have B0 := Lib.hid hb
  clear hi hj hb
  go_wp2
  go_ret2
  exact ⟨A1, c1, rs, A2, c2, l, rfl, I0.out, J0.out, B0.out⟩

set_option maxHeartbeats 1000000 in
theorem DrawSharePrice_any (A : Option Addr) (c : Nat) (bs : List Int) (w : World) (h : BR w w.heap.size A bs) (hc : bs.length ≤ c) (hc2 : c ≤ 9000000000000000000) :
    Calls Try.prog 24 #[.slice A bs.length c] w (SharedPost w) := by
  have H := Lib.hid h
  clear h
  go_enter Try.func24, Try.ntmps24
  go_wp2_with fail
  refine (l92Shared_any A c bs _ H.out hc hc2).mono ?_
  rintro e w1 ⟨A1, c1, rs, A2, c2, l, rfl, hi, hj, hb⟩
  have I0 := Lib.hid hi; have J0 := Lib.hid hj; have B0 := Lib.hid hb
  clear hi hj hb
  go_wp2
  go_ret2
  exact ⟨A1, c1, rs, A2, c2, l, rfl, I0.out, J0.out, B0.out⟩

set_option maxHeartbeats 1000000 in
theorem DrawShareMoves_any (A : Option Addr) (c : Nat) (bs : List Int) (w : World) (h : BR w w.heap.size A bs) (hc : bs.length ≤ c) (hc2 : c ≤ 9000000000000000000) :
    Calls Try.prog 26 #[.slice A bs.length c] w (SharedPost w) := by
  have H := Lib.hid h
  clear h
  go_enter Try.func26, Try.ntmps26
  go_wp2_with fail
  refine (l92Shared_any A c bs _ H.out hc hc2).mono ?_
  rintro e w1 ⟨A1, c1, rs, A2, c2, l, rfl, hi, hj, hb⟩
  have I0 := Lib.hid hi; have J0 := Lib.hid hj; have B0 := Lib.hid hb
  clear hi hj hb
  go_wp2
  go_ret2
  exact ⟨A1, c1, rs, A2, c2, l, rfl, I0.out, J0.out, B0.out⟩
end Go.Proofs.Ytanmjaljcnihlaa
