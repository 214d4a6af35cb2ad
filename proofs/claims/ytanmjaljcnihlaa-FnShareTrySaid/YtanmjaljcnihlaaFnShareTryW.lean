/-
  The law FnShareTry walked: for all codes it returns true, and nothing that lay before has turned. Conditions: none but those of its row.
-/
import Derived.Test.YtanmjaljcnihlaaDS
import Derived.Test.YtanmjaljcnihlaaSgA
import Derived.Test.YtanmjaljcnihlaaSame
import Derived.Test.YtanmjaljcnihlaaTotal
import Derived.Test.YtanmjaljcnihlaaMathA
namespace Go.Proofs.Ytanmjaljcnihlaa
open Go.RowKit

theorem totW_of {l : List Int} (h0 : ∀ x, x ∈ l → 0 ≤ x ∧ x ≤ 1000) (hl : l.length ≤ 1000) : totW l = totL l := by
  have key : ∀ (m : List Int) (a : Int), (∀ x, x ∈ m → 0 ≤ x ∧ x ≤ 1000) → 0 ≤ a → a + 1000 * (m.length : Int) ≤ 9000000 → m.foldl (fun a z => wrap64 (a + z)) a = a + totL m := by
    intro m
    induction m with
    | nil => intro a _ _ _; simp [totL]
    | cons x m ih =>
      intro a hm ha hb
      have hx := hm x List.mem_cons_self
      rw [List.length_cons] at hb
      have hw : wrap64 (a + x) = a + x := by unfold wrap64; omega
      rw [List.foldl_cons, hw, ih (a + x) (fun y hy => hm y (List.mem_cons_of_mem _ hy)) (by omega) (by omega)]
      show a + x + totL m = a + (x + totL m)
      omega
  have := key l 0 h0 (Int.le_refl _) (by omega)
  unfold totW
  rw [this]
  omega
theorem places_tot {rs : List (List Int)} {l : List Int} (h : placesB rs l = true) : totW l = totL l := by
  obtain ⟨h1, h2, h3⟩ := places_facts h
  refine totW_of (fun x hx => ?_) (by omega)
  obtain ⟨k, hk, rfl⟩ := List.getElem_of_mem hx
  obtain ⟨p, e1, e2, e3, e4, e5⟩ := h3 k (by omega)
  rw [getD_at hk] at e1
  omega
theorem take_all {rs : List (List Int)} {f : List Int → Bool} {i : Nat} (hi : i < rs.length) : (rs.take (i + 1)).all f = ((rs.take i).all f && f rs[i]) := by
  rw [← takeR_snoc rs i hi, List.all_append]
  simp
theorem bent_row {rs : List (List Int)} {i : Nat} (hg : givenB rs = true) (hi : i < rs.length) {q : Bool} (h : bentB rs[i] = q) : (rowB rs[i] && bentB rs[i]) = q := by
  rw [(given_true.1 hg).1 rs[i] (List.getElem_mem hi), h, Bool.true_and]

theorem try_found {rs : List (List Int)} {n : Int} {o : List Int} (h : shareM rs n = some o) : shareOk rs n = true ∧ givenB rs = true ∧ placesB rs o = true ∧ costS rs o = shareC rs n ∧ totL o = n ∧ movesL rs o = 0 ∧ (bentsB rs = true → pricesB rs o = true) := by
  have hok : shareOk rs n = true := by
    cases hq : shareOk rs n with
    | true => rfl
    | false => rw [(share_not hq).2.1] at h; cases h
  obtain ⟨g1, g2, g3, g4, g5⟩ := try_law hok
  obtain ⟨s1, s2, s3⟩ := share_yes hok
  rw [s2] at h
  injection h with h
  subst h
  exact ⟨hok, (places_true.1 g1).1, g1, by rw [g2, s1], g3, g4, g5⟩

set_option maxHeartbeats 1500000 in
set_option maxRecDepth 100000 in
theorem lawFnShareTry_any (A0 : Option Addr) (c0 : Nat) (bs : List Int) (w : World) (h0 : BR w w.heap.size A0 bs) (hc : bs.length ≤ c0) (hc2 : c0 ≤ 9000000000000000000) :
    Calls Try.prog 3 #[.slice A0 bs.length c0] w fun e w' => e = .returned (.bool true) ∧ Below w.heap.size w w' := by
  by_cases hbig : (1048576 : Int) < (bs.length : Int)
  · clear h0
    go_enter Try.func3, Try.ntmps3
    go_wp2
    go_ret
    exact ⟨rfl, Below.refl _ _⟩
  have H0 := Lib.hid h0
  clear h0
  have BB := Lib.hid (Below.refl w.heap.size w)
  go_enter Try.func3, Try.ntmps3
  go_wp2_with fail
  refine (DrawShareTry_any _ _ bs _ H0.out hc hc2).mono ?_
  rintro e w1 ⟨A, c, rs, n, rfl, hfit, hn, iw, bb⟩
  replace BB := Lib.hid (below_then BB.out (Nat.le_refl _) bb)
  have Z := Lib.hid iw.toAll
  clear bb
  clear iw hfit
  go_wp2_with fail
  refine (implShareTry_any _ _ rs n _ Z.out.toAll).mono ?_
  rintro e w2 ⟨A2, c2, rfl, iw, bb⟩
  replace BB := Lib.hid (below_then BB.out (Nat.le_refl _) bb)
  replace Z := Lib.hid (Z.out.grow bb)
  have G := Lib.hid iw.toAll
  clear bb
  clear iw
  go_wp2_with fail
  refine (specShareTry_any _ _ _ _ rs n _ Z.out).mono ?_
  rintro e w3 ⟨A3, c3, rfl, iw, bb⟩
  replace BB := Lib.hid (below_then BB.out (Nat.le_refl _) bb)
  replace Z := Lib.hid (Z.out.grow bb)
  replace G := Lib.hid (G.out.grow bb)
  have V := Lib.hid iw.toAll
  clear bb
  clear iw
  obtain ⟨cs, hcs⟩ : ∃ x, shareC rs n = x := ⟨_, rfl⟩
  obtain ⟨o, hm⟩ : ∃ o, shareM rs n = o := ⟨_, rfl⟩
  have HCS := Lib.hid hcs
  rw [hm] at G V
  rw [hm, hcs]
  clear hcs
  cases o with
  | none =>
    clear hm
    replace G : Hid (IR w3 _ _ A2 []) := G
    replace V : Hid (IR w3 _ _ A3 []) := V
    go_wp2_with fail
    refine (sameInts_b _ _ _ _ _ _ _ _ _ _ [] _ G.out V.out rfl rfl).mono ?_
    rintro e w4 ⟨rfl, bb⟩
    replace BB := Lib.hid (below_then BB.out (Nat.le_refl _) bb)
    replace G := Lib.hid (G.out.grow bb)
    replace V := Lib.hid (V.out.grow bb)
    clear bb
    go_wp2_with fail
    refine (sameInts_b _ _ _ _ _ _ _ _ _ _ [] _ G.out V.out rfl rfl).mono ?_
    rintro e w5 ⟨rfl, bb⟩
    replace BB := Lib.hid (below_then BB.out (Nat.le_refl _) bb)
    replace G := Lib.hid (G.out.grow bb)
    replace V := Lib.hid (V.out.grow bb)
    clear bb
    go_wp2
    go_ret
    exact ⟨rfl, BB.out⟩
  | some out =>
    have e1 : (some out).getD [] = out := rfl
    rw [e1]
    replace G : Hid (IR w3 _ _ A2 out) := G
    replace V : Hid (IR w3 _ _ A3 out) := V
    obtain ⟨f1, f2, f3, f4, f5, f6, f7⟩ := try_found hm
    have HG := Lib.hid f2; have HPL := Lib.hid f3; have HCO := Lib.hid f4; have HTO := Lib.hid f5; have HMV := Lib.hid f6; have HPR := Lib.hid f7
    clear hm e1 f1 f2 f3 f4 f5 f6 f7
    go_wp2_with fail
    refine (sameInts_b _ _ _ _ _ _ _ _ _ _ out _ G.out V.out rfl rfl).mono ?_
    rintro e w4 ⟨rfl, bb⟩
    replace BB := Lib.hid (below_then BB.out (Nat.le_refl _) bb)
    replace Z := Lib.hid (Z.out.grow bb)
    replace G := Lib.hid (G.out.grow bb)
    replace V := Lib.hid (V.out.grow bb)
    clear bb
    clear V
    have hl4 : rs.length ≤ 4 := (given_true.1 HG.out).2.2
    go_wp2
    go_loopw [11, 12] (fun v x wr => ∃ i : Nat, i ≤ rs.length ∧ x = .int .i64 (i : Int) ∧ v = .bool ((rs.take i).all bentB) ∧ Below w4.heap.size w4 wr) (fun _ x _ => rs.length - (intOf x).toNat)
    case atStart => exact ⟨0, Nat.zero_le _, rfl, rfl, Below.refl _ _⟩
    case round =>
      obtain ⟨i, hi, rfl, rfl, hbl⟩ := hrel
      have HBL := Lib.hid hbl
      clear hbl
      by_cases hir : i < rs.length
      · have hir' : (i : Int) < (rs.length : Int) := by omega
        have i0 : (0 : Int) ≤ (i : Int) := by omega
        have HTA := Lib.hid (take_all (f := bentB) hir)
        have HZ := Lib.hid (Z.out.grow HBL.out)
        obtain ⟨b, off, Ak, ck, rfl, _, hcell, _, hrow⟩ := HZ.out.at_ hir
        obtain ⟨q, hq⟩ : ∃ q, (rs.take i).all bentB = q := ⟨_, rfl⟩
        rw [hq] at HTA
        rw [hq]
        clear hq
        cases q with
        | false =>
          clear hrow
          go_wp2
          go_roundw
          case rel => exact ⟨i + 1, by omega, by go_num, by rw [HTA.out]; rfl, HBL.out⟩
          case measure => simp [intOf]; omega
        | true =>
          obtain ⟨p, hp⟩ : ∃ p, bentB rs[i] = p := ⟨_, rfl⟩
          have HC := Lib.hid (implBent_of Ak ck _ _ rs[i] wr hrow (bent_row HG.out hir hp) rfl)
          rw [hp] at HTA
          clear hp hrow
          go_wp2_with fail
          refine HC.out.mono ?_
          rintro e w0 ⟨rfl, bb⟩
          have HB0 := Lib.hid (HBL.out.trans (bb.mono HBL.out.size))
          clear bb HC
          cases p with
          | false =>
            go_wp2
            go_roundw
            case rel => exact ⟨i + 1, by omega, by go_num, by rw [HTA.out]; rfl, HB0.out⟩
            case measure => simp [intOf]; omega
          | true =>
            go_wp2
            go_roundw
            case rel => exact ⟨i + 1, by omega, by go_num, by rw [HTA.out]; rfl, HB0.out⟩
            case measure => simp [intOf]; omega
      · obtain rfl : i = rs.length := by omega
        have hir' : ¬ (rs.length : Int) < (rs.length : Int) := by omega
        have hta : (rs.take rs.length).all bentB = bentsB rs := by rw [List.take_length]; rfl
        rw [hta]
        clear hta
        obtain ⟨bq, hbq⟩ : ∃ q, bentsB rs = q := ⟨_, rfl⟩
        have HBN := Lib.hid hbq
        rw [hbq]
        clear hbq
        replace BB := Lib.hid (below_then BB.out (Nat.le_refl _) HBL.out)
        replace Z := Lib.hid (Z.out.grow HBL.out)
        replace G := Lib.hid (G.out.grow HBL.out)
        clear HBL
        obtain ⟨hx, hx0⟩ : shareCostL rs out = cs ∧ shareMovesL rs out = 0 := by unfold shareCostL shareMovesL; rw [HPL.out]; exact ⟨HCO.out.trans HCS.out, HMV.out⟩
        have HX := Lib.hid hx; have HX0 := Lib.hid hx0
        clear hx hx0
        go_wp2_with fail
        refine (implShareCost_any _ _ rs _ _ out _ Z.out.toAll G.out.toAll).mono ?_
        rintro e w5 ⟨rfl, bb⟩
        replace BB := Lib.hid (below_then BB.out (Nat.le_refl _) bb)
        replace Z := Lib.hid (Z.out.grow bb)
        replace G := Lib.hid (G.out.grow bb)
        clear bb
        rw [HX.out, HPL.out]
        go_wp2_with fail
        refine (implSharePrice_any _ _ rs _ _ out _ Z.out.toAll G.out.toAll).mono ?_
        rintro e w6 ⟨rfl, bb⟩
        replace BB := Lib.hid (below_then BB.out (Nat.le_refl _) bb)
        replace Z := Lib.hid (Z.out.grow bb)
        replace G := Lib.hid (G.out.grow bb)
        clear bb
        go_wp2_with fail
        refine (implShareMoves_any _ _ rs _ _ out _ Z.out.toAll G.out.toAll).mono ?_
        rintro e w7 ⟨rfl, bb⟩
        replace BB := Lib.hid (below_then BB.out (Nat.le_refl _) bb)
        replace Z := Lib.hid (Z.out.grow bb)
        replace G := Lib.hid (G.out.grow bb)
        clear bb
        rw [HX0.out, HPL.out]
        obtain ⟨pr, hpr⟩ : ∃ q, pricesB rs out = q := ⟨_, rfl⟩
        have HIM : Hid (bq = true → pr = true) := fun e => by rw [← hpr]; exact HPR.out (by rw [HBN.out]; exact e)
        rw [hpr]
        clear hpr
        have HTT : Hid (totW out = n) := by show _ = _; rw [places_tot HPL.out]; exact HTO.out
        go_wp2_with fail
        refine (total_any _ _ _ _ _ out _ G.out rfl).mono ?_
        rintro e w' ⟨rfl, rfl⟩
        rw [HTT.out]
        cases bq with
        | false =>
          go_wp2
          go_ret
          exact ⟨rfl, BB.out⟩
        | true =>
          obtain rfl := HIM.out rfl
          go_wp2
          go_ret
          exact ⟨rfl, BB.out⟩
end Go.Proofs.Ytanmjaljcnihlaa
