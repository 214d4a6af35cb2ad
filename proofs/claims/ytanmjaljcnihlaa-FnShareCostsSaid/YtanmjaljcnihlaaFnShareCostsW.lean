/-
  The law FnShareCosts walked: for all codes it returns true, and nothing that lay before has turned. Conditions: none but those of its row.
-/
import Derived.Test.YtanmjaljcnihlaaDS
import Derived.Test.YtanmjaljcnihlaaSgA
import Derived.Test.YtanmjaljcnihlaaSame
import Derived.Test.YtanmjaljcnihlaaTotal
import Derived.Test.YtanmjaljcnihlaaMathA
namespace Go.Proofs.Ytanmjaljcnihlaa
open Go.RowKit

theorem totW_of {l : List Int} (h0 : ∀ x, x ∈ l → 0 ≤ x ∧ x ≤ 1000) (hl : l.length ≤ 1000) : totW l = totL l := by
  have key : ∀ (m : List Int) (a : Int), (∀ x, x ∈ m → 0 ≤ x ∧ x ≤ 1000) → 0 ≤ a → a + 1000 * (m.length : Int) ≤ 9000000 → m.foldl (fun a z => wrap64 (a + z)) a = a + totL m := by
    intro m
    induction m with
    | nil => intro a _ _ _; simp [totL]
    | cons x m ih =>
      intro a hm ha hb
      have hx := hm x List.mem_cons_self
      rw [List.length_cons] at hb
      have hw : wrap64 (a + x) = a + x := by unfold wrap64; omega
      rw [List.foldl_cons, hw, ih (a + x) (fun y hy => hm y (List.mem_cons_of_mem _ hy)) (by omega) (by omega)]
      show a + x + totL m = a + (x + totL m)
      omega
  have := key l 0 h0 (Int.le_refl _) (by omega)
  unfold totW
  rw [this]
  omega
theorem places_tot {rs : List (List Int)} {l : List Int} (h : placesB rs l = true) : totW l = totL l := by
  obtain ⟨h1, h2, h3⟩ := places_facts h
  refine totW_of (fun x hx => ?_) (by omega)
  obtain ⟨k, hk, rfl⟩ := List.getElem_of_mem hx
  obtain ⟨p, e1, e2, e3, e4, e5⟩ := h3 k (by omega)
  rw [getD_at hk] at e1
  omega
theorem take_all {rs : List (List Int)} {f : List Int → Bool} {i : Nat} (hi : i < rs.length) : (rs.take (i + 1)).all f = ((rs.take i).all f && f rs[i]) := by
  rw [← takeR_snoc rs i hi, List.all_append]
  simp
theorem bent_row {rs : List (List Int)} {i : Nat} (hg : givenB rs = true) (hi : i < rs.length) {q : Bool} (h : bentB rs[i] = q) : (rowB rs[i] && bentB rs[i]) = q := by
  rw [(given_true.1 hg).1 rs[i] (List.getElem_mem hi), h, Bool.true_and]

theorem costs_found {rs : List (List Int)} {o : List Int} (h : costsM rs = some o) : givenB rs = true ∧ rowB o = true ∧ o.length ≤ 12 ∧ (bentsB rs = true → bentB o = true) ∧ ∀ (k : Nat) (hk : k < o.length), shareOk rs (k : Int) = true ∧ shareC rs (k : Int) = o[k] := by
  have hg : givenB rs = true := by
    cases hq : givenB rs with
    | true => rfl
    | false => rw [costsM_no (.inl hq)] at h; cases h
  have hm : mostL rs < 12 := by
    by_cases hm : mostL rs < 12
    · exact hm
    · rw [costsM_no (.inr (by omega))] at h; cases h
  rw [costsM_yes hg hm] at h
  obtain ⟨h1, h2⟩ := doneM_some h
  subst h2
  obtain ⟨g1, g2, g3⟩ := given_true.1 hg
  refine ⟨hg, h1, (rowB_true.1 h1).2.2, fun hb => costs_bent g1 (List.all_eq_true.1 hb) g3, fun k hk => ?_⟩
  obtain ⟨q1, q2⟩ := least_cost hg hk
  have hok : shareOk rs (k : Int) = true := by unfold shareOk; rw [hg, inB_true.2 ⟨by omega, q2⟩]; rfl
  refine ⟨hok, ?_⟩
  rw [(share_yes hok).1, ← q1, share_found hok]
theorem share_some' {rs : List (List Int)} {n : Int} (h : shareOk rs n = true) : (shareM rs n).isSome = true := by rw [(share_yes h).2.1]; rfl

set_option maxHeartbeats 1500000 in
set_option maxRecDepth 100000 in
theorem lawFnShareCosts_any (A0 : Option Addr) (c0 : Nat) (bs : List Int) (w : World) (h0 : BR w w.heap.size A0 bs) (hc : bs.length ≤ c0) (hc2 : c0 ≤ 9000000000000000000) :
    Calls Try.prog 8 #[.slice A0 bs.length c0] w fun e w' => e = .returned (.bool true) ∧ Below w.heap.size w w' := by
  by_cases hbig : (1048576 : Int) < (bs.length : Int)
  · clear h0
    go_enter Try.func8, Try.ntmps8
    go_wp2
    go_ret
    exact ⟨rfl, Below.refl _ _⟩
  have H0 := Lib.hid h0
  clear h0
  have BB := Lib.hid (Below.refl w.heap.size w)
  go_enter Try.func8, Try.ntmps8
  go_wp2_with fail
  refine (DrawShareCosts_any _ _ bs _ H0.out hc hc2).mono ?_
  rintro e w1 ⟨A, c, rs, rfl, iw, bb⟩
  replace BB := Lib.hid (below_then BB.out (Nat.le_refl _) bb)
  have Z := Lib.hid iw.toAll
  clear bb
  clear iw
  go_wp2_with fail
  refine (implShareCosts_any _ _ rs _ Z.out.toAll).mono ?_
  rintro e w2 ⟨A2, c2, rfl, iw, bb⟩
  replace BB := Lib.hid (below_then BB.out (Nat.le_refl _) bb)
  replace Z := Lib.hid (Z.out.grow bb)
  have G := Lib.hid iw.toAll
  clear bb
  clear iw
  go_wp2_with fail
  refine (specShareCosts_any _ _ _ _ rs _ Z.out).mono ?_
  rintro e w3 ⟨A3, c3, rfl, iw, bb⟩
  replace BB := Lib.hid (below_then BB.out (Nat.le_refl _) bb)
  replace Z := Lib.hid (Z.out.grow bb)
  replace G := Lib.hid (G.out.grow bb)
  have V := Lib.hid iw.toAll
  clear bb
  clear iw
  obtain ⟨o, hm⟩ : ∃ o, costsM rs = o := ⟨_, rfl⟩
  rw [hm] at G V
  rw [hm]
  cases o with
  | none =>
    clear hm
    replace G : Hid (IR w3 _ _ A2 []) := G
    replace V : Hid (IR w3 _ _ A3 []) := V
    go_wp2_with fail
    refine (sameInts_b _ _ _ _ _ _ _ _ _ _ [] _ G.out V.out rfl rfl).mono ?_
    rintro e w4 ⟨rfl, bb⟩
    replace BB := Lib.hid (below_then BB.out (Nat.le_refl _) bb)
    replace G := Lib.hid (G.out.grow bb)
    replace V := Lib.hid (V.out.grow bb)
    clear bb
    go_wp2_with fail
    refine (sameInts_b _ _ _ _ _ _ _ _ _ _ [] _ G.out V.out rfl rfl).mono ?_
    rintro e w5 ⟨rfl, bb⟩
    replace BB := Lib.hid (below_then BB.out (Nat.le_refl _) bb)
    replace G := Lib.hid (G.out.grow bb)
    replace V := Lib.hid (V.out.grow bb)
    clear bb
    go_wp2
    go_ret
    exact ⟨rfl, BB.out⟩
  | some out =>
    have e1 : (some out).getD [] = out := rfl
    rw [e1]
    replace G : Hid (IR w3 _ _ A2 out) := G
    replace V : Hid (IR w3 _ _ A3 out) := V
    have HM := Lib.hid hm
    clear hm e1
    go_wp2_with fail
    refine (sameInts_b _ _ _ _ _ _ _ _ _ _ out _ G.out V.out rfl rfl).mono ?_
    rintro e w4 ⟨rfl, bb⟩
    replace BB := Lib.hid (below_then BB.out (Nat.le_refl _) bb)
    replace Z := Lib.hid (Z.out.grow bb)
    replace G := Lib.hid (G.out.grow bb)
    replace V := Lib.hid (V.out.grow bb)
    clear bb
    clear V
    obtain ⟨f1, f2, f3, f4, f5⟩ := costs_found HM.out
    have HG := Lib.hid f1; have HRW := Lib.hid f2; have HBT := Lib.hid f4; have HEA := Lib.hid f5
    clear f1 f2 f4 f5
    have hl4 : rs.length ≤ 4 := (given_true.1 HG.out).2.2
    go_wp2
    go_loopw [8, 9] (fun v x wr => ∃ i : Nat, i ≤ rs.length ∧ x = .int .i64 (i : Int) ∧ v = .bool ((rs.take i).all bentB) ∧ Below w4.heap.size w4 wr) (fun _ x _ => rs.length - (intOf x).toNat)
    case atStart => exact ⟨0, Nat.zero_le _, rfl, rfl, Below.refl _ _⟩
    case round =>
      obtain ⟨i, hi, rfl, rfl, hbl⟩ := hrel
      have HBL := Lib.hid hbl
      clear hbl
      by_cases hir : i < rs.length
      · have hir' : (i : Int) < (rs.length : Int) := by omega
        have i0 : (0 : Int) ≤ (i : Int) := by omega
        have HTA := Lib.hid (take_all (f := bentB) hir)
        have HZ := Lib.hid (Z.out.grow HBL.out)
        obtain ⟨b, off, Ak, ck, rfl, _, hcell, _, hrow⟩ := HZ.out.at_ hir
        obtain ⟨q, hq⟩ : ∃ q, (rs.take i).all bentB = q := ⟨_, rfl⟩
        rw [hq] at HTA
        rw [hq]
        clear hq
        cases q with
        | false =>
          clear hrow
          go_wp2
          go_roundw
          case rel => exact ⟨i + 1, by omega, by go_num, by rw [HTA.out]; rfl, HBL.out⟩
          case measure => simp [intOf]; omega
        | true =>
          obtain ⟨p, hp⟩ : ∃ p, bentB rs[i] = p := ⟨_, rfl⟩
          have HC := Lib.hid (implBent_of Ak ck _ _ rs[i] wr hrow (bent_row HG.out hir hp) rfl)
          rw [hp] at HTA
          clear hp hrow
          go_wp2_with fail
          refine HC.out.mono ?_
          rintro e w0 ⟨rfl, bb⟩
          have HB0 := Lib.hid (HBL.out.trans (bb.mono HBL.out.size))
          clear bb HC
          cases p with
          | false =>
            go_wp2
            go_roundw
            case rel => exact ⟨i + 1, by omega, by go_num, by rw [HTA.out]; rfl, HB0.out⟩
            case measure => simp [intOf]; omega
          | true =>
            go_wp2
            go_roundw
            case rel => exact ⟨i + 1, by omega, by go_num, by rw [HTA.out]; rfl, HB0.out⟩
            case measure => simp [intOf]; omega
      · obtain rfl : i = rs.length := by omega
        have hir' : ¬ (rs.length : Int) < (rs.length : Int) := by omega
        have hta : (rs.take rs.length).all bentB = bentsB rs := by rw [List.take_length]; rfl
        rw [hta]
        clear hta
        obtain ⟨bq, hbq⟩ : ∃ q, bentsB rs = q := ⟨_, rfl⟩
        have HBN := Lib.hid hbq
        rw [hbq]
        clear hbq
        replace BB := Lib.hid (below_then BB.out (Nat.le_refl _) HBL.out)
        replace Z := Lib.hid (Z.out.grow HBL.out)
        replace G := Lib.hid (G.out.grow HBL.out)
        clear HBL
        obtain ⟨m, hm⟩ : ∃ m, out.length = m := ⟨_, rfl⟩
        have HML := Lib.hid hm
        rw [hm] at f3
        rw [hm]
        clear hm
        obtain ⟨WB, hWB⟩ : ∃ W, W = wr := ⟨_, rfl⟩
        subst hWB
        go_wp2
        go_loopw [10] (fun x wr => ∃ k : Nat, k ≤ m ∧ x = .int .i64 (k : Int) ∧ Below WB.heap.size WB wr) (fun x _ => m - (intOf x).toNat)
        case atStart => exact ⟨0, Nat.zero_le _, rfl, Below.refl _ _⟩
        case round =>
          obtain ⟨k, hk, rfl, hbl⟩ := hrel
          have HBL := Lib.hid hbl
          clear hbl
          by_cases hkm : k < m
          · have hkm' : (k : Int) < (m : Int) := by omega
            have k0 : (0 : Int) ≤ (k : Int) := by omega
            have hko : k < out.length := by rw [HML.out]; exact hkm
            obtain ⟨e1, e2⟩ := HEA.out k hko
            have HC := Lib.hid (implShareTry_any A c rs (k : Int) wr (Z.out.grow HBL.out).toAll)
            have HSM := Lib.hid (share_some' e1)
            rw [e2] at HC
            clear e1 e2
            obtain ⟨y, hy⟩ : ∃ y, out[k] = y := ⟨_, rfl⟩
            rw [hy] at HC
            go_wp2_with fail
            refine HC.out.mono ?_
            rintro e w0 ⟨A9, c9, rfl, hi9, hb9⟩
            have HB0 := Lib.hid (HBL.out.trans (hb9.mono HBL.out.size))
            obtain ⟨bo, oo, rfl, _, _, hco⟩ := (G.out.grow HB0.out).at_ hko
            rw [hy] at hco
            clear hi9 hb9 HC hy
            rw [HSM.out]
            go_wp2
            go_roundw
            case rel => exact ⟨k + 1, by omega, by go_num, HB0.out⟩
            case measure => simp [intOf]; omega
          · obtain rfl : k = m := by omega
            have hkm' : ¬ (k : Int) < (k : Int) := by omega
            replace BB := Lib.hid (below_then BB.out (Nat.le_refl _) HBL.out)
            have HRB : Hid (bq = true → (rowB out && bentB out) = true) := fun e => by rw [HRW.out, HBT.out (by rw [HBN.out]; exact e)]; rfl
            have HGB := Lib.hid (G.out.grow HBL.out)
            cases bq with
            | false =>
              clear HBL
              go_wp2
              go_ret
              exact ⟨rfl, BB.out⟩
            | true =>
              have HC := Lib.hid (implBent_of A2 c2 _ _ out wr HGB.out (HRB.out rfl) HML.out.symm)
              clear HBL
              go_wp2_with fail
              refine HC.out.mono ?_
              rintro e w0 ⟨rfl, bb⟩
              replace BB := Lib.hid (below_then BB.out (Nat.le_refl _) bb)
              clear bb HC
              go_wp2
              go_ret
              exact ⟨rfl, BB.out⟩
end Go.Proofs.Ytanmjaljcnihlaa
