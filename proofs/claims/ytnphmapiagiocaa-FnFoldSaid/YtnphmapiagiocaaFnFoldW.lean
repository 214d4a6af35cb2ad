/-
  The law FnFold walked: for all codes it returns true, and nothing that lay before has turned. Conditions: none but those of its row.
-/
import Derived.Test.YtnphmapiagiocaaDrawHill
import Derived.Test.YtnphmapiagiocaaDrawTwo
import Derived.Test.YtnphmapiagiocaaHl2
import Derived.Test.YtnphmapiagiocaaHl6
import Derived.Test.YtnphmapiagiocaaTotal
import Derived.Test.YtnphmapiagiocaaSame
namespace Go.Proofs.Ytnphmapiagiocaa
open Go.RowKit

set_option maxRecDepth 100000 in
set_option maxHeartbeats 2000000 in
theorem DrawHillFold_any (A : Option Addr) (c : Nat) (bs : List Int) (w : World) (h : BR w w.heap.size A bs) (hc : bs.length ≤ c) (hc2 : c ≤ 9000000000000000000) :
    Calls Try.prog 27 #[.slice A bs.length c] w (TwoPost w 8) := by
  have H := Lib.hid h
  clear h
  go_enter Try.func27, Try.ntmps27
  go_wp2_with fail
  refine (l6Open_any A c bs _ H.out hc hc2).mono ?_
  rintro e w1 ⟨rfl, hr, hb⟩
  have B0 := Lib.hid hb; have R0 := Lib.hid hr
  have hs := hb.size
  clear hb hr
  go_wp2_with fail
  refine (l91Hill_any w.heap.size 0 6 _ R0.out (by omega) (by omega)).mono ?_
  rintro e w2 ⟨A2, c2, zs, p2, rfl, hz, hi, hb, hr, hp2, hcap⟩
  have HK := Lib.hid hcap
  clear hcap
  have I0 := Lib.hid hi
  have hs1 : w.heap.size < w1.heap.size := R0.out.lt
  replace B0 := Lib.hid (B0.out.trans (hb.toBelow hs (Nat.le_refl _)))
  replace R0 := Lib.hid hr
  have hs2 := B0.out.size
  clear hi hb hr hs
  go_wp2_with fail
  refine (l91Hill_any w.heap.size p2 7 _ R0.out (by omega) (by omega)).mono ?_
  rintro e w4 ⟨A4, c4, zs4, p4, rfl, hz4, hi, hb, hr, -, hcap⟩
  have HK2 := Lib.hid hcap
  clear hcap
  have J0 := Lib.hid hi
  replace I0 := Lib.hid (I0.out.but hb (by have := I0.out.2.2.1; omega) (.inl hs1))
  replace B0 := Lib.hid (B0.out.trans (hb.toBelow hs2 (Nat.le_refl _)))
  clear hi hb hr
  go_wp2
  go_ret2
  exact twoPost_of rfl rfl (by omega) (by omega) I0.out J0.out (by omega) hs2 B0.out rfl rfl HK.out HK2.out

theorem implHillRound_of {q : Bool} {n lo hi : Nat} (A : Option Addr) (c : Nat) (zs : List Int) (w : World) (h : IR w lo hi A zs) (hn : n = zs.length) (hq : hillRoundB zs = q) :
    Calls Try.prog 24 #[.slice A n c] w fun e w' => e = .returned (.bool q) ∧ Below w.heap.size w w' := by subst hn; subst hq; exact implHillRound_any A c zs w h.toAll

theorem sum_take_bd {zs : List Int} (hr : rowB zs = true) : ∀ k, k ≤ zs.length → totL (zs.take k) = (zs.take k).sum ∧ -(1000 * (k : Int)) ≤ (zs.take k).sum ∧ (zs.take k).sum ≤ 1000 * (k : Int) := by
  intro k
  induction k with
  | zero => intro _; simp [totL]
  | succ k ih =>
    intro h
    obtain ⟨h1, h2, h3⟩ := ih (by omega)
    obtain ⟨g1, g2⟩ := row_getD hr k (by omega)
    rw [getD_in (by omega)] at g1 g2
    have hl := (rowB_true.1 hr).2
    rw [← take_snoc zs k (by omega), totL_snoc, h1, List.sum_append]
    have e : ([zs[k]] : List Int).sum = zs[k] := by simp
    rw [e]
    refine ⟨?_, by omega, by omega⟩
    unfold wrap64
    omega
theorem tot_row {zs : List Int} (hr : rowB zs = true) : totL zs = zs.sum ∧ -13000 ≤ zs.sum ∧ zs.sum ≤ 13000 := by
  obtain ⟨h1, h2, h3⟩ := sum_take_bd hr zs.length (Nat.le_refl _)
  rw [List.take_length] at h1 h2 h3
  have hl := (rowB_true.1 hr).2
  exact ⟨h1, by omega, by omega⟩
theorem fold_known {za zb out : List Int} (h : foldM za zb = some out) : foldM zb za = some out ∧ totL out = totL za * totL zb ∧ -13000 ≤ totL out ∧ totL out ≤ 13000 ∧ (hillRoundB za = true → hillRoundB zb = true → hillRoundB out = true) := by
  cases hh : (hillB za && hillB zb) with
  | false => rw [foldM_no hh] at h; cases h
  | true =>
    have hh2 : (hillB zb && hillB za) = true := by rw [Bool.and_comm]; exact hh
    rw [foldM_yes hh] at h
    rw [foldM_yes hh2, foldHL_comm zb za]
    obtain ⟨h1, rfl⟩ := doneM_some h
    rw [Bool.and_eq_true] at hh
    obtain ⟨ha, hb⟩ := hh
    obtain ⟨na, ra⟩ := hill_true ha
    obtain ⟨nb, rb⟩ := hill_true hb
    have la := (rowB_true.1 ra).2
    have lb := (rowB_true.1 rb).2
    obtain ⟨t1, t2, t3⟩ := tot_row h1
    refine ⟨h, ?_, by rw [t1]; exact t2, by rw [t1]; exact t3, fun p q => ?_⟩
    · rw [t1, (tot_row ra).1, (tot_row rb).1, fold_total za zb (by omega) (by omega)]
    · have e1 : roundB za = true := by unfold hillRoundB at p; rw [Bool.and_eq_true] at p; exact p.2
      have e2 : roundB zb = true := by unfold hillRoundB at q; rw [Bool.and_eq_true] at q; exact q.2
      obtain ⟨g1, g2⟩ := fold_rd (by omega) na nb ((roundB_iff na).1 e1) ((roundB_iff nb).1 e2)
      unfold hillRoundB hillB
      rw [g1, h1, (roundB_iff g1).2 g2]; rfl

set_option maxHeartbeats 1500000 in
set_option maxRecDepth 100000 in
theorem lawFnFold_any (A0 : Option Addr) (c0 : Nat) (bs : List Int) (w : World) (h0 : BR w w.heap.size A0 bs) (hc : bs.length ≤ c0) (hc2 : c0 ≤ 9000000000000000000) :
    Calls Try.prog 8 #[.slice A0 bs.length c0] w fun e w' => e = .returned (.bool true) ∧ Below w.heap.size w w' := by
  by_cases hbig : (1048576 : Int) < (bs.length : Int)
  · clear h0
    go_enter Try.func8, Try.ntmps8
    go_wp2
    go_ret
    exact ⟨rfl, Below.refl _ _⟩
  have H0 := Lib.hid h0
  clear h0
  have BB := Lib.hid (Below.refl w.heap.size w)
  go_enter Try.func8, Try.ntmps8
  go_wp2_with fail
  refine (DrawHillFold_any _ _ bs _ H0.out hc hc2).mono ?_
  rintro e w1 ⟨A, c, za, B, d, zb, rfl, hza, hzb, iwa, iwb, bb⟩
  replace BB := Lib.hid (below_then BB.out (Nat.le_refl _) bb)
  have ZA := Lib.hid iwa.toAll
  have ZB := Lib.hid iwb.toAll
  clear bb
  clear iwa iwb hza hzb
  go_wp2_with fail
  refine (implHillFold_any _ _ za _ _ zb _ ZA.out.toAll ZB.out.toAll).mono ?_
  rintro e w2 ⟨A2, c2, rfl, iw, bb⟩
  replace BB := Lib.hid (below_then BB.out (Nat.le_refl _) bb)
  replace ZA := Lib.hid (ZA.out.grow bb)
  replace ZB := Lib.hid (ZB.out.grow bb)
  have G := Lib.hid iw.toAll
  clear bb
  clear iw
  go_wp2_with fail
  refine (specHillFold_any _ _ za _ _ zb _ ZA.out.toAll ZB.out.toAll).mono ?_
  rintro e w3 ⟨A3, c3, rfl, iw, bb⟩
  replace BB := Lib.hid (below_then BB.out (Nat.le_refl _) bb)
  replace ZA := Lib.hid (ZA.out.grow bb)
  replace ZB := Lib.hid (ZB.out.grow bb)
  replace G := Lib.hid (G.out.grow bb)
  have V := Lib.hid iw.toAll
  clear bb
  clear iw
  obtain ⟨o, hm⟩ : ∃ o, foldM za zb = o := ⟨_, rfl⟩
  rw [hm] at G V
  rw [hm]
  cases o with
  | none =>
    clear hm
    replace G : Hid (IR w3 _ _ A2 []) := G
    replace V : Hid (IR w3 _ _ A3 []) := V
    go_wp2_with fail
    refine (sameInts_b _ _ _ _ _ _ _ _ _ _ [] _ G.out V.out rfl rfl).mono ?_
    rintro e w4 ⟨rfl, bb⟩
    replace BB := Lib.hid (below_then BB.out (Nat.le_refl _) bb)
    replace G := Lib.hid (G.out.grow bb)
    replace V := Lib.hid (V.out.grow bb)
    clear bb
    go_wp2_with fail
    refine (sameInts_b _ _ _ _ _ _ _ _ _ _ [] _ G.out V.out rfl rfl).mono ?_
    rintro e w5 ⟨rfl, bb⟩
    replace BB := Lib.hid (below_then BB.out (Nat.le_refl _) bb)
    replace G := Lib.hid (G.out.grow bb)
    replace V := Lib.hid (V.out.grow bb)
    clear bb
    go_wp2
    go_ret
    exact ⟨rfl, BB.out⟩
  | some out =>
    have e1 : (some out).getD [] = out := rfl
    rw [e1]
    replace G : Hid (IR w3 _ _ A2 out) := G
    replace V : Hid (IR w3 _ _ A3 out) := V
    have HM := Lib.hid hm
    clear hm e1
    go_wp2_with fail
    refine (sameInts_b _ _ _ _ _ _ _ _ _ _ out _ G.out V.out rfl rfl).mono ?_
    rintro e w4 ⟨rfl, bb⟩
    replace BB := Lib.hid (below_then BB.out (Nat.le_refl _) bb)
    replace ZA := Lib.hid (ZA.out.grow bb)
    replace ZB := Lib.hid (ZB.out.grow bb)
    replace G := Lib.hid (G.out.grow bb)
    replace V := Lib.hid (V.out.grow bb)
    clear bb
    clear V
    obtain ⟨h1, h2, h3, h4, hq⟩ := fold_known HM.out
    have FM := Lib.hid h1
    obtain ⟨te, hto⟩ : ∃ x, totL out = x := ⟨_, rfl⟩
    obtain ⟨ta, hta⟩ : ∃ x, totL za = x := ⟨_, rfl⟩
    obtain ⟨tb, htb⟩ : ∃ x, totL zb = x := ⟨_, rfl⟩
    rw [hto] at h2 h3 h4
    rw [hta, htb] at h2
    have HTO := Lib.hid hto; have HTA := Lib.hid hta; have HTB := Lib.hid htb
    obtain ⟨p, hp⟩ : ∃ p, hillRoundB za = p := ⟨_, rfl⟩
    obtain ⟨q, hqb⟩ : ∃ q, hillRoundB zb = q := ⟨_, rfl⟩
    obtain ⟨r, hrb⟩ : ∃ q, hillRoundB out = q := ⟨_, rfl⟩
    have HP := Lib.hid hp; have HQ := Lib.hid hqb; have HR := Lib.hid hrb
    have HO : Imp2 p q r := fun e1 e2 => by rw [← hrb]; exact hq (by rw [hp, e1]) (by rw [hqb, e2])
    have s1 : IntKind.i64.wrap (ta * tb) = te := by rw [← h2]; exact IntWalk.i64_in _ (by omega)
    clear h1 h2 hto hta htb hp hqb hrb hq HM
    go_wp2_with fail
    refine (implHillFold_any _ _ zb _ _ za _ ZB.out.toAll ZA.out.toAll).mono ?_
    rintro e w5 ⟨A5, c5, rfl, iw, bb⟩
    replace BB := Lib.hid (below_then BB.out (Nat.le_refl _) bb)
    replace ZA := Lib.hid (ZA.out.grow bb)
    replace ZB := Lib.hid (ZB.out.grow bb)
    replace G := Lib.hid (G.out.grow bb)
    have X := Lib.hid iw.toAll
    clear bb
    clear iw
    rw [FM.out] at X
    rw [FM.out]
    have e1 : (some out).getD [] = out := rfl
    rw [e1]
    replace X : Hid (IR w5 _ _ A5 out) := X
    clear e1
    go_wp2_with fail
    refine (sameInts_b _ _ _ _ _ _ _ _ _ _ out _ X.out G.out rfl rfl).mono ?_
    rintro e w6 ⟨rfl, bb⟩
    replace BB := Lib.hid (below_then BB.out (Nat.le_refl _) bb)
    replace ZA := Lib.hid (ZA.out.grow bb)
    replace ZB := Lib.hid (ZB.out.grow bb)
    replace G := Lib.hid (G.out.grow bb)
    replace X := Lib.hid (X.out.grow bb)
    clear bb
    clear X
    go_wp2_with fail
    refine (total_any A2 _ c2 _ _ out _ G.out rfl).mono ?_
    rintro e w' ⟨rfl, e⟩
    subst e
    rw [HTO.out]
    go_wp2_with fail
    refine (total_any A _ c _ _ za _ ZA.out rfl).mono ?_
    rintro e w' ⟨rfl, e⟩
    subst e
    rw [HTA.out]
    go_wp2_with fail
    refine (total_any B _ d _ _ zb _ ZB.out rfl).mono ?_
    rintro e w' ⟨rfl, e⟩
    subst e
    rw [HTB.out]
    go_wp2_with fail
    refine (implHillRound_of _ _ za _ ZA.out rfl HP.out).mono ?_
    rintro e w7 ⟨rfl, bb⟩
    replace BB := Lib.hid (below_then BB.out (Nat.le_refl _) bb)
    replace ZA := Lib.hid (ZA.out.grow bb)
    replace ZB := Lib.hid (ZB.out.grow bb)
    replace G := Lib.hid (G.out.grow bb)
    clear bb
    cases p with
    | false =>
      go_wp2
      go_ret
      exact ⟨rfl, BB.out⟩
    | true =>
      go_wp2_with fail
      refine (implHillRound_of _ _ zb _ ZB.out rfl HQ.out).mono ?_
      rintro e w8 ⟨rfl, bb⟩
      replace BB := Lib.hid (below_then BB.out (Nat.le_refl _) bb)
      replace ZA := Lib.hid (ZA.out.grow bb)
      replace ZB := Lib.hid (ZB.out.grow bb)
      replace G := Lib.hid (G.out.grow bb)
      clear bb
      cases q with
      | false =>
        go_wp2
        go_ret
        exact ⟨rfl, BB.out⟩
      | true =>
        go_wp2_with fail
        refine (implHillRound_of _ _ out _ G.out rfl HR.out).mono ?_
        rintro e w9 ⟨rfl, bb⟩
        replace BB := Lib.hid (below_then BB.out (Nat.le_refl _) bb)
        replace ZA := Lib.hid (ZA.out.grow bb)
        replace ZB := Lib.hid (ZB.out.grow bb)
        replace G := Lib.hid (G.out.grow bb)
        clear bb
        have hqt := HO rfl rfl
        subst hqt
        go_wp2
        go_ret
        exact ⟨rfl, BB.out⟩
end Go.Proofs.Ytnphmapiagiocaa
