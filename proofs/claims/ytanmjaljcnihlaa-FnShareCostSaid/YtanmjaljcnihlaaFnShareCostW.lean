/-
  The law FnShareCost walked: for all codes it returns true, and nothing that lay before has turned. Conditions: none but those of its row.
-/
import Derived.Test.YtanmjaljcnihlaaDSh
import Derived.Test.YtanmjaljcnihlaaSgA
import Derived.Test.YtanmjaljcnihlaaSame
import Derived.Test.YtanmjaljcnihlaaTotal
import Derived.Test.YtanmjaljcnihlaaMathA
namespace Go.Proofs.Ytanmjaljcnihlaa
open Go.RowKit

theorem totW_of {l : List Int} (h0 : ∀ x, x ∈ l → 0 ≤ x ∧ x ≤ 1000) (hl : l.length ≤ 1000) : totW l = totL l := by
  have key : ∀ (m : List Int) (a : Int), (∀ x, x ∈ m → 0 ≤ x ∧ x ≤ 1000) → 0 ≤ a → a + 1000 * (m.length : Int) ≤ 9000000 → m.foldl (fun a z => wrap64 (a + z)) a = a + totL m := by
    intro m
    induction m with
    | nil => intro a _ _ _; simp [totL]
    | cons x m ih =>
      intro a hm ha hb
      have hx := hm x List.mem_cons_self
      rw [List.length_cons] at hb
      have hw : wrap64 (a + x) = a + x := by unfold wrap64; omega
      rw [List.foldl_cons, hw, ih (a + x) (fun y hy => hm y (List.mem_cons_of_mem _ hy)) (by omega) (by omega)]
      show a + x + totL m = a + (x + totL m)
      omega
  have := key l 0 h0 (Int.le_refl _) (by omega)
  unfold totW
  rw [this]
  omega
theorem places_tot {rs : List (List Int)} {l : List Int} (h : placesB rs l = true) : totW l = totL l := by
  obtain ⟨h1, h2, h3⟩ := places_facts h
  refine totW_of (fun x hx => ?_) (by omega)
  obtain ⟨k, hk, rfl⟩ := List.getElem_of_mem hx
  obtain ⟨p, e1, e2, e3, e4, e5⟩ := h3 k (by omega)
  rw [getD_at hk] at e1
  omega
theorem take_all {rs : List (List Int)} {f : List Int → Bool} {i : Nat} (hi : i < rs.length) : (rs.take (i + 1)).all f = ((rs.take i).all f && f rs[i]) := by
  rw [← takeR_snoc rs i hi, List.all_append]
  simp
theorem bent_row {rs : List (List Int)} {i : Nat} (hg : givenB rs = true) (hi : i < rs.length) {q : Bool} (h : bentB rs[i] = q) : (rowB rs[i] && bentB rs[i]) = q := by
  rw [(given_true.1 hg).1 rs[i] (List.getElem_mem hi), h, Bool.true_and]

theorem try_of {rs : List (List Int)} {l : List Int} (h : placesB rs l = true) : (shareM rs (totL l)).isSome = true ∧ shareC rs (totL l) = (tryL rs (totL l)).1 := by
  have h1 := (places_share h).1
  exact ⟨by rw [(share_yes h1).2.1]; rfl, (share_yes h1).1⟩
theorem cost_of {rs : List (List Int)} {l : List Int} (h : placesB rs l = true) : shareCostL rs l = costS rs l := by unfold shareCostL; rw [h]; rfl
theorem moves_of {rs : List (List Int)} {l : List Int} (h : placesB rs l = true) : shareMovesL rs l = movesL rs l := by unfold shareMovesL; rw [h]; rfl
theorem prices_of {rs : List (List Int)} {l : List Int} (h : pricesB rs l = true) : placesB rs l = true ∧ priceLo rs l ≤ priceHi rs l := by
  have h1 := h
  unfold pricesB at h1
  rw [Bool.and_eq_true, decide_eq_true_eq] at h1
  refine ⟨h1.1, ?_⟩
  unfold priceLo priceHi
  rw [h, if_pos rfl, if_pos rfl]
  exact h1.2

set_option maxHeartbeats 1500000 in
set_option maxRecDepth 100000 in
theorem lawFnShareCost_any (A0 : Option Addr) (c0 : Nat) (bs : List Int) (w : World) (h0 : BR w w.heap.size A0 bs) (hc : bs.length ≤ c0) (hc2 : c0 ≤ 9000000000000000000) :
    Calls Try.prog 5 #[.slice A0 bs.length c0] w fun e w' => e = .returned (.bool true) ∧ Below w.heap.size w w' := by
  by_cases hbig : (1048576 : Int) < (bs.length : Int)
  · clear h0
    go_enter Try.func5, Try.ntmps5
    go_wp2
    go_ret
    exact ⟨rfl, Below.refl _ _⟩
  have H0 := Lib.hid h0
  clear h0
  have BB := Lib.hid (Below.refl w.heap.size w)
  go_enter Try.func5, Try.ntmps5
  go_wp2_with fail
  refine (DrawShareCost_any _ _ bs _ H0.out hc hc2).mono ?_
  rintro e w1 ⟨A, c, rs, A2, c2, l, rfl, iw, jw, bb⟩
  replace BB := Lib.hid (below_then BB.out (Nat.le_refl _) bb)
  have Z := Lib.hid iw.toAll
  have G := Lib.hid jw.toAll
  clear bb
  clear iw jw
  obtain ⟨q, hq⟩ : ∃ q, placesB rs l = q := ⟨_, rfl⟩
  obtain ⟨x, hx⟩ : ∃ x, shareCostL rs l = x := ⟨_, rfl⟩
  have HQ := Lib.hid hq; have HX := Lib.hid hx
  clear hq hx
  go_wp2_with fail
  refine (implShareCost_any _ _ rs _ _ l _ Z.out.toAll G.out.toAll).mono ?_
  rintro e w2 ⟨rfl, bb⟩
  replace BB := Lib.hid (below_then BB.out (Nat.le_refl _) bb)
  replace Z := Lib.hid (Z.out.grow bb)
  replace G := Lib.hid (G.out.grow bb)
  clear bb
  rw [HX.out, HQ.out]
  go_wp2_with fail
  refine (specShareCost_any _ _ _ _ rs _ _ _ _ l _ Z.out G.out).mono ?_
  rintro e w3 ⟨rfl, bb⟩
  replace BB := Lib.hid (below_then BB.out (Nat.le_refl _) bb)
  replace Z := Lib.hid (Z.out.grow bb)
  replace G := Lib.hid (G.out.grow bb)
  clear bb
  rw [HX.out, HQ.out]
  cases q with
  | false =>
    go_wp2
    go_ret
    exact ⟨rfl, BB.out⟩
  | true =>
    have HPL := HQ
    have HTT : Hid (totW l = totL l) := places_tot HPL.out
    go_wp2_with fail
    refine (total_any _ _ _ _ _ l _ G.out rfl).mono ?_
    rintro e w' ⟨rfl, rfl⟩
    rw [HTT.out]
    go_wp2_with fail
    refine (implShareTry_any _ _ rs (totL l) _ Z.out.toAll).mono ?_
    rintro e w4 ⟨A5, c5, rfl, iw, bb⟩
    replace BB := Lib.hid (below_then BB.out (Nat.le_refl _) bb)
    replace Z := Lib.hid (Z.out.grow bb)
    replace G := Lib.hid (G.out.grow bb)
    clear bb
    clear iw
    obtain ⟨t1, t2⟩ := try_of HPL.out
    rw [t1]
    obtain ⟨y, hy⟩ : ∃ y, shareC rs (totL l) = y := ⟨_, rfl⟩
    have HY : Hid ((tryL rs (totL l)).1 = y) := by show _ = _; rw [← t2, hy]
    rw [hy]
    clear t1 t2 hy
    have hxy : y ≤ x := by rw [← HY.out, ← HX.out, cost_of HPL.out]; exact cost_law HPL.out
    go_wp2
    go_ret
    exact ⟨rfl, BB.out⟩
end Go.Proofs.Ytanmjaljcnihlaa
