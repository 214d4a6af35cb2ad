/-
  Sharing in the model, all functions of chapter 6 but ShareGreedy. Conditions: the cells are there.
-/
import Derived.Test.YtanoojpmokbiaabTsA
import Derived.Test.YtanoojpmokbiaabShA
import Derived.Test.YtanoojpmokbiaabTsB
namespace Go.Proofs.Ytanoojpmokbiaab
open Go.RowKit

theorem given_bad {rs : List (List Int)} {k : Nat} (hk : k < rs.length) (h : rowB rs[k] = false) : givenB rs = false := by
  unfold givenB
  rw [show rs.all rowB = false from List.all_eq_false.2 ⟨rs[k], List.getElem_mem hk, by rw [h]; simp⟩]
  rfl
theorem given_all {rs : List (List Int)} (h : ∀ (k : Nat) (hk : k < rs.length), rowB rs[k] = true) : givenB rs = inB 1 4 (rs.length : Int) := by
  unfold givenB
  rw [show rs.all rowB = true from List.all_eq_true.2 fun x hx => by
    obtain ⟨j, hj, rfl⟩ := List.getElem_of_mem hx
    exact h j hj, Bool.true_and]

set_option maxRecDepth 100000 in
set_option maxHeartbeats 1000000 in
theorem l6sGiven_any (A : Option Addr) (c lo hi : Nat) (rs : List (List Int)) (w : World) (h : IRR w lo hi A rs) :
    Calls Try.prog 20 #[.slice A rs.length c] w fun e w' => e = .returned (.bool (givenB rs)) ∧ w = w' := by
  have hl := h.1
  have H := Lib.hid h
  clear h
  go_enter Try.func20, Try.ntmps20
  go_wp2
  go_loop [3] (fun i => ∃ k : Nat, k ≤ rs.length ∧ i = .int .i64 k ∧ Hid (∀ (j : Nat) (hj : j < rs.length), j < k → rowB rs[j] = true)) (fun i => rs.length - (intOf i).toNat)
  case atStart => exact ⟨0, Nat.zero_le _, rfl, fun j _ hj => absurd hj (by omega)⟩
  case round =>
    obtain ⟨k, hk, rfl, hok⟩ := hrel
    by_cases hlt : k < rs.length
    · obtain ⟨b, off, Ak, ck, rfl, _, hc, _, hrow⟩ := H.out.at_ hlt
      have hlt' : (k : Int) < (rs.length : Int) := by omega
      cases hr : rowB rs[k] with
      | false =>
        have HG := Lib.hid (given_bad hlt hr)
        have HR := Lib.hid hr
        obtain ⟨zs, hzs⟩ : ∃ zs, rs[k] = zs := ⟨_, rfl⟩
        rw [hzs] at HR hc hrow
        clear hzs hr hok
        go_wp2_with fail
        refine (specRowIn_any _ _ _ _ zs _ hrow).mono ?_
        rintro e w' ⟨rfl, rfl⟩
        rw [HR.out]
        go_wp2
        go_ret
        exact ⟨by rw [HG.out]; rfl, rfl⟩
      | true =>
        have HR := Lib.hid hr
        have HR2 := Lib.hid hr
        obtain ⟨zs, hzs⟩ : ∃ zs, rs[k] = zs := ⟨_, rfl⟩
        rw [hzs] at HR hc hrow
        clear hzs hr
        go_wp2_with fail
        refine (specRowIn_any _ _ _ _ zs _ hrow).mono ?_
        rintro e w' ⟨rfl, rfl⟩
        rw [HR.out]
        go_wp2
        go_round
        case rel =>
          refine ⟨k + 1, by omega, by go_num, fun j hj h1 => ?_⟩
          by_cases e : j = k
          · subst e; exact HR2.out
          · exact hok.out j hj (by omega)
        case measure => simp [intOf]; omega
    · obtain rfl : k = rs.length := by omega
      have HG : Hid (givenB rs = inB 1 4 (rs.length : Int)) := given_all fun k hk => hok.out k hk hk
      clear hok
      have hlt' : ¬ (rs.length : Int) < (rs.length : Int) := by omega
      go_wp2_with fail
      refine (l6In_any _ _ _ _).mono ?_
      rintro e w' ⟨rfl, rfl⟩
      go_wp2
      go_ret
      exact ⟨ret_bool HG.out.symm, rfl⟩

theorem rowAt_get {rs : List (List Int)} {k : Nat} (hk : k < rs.length) : rowAt rs k = rs[k] := by simp [rowAt, List.getD, hk]
theorem getD_at {l : List Int} {k : Nat} (hk : k < l.length) : l.getD k 0 = l[k] := by simp [List.getD, hk]
theorem places_bad {rs : List (List Int)} {l : List Int} {k : Nat} (hk : k < l.length) (h : inB 0 (((rowAt rs k).length : Int) - 1) (l.getD k 0) = false) : placesB rs l = false := by
  unfold placesB
  rw [show ((List.range l.length).all fun i => inB 0 (((rowAt rs i).length : Int) - 1) (l.getD i 0)) = false from List.all_eq_false.2 ⟨k, List.mem_range.2 hk, by rw [h]; simp⟩, Bool.and_false]
theorem places_all {rs : List (List Int)} {l : List Int} (hg : givenB rs = true) (hl : l.length = rs.length) (h : ∀ k, k < l.length → inB 0 (((rowAt rs k).length : Int) - 1) (l.getD k 0) = true) : placesB rs l = true := by
  unfold placesB
  rw [hg, decide_eq_true hl, Bool.true_and, Bool.true_and, List.all_eq_true]
  intro x hx
  exact h x (List.mem_range.1 hx)

/-- The rows, as they are shared: what a place of row i gives, and how long the rows are. -/
theorem places_facts {rs : List (List Int)} {l : List Int} (h : placesB rs l = true) : l.length = rs.length ∧ rs.length ≤ 4 ∧ ∀ (k : Nat) (hk : k < rs.length), ∃ (p : Nat), l.getD k 0 = (p : Int) ∧ p = plAt l k ∧ p < rs[k].length ∧ rs[k].length ≤ 12 ∧ ∀ j, -1000 ≤ rs[k].getD j 0 ∧ rs[k].getD j 0 ≤ 1000 := by
  obtain ⟨hg, hp⟩ := places_true.1 h
  obtain ⟨g1, g2, g3⟩ := given_true.1 hg
  refine ⟨hp.len, g3, fun k hk => ?_⟩
  obtain ⟨q1, q2⟩ := plAt_is hp hk
  have hr := rowB_true.1 (g1 rs[k] (List.getElem_mem hk))
  rw [rowAt_get hk] at q2
  exact ⟨plAt l k, q1.symm, rfl, q2, hr.2.2, getD_fits hr.1⟩
/-- The cost of the first k places. -/
def costTo (rs : List (List Int)) (l : List Int) (k : Nat) : Int := sumN (fun i => (rowAt rs i).getD (plAt l i) 0) k
theorem costTo_succ (rs : List (List Int)) (l : List Int) (k : Nat) : costTo rs l (k + 1) = costTo rs l k + (rowAt rs k).getD (plAt l k) 0 := rfl
/-- What lies in memory for row k of a sharing. -/
theorem place_cells {W : World} {A : Option Addr} {lo hi : Nat} {rs : List (List Int)} {A1 : Option Addr} {lo1 hi1 : Nat} {l : List Int} (h : IRR W lo hi A rs) (h1 : IR W lo1 hi1 A1 l) (hp : placesB rs l = true) {k : Nat} (hk : k < rs.length) :
    ∃ b off bk ok ck b1 off1 m, A = some ⟨b, off, none⟩ ∧ A1 = some ⟨b1, off1, none⟩ ∧ W.cell? ⟨b, off + k, none⟩ = some (.slice (some ⟨bk, ok, none⟩) m ck) ∧ W.cell? ⟨b1, off1 + k, none⟩ = some (.int .i64 (plAt l k : Int)) ∧ (plAt l k < m ∧ m ≤ 12 ∧ (rowAt rs k).length = m) ∧
      (∀ j, j < m → W.cell? ⟨bk, ok + j, none⟩ = some (.int .i64 ((rowAt rs k).getD j 0))) ∧ (∀ j, -1000 ≤ (rowAt rs k).getD j 0 ∧ (rowAt rs k).getD j 0 ≤ 1000) := by
  obtain ⟨f1, f2, f3⟩ := places_facts hp
  obtain ⟨p, e1, e2, e3, e4, e5⟩ := f3 k hk
  obtain ⟨b, off, Ak, ck, rfl, _, hc, _, hrow⟩ := h.at_ hk
  have hkl : k < l.length := by omega
  obtain ⟨b1, off1, rfl, _, _, hc1⟩ := h1.at_ hkl
  rw [← getD_at hkl, e1] at hc1
  obtain ⟨bk, ok, rfl, _, _, hcs⟩ := hrow.2.2.2 (by omega)
  refine ⟨b, off, bk, ok, ck, b1, off1, rs[k].length, rfl, rfl, hc, by rw [← e2]; exact hc1, ⟨by omega, e4, by rw [rowAt_get hk]⟩, fun j hj => ?_, by rw [rowAt_get hk]; exact e5⟩
  rw [rowAt_get hk, getD_at hj]
  exact hcs j hj
theorem costTo_bd {rs : List (List Int)} {l : List Int} (hp : placesB rs l = true) {k : Nat} (hk : k ≤ rs.length) : -(1000 * (k : Int)) ≤ costTo rs l k ∧ costTo rs l k ≤ 1000 * (k : Int) :=
  sumN_abs k fun i hi => by
    obtain ⟨_, _, _, _, _, e5⟩ := (places_facts hp).2.2 i (by omega)
    rw [rowAt_get (by omega)]
    exact e5 _
theorem costTo_all {rs : List (List Int)} {l : List Int} (hp : placesB rs l = true) : costTo rs l rs.length = costS rs l := (cost_sum (places_facts hp).1).symm

/-- ShareCost's answer: a cost, and whether there is one. -/
def RetIB (w : World) (b : Bool) (x : Int) (e : Ending) (w' : World) : Prop := e = .returned (.tuple #[.int .i64 x, .bool b]) ∧ Below w.heap.size w w'

def priceLo (rs : List (List Int)) (l : List Int) : Int := if pricesB rs l then lowL rs l else 0
def priceHi (rs : List (List Int)) (l : List Int) : Int := if pricesB rs l then highL rs l else 0
/-- SharePrice's answer. -/
def RetP (w : World) (rs : List (List Int)) (l : List Int) (e : Ending) (w' : World) : Prop := e = .returned (.tuple #[.int .i64 (priceLo rs l), .int .i64 (priceHi rs l), .bool (pricesB rs l)]) ∧ Below w.heap.size w w'
theorem lowTo_bd {rs : List (List Int)} {l : List Int} (hp : placesB rs l = true) : ∀ k, k ≤ rs.length → -3000 ≤ lowTo rs l k ∧ lowTo rs l k ≤ 2000
  | 0, _ => ⟨by show -3000 ≤ (-3000 : Int); omega, by show (-3000 : Int) ≤ 2000; omega⟩
  | k + 1, h => by
    have ih := lowTo_bd hp k (by omega)
    obtain ⟨g1, _⟩ := given_true.1 (places_true.1 hp).1
    have h1 := (slope_bd g1 (places_true.1 hp).2 (i := k) (by omega)).1
    unfold lowTo
    split
    · next e => have := h1 e; omega
    · exact ih
theorem highTo_bd {rs : List (List Int)} {l : List Int} (hp : placesB rs l = true) : ∀ k, k ≤ rs.length → -2000 ≤ highTo rs l k ∧ highTo rs l k ≤ 3000
  | 0, _ => ⟨by show -2000 ≤ (3000 : Int); omega, by show (3000 : Int) ≤ 3000; omega⟩
  | k + 1, h => by
    have ih := highTo_bd hp k (by omega)
    obtain ⟨g1, _⟩ := given_true.1 (places_true.1 hp).1
    have h1 := (slope_bd g1 (places_true.1 hp).2 (i := k) (by omega)).2
    unfold highTo
    split
    · next e => have := h1 e; omega
    · exact ih

def betN (rs : List (List Int)) (l : List Int) (i k : Nat) : Int := if i ≠ k ∧ 0 < plAt l i ∧ plAt l k + 1 < (rowAt rs k).length ∧ moveD rs l i k < 0 then 1 else 0
theorem betN_bd (rs : List (List Int)) (l : List Int) (i k : Nat) : 0 ≤ betN rs l i k ∧ betN rs l i k ≤ 1 := by
  unfold betN
  split
  · omega
  · omega
theorem sumN_bd {f : Nat → Int} {B : Int} (h : ∀ k, 0 ≤ f k ∧ f k ≤ B) : ∀ n : Nat, 0 ≤ sumN f n ∧ sumN f n ≤ B * (n : Int)
  | 0 => ⟨Int.le_refl _, by show (0 : Int) ≤ B * ((0 : Nat) : Int); simp⟩
  | n + 1 => by
    have ih := sumN_bd h n
    have h1 := h n
    have e : B * ((n + 1 : Nat) : Int) = B * (n : Int) + B := by rw [Int.natCast_succ, Int.mul_add, Int.mul_one]
    show 0 ≤ sumN f n + f n ∧ sumN f n + f n ≤ _
    rw [e]
    omega
/-- The moves from the first rows that help. -/
def movesTo (rs : List (List Int)) (l : List Int) (n i : Nat) : Int := sumN (fun j => sumN (betN rs l j) n) i
theorem moves_all (rs : List (List Int)) (l : List Int) : movesTo rs l rs.length rs.length = movesL rs l := rfl
theorem movesTo_bd (rs : List (List Int)) (l : List Int) {n i k : Nat} (hn : n ≤ 4) (hi : i ≤ 4) (hk : k ≤ 4) : 0 ≤ movesTo rs l n i + sumN (betN rs l i) k ∧ movesTo rs l n i + sumN (betN rs l i) k ≤ 20 := by
  have h1 : ∀ j, 0 ≤ sumN (betN rs l j) n ∧ sumN (betN rs l j) n ≤ 4 := fun j => by
    have := sumN_bd (f := betN rs l j) (B := 1) (betN_bd rs l j) n
    omega
  have h2 := sumN_bd (f := fun j => sumN (betN rs l j) n) (B := 4) h1 i
  have h3 := sumN_bd (f := betN rs l i) (B := 1) (betN_bd rs l i) k
  unfold movesTo
  omega
theorem bet_no {rs : List (List Int)} {l : List Int} {i k m : Nat} (hm : (rowAt rs k).length = m) (h : i = k ∨ plAt l i = 0 ∨ plAt l k + 1 = m ∨ ¬ moveD rs l i k < 0) : betN rs l i k = 0 := by
  unfold betN
  rw [if_neg]
  rintro ⟨h1, h2, h3, h4⟩
  rcases h with h | h | h | h
  · exact h1 h
  · omega
  · omega
  · exact h h4
theorem bet_yes {rs : List (List Int)} {l : List Int} {i k m : Nat} (hm : (rowAt rs k).length = m) (h1 : i ≠ k) (h2 : 0 < plAt l i) (h3 : plAt l k + 1 < m) (h4 : moveD rs l i k < 0) : betN rs l i k = 1 := by
  unfold betN
  rw [if_pos ⟨h1, h2, by omega, h4⟩]

end Go.Proofs.Ytanoojpmokbiaab

namespace Go.Proofs.Ytanoojpmokbiaab
open Go.RowKit

/-- The greatest places of the first k rows, added up. -/
def mostTo (rs : List (List Int)) : Nat → Int
  | 0 => 0
  | k + 1 => mostTo rs k + ((rowAt rs k).length : Int) - 1
theorem mostTo_cons (r : List Int) (rs : List (List Int)) : ∀ k : Nat, mostTo (r :: rs) (k + 1) = (r.length : Int) - 1 + mostTo rs k
  | 0 => by show (0 : Int) + (r.length : Int) - 1 = (r.length : Int) - 1 + 0; omega
  | k + 1 => by
    show mostTo (r :: rs) (k + 1) + ((rowAt (r :: rs) (k + 1)).length : Int) - 1 = (r.length : Int) - 1 + (mostTo rs k + ((rowAt rs k).length : Int) - 1)
    rw [mostTo_cons r rs k, show rowAt (r :: rs) (k + 1) = rowAt rs k from rfl]
    omega
theorem mostTo_all : ∀ rs : List (List Int), mostTo rs rs.length = mostL rs
  | [] => rfl
  | r :: rs => by rw [List.length_cons, mostTo_cons, mostTo_all rs]; rfl
theorem mostTo_bd {rs : List (List Int)} (h : ∀ r, r ∈ rs → r.length ≤ 12) : ∀ k : Nat, k ≤ rs.length → -(k : Int) ≤ mostTo rs k ∧ mostTo rs k ≤ 12 * (k : Int)
  | 0, _ => ⟨Int.le_refl _, Int.le_refl _⟩
  | k + 1, hk => by
    have ih := mostTo_bd h k (by omega)
    have h1 := h rs[k] (List.getElem_mem (by omega))
    have e : mostTo rs (k + 1) = mostTo rs k + ((rowAt rs k).length : Int) - 1 := rfl
    rw [e, rowAt_get (show k < rs.length by omega)]
    omega

set_option maxRecDepth 100000 in
set_option maxHeartbeats 1000000 in
theorem l6sMost_any (A : Option Addr) (c lo hi : Nat) (rs : List (List Int)) (w : World) (h : IRR w lo hi A rs) (hb : ∀ r, r ∈ rs → r.length ≤ 12) (h4 : rs.length ≤ 4) :
    Calls Try.prog 22 #[.slice A rs.length c] w fun e w' => e = .returned (.int .i64 (mostL rs)) ∧ w' = w := by
  have H := Lib.hid h; have HBD := Lib.hid hb
  clear h hb
  obtain ⟨n, hn⟩ : ∃ n, rs.length = n := ⟨_, rfl⟩
  have HN := Lib.hid hn
  rw [hn] at h4
  rw [hn]
  clear hn
  go_enter Try.func22, Try.ntmps22
  go_wp2
  go_loop [3, 4] (fun v i => ∃ k : Nat, k ≤ n ∧ i = .int .i64 (k : Int) ∧ v = .int .i64 (mostTo rs k)) (fun _ i => n - (intOf i).toNat)
  case atStart => exact ⟨0, Nat.zero_le _, rfl, rfl⟩
  case round =>
    obtain ⟨k, hk, rfl, rfl⟩ := hrel
    by_cases hlt : k < n
    · have hkr : k < rs.length := by rw [HN.out]; exact hlt
      obtain ⟨b, off, Ak, ck, rfl, _, hc, _, hrow⟩ := H.out.at_ hkr
      have hbd := mostTo_bd HBD.out k (by omega)
      have hsc : mostTo rs (k + 1) = mostTo rs k + (rs[k].length : Int) - 1 := by rw [← rowAt_get hkr]; rfl
      have hl := HBD.out rs[k] (List.getElem_mem hkr)
      obtain ⟨m, hm⟩ : ∃ m, rs[k].length = m := ⟨_, rfl⟩
      obtain ⟨s, hs⟩ : ∃ s, mostTo rs k = s := ⟨_, rfl⟩
      rw [hm] at hc hsc hl
      rw [hs] at hbd hsc
      rw [hs]
      have HSC := Lib.hid hsc
      have s1 : IntKind.i64.wrap (s + (m : Int)) = s + (m : Int) := IntWalk.i64_in _ (by omega)
      have s2 : IntKind.i64.wrap (s + (m : Int) - 1) = s + (m : Int) - 1 := IntWalk.i64_in _ (by omega)
      have hlt' : (k : Int) < (n : Int) := by omega
      have k0 : (0 : Int) ≤ (k : Int) := by omega
      clear hrow hbd hsc hm hs hl
      go_wp2
      go_round
      case rel => exact ⟨k + 1, by omega, by go_num, by rw [HSC.out]⟩
      case measure => simp [intOf]; omega
    · obtain rfl : k = n := by omega
      have HC : Hid (mostTo rs k = mostL rs) := by show _ = _; rw [← mostTo_all, HN.out]
      have hlt' : ¬ (k : Int) < (k : Int) := by omega
      go_wp2
      go_ret
      rw [← HC.out]
      exact ⟨rfl, rfl⟩

theorem drop_cons {rs : List (List Int)} {i : Nat} (hi : i < rs.length) : rs.drop i = rs[i] :: rs.drop (i + 1) := List.drop_eq_getElem_cons hi
/-- The rows' bounds. -/
def Fit (rs : List (List Int)) : Prop := ∀ r, r ∈ rs → (∀ z, z ∈ r → -1000 ≤ z ∧ z ≤ 1000) ∧ r.length ≤ 12
theorem Fit.drop {rs : List (List Int)} (h : Fit rs) (i : Nat) : Fit (rs.drop i) := fun r hr => h r (List.mem_of_mem_drop hr)
theorem Fit.at_ {rs : List (List Int)} (h : Fit rs) {i : Nat} (hi : i < rs.length) : (∀ z, z ∈ rs[i] → -1000 ≤ z ∧ z ≤ 1000) ∧ rs[i].length ≤ 12 := h _ (List.getElem_mem hi)
theorem given_fit {rs : List (List Int)} (h : givenB rs = true) : Fit rs := fun r hr => by
  have := rowB_true.1 ((given_true.1 h).1 r hr)
  exact ⟨this.1, this.2.2⟩
theorem pow12_le : ∀ {d : Nat}, d ≤ 4 → pow12 d ≤ 20736
  | 0, _ => by decide
  | 1, _ => by decide
  | 2, _ => by decide
  | 3, _ => by decide
  | 4, _ => by decide
  | _ + 5, h => absurd h (by omega)
/-- All that is tried is small. -/
theorem small_s {rs : List (List Int)} (h : Fit rs) (h4 : rs.length ≤ 4) (n : Int) : (0 ≤ (tryL rs n).2.2 ∧ (tryL rs n).2.2 ≤ 30000) ∧ (-10000 ≤ (tryL rs n).1 ∧ (tryL rs n).1 ≤ 10000) ∧ (tryL rs n).2.1.length ≤ 4 := by
  have h1 := try_small h n
  have h2 := pow12_le h4
  exact ⟨⟨h1.1.1, by have := h1.1.2; omega⟩, ⟨by have := h1.2.1; omega, by have := h1.2.1; omega⟩, by have := h1.2.2; omega⟩
theorem small_t {rs : List (List Int)} (h : Fit rs) (h4 : rs.length ≤ 3) {r : List Int} (hr : ∀ z, z ∈ r → -1000 ≤ z ∧ z ≤ 1000) (n : Int) {j : Nat} (hj : j ≤ 12) : (0 ≤ (tryTo (tryL rs) r n j).2.2 ∧ (tryTo (tryL rs) r n j).2.2 ≤ 30000) ∧ (-10000 ≤ (tryTo (tryL rs) r n j).1 ∧ (tryTo (tryL rs) r n j).1 ≤ 10000) ∧ (tryTo (tryL rs) r n j).2.1.length ≤ 4 := by
  have h1 := small_len h hr n j
  have h2 : pow12 rs.length ≤ 1728 := by
    match rs.length, h4 with
    | 0, _ => decide
    | 1, _ => decide
    | 2, _ => decide
    | 3, _ => decide
    | _ + 4, h => exact absurd h (by omega)
  have h3 : (j : Int) * pow12 rs.length ≤ 12 * 1728 := Int.mul_le_mul (by omega) h2 (by have := pow12_pos rs.length; omega) (by omega)
  exact ⟨⟨h1.1.1, by have := h1.1.2; omega⟩, ⟨by have := h1.2.1; omega, by have := h1.2.1; omega⟩, by have := h1.2.2; omega⟩
theorem step_none {acc q : Res} {x : Nat} {e : Int} (h : q.2.2 = 0) : stepT acc x q e = acc := by unfold stepT; rw [if_pos h]
theorem step_new {acc q : Res} {x : Nat} {e : Int} (h : ¬ q.2.2 = 0) (h2 : acc.2.2 = 0 ∨ q.1 + e < acc.1) : stepT acc x q e = (q.1 + e, (x : Int) :: q.2.1, q.2.2) := by unfold stepT; rw [if_neg h, if_pos h2]
theorem step_same {acc q : Res} {x : Nat} {e : Int} (h : ¬ q.2.2 = 0) (h2 : ¬ (acc.2.2 = 0 ∨ q.1 + e < acc.1)) (h3 : q.1 + e = acc.1) : stepT acc x q e = (acc.1, acc.2.1, acc.2.2 + q.2.2) := by unfold stepT; rw [if_neg h, if_neg h2, if_pos h3]
theorem step_old {acc q : Res} {x : Nat} {e : Int} (h : ¬ q.2.2 = 0) (h2 : ¬ (acc.2.2 = 0 ∨ q.1 + e < acc.1)) (h3 : ¬ q.1 + e = acc.1) : stepT acc x q e = acc := by unfold stepT; rw [if_neg h, if_neg h2, if_neg h3]

/-- A cost, a list of the call's own, and whether there is one. -/
def RetCL (w : World) (x : Int) (o : Option (List Int)) (e : Ending) (w' : World) : Prop := ∃ A c, e = .returned (.tuple #[.int .i64 x, .slice A (o.getD []).length c, .bool o.isSome]) ∧ IW w' w.heap.size w'.heap.size A (o.getD []) ∧ Below w.heap.size w w'
theorem retCL_none {w w' : World} {A : Option Addr} {c : Nat} (hb : Below w.heap.size w w') : RetCL w 0 none (.returned (.tuple #[.int .i64 0, .slice A 0 c, .bool false])) w' := ⟨A, c, rfl, IW.nil' _ _ _, hb⟩
theorem share_not {rs : List (List Int)} {n : Int} (h : shareOk rs n = false) : shareC rs n = 0 ∧ shareM rs n = none ∧ shareAllL rs n = 0 := by
  unfold shareC shareM shareAllL
  rw [h]
  simp
theorem share_yes {rs : List (List Int)} {n : Int} (h : shareOk rs n = true) : shareC rs n = (tryL rs n).1 ∧ shareM rs n = some (tryL rs n).2.1 ∧ shareAllL rs n = (tryL rs n).2.2 := by
  unfold shareC shareM shareAllL
  rw [h]
  simp
theorem most_le {rs : List (List Int)} (hg : givenB rs = true) : 0 ≤ mostL rs ∧ mostL rs ≤ 48 := by
  obtain ⟨g1, g2, g3⟩ := given_true.1 hg
  have h1 := most_nonneg (rs := rs) fun r hr => by have := (rowB_true.1 (g1 r hr)).2; omega
  have h2 := mostTo_bd (rs := rs) (fun r hr => (given_fit hg r hr).2) rs.length (Nat.le_refl _)
  rw [mostTo_all] at h2
  omega

/-- What the model asks first. -/
theorem share_asks (A : Option Addr) (c lo hi : Nat) (rs : List (List Int)) (w : World) (h : IRR w lo hi A rs) (hg : givenB rs = true) :
    Calls Try.prog 22 #[.slice A rs.length c] w fun e w' => e = .returned (.int .i64 (mostL rs)) ∧ w' = w :=
  l6sMost_any A c lo hi rs w h (fun r hr => (given_fit hg r hr).2) (given_true.1 hg).2.2

end Go.Proofs.Ytanoojpmokbiaab

namespace Go.Proofs.Ytanoojpmokbiaab
open Go.RowKit

def Bnd (B : Int) (a : List Int) : Prop := ∀ k, -B ≤ a.getD k 0 ∧ a.getD k 0 ≤ B
theorem mergeTo_bd {a b : List Int} {B C : Int} (hB : 0 ≤ B ∧ 0 ≤ C ∧ B + C ≤ 40000) (ha : Bnd B a) (hb : Bnd C b) (k : Nat) : ∀ i, -(B + C) ≤ mergeTo a b k i ∧ mergeTo a b k i ≤ 40000
  | 0 => ⟨by show _ ≤ (40000 : Int); omega, by show (40000 : Int) ≤ 40000; omega⟩
  | i + 1 => by
    have ih := mergeTo_bd hB ha hb k i
    have h1 := ha i; have h2 := hb (k - i)
    unfold mergeTo
    split
    · omega
    · exact ih
theorem mergeL_len (a b : List Int) : (mergeL a b).length = a.length + b.length - 1 := by simp [mergeL]
theorem mergeL_get (a b : List Int) (k : Nat) (h : k < (mergeL a b).length) : (mergeL a b)[k] = mergeTo a b k (k + 1) := by simp [mergeL, mergeAt]

/-- The first i rows merged. -/
def foldTo (rs : List (List Int)) (i : Nat) : List Int := (rs.take i).foldl mergeL [0]
theorem foldTo_succ {rs : List (List Int)} {i : Nat} (hi : i < rs.length) : foldTo rs (i + 1) = mergeL (foldTo rs i) rs[i] := by
  unfold foldTo
  rw [← takeR_snoc rs i hi, List.foldl_append]
  rfl
theorem bnd_merge {a b : List Int} {B C : Int} (hB : 0 ≤ B ∧ 0 ≤ C ∧ B + C ≤ 40000) (ha : Bnd B a) (hb : Bnd C b) (ha1 : 1 ≤ a.length) (hb1 : 1 ≤ b.length) : Bnd (B + C) (mergeL a b) := by
  intro k
  by_cases hk : k < (mergeL a b).length
  · rw [getD_at hk]
    have h1 := mergeL_get a b k hk
    rw [mergeL_len] at hk
    have hm : MLe a b k (mergeTo a b k (k + 1)) := merge_is (B := B) (C := C) (fun q _ => (ha q).2) (fun q _ => (hb q).2) hB.2.2 ha1 hb1 hk
    obtain ⟨-, i, j, hi, hj, -, e⟩ := hm
    rw [h1, e]
    have := ha i; have := hb j
    omega
  · simp only [List.getD, List.getElem?_eq_none (Nat.le_of_not_lt hk), Option.getD_none]
    omega
theorem fold_facts {rs : List (List Int)} (hg : givenB rs = true) : ∀ i, i ≤ rs.length → Bnd (1000 * (i : Int)) (foldTo rs i) ∧ 1 ≤ (foldTo rs i).length ∧ (foldTo rs i).length ≤ 1 + 12 * i
  | 0, _ => ⟨fun k => by
      show -(1000 * ((0 : Nat) : Int)) ≤ [(0 : Int)].getD k 0 ∧ [(0 : Int)].getD k 0 ≤ 1000 * ((0 : Nat) : Int)
      have : [(0 : Int)].getD k 0 = 0 := by cases k <;> rfl
      rw [this]; omega, Nat.le_refl _, Nat.le_refl _⟩
  | i + 1, hi => by
    obtain ⟨h1, h2, h3⟩ := fold_facts hg i (by omega)
    have hil : i < rs.length := by omega
    obtain ⟨g1, g2, g3⟩ := given_true.1 hg
    have hr := rowB_true.1 (g1 rs[i] (List.getElem_mem hil))
    have hb : Bnd 1000 rs[i] := getD_fits hr.1
    rw [foldTo_succ hil]
    refine ⟨?_, ?_, ?_⟩
    · have := bnd_merge (B := 1000 * (i : Int)) (C := 1000) (by omega) h1 hb h2 hr.2.1
      rwa [show 1000 * (i : Int) + 1000 = 1000 * ((i + 1 : Nat) : Int) by omega] at this
    · rw [mergeL_len]; have := hr.2.1; omega
    · rw [mergeL_len]; have := hr.2.2; omega
theorem foldTo_all (rs : List (List Int)) : foldTo rs rs.length = costsL rs := by unfold foldTo costsL; rw [List.take_length]

end Go.Proofs.Ytanoojpmokbiaab
