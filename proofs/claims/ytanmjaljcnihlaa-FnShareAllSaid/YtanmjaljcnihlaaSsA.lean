/-
  Sharing in the model, all functions of chapter 6 but ShareGreedy. Conditions: the cells are there.
-/
import Derived.Test.YtanmjaljcnihlaaTsA
import Derived.Test.YtanmjaljcnihlaaShA
import Derived.Test.YtanmjaljcnihlaaTsB
namespace Go.Proofs.Ytanmjaljcnihlaa
open Go.RowKit

theorem given_bad {rs : List (List Int)} {k : Nat} (hk : k < rs.length) (h : rowB rs[k] = false) : givenB rs = false := by
  unfold givenB
  rw [show rs.all rowB = false from List.all_eq_false.2 ⟨rs[k], List.getElem_mem hk, by rw [h]; simp⟩]
  rfl
theorem given_all {rs : List (List Int)} (h : ∀ (k : Nat) (hk : k < rs.length), rowB rs[k] = true) : givenB rs = inB 1 4 (rs.length : Int) := by
  unfold givenB
  rw [show rs.all rowB = true from List.all_eq_true.2 fun x hx => by
    obtain ⟨j, hj, rfl⟩ := List.getElem_of_mem hx
    exact h j hj, Bool.true_and]

set_option maxRecDepth 100000 in
set_option maxHeartbeats 1000000 in
theorem l6sGiven_any (A : Option Addr) (c lo hi : Nat) (rs : List (List Int)) (w : World) (h : IRR w lo hi A rs) :
    Calls Try.prog 37 #[.slice A rs.length c] w fun e w' => e = .returned (.bool (givenB rs)) ∧ w = w' := by
  have hl := h.1
  have H := Lib.hid h
  clear h
  go_enter Try.func37, Try.ntmps37
  go_wp2
  go_loop [3] (fun i => ∃ k : Nat, k ≤ rs.length ∧ i = .int .i64 k ∧ Hid (∀ (j : Nat) (hj : j < rs.length), j < k → rowB rs[j] = true)) (fun i => rs.length - (intOf i).toNat)
  case atStart => exact ⟨0, Nat.zero_le _, rfl, fun j _ hj => absurd hj (by omega)⟩
  case round =>
    obtain ⟨k, hk, rfl, hok⟩ := hrel
    by_cases hlt : k < rs.length
    · obtain ⟨b, off, Ak, ck, rfl, _, hc, _, hrow⟩ := H.out.at_ hlt
      have hlt' : (k : Int) < (rs.length : Int) := by omega
      cases hr : rowB rs[k] with
      | false =>
        have HG := Lib.hid (given_bad hlt hr)
        have HR := Lib.hid hr
        obtain ⟨zs, hzs⟩ : ∃ zs, rs[k] = zs := ⟨_, rfl⟩
        rw [hzs] at HR hc hrow
        clear hzs hr hok
        go_wp2_with fail
        refine (specRowIn_any _ _ _ _ zs _ hrow).mono ?_
        rintro e w' ⟨rfl, rfl⟩
        rw [HR.out]
        go_wp2
        go_ret
        exact ⟨by rw [HG.out]; rfl, rfl⟩
      | true =>
        have HR := Lib.hid hr
        have HR2 := Lib.hid hr
        obtain ⟨zs, hzs⟩ : ∃ zs, rs[k] = zs := ⟨_, rfl⟩
        rw [hzs] at HR hc hrow
        clear hzs hr
        go_wp2_with fail
        refine (specRowIn_any _ _ _ _ zs _ hrow).mono ?_
        rintro e w' ⟨rfl, rfl⟩
        rw [HR.out]
        go_wp2
        go_round
        case rel =>
          refine ⟨k + 1, by omega, by go_num, fun j hj h1 => ?_⟩
          by_cases e : j = k
          · subst e; exact HR2.out
          · exact hok.out j hj (by omega)
        case measure => simp [intOf]; omega
    · obtain rfl : k = rs.length := by omega
      have HG : Hid (givenB rs = inB 1 4 (rs.length : Int)) := given_all fun k hk => hok.out k hk hk
      clear hok
      have hlt' : ¬ (rs.length : Int) < (rs.length : Int) := by omega
      go_wp2_with fail
      refine (l6In_any _ _ _ _).mono ?_
      rintro e w' ⟨rfl, rfl⟩
      go_wp2
      go_ret
      exact ⟨ret_bool HG.out.symm, rfl⟩

theorem rowAt_get {rs : List (List Int)} {k : Nat} (hk : k < rs.length) : rowAt rs k = rs[k] := by simp [rowAt, List.getD, hk]
theorem getD_at {l : List Int} {k : Nat} (hk : k < l.length) : l.getD k 0 = l[k] := by simp [List.getD, hk]
theorem places_bad {rs : List (List Int)} {l : List Int} {k : Nat} (hk : k < l.length) (h : inB 0 (((rowAt rs k).length : Int) - 1) (l.getD k 0) = false) : placesB rs l = false := by
  unfold placesB
  rw [show ((List.range l.length).all fun i => inB 0 (((rowAt rs i).length : Int) - 1) (l.getD i 0)) = false from List.all_eq_false.2 ⟨k, List.mem_range.2 hk, by rw [h]; simp⟩, Bool.and_false]
theorem places_all {rs : List (List Int)} {l : List Int} (hg : givenB rs = true) (hl : l.length = rs.length) (h : ∀ k, k < l.length → inB 0 (((rowAt rs k).length : Int) - 1) (l.getD k 0) = true) : placesB rs l = true := by
  unfold placesB
  rw [hg, decide_eq_true hl, Bool.true_and, Bool.true_and, List.all_eq_true]
  intro x hx
  exact h x (List.mem_range.1 hx)

set_option maxRecDepth 100000 in
set_option maxHeartbeats 1000000 in
theorem l6sPlaces_any (A : Option Addr) (c lo hi : Nat) (rs : List (List Int)) (A1 : Option Addr) (c1 lo1 hi1 : Nat) (l : List Int) (w : World) (h : IRR w lo hi A rs) (h1 : IR w lo1 hi1 A1 l) :
    Calls Try.prog 50 #[.slice A rs.length c, .slice A1 l.length c1] w fun e w' => e = .returned (.bool (placesB rs l)) ∧ Dr w w' := by
  have hl := h.1
  have hl1 := h1.1
  have H := Lib.hid h; have H1 := Lib.hid h1
  clear h h1
  go_enter Try.func50, Try.ntmps50
  cases hg : givenB rs with
  | false =>
    have HM : Hid (placesB rs l = false) := by show _ = _; unfold placesB; rw [hg]; rfl
    have HG := Lib.hid hg
    clear hg
    go_wp2_with fail
    refine (l6sGiven_any _ _ _ _ rs _ H.out).mono ?_
    rintro e w' ⟨rfl, rfl⟩
    rw [HG.out]
    go_wp2
    go_ret
    exact ⟨ret_bool HM.out.symm, Dr.refl _⟩
  | true =>
    have HG := Lib.hid hg
    clear hg
    go_wp2_with fail
    refine (l6sGiven_any _ _ _ _ rs _ H.out).mono ?_
    rintro e w' ⟨rfl, rfl⟩
    rw [HG.out]
    by_cases hll : l.length = rs.length
    · have HLL := Lib.hid hll
      have hq : (l.length : Int) = (rs.length : Int) := by omega
      obtain ⟨n, hn⟩ : ∃ n, l.length = n := ⟨_, rfl⟩
      have HN := Lib.hid hn
      have hrn : rs.length = n := by omega
      have HRN := Lib.hid hrn
      rw [hn] at hl1 hll
      rw [hn, hrn]
      clear hll hq hn hrn hl
      go_wp2
      go_loopw [5] (fun i wr => ∃ k : Nat, k ≤ n ∧ i = .int .i64 (k : Int) ∧ Dr w wr ∧ Hid (∀ j, j < k → inB 0 (((rowAt rs j).length : Int) - 1) (l.getD j 0) = true)) (fun i _ => n - (intOf i).toNat)
      case atStart => exact ⟨0, Nat.zero_le _, rfl, Dr.refl _, fun j hj => absurd hj (by omega)⟩
      case round =>
        obtain ⟨k, hk, rfl, hdr, hok⟩ := hrel
        have HD := Lib.hid hdr
        have HW := Lib.hid (hdr.irr H.out); have HW1 := Lib.hid (hdr.ir H1.out)
        clear hdr
        by_cases hlt : k < n
        · have hkr : k < rs.length := by rw [HRN.out]; exact hlt
          have hkl : k < l.length := by rw [HN.out]; exact hlt
          obtain ⟨b, off, Ak, ck, rfl, _, hc, _, hrow⟩ := HW.out.at_ hkr
          obtain ⟨b1, off1, rfl, _, _, hc1⟩ := HW1.out.at_ hkl
          have hrl := hrow.1
          have hx64 := HW1.out.i64 hkl
          obtain ⟨x, hx⟩ : ∃ x, l[k] = x := ⟨_, rfl⟩
          obtain ⟨m, hm⟩ : ∃ m, rs[k].length = m := ⟨_, rfl⟩
          have hgx : l.getD k 0 = x := by rw [getD_at hkl, hx]
          have hrm : (rowAt rs k).length = m := by rw [rowAt_get hkr, hm]
          rw [hx] at hc1 hx64
          rw [hm] at hc hrl
          have hlt' : (k : Int) < (n : Int) := by omega
          have k0 : (0 : Int) ≤ (k : Int) := by omega
          have s1 : IntKind.i64.wrap ((m : Int) - 1) = (m : Int) - 1 := IntWalk.i64_in _ (by omega)
          obtain ⟨p, hp⟩ : ∃ p, inB 0 ((m : Int) - 1) x = p := ⟨_, rfl⟩
          have HP : Hid (inB 0 (((rowAt rs k).length : Int) - 1) (l.getD k 0) = p) := by show _ = _; rw [hgx, hrm]; exact hp
          have HJ : Hid (∀ W : World, Calls Try.prog 38 #[.int .i64 x, .int .i64 0, .int .i64 ((m : Int) - 1)] W fun e w' => e = .returned (.bool p) ∧ w' = W) := l6In_of hp
          clear hp hgx hrm hx hm hrow hx64 hrl
          cases p with
          | false =>
            have HM := Lib.hid (places_bad hkl HP.out)
            go_wp2
            go_quiet ((go_at_call 38; exact Calls.quiet_of_same (HJ.out _)))
            go_wp2
            go_ret
            exact ⟨ret_bool HM.out.symm, HD.out.more _⟩
          | true =>
            go_wp2
            go_quiet ((go_at_call 38; exact Calls.quiet_of_same (HJ.out _)))
            go_wp2
            go_roundw
            case rel =>
              refine ⟨k + 1, by omega, by go_num, HD.out.more _, fun j hj => ?_⟩
              by_cases e : j = k
              · subst e; exact HP.out
              · exact hok.out j (by omega)
            case measure => simp [intOf]; omega
        · obtain rfl : k = n := by omega
          have HM : Hid (placesB rs l = true) := places_all HG.out HLL.out fun j hj => hok.out j (by rw [← HN.out]; exact hj)
          have hlt' : ¬ (k : Int) < (k : Int) := by omega
          clear hok
          go_wp2
          go_ret
          exact ⟨ret_bool HM.out.symm, HD.out⟩
    · have HM : Hid (placesB rs l = false) := by show _ = _; unfold placesB; rw [decide_eq_false hll]; simp
      have hq : ¬ (l.length : Int) = (rs.length : Int) := by omega
      go_wp2
      go_ret
      exact ⟨ret_bool HM.out.symm, Dr.refl _⟩
theorem l6sPlaces_of {b : Bool} {A : Option Addr} {c lo hi : Nat} {rs : List (List Int)} {A1 : Option Addr} {c1 lo1 hi1 : Nat} {l : List Int} {n m : Nat} {w : World} (h : IRR w lo hi A rs) (h1 : IR w lo1 hi1 A1 l) (hb : placesB rs l = b) (hn : n = rs.length) (hm : m = l.length) :
    Calls Try.prog 50 #[.slice A n c, .slice A1 m c1] w fun e w' => e = .returned (.bool b) ∧ Dr w w' := by
  subst hb; subst hn; subst hm; exact l6sPlaces_any A c lo hi rs A1 c1 lo1 hi1 l w h h1

/-- The rows, as they are shared: what a place of row i gives, and how long the rows are. -/
theorem places_facts {rs : List (List Int)} {l : List Int} (h : placesB rs l = true) : l.length = rs.length ∧ rs.length ≤ 4 ∧ ∀ (k : Nat) (hk : k < rs.length), ∃ (p : Nat), l.getD k 0 = (p : Int) ∧ p = plAt l k ∧ p < rs[k].length ∧ rs[k].length ≤ 12 ∧ ∀ j, -1000 ≤ rs[k].getD j 0 ∧ rs[k].getD j 0 ≤ 1000 := by
  obtain ⟨hg, hp⟩ := places_true.1 h
  obtain ⟨g1, g2, g3⟩ := given_true.1 hg
  refine ⟨hp.len, g3, fun k hk => ?_⟩
  obtain ⟨q1, q2⟩ := plAt_is hp hk
  have hr := rowB_true.1 (g1 rs[k] (List.getElem_mem hk))
  rw [rowAt_get hk] at q2
  exact ⟨plAt l k, q1.symm, rfl, q2, hr.2.2, getD_fits hr.1⟩
/-- The cost of the first k places. -/
def costTo (rs : List (List Int)) (l : List Int) (k : Nat) : Int := sumN (fun i => (rowAt rs i).getD (plAt l i) 0) k
theorem costTo_succ (rs : List (List Int)) (l : List Int) (k : Nat) : costTo rs l (k + 1) = costTo rs l k + (rowAt rs k).getD (plAt l k) 0 := rfl
/-- What lies in memory for row k of a sharing. -/
theorem place_cells {W : World} {A : Option Addr} {lo hi : Nat} {rs : List (List Int)} {A1 : Option Addr} {lo1 hi1 : Nat} {l : List Int} (h : IRR W lo hi A rs) (h1 : IR W lo1 hi1 A1 l) (hp : placesB rs l = true) {k : Nat} (hk : k < rs.length) :
    ∃ b off bk ok ck b1 off1 m, A = some ⟨b, off, none⟩ ∧ A1 = some ⟨b1, off1, none⟩ ∧ W.cell? ⟨b, off + k, none⟩ = some (.slice (some ⟨bk, ok, none⟩) m ck) ∧ W.cell? ⟨b1, off1 + k, none⟩ = some (.int .i64 (plAt l k : Int)) ∧ (plAt l k < m ∧ m ≤ 12 ∧ (rowAt rs k).length = m) ∧
      (∀ j, j < m → W.cell? ⟨bk, ok + j, none⟩ = some (.int .i64 ((rowAt rs k).getD j 0))) ∧ (∀ j, -1000 ≤ (rowAt rs k).getD j 0 ∧ (rowAt rs k).getD j 0 ≤ 1000) := by
  obtain ⟨f1, f2, f3⟩ := places_facts hp
  obtain ⟨p, e1, e2, e3, e4, e5⟩ := f3 k hk
  obtain ⟨b, off, Ak, ck, rfl, _, hc, _, hrow⟩ := h.at_ hk
  have hkl : k < l.length := by omega
  obtain ⟨b1, off1, rfl, _, _, hc1⟩ := h1.at_ hkl
  rw [← getD_at hkl, e1] at hc1
  obtain ⟨bk, ok, rfl, _, _, hcs⟩ := hrow.2.2.2 (by omega)
  refine ⟨b, off, bk, ok, ck, b1, off1, rs[k].length, rfl, rfl, hc, by rw [← e2]; exact hc1, ⟨by omega, e4, by rw [rowAt_get hk]⟩, fun j hj => ?_, by rw [rowAt_get hk]; exact e5⟩
  rw [rowAt_get hk, getD_at hj]
  exact hcs j hj
theorem costTo_bd {rs : List (List Int)} {l : List Int} (hp : placesB rs l = true) {k : Nat} (hk : k ≤ rs.length) : -(1000 * (k : Int)) ≤ costTo rs l k ∧ costTo rs l k ≤ 1000 * (k : Int) :=
  sumN_abs k fun i hi => by
    obtain ⟨_, _, _, _, _, e5⟩ := (places_facts hp).2.2 i (by omega)
    rw [rowAt_get (by omega)]
    exact e5 _
theorem costTo_all {rs : List (List Int)} {l : List Int} (hp : placesB rs l = true) : costTo rs l rs.length = costS rs l := (cost_sum (places_facts hp).1).symm

set_option maxRecDepth 100000 in
set_option maxHeartbeats 1000000 in
theorem l6sCost_any (A : Option Addr) (c lo hi n : Nat) (rs : List (List Int)) (A1 : Option Addr) (c1 lo1 hi1 : Nat) (l : List Int) (w : World) (h : IRR w lo hi A rs) (h1 : IR w lo1 hi1 A1 l) (hp : placesB rs l = true) (hn : l.length = n) :
    Calls Try.prog 51 #[.slice A n c, .slice A1 n c1] w fun e w' => e = .returned (.int .i64 (costS rs l)) ∧ Dr w w' := by
  have hn4 : n ≤ 4 := by have := places_facts hp; omega
  have hrn : rs.length = n := by have := places_facts hp; omega
  have H := Lib.hid h; have H1 := Lib.hid h1; have HP := Lib.hid hp; have HRN := Lib.hid hrn
  clear h h1 hp hn hrn
  go_enter Try.func51, Try.ntmps51
  go_wp2
  go_loopw [5, 6] (fun v i wr => ∃ k : Nat, k ≤ n ∧ i = .int .i64 (k : Int) ∧ v = .int .i64 (costTo rs l k) ∧ Dr w wr) (fun _ i _ => n - (intOf i).toNat)
  case atStart => exact ⟨0, Nat.zero_le _, rfl, rfl, Dr.refl _⟩
  case round =>
    obtain ⟨k, hk, rfl, rfl, hdr⟩ := hrel
    have HD := Lib.hid hdr
    by_cases hlt : k < n
    · have hkr : k < rs.length := by rw [HRN.out]; exact hlt
      obtain ⟨b, off, bk, ok, ck, b1, off1, m, rfl, rfl, hc, hc1, ⟨hm1, hm2, hm3⟩, hcs, hbd⟩ := place_cells (hdr.irr H.out) (hdr.ir H1.out) HP.out hkr
      have hcp := hcs _ hm1
      have hbp := hbd (plAt l k)
      have hct := costTo_bd HP.out (show k ≤ rs.length by omega)
      have hsc := costTo_succ rs l k
      obtain ⟨x, hx⟩ : ∃ x, (rowAt rs k).getD (plAt l k) 0 = x := ⟨_, rfl⟩
      obtain ⟨p, hpp⟩ : ∃ p, plAt l k = p := ⟨_, rfl⟩
      obtain ⟨s, hs⟩ : ∃ s, costTo rs l k = s := ⟨_, rfl⟩
      rw [hx] at hcp hbp hsc
      rw [hpp] at hc1 hm1 hcp
      rw [hs] at hct hsc
      rw [hs]
      have HSC := Lib.hid hsc
      have s1 : IntKind.i64.wrap (s + x) = s + x := IntWalk.i64_in _ (by omega)
      have hlt' : (k : Int) < (n : Int) := by omega
      have k0 : (0 : Int) ≤ (k : Int) := by omega
      have p0 : (0 : Int) ≤ (p : Int) := by omega
      have pm : (p : Int) < (m : Int) := by omega
      clear hdr hcs hbd hct hsc hx hpp hs hm3 hbp
      go_wp2
      go_quiet (fail)
      go_wp2
      go_roundw
      case rel => exact ⟨k + 1, by omega, by go_num, by rw [HSC.out], HD.out.more _⟩
      case measure => simp [intOf]; omega
    · obtain rfl : k = n := by omega
      have HC : Hid (costTo rs l k = costS rs l) := by show _ = _; rw [← costTo_all HP.out, HRN.out]
      have hlt' : ¬ (k : Int) < (k : Int) := by omega
      go_wp2
      go_ret
      exact ⟨by rw [HC.out]; rfl, HD.out⟩

/-- ShareCost's answer: a cost, and whether there is one. -/
def RetIB (w : World) (b : Bool) (x : Int) (e : Ending) (w' : World) : Prop := e = .returned (.tuple #[.int .i64 x, .bool b]) ∧ Below w.heap.size w w'

set_option maxRecDepth 100000 in
set_option maxHeartbeats 1000000 in
theorem specShareCost_any (A : Option Addr) (c lo hi : Nat) (rs : List (List Int)) (A1 : Option Addr) (c1 lo1 hi1 : Nat) (l : List Int) (w : World) (h : IRR w lo hi A rs) (h1 : IR w lo1 hi1 A1 l) :
    Calls Try.prog 23 #[.slice A rs.length c, .slice A1 l.length c1] w (RetIB w (placesB rs l) (shareCostL rs l)) := by
  have H := Lib.hid h; have H1 := Lib.hid h1
  clear h h1
  go_enter Try.func23, Try.ntmps23
  cases hp : placesB rs l with
  | false =>
    have HM : Hid (shareCostL rs l = 0) := by show _ = _; unfold shareCostL; rw [hp]; rfl
    have HP := Lib.hid hp
    clear hp
    go_wp2_with fail
    refine (l6sPlaces_of H.out H1.out HP.out rfl rfl).mono ?_
    rintro e w1 ⟨rfl, hd⟩
    have HD := Lib.hid hd.below
    clear hd
    go_wp2
    go_ret2
    rw [HM.out]
    exact ⟨rfl, HD.out⟩
  | true =>
    have HM : Hid (shareCostL rs l = costS rs l) := by show _ = _; unfold shareCostL; rw [hp]; rfl
    have hln := (places_facts hp).1
    have HP := Lib.hid hp
    obtain ⟨n, hn⟩ : ∃ n, l.length = n := ⟨_, rfl⟩
    have hrn : rs.length = n := by omega
    rw [hn, hrn]
    have HN := Lib.hid hn; have HRN := Lib.hid hrn
    clear hp hln hn hrn
    go_wp2_with fail
    refine (l6sPlaces_of H.out H1.out HP.out HRN.out.symm HN.out.symm).mono ?_
    rintro e w1 ⟨rfl, hd⟩
    have HD := Lib.hid hd
    clear hd
    go_wp2_with fail
    refine (l6sCost_any _ _ _ _ n rs _ _ _ _ l _ (HD.out.irr H.out) (HD.out.ir H1.out) HP.out HN.out).mono ?_
    rintro e w2 ⟨rfl, hd⟩
    have HB := Lib.hid (HD.out.trans hd).below
    clear hd
    go_wp2
    go_ret2
    rw [HM.out]
    exact ⟨rfl, HB.out⟩

def priceLo (rs : List (List Int)) (l : List Int) : Int := if pricesB rs l then lowL rs l else 0
def priceHi (rs : List (List Int)) (l : List Int) : Int := if pricesB rs l then highL rs l else 0
/-- SharePrice's answer. -/
def RetP (w : World) (rs : List (List Int)) (l : List Int) (e : Ending) (w' : World) : Prop := e = .returned (.tuple #[.int .i64 (priceLo rs l), .int .i64 (priceHi rs l), .bool (pricesB rs l)]) ∧ Below w.heap.size w w'
theorem lowTo_bd {rs : List (List Int)} {l : List Int} (hp : placesB rs l = true) : ∀ k, k ≤ rs.length → -3000 ≤ lowTo rs l k ∧ lowTo rs l k ≤ 2000
  | 0, _ => ⟨by show -3000 ≤ (-3000 : Int); omega, by show (-3000 : Int) ≤ 2000; omega⟩
  | k + 1, h => by
    have ih := lowTo_bd hp k (by omega)
    obtain ⟨g1, _⟩ := given_true.1 (places_true.1 hp).1
    have h1 := (slope_bd g1 (places_true.1 hp).2 (i := k) (by omega)).1
    unfold lowTo
    split
    · next e => have := h1 e; omega
    · exact ih
theorem highTo_bd {rs : List (List Int)} {l : List Int} (hp : placesB rs l = true) : ∀ k, k ≤ rs.length → -2000 ≤ highTo rs l k ∧ highTo rs l k ≤ 3000
  | 0, _ => ⟨by show -2000 ≤ (3000 : Int); omega, by show (3000 : Int) ≤ 3000; omega⟩
  | k + 1, h => by
    have ih := highTo_bd hp k (by omega)
    obtain ⟨g1, _⟩ := given_true.1 (places_true.1 hp).1
    have h1 := (slope_bd g1 (places_true.1 hp).2 (i := k) (by omega)).2
    unfold highTo
    split
    · next e => have := h1 e; omega
    · exact ih

set_option maxRecDepth 100000 in
set_option maxHeartbeats 2000000 in
theorem specSharePrice_any (A : Option Addr) (c lo hi : Nat) (rs : List (List Int)) (A1 : Option Addr) (c1 lo1 hi1 : Nat) (l : List Int) (w : World) (h : IRR w lo hi A rs) (h1 : IR w lo1 hi1 A1 l) :
    Calls Try.prog 25 #[.slice A rs.length c, .slice A1 l.length c1] w (RetP w rs l) := by
  have H := Lib.hid h; have H1 := Lib.hid h1
  clear h h1
  go_enter Try.func25, Try.ntmps25
  cases hp : placesB rs l with
  | false =>
    have HM : Hid (RetP w rs l = fun e w' => e = .returned (.tuple #[.int .i64 0, .int .i64 0, .bool false]) ∧ Below w.heap.size w w') := by
      show _ = _
      funext e w'
      have : pricesB rs l = false := by unfold pricesB; rw [hp]; rfl
      unfold RetP priceLo priceHi
      rw [this]
      simp
    have HP := Lib.hid hp
    clear hp
    rw [HM.out]
    go_wp2_with fail
    refine (l6sPlaces_of H.out H1.out HP.out rfl rfl).mono ?_
    rintro e w1 ⟨rfl, hd⟩
    have HD := Lib.hid hd.below
    clear hd
    go_wp2
    go_ret3
    exact ⟨rfl, HD.out⟩
  | true =>
    have hln := (places_facts hp).1
    have hn4 := (places_facts hp).2.1
    have HP := Lib.hid hp
    obtain ⟨n, hn⟩ : ∃ n, l.length = n := ⟨_, rfl⟩
    have hrn : rs.length = n := by omega
    rw [hn, hrn]
    rw [hrn] at hn4
    have HN := Lib.hid hn; have HRN := Lib.hid hrn
    clear hp hln hn hrn
    go_wp2_with fail
    refine (l6sPlaces_of H.out H1.out HP.out HRN.out.symm HN.out.symm).mono ?_
    rintro e w1 ⟨rfl, hd⟩
    have HD0 := Lib.hid hd
    clear hd
    go_wp2
    go_loopw [7, 8, 9] (fun v u i wr => ∃ k : Nat, k ≤ n ∧ i = .int .i64 (k : Int) ∧ v = .int .i64 (lowTo rs l k) ∧ u = .int .i64 (highTo rs l k) ∧ Dr w wr) (fun _ _ i _ => n - (intOf i).toNat)
    case atStart => exact ⟨0, Nat.zero_le _, rfl, rfl, rfl, HD0.out⟩
    case round =>
      clear HD0
      obtain ⟨k, hk, rfl, rfl, rfl, hdr⟩ := hrel
      have HD := Lib.hid hdr
      by_cases hlt : k < n
      · have hkr : k < rs.length := by rw [HRN.out]; exact hlt
        obtain ⟨b, off, bk, ok, ck, b1, off1, m, rfl, rfl, hc, hc1, ⟨hm1, hm2, hm3⟩, hcs, hbd⟩ := place_cells (hdr.irr H.out) (hdr.ir H1.out) HP.out hkr
        have hlo := lowTo_bd HP.out k (by omega)
        have hhi := highTo_bd HP.out k (by omega)
        have hs1 : lowTo rs l (k + 1) = if 0 < plAt l k then max (lowTo rs l k) (toS rs l k) else lowTo rs l k := rfl
        have hs2 : highTo rs l (k + 1) = if plAt l k + 1 < m then min (highTo rs l k) (frS rs l k) else highTo rs l k := by rw [← hm3]; rfl
        have hto : toS rs l k = (rowAt rs k).getD (plAt l k) 0 - (rowAt rs k).getD (plAt l k - 1) 0 := rfl
        have hfr : frS rs l k = (rowAt rs k).getD (plAt l k + 1) 0 - (rowAt rs k).getD (plAt l k) 0 := rfl
        obtain ⟨p, hpp⟩ : ∃ p, plAt l k = p := ⟨_, rfl⟩
        rw [hpp] at hc1 hm1 hs1 hs2 hto hfr
        have c0 := hcs p hm1
        have d0 := hbd p; have d1 := hbd (p - 1); have d2 := hbd (p + 1)
        have c1' := hcs (p - 1) (by omega)
        have c2' : p + 1 < m → _ := hcs (p + 1)
        obtain ⟨x0, hx0⟩ : ∃ x, (rowAt rs k).getD p 0 = x := ⟨_, rfl⟩
        obtain ⟨x1, hx1⟩ : ∃ x, (rowAt rs k).getD (p - 1) 0 = x := ⟨_, rfl⟩
        obtain ⟨x2, hx2⟩ : ∃ x, (rowAt rs k).getD (p + 1) 0 = x := ⟨_, rfl⟩
        obtain ⟨q1, hq1⟩ : ∃ s, lowTo rs l k = s := ⟨_, rfl⟩
        obtain ⟨q2, hq2⟩ : ∃ s, highTo rs l k = s := ⟨_, rfl⟩
        rw [hx0] at c0 d0 hto hfr
        rw [hx1] at c1' d1 hto
        rw [hx2] at c2' d2 hfr
        rw [hq1] at hlo hs1
        rw [hq2] at hhi hs2
        rw [hto] at hs1
        rw [hfr] at hs2
        rw [hq1, hq2]
        have HS1 := Lib.hid hs1; have HS2 := Lib.hid hs2; have HC2 := Lib.hid c2'
        have t1 : IntKind.i64.wrap (x0 - x1) = x0 - x1 := IntWalk.i64_in _ (by omega)
        have t2 : IntKind.i64.wrap (x2 - x0) = x2 - x0 := IntWalk.i64_in _ (by omega)
        have hlt' : (k : Int) < (n : Int) := by omega
        have k0 : (0 : Int) ≤ (k : Int) := by omega
        have p0 : (0 : Int) ≤ (p : Int) := by omega
        have pm : (p : Int) < (m : Int) := by omega
        have t3 : IntKind.i64.wrap ((p : Int) + 1) = (p : Int) + 1 := IntWalk.i64_in _ (by omega)
        have t4 : ((p : Int) + 1).toNat = p + 1 := by omega
        have p1 : (0 : Int) ≤ (p : Int) + 1 := by omega
        clear hdr hcs hbd hs1 hs2 hto hfr hx0 hx1 hx2 hq1 hq2 hm3 hpp c2' hlo hhi d0 d1 d2
        have key : ∀ r1 r2, lowTo rs l (k + 1) = r1 → highTo rs l (k + 1) = r2 → Hid (lowTo rs l (k + 1) = r1 ∧ highTo rs l (k + 1) = r2) := fun _ _ h1 h2 => ⟨h1, h2⟩
        by_cases hz : 0 < p
        · have e1 : lowTo rs l (k + 1) = max q1 (x0 - x1) := by rw [HS1.out, if_pos hz]
          obtain ⟨j, hj⟩ : ∃ j, p - 1 = j := ⟨_, rfl⟩
          rw [hj] at c1'
          have t5 : IntKind.i64.wrap ((p : Int) - 1) = (j : Int) := by rw [IntWalk.i64_in _ (by omega)]; omega
          have j0 : (0 : Int) ≤ (j : Int) := by omega
          have jm : (j : Int) < (m : Int) := by omega
          have hz' : (0 : Int) < (p : Int) := by omega
          clear hj hz
          by_cases g1 : q1 < x0 - x1
          · by_cases hz2 : p + 1 < m
            · have hz2' : (p : Int) + 1 < (m : Int) := by omega
              have e2 : highTo rs l (k + 1) = min q2 (x2 - x0) := by rw [HS2.out, if_pos hz2]
              have HK := key _ _ e1 e2
              have c2 := HC2.out hz2
              clear key HS1 HS2 HC2 e1 e2
              go_wp2
              go_quiet (fail)
              go_wp2
              go_quiet (fail)
              go_wp2
              go_roundw
              case rel => exact ⟨k + 1, by omega, by go_num, by rw [HK.out.1]; simp; omega, by rw [HK.out.2]; simp; split <;> omega, by first | exact (HD.out.more _).more _ | exact HD.out.more _⟩
              case measure => simp [intOf]; omega
            · have hz2' : ¬ (p : Int) + 1 < (m : Int) := by omega
              have e2 : highTo rs l (k + 1) = q2 := by rw [HS2.out, if_neg hz2]
              have HK := key _ _ e1 e2
              clear key HS1 HS2 HC2 e1 e2
              go_wp2
              go_quiet (fail)
              go_wp2
              go_roundw
              case rel => exact ⟨k + 1, by omega, by go_num, by rw [HK.out.1]; simp; omega, by rw [HK.out.2], by first | exact HD.out.more _ | exact HD.out⟩
              case measure => simp [intOf]; omega
          · by_cases hz2 : p + 1 < m
            · have hz2' : (p : Int) + 1 < (m : Int) := by omega
              have e2 : highTo rs l (k + 1) = min q2 (x2 - x0) := by rw [HS2.out, if_pos hz2]
              have HK := key _ _ e1 e2
              have c2 := HC2.out hz2
              clear key HS1 HS2 HC2 e1 e2
              go_wp2
              go_quiet (fail)
              go_wp2
              go_quiet (fail)
              go_wp2
              go_roundw
              case rel => exact ⟨k + 1, by omega, by go_num, by rw [HK.out.1]; simp; omega, by rw [HK.out.2]; simp; split <;> omega, by first | exact (HD.out.more _).more _ | exact HD.out.more _⟩
              case measure => simp [intOf]; omega
            · have hz2' : ¬ (p : Int) + 1 < (m : Int) := by omega
              have e2 : highTo rs l (k + 1) = q2 := by rw [HS2.out, if_neg hz2]
              have HK := key _ _ e1 e2
              clear key HS1 HS2 HC2 e1 e2
              go_wp2
              go_quiet (fail)
              go_wp2
              go_roundw
              case rel => exact ⟨k + 1, by omega, by go_num, by rw [HK.out.1]; simp; omega, by rw [HK.out.2], by first | exact HD.out.more _ | exact HD.out⟩
              case measure => simp [intOf]; omega
        · have hz' : ¬ (0 : Int) < (p : Int) := by omega
          have e1 : lowTo rs l (k + 1) = q1 := by rw [HS1.out, if_neg hz]
          clear c1' hz
          by_cases hz2 : p + 1 < m
          · have hz2' : (p : Int) + 1 < (m : Int) := by omega
            have e2 : highTo rs l (k + 1) = min q2 (x2 - x0) := by rw [HS2.out, if_pos hz2]
            have HK := key _ _ e1 e2
            have c2 := HC2.out hz2
            clear key HS1 HS2 HC2 e1 e2
            go_wp2
            go_quiet (fail)
            go_wp2
            go_roundw
            case rel => exact ⟨k + 1, by omega, by go_num, by rw [HK.out.1], by rw [HK.out.2]; simp; split <;> omega, by first | exact (HD.out.more _).more _ | exact HD.out.more _⟩
            case measure => simp [intOf]; omega
          · have hz2' : ¬ (p : Int) + 1 < (m : Int) := by omega
            have e2 : highTo rs l (k + 1) = q2 := by rw [HS2.out, if_neg hz2]
            have HK := key _ _ e1 e2
            clear key HS1 HS2 HC2 e1 e2
            go_wp2
            go_roundw
            case rel => exact ⟨k + 1, by omega, by go_num, by rw [HK.out.1], by rw [HK.out.2], by first | exact HD.out.more _ | exact HD.out⟩
            case measure => simp [intOf]; omega
      · obtain rfl : k = n := by omega
        have hlt' : ¬ (k : Int) < (k : Int) := by omega
        have h1 : lowTo rs l k = lowL rs l := by unfold lowL; rw [HRN.out]
        have h2 : highTo rs l k = highL rs l := by unfold highL; rw [HRN.out]
        rw [h1, h2]
        obtain ⟨q1, hq1⟩ : ∃ s, lowL rs l = s := ⟨_, rfl⟩
        obtain ⟨q2, hq2⟩ : ∃ s, highL rs l = s := ⟨_, rfl⟩
        have hpb : pricesB rs l = decide (q1 ≤ q2) := by unfold pricesB; rw [HP.out, hq1, hq2, Bool.true_and]
        by_cases hle : q1 ≤ q2
        · have HM : Hid (RetP w rs l = fun e w' => e = .returned (.tuple #[.int .i64 q1, .int .i64 q2, .bool true]) ∧ Below w.heap.size w w') := by
            show _ = _
            funext e w'
            have : pricesB rs l = true := by rw [hpb, decide_eq_true hle]
            unfold RetP priceLo priceHi
            rw [this, if_pos rfl, if_pos rfl, hq1, hq2]
          rw [hq1, hq2]
          have hgt : ¬ q2 < q1 := by omega
          clear hpb hq1 hq2 h1 h2
          go_wp2
          go_ret3
          rw [HM.out]
          exact ⟨rfl, HD.out.below⟩
        · have HM : Hid (RetP w rs l = fun e w' => e = .returned (.tuple #[.int .i64 0, .int .i64 0, .bool false]) ∧ Below w.heap.size w w') := by
            show _ = _
            funext e w'
            have : pricesB rs l = false := by rw [hpb, decide_eq_false hle]
            unfold RetP priceLo priceHi
            rw [this]
            simp
          rw [hq1, hq2]
          have hgt : q2 < q1 := by omega
          clear hpb hq1 hq2 h1 h2
          go_wp2
          go_ret3
          rw [HM.out]
          exact ⟨rfl, HD.out.below⟩

def betN (rs : List (List Int)) (l : List Int) (i k : Nat) : Int := if i ≠ k ∧ 0 < plAt l i ∧ plAt l k + 1 < (rowAt rs k).length ∧ moveD rs l i k < 0 then 1 else 0
theorem betN_bd (rs : List (List Int)) (l : List Int) (i k : Nat) : 0 ≤ betN rs l i k ∧ betN rs l i k ≤ 1 := by
  unfold betN
  split
  · omega
  · omega
theorem sumN_bd {f : Nat → Int} {B : Int} (h : ∀ k, 0 ≤ f k ∧ f k ≤ B) : ∀ n : Nat, 0 ≤ sumN f n ∧ sumN f n ≤ B * (n : Int)
  | 0 => ⟨Int.le_refl _, by show (0 : Int) ≤ B * ((0 : Nat) : Int); simp⟩
  | n + 1 => by
    have ih := sumN_bd h n
    have h1 := h n
    have e : B * ((n + 1 : Nat) : Int) = B * (n : Int) + B := by rw [Int.natCast_succ, Int.mul_add, Int.mul_one]
    show 0 ≤ sumN f n + f n ∧ sumN f n + f n ≤ _
    rw [e]
    omega
/-- The moves from the first rows that help. -/
def movesTo (rs : List (List Int)) (l : List Int) (n i : Nat) : Int := sumN (fun j => sumN (betN rs l j) n) i
theorem moves_all (rs : List (List Int)) (l : List Int) : movesTo rs l rs.length rs.length = movesL rs l := rfl
theorem movesTo_bd (rs : List (List Int)) (l : List Int) {n i k : Nat} (hn : n ≤ 4) (hi : i ≤ 4) (hk : k ≤ 4) : 0 ≤ movesTo rs l n i + sumN (betN rs l i) k ∧ movesTo rs l n i + sumN (betN rs l i) k ≤ 20 := by
  have h1 : ∀ j, 0 ≤ sumN (betN rs l j) n ∧ sumN (betN rs l j) n ≤ 4 := fun j => by
    have := sumN_bd (f := betN rs l j) (B := 1) (betN_bd rs l j) n
    omega
  have h2 := sumN_bd (f := fun j => sumN (betN rs l j) n) (B := 4) h1 i
  have h3 := sumN_bd (f := betN rs l i) (B := 1) (betN_bd rs l i) k
  unfold movesTo
  omega
theorem bet_no {rs : List (List Int)} {l : List Int} {i k m : Nat} (hm : (rowAt rs k).length = m) (h : i = k ∨ plAt l i = 0 ∨ plAt l k + 1 = m ∨ ¬ moveD rs l i k < 0) : betN rs l i k = 0 := by
  unfold betN
  rw [if_neg]
  rintro ⟨h1, h2, h3, h4⟩
  rcases h with h | h | h | h
  · exact h1 h
  · omega
  · omega
  · exact h h4
theorem bet_yes {rs : List (List Int)} {l : List Int} {i k m : Nat} (hm : (rowAt rs k).length = m) (h1 : i ≠ k) (h2 : 0 < plAt l i) (h3 : plAt l k + 1 < m) (h4 : moveD rs l i k < 0) : betN rs l i k = 1 := by
  unfold betN
  rw [if_pos ⟨h1, h2, by omega, h4⟩]

set_option maxRecDepth 100000 in
set_option maxHeartbeats 2000000 in
theorem specShareMoves_any (A : Option Addr) (c lo hi : Nat) (rs : List (List Int)) (A1 : Option Addr) (c1 lo1 hi1 : Nat) (l : List Int) (w : World) (h : IRR w lo hi A rs) (h1 : IR w lo1 hi1 A1 l) :
    Calls Try.prog 27 #[.slice A rs.length c, .slice A1 l.length c1] w (RetIB w (placesB rs l) (shareMovesL rs l)) := by
  have H := Lib.hid h; have H1 := Lib.hid h1
  clear h h1
  go_enter Try.func27, Try.ntmps27
  cases hp : placesB rs l with
  | false =>
    have HM : Hid (shareMovesL rs l = 0) := by show _ = _; unfold shareMovesL; rw [hp]; rfl
    have HP := Lib.hid hp
    clear hp
    go_wp2_with fail
    refine (l6sPlaces_of H.out H1.out HP.out rfl rfl).mono ?_
    rintro e w1 ⟨rfl, hd⟩
    have HD := Lib.hid hd.below
    clear hd
    go_wp2
    go_ret2
    rw [HM.out]
    exact ⟨rfl, HD.out⟩
  | true =>
    have HM : Hid (shareMovesL rs l = movesL rs l) := by show _ = _; unfold shareMovesL; rw [hp]; rfl
    have hln := (places_facts hp).1
    have hn4 := (places_facts hp).2.1
    have HP := Lib.hid hp
    obtain ⟨n, hn⟩ : ∃ n, l.length = n := ⟨_, rfl⟩
    have hrn : rs.length = n := by omega
    rw [hn, hrn]
    rw [hrn] at hn4
    have HN := Lib.hid hn; have HRN := Lib.hid hrn
    clear hp hln hn hrn
    go_wp2_with fail
    refine (l6sPlaces_of H.out H1.out HP.out HRN.out.symm HN.out.symm).mono ?_
    rintro e w1 ⟨rfl, hd⟩
    have HD0 := Lib.hid hd
    clear hd
    go_wp2
    go_loopw [6, 7] (fun v x wr => ∃ i : Nat, i ≤ n ∧ x = .int .i64 (i : Int) ∧ v = .int .i64 (movesTo rs l n i) ∧ Dr w wr) (fun _ x _ => n - (intOf x).toNat)
    case atStart => exact ⟨0, Nat.zero_le _, rfl, rfl, HD0.out⟩
    case round =>
      clear HD0
      obtain ⟨W0, hW0⟩ : ∃ W, W = wr := ⟨_, rfl⟩
      subst hW0
      obtain ⟨i, hi, rfl, rfl, hdr⟩ := hrel
      have HD := Lib.hid hdr
      clear hdr
      by_cases hin : i < n
      · have hin' : (i : Int) < (n : Int) := by omega
        have i0 : (0 : Int) ≤ (i : Int) := by omega
        go_wp2
        go_loopw [6, 8] (fun v x wr => ∃ k : Nat, k ≤ n ∧ x = .int .i64 (k : Int) ∧ v = .int .i64 (movesTo rs l n i + sumN (betN rs l i) k) ∧ Dr w wr) (fun _ x _ => n - (intOf x).toNat)
        case atStart => exact ⟨0, Nat.zero_le _, rfl, by show _ = Value.int .i64 (movesTo rs l n i + 0); rw [Int.add_zero], HD.out⟩
        case round =>
          clear HD
          obtain ⟨k, hk, rfl, rfl, hdr⟩ := hrel
          have HD := Lib.hid hdr
          by_cases hkn : k < n
          · have hir : i < rs.length := by rw [HRN.out]; exact hin
            have hkr : k < rs.length := by rw [HRN.out]; exact hkn
            obtain ⟨b, off, bi, oi, ci, b1, off1, m, rfl, rfl, hci, hci1, ⟨hm1, hm2, hm3⟩, hcsi, hbdi⟩ := place_cells (hdr.irr H.out) (hdr.ir H1.out) HP.out hir
            obtain ⟨_, _, bk, ok, ck, _, _, m', e1, e2, hck, hck1, ⟨hm1', hm2', hm3'⟩, hcsk, hbdk⟩ := place_cells (hdr.irr H.out) (hdr.ir H1.out) HP.out hkr
            injection e1 with e1; injection e1 with e3 e4 _; subst e3; subst e4
            injection e2 with e2; injection e2 with e3 e4 _; subst e3; subst e4
            have hkn' : (k : Int) < (n : Int) := by omega
            have k0 : (0 : Int) ≤ (k : Int) := by omega
            have hbd := movesTo_bd rs l (n := n) (i := i) (k := k) hn4 (by omega) (by omega)
            have hmv : moveD rs l i k = frS rs l k - toS rs l i := rfl
            have hto : toS rs l i = (rowAt rs i).getD (plAt l i) 0 - (rowAt rs i).getD (plAt l i - 1) 0 := rfl
            have hfr : frS rs l k = (rowAt rs k).getD (plAt l k + 1) 0 - (rowAt rs k).getD (plAt l k) 0 := rfl
            rw [hto, hfr] at hmv
            have hsn : sumN (betN rs l i) (k + 1) = sumN (betN rs l i) k + betN rs l i k := rfl
            have HNO := Lib.hid (fun h => bet_no (i := i) (l := l) hm3' h)
            have HYES := Lib.hid (fun h1 h2 h3 h4 => bet_yes (i := i) (l := l) hm3' h1 h2 h3 h4)
            obtain ⟨p, hpp⟩ : ∃ p, plAt l i = p := ⟨_, rfl⟩
            obtain ⟨q, hqq⟩ : ∃ q, plAt l k = q := ⟨_, rfl⟩
            rw [hpp] at hci1 hm1 hmv HNO HYES
            rw [hqq] at hck1 hm1' hmv HNO HYES
            have c1 := hcsi p hm1; have c2 := hcsi (p - 1) (by omega); have c3 := hcsk q hm1'
            have c4 : q + 1 < m' → _ := hcsk (q + 1)
            have d1 := hbdi p; have d2 := hbdi (p - 1); have d3 := hbdk q; have d4 := hbdk (q + 1)
            obtain ⟨x1, hx1⟩ : ∃ x, (rowAt rs i).getD p 0 = x := ⟨_, rfl⟩
            obtain ⟨x2, hx2⟩ : ∃ x, (rowAt rs i).getD (p - 1) 0 = x := ⟨_, rfl⟩
            obtain ⟨x3, hx3⟩ : ∃ x, (rowAt rs k).getD q 0 = x := ⟨_, rfl⟩
            obtain ⟨x4, hx4⟩ : ∃ x, (rowAt rs k).getD (q + 1) 0 = x := ⟨_, rfl⟩
            rw [hx1] at c1 d1 hmv
            rw [hx2] at c2 d2 hmv
            rw [hx3] at c3 d3 hmv
            rw [hx4] at c4 d4 hmv
            obtain ⟨M, hM⟩ : ∃ M, movesTo rs l n i + sumN (betN rs l i) k = M := ⟨_, rfl⟩
            rw [hM] at hbd
            rw [hM]
            have HSN : Hid (movesTo rs l n i + sumN (betN rs l i) (k + 1) = M + betN rs l i k) := by show _ = _; rw [hsn, ← hM]; omega
            have HC4 := Lib.hid c4; have HMV := Lib.hid hmv
            have t1 : IntKind.i64.wrap ((q : Int) + 1) = (q : Int) + 1 := IntWalk.i64_in _ (by omega)
            have t2 : ((q : Int) + 1).toNat = q + 1 := by omega
            have s1 : IntKind.i64.wrap (x2 - x1) = x2 - x1 := IntWalk.i64_in _ (by omega)
            have s2 : IntKind.i64.wrap (x2 - x1 + x4) = x2 - x1 + x4 := IntWalk.i64_in _ (by omega)
            have s3 : IntKind.i64.wrap (x2 - x1 + x4 - x3) = x2 - x1 + x4 - x3 := IntWalk.i64_in _ (by omega)
            have p0 : (0 : Int) ≤ (p : Int) := by omega
            have q0 : (0 : Int) ≤ (q : Int) := by omega
            have q1 : (0 : Int) ≤ (q : Int) + 1 := by omega
            have pm : (p : Int) < (m : Int) := by omega
            have qm : (q : Int) < (m' : Int) := by omega
            clear hdr hcsi hbdi hcsk hbdk hto hfr hsn hpp hqq hx1 hx2 hx3 hx4 hM hmv c4 d1 d2 d3 d4 hm3 hm3'
            by_cases hik : i = k
            · have HZ := Lib.hid (HNO.out (.inl hik))
              subst hik
              clear HNO HYES c1 c2 c3 HC4
              go_wp2
              go_quiet (fail)
              go_wp2
              go_roundw
              case rel => exact ⟨i + 1, by omega, by go_num, by rw [HSN.out, HZ.out, Int.add_zero], HD.out.more _⟩
              case measure => simp [intOf]; omega
            · have hik1 : ¬ (i : Int) = (k : Int) := by omega
              have hik2 : ((i : Int) == (k : Int)) = false := by rw [beq_eq_false_iff_ne]; exact hik1
              by_cases hp0 : p = 0
              · have HZ := Lib.hid (HNO.out (.inr (.inl hp0)))
                have hp1 : (p : Int) = 0 := by omega
                have hp2 : ((p : Int) == 0) = true := by rw [beq_iff_eq]; exact hp1
                clear HNO HYES c1 c2 c3 HC4 hp0
                go_wp2
                go_quiet (fail)
                go_wp2
                go_roundw
                case rel => exact ⟨k + 1, by omega, by go_num, by rw [HSN.out, HZ.out, Int.add_zero], HD.out.more _⟩
                case measure => simp [intOf]; omega
              · have hp1 : ¬ (p : Int) = 0 := by omega
                have hp2 : ((p : Int) == 0) = false := by rw [beq_eq_false_iff_ne]; exact hp1
                obtain ⟨j, hj⟩ : ∃ j, p - 1 = j := ⟨_, rfl⟩
                rw [hj] at c2
                have t5 : IntKind.i64.wrap ((p : Int) - 1) = (j : Int) := by rw [IntWalk.i64_in _ (by omega)]; omega
                have j0 : (0 : Int) ≤ (j : Int) := by omega
                have jm : (j : Int) < (m : Int) := by omega
                have HPP : Hid (0 < p) := Nat.pos_of_ne_zero hp0
                clear hj hp0
                by_cases hqm : q + 1 = m'
                · have HZ := Lib.hid (HNO.out (.inr (.inr (.inl hqm))))
                  have hq1 : (q : Int) + 1 = (m' : Int) := by omega
                  have hq2 : ((q : Int) + 1 == (m' : Int)) = true := by rw [beq_iff_eq]; exact hq1
                  clear HNO HYES c1 c2 c3 HC4 hqm
                  go_wp2
                  go_quiet (fail)
                  go_wp2
                  go_roundw
                  case rel => exact ⟨k + 1, by omega, by go_num, by rw [HSN.out, HZ.out, Int.add_zero], HD.out.more _⟩
                  case measure => simp [intOf]; omega
                · have hq1 : ¬ (q : Int) + 1 = (m' : Int) := by omega
                  have hq2 : ((q : Int) + 1 == (m' : Int)) = false := by rw [beq_eq_false_iff_ne]; exact hq1
                  have hqlt : q + 1 < m' := by omega
                  have hqlt' : (q : Int) + 1 < (m' : Int) := by omega
                  have c4 := HC4.out hqlt
                  by_cases hneg : x2 - x1 + x4 - x3 < 0
                  · have HZ := Lib.hid (HYES.out hik HPP.out hqlt (by rw [HMV.out]; omega))
                    have sM : IntKind.i64.wrap (M + 1) = M + 1 := IntWalk.i64_in _ (by omega)
                    clear HNO HYES HC4 HMV
                    go_wp2
                    go_quiet (fail)
                    go_wp2
                    go_quiet (fail)
                    go_wp2
                    go_roundw
                    case rel => exact ⟨k + 1, by omega, by go_num, by rw [HSN.out, HZ.out], by first | exact (HD.out.more _).more _ | exact HD.out.more _⟩
                    case measure => simp [intOf]; omega
                  · have HZ := Lib.hid (HNO.out (.inr (.inr (.inr (by rw [HMV.out]; omega)))))
                    clear HNO HYES HC4 HMV
                    go_wp2
                    go_quiet (fail)
                    go_wp2
                    go_quiet (fail)
                    go_wp2
                    go_roundw
                    case rel => exact ⟨k + 1, by omega, by go_num, by rw [HSN.out, HZ.out, Int.add_zero], by first | exact (HD.out.more _).more _ | exact HD.out.more _⟩
                    case measure => simp [intOf]; omega
          · obtain rfl : k = n := by omega
            have hkn' : ¬ (k : Int) < (k : Int) := by omega
            clear hdr
            go_wp2
            go_roundw
            case rel => exact ⟨i + 1, by omega, by go_num, rfl, HD.out⟩
            case measure => simp [intOf]; omega
      · obtain rfl : i = n := by omega
        have hin' : ¬ (i : Int) < (i : Int) := by omega
        have HC : Hid (movesTo rs l i i = movesL rs l) := by show _ = _; rw [← moves_all, HRN.out]
        go_wp2
        go_ret2
        rw [HM.out, ← HC.out]
        exact ⟨rfl, HD.out.below⟩
end Go.Proofs.Ytanmjaljcnihlaa

namespace Go.Proofs.Ytanmjaljcnihlaa
open Go.RowKit

/-- The greatest places of the first k rows, added up. -/
def mostTo (rs : List (List Int)) : Nat → Int
  | 0 => 0
  | k + 1 => mostTo rs k + ((rowAt rs k).length : Int) - 1
theorem mostTo_cons (r : List Int) (rs : List (List Int)) : ∀ k : Nat, mostTo (r :: rs) (k + 1) = (r.length : Int) - 1 + mostTo rs k
  | 0 => by show (0 : Int) + (r.length : Int) - 1 = (r.length : Int) - 1 + 0; omega
  | k + 1 => by
    show mostTo (r :: rs) (k + 1) + ((rowAt (r :: rs) (k + 1)).length : Int) - 1 = (r.length : Int) - 1 + (mostTo rs k + ((rowAt rs k).length : Int) - 1)
    rw [mostTo_cons r rs k, show rowAt (r :: rs) (k + 1) = rowAt rs k from rfl]
    omega
theorem mostTo_all : ∀ rs : List (List Int), mostTo rs rs.length = mostL rs
  | [] => rfl
  | r :: rs => by rw [List.length_cons, mostTo_cons, mostTo_all rs]; rfl
theorem mostTo_bd {rs : List (List Int)} (h : ∀ r, r ∈ rs → r.length ≤ 12) : ∀ k : Nat, k ≤ rs.length → -(k : Int) ≤ mostTo rs k ∧ mostTo rs k ≤ 12 * (k : Int)
  | 0, _ => ⟨Int.le_refl _, Int.le_refl _⟩
  | k + 1, hk => by
    have ih := mostTo_bd h k (by omega)
    have h1 := h rs[k] (List.getElem_mem (by omega))
    have e : mostTo rs (k + 1) = mostTo rs k + ((rowAt rs k).length : Int) - 1 := rfl
    rw [e, rowAt_get (show k < rs.length by omega)]
    omega

set_option maxRecDepth 100000 in
set_option maxHeartbeats 1000000 in
theorem l6sMost_any (A : Option Addr) (c lo hi : Nat) (rs : List (List Int)) (w : World) (h : IRR w lo hi A rs) (hb : ∀ r, r ∈ rs → r.length ≤ 12) (h4 : rs.length ≤ 4) :
    Calls Try.prog 39 #[.slice A rs.length c] w fun e w' => e = .returned (.int .i64 (mostL rs)) ∧ w' = w := by
  have H := Lib.hid h; have HBD := Lib.hid hb
  clear h hb
  obtain ⟨n, hn⟩ : ∃ n, rs.length = n := ⟨_, rfl⟩
  have HN := Lib.hid hn
  rw [hn] at h4
  rw [hn]
  clear hn
  go_enter Try.func39, Try.ntmps39
  go_wp2
  go_loop [3, 4] (fun v i => ∃ k : Nat, k ≤ n ∧ i = .int .i64 (k : Int) ∧ v = .int .i64 (mostTo rs k)) (fun _ i => n - (intOf i).toNat)
  case atStart => exact ⟨0, Nat.zero_le _, rfl, rfl⟩
  case round =>
    obtain ⟨k, hk, rfl, rfl⟩ := hrel
    by_cases hlt : k < n
    · have hkr : k < rs.length := by rw [HN.out]; exact hlt
      obtain ⟨b, off, Ak, ck, rfl, _, hc, _, hrow⟩ := H.out.at_ hkr
      have hbd := mostTo_bd HBD.out k (by omega)
      have hsc : mostTo rs (k + 1) = mostTo rs k + (rs[k].length : Int) - 1 := by rw [← rowAt_get hkr]; rfl
      have hl := HBD.out rs[k] (List.getElem_mem hkr)
      obtain ⟨m, hm⟩ : ∃ m, rs[k].length = m := ⟨_, rfl⟩
      obtain ⟨s, hs⟩ : ∃ s, mostTo rs k = s := ⟨_, rfl⟩
      rw [hm] at hc hsc hl
      rw [hs] at hbd hsc
      rw [hs]
      have HSC := Lib.hid hsc
      have s1 : IntKind.i64.wrap (s + (m : Int)) = s + (m : Int) := IntWalk.i64_in _ (by omega)
      have s2 : IntKind.i64.wrap (s + (m : Int) - 1) = s + (m : Int) - 1 := IntWalk.i64_in _ (by omega)
      have hlt' : (k : Int) < (n : Int) := by omega
      have k0 : (0 : Int) ≤ (k : Int) := by omega
      clear hrow hbd hsc hm hs hl
      go_wp2
      go_round
      case rel => exact ⟨k + 1, by omega, by go_num, by rw [HSC.out]⟩
      case measure => simp [intOf]; omega
    · obtain rfl : k = n := by omega
      have HC : Hid (mostTo rs k = mostL rs) := by show _ = _; rw [← mostTo_all, HN.out]
      have hlt' : ¬ (k : Int) < (k : Int) := by omega
      go_wp2
      go_ret
      rw [← HC.out]
      exact ⟨rfl, rfl⟩

theorem drop_cons {rs : List (List Int)} {i : Nat} (hi : i < rs.length) : rs.drop i = rs[i] :: rs.drop (i + 1) := List.drop_eq_getElem_cons hi
/-- The rows' bounds. -/
def Fit (rs : List (List Int)) : Prop := ∀ r, r ∈ rs → (∀ z, z ∈ r → -1000 ≤ z ∧ z ≤ 1000) ∧ r.length ≤ 12
theorem Fit.drop {rs : List (List Int)} (h : Fit rs) (i : Nat) : Fit (rs.drop i) := fun r hr => h r (List.mem_of_mem_drop hr)
theorem Fit.at_ {rs : List (List Int)} (h : Fit rs) {i : Nat} (hi : i < rs.length) : (∀ z, z ∈ rs[i] → -1000 ≤ z ∧ z ≤ 1000) ∧ rs[i].length ≤ 12 := h _ (List.getElem_mem hi)
theorem given_fit {rs : List (List Int)} (h : givenB rs = true) : Fit rs := fun r hr => by
  have := rowB_true.1 ((given_true.1 h).1 r hr)
  exact ⟨this.1, this.2.2⟩
theorem pow12_le : ∀ {d : Nat}, d ≤ 4 → pow12 d ≤ 20736
  | 0, _ => by decide
  | 1, _ => by decide
  | 2, _ => by decide
  | 3, _ => by decide
  | 4, _ => by decide
  | _ + 5, h => absurd h (by omega)
/-- All that is tried is small. -/
theorem small_s {rs : List (List Int)} (h : Fit rs) (h4 : rs.length ≤ 4) (n : Int) : (0 ≤ (tryL rs n).2.2 ∧ (tryL rs n).2.2 ≤ 30000) ∧ (-10000 ≤ (tryL rs n).1 ∧ (tryL rs n).1 ≤ 10000) ∧ (tryL rs n).2.1.length ≤ 4 := by
  have h1 := try_small h n
  have h2 := pow12_le h4
  exact ⟨⟨h1.1.1, by have := h1.1.2; omega⟩, ⟨by have := h1.2.1; omega, by have := h1.2.1; omega⟩, by have := h1.2.2; omega⟩
theorem small_t {rs : List (List Int)} (h : Fit rs) (h4 : rs.length ≤ 3) {r : List Int} (hr : ∀ z, z ∈ r → -1000 ≤ z ∧ z ≤ 1000) (n : Int) {j : Nat} (hj : j ≤ 12) : (0 ≤ (tryTo (tryL rs) r n j).2.2 ∧ (tryTo (tryL rs) r n j).2.2 ≤ 30000) ∧ (-10000 ≤ (tryTo (tryL rs) r n j).1 ∧ (tryTo (tryL rs) r n j).1 ≤ 10000) ∧ (tryTo (tryL rs) r n j).2.1.length ≤ 4 := by
  have h1 := small_len h hr n j
  have h2 : pow12 rs.length ≤ 1728 := by
    match rs.length, h4 with
    | 0, _ => decide
    | 1, _ => decide
    | 2, _ => decide
    | 3, _ => decide
    | _ + 4, h => exact absurd h (by omega)
  have h3 : (j : Int) * pow12 rs.length ≤ 12 * 1728 := Int.mul_le_mul (by omega) h2 (by have := pow12_pos rs.length; omega) (by omega)
  exact ⟨⟨h1.1.1, by have := h1.1.2; omega⟩, ⟨by have := h1.2.1; omega, by have := h1.2.1; omega⟩, by have := h1.2.2; omega⟩
theorem step_none {acc q : Res} {x : Nat} {e : Int} (h : q.2.2 = 0) : stepT acc x q e = acc := by unfold stepT; rw [if_pos h]
theorem step_new {acc q : Res} {x : Nat} {e : Int} (h : ¬ q.2.2 = 0) (h2 : acc.2.2 = 0 ∨ q.1 + e < acc.1) : stepT acc x q e = (q.1 + e, (x : Int) :: q.2.1, q.2.2) := by unfold stepT; rw [if_neg h, if_pos h2]
theorem step_same {acc q : Res} {x : Nat} {e : Int} (h : ¬ q.2.2 = 0) (h2 : ¬ (acc.2.2 = 0 ∨ q.1 + e < acc.1)) (h3 : q.1 + e = acc.1) : stepT acc x q e = (acc.1, acc.2.1, acc.2.2 + q.2.2) := by unfold stepT; rw [if_neg h, if_neg h2, if_pos h3]
theorem step_old {acc q : Res} {x : Nat} {e : Int} (h : ¬ q.2.2 = 0) (h2 : ¬ (acc.2.2 = 0 ∨ q.1 + e < acc.1)) (h3 : ¬ q.1 + e = acc.1) : stepT acc x q e = acc := by unfold stepT; rw [if_neg h, if_neg h2, if_neg h3]

set_option maxRecDepth 100000 in
set_option maxHeartbeats 2000000 in
theorem l6sTry_any (A : Option Addr) (c lo hi N : Nat) (rs : List (List Int)) (hf : Fit rs) (h4 : rs.length ≤ 4) (hN : rs.length = N) : ∀ (d i : Nat) (n : Int) (w : World), i + d = N → 0 ≤ n → n ≤ 1000 → IRR w lo hi A rs →
    Calls Try.prog 40 #[.slice A N c, .int .i64 (i : Int), .int .i64 n] w fun e w' => ∃ A' c', e = .returned (.tuple #[.int .i64 (tryL (rs.drop i) n).1, .slice A' (tryL (rs.drop i) n).2.1.length c', .int .i64 (tryL (rs.drop i) n).2.2]) ∧ IW w' w.heap.size w'.heap.size A' (tryL (rs.drop i) n).2.1 ∧ Below w.heap.size w w' := by
  have HF := Lib.hid hf; have HN := Lib.hid hN
  have hN4 : N ≤ 4 := by omega
  clear hf h4 hN
  intro d
  induction d with
  | zero =>
    intro i n w hid n0 n1 h
    have hin : (i : Int) = (N : Int) := by omega
    have hd : rs.drop i = [] := List.drop_eq_nil_of_le (by rw [HN.out]; omega)
    rw [hd]
    clear h
    by_cases hz : n = 0
    · have e : tryL [] n = (0, [], 1) := by unfold tryL; rw [if_pos hz]
      rw [e]
      clear e hd
      go_enter Try.func40, Try.ntmps40
      go_wp2
      go_ret3
      exact ⟨_, 0, rfl, IW.nil' _ _ _, (Below.refl _ _).alloc (Nat.le_refl _) _⟩
    · have e : tryL [] n = (0, [], 0) := by unfold tryL; rw [if_neg hz]
      have hz' : (n == 0) = false := by rw [beq_eq_false_iff_ne]; exact hz
      rw [e]
      clear e hd
      go_enter Try.func40, Try.ntmps40
      go_wp2
      go_ret3
      exact ⟨_, 0, rfl, IW.nil' _ _ _, (Below.refl _ _).alloc (Nat.le_refl _) _⟩
  | succ d ih =>
    intro i n w hid n0 n1 h
    have hir : i < rs.length := by rw [HN.out]; omega
    have hlen : (rs.drop (i + 1)).length ≤ 3 := by rw [List.length_drop, HN.out]; omega
    obtain ⟨r, hr⟩ : ∃ r, rs[i] = r := ⟨_, rfl⟩
    have hrl := (HF.out.at_ hir).2
    have hrb := (HF.out.at_ hir).1
    have hdc := drop_cons hir
    rw [hr] at hrl hrb hdc
    obtain ⟨us, hus⟩ : ∃ us, rs.drop (i + 1) = us := ⟨_, rfl⟩
    have HUF : Hid (Fit us) := by rw [← hus]; exact HF.out.drop _
    rw [hus] at hdc hlen
    have HTRY : Hid (tryL (rs.drop i) n = tryTo (tryL us) r n (min r.length (n.toNat + 1))) := by show _ = _; rw [hdc]; rfl
    obtain ⟨m, hm⟩ : ∃ m, r.length = m := ⟨_, rfl⟩
    rw [hm] at hrl HTRY
    have H := Lib.hid h; have HIH := Lib.hid ih; have HR := Lib.hid hr; have HM := Lib.hid hm; have HRB := Lib.hid hrb; have HUS := Lib.hid hus; have HLEN := Lib.hid hlen
    have hin : ¬ (i : Int) = (N : Int) := by omega
    have hinb : ((i : Int) == (N : Int)) = false := by rw [beq_eq_false_iff_ne]; exact hin
    have i0 : (0 : Int) ≤ (i : Int) := by omega
    have iN : (i : Int) < (N : Int) := by omega
    have t1 : IntKind.i64.wrap ((i : Int) + 1) = (i : Int) + 1 := IntWalk.i64_in _ (by omega)
    clear h ih hr hm hrb hdc hus hlen
    go_enter Try.func40, Try.ntmps40
    go_wp2
    go_loopw [9, 10, 11, 12] (fun b v k x wr => ∃ (j : Nat) (A' : Option Addr) (c' : Nat), j ≤ m ∧ (j : Int) ≤ n + 1 ∧ x = .int .i64 (j : Int) ∧ b = .int .i64 (tryTo (tryL us) r n j).1 ∧ v = .slice A' (tryTo (tryL us) r n j).2.1.length c' ∧ k = .int .i64 (tryTo (tryL us) r n j).2.2 ∧ IW wr w.heap.size wr.heap.size A' (tryTo (tryL us) r n j).2.1 ∧ Below w.heap.size w wr) (fun _ _ _ x _ => m - (intOf x).toNat)
    case atStart => exact ⟨0, _, 0, Nat.zero_le _, by omega, rfl, rfl, rfl, rfl, IW.nil' _ _ _, (Below.refl _ _).alloc (Nat.le_refl _) _⟩
    case round =>
      obtain ⟨j, A', c', hj, hjn, rfl, rfl, rfl, rfl, hiw, hbl⟩ := hrel
      have HW := Lib.hid hiw; have HB := Lib.hid hbl
      clear hiw hbl
      have HI := Lib.hid (H.out.below HB.out H.out.2.1)
      obtain ⟨b, off, Ak, ck, rfl, hbw, hc, _, hrow⟩ := HI.out.at_ hir
      rw [HR.out] at hc hrow
      rw [HM.out] at hc
      by_cases hjm : j < m
      · have hjm' : (j : Int) < (m : Int) := by omega
        have j0 : (0 : Int) ≤ (j : Int) := by omega
        by_cases hj2 : (j : Int) ≤ n
        · have hjr : j < r.length := by rw [HM.out]; exact hjm
          obtain ⟨bk, ok, rfl, _, _, hcx⟩ := hrow.at_ hjr
          have hxb := HRB.out _ (List.getElem_mem hjr)
          have hcall := HIH.out (i + 1) (n - (j : Int)) wr (by omega) (by omega) (by omega) HI.out
          rw [HUS.out, show ((i + 1 : Nat) : Int) = (i : Int) + 1 by omega] at hcall
          have hsq := small_s HUF.out (by have := HLEN.out; omega) (n - (j : Int))
          have hss := small_t HUF.out HLEN.out HRB.out n (j := j) (by omega)
          have hst : tryTo (tryL us) r n (j + 1) = stepT (tryTo (tryL us) r n j) j (tryL us (n - (j : Int))) (r.getD j 0) := rfl
          rw [getD_at hjr] at hst
          obtain ⟨y, hy⟩ : ∃ y, r[j] = y := ⟨_, rfl⟩
          obtain ⟨q1, q2, q3, hq⟩ : ∃ q1 q2 q3, tryL us (n - (j : Int)) = (q1, q2, q3) := ⟨_, _, _, rfl⟩
          obtain ⟨s1, s2, s3, hs⟩ : ∃ s1 s2 s3, tryTo (tryL us) r n j = (s1, s2, s3) := ⟨_, _, _, rfl⟩
          rw [hy] at hcx hxb hst
          rw [hq] at hcall hsq hst
          rw [hs] at hss hst HW
          rw [hs]
          dsimp only at hcall hsq hss HW
          dsimp only
          obtain ⟨⟨sq1, sq2⟩, ⟨sq3, sq4⟩, sq5⟩ := hsq
          obtain ⟨⟨ss1, ss2⟩, ⟨ss3, ss4⟩, ss5⟩ := hss
          have HNONE : Hid (q3 = 0 → tryTo (tryL us) r n (j + 1) = (s1, s2, s3)) := fun e => by rw [hst, step_none e]
          have HNEW : Hid (¬ q3 = 0 → (s3 = 0 ∨ q1 + y < s1) → tryTo (tryL us) r n (j + 1) = (q1 + y, (j : Int) :: q2, q3)) := fun e1 e2 => by rw [hst, step_new e1 e2]
          have HSAME : Hid (¬ q3 = 0 → ¬ (s3 = 0 ∨ q1 + y < s1) → q1 + y = s1 → tryTo (tryL us) r n (j + 1) = (s1, s2, s3 + q3)) := fun e1 e2 e3 => by rw [hst, step_same e1 e2 e3]
          have HOLD : Hid (¬ q3 = 0 → ¬ (s3 = 0 ∨ q1 + y < s1) → ¬ q1 + y = s1 → tryTo (tryL us) r n (j + 1) = (s1, s2, s3)) := fun e1 e2 e3 => by rw [hst, step_old e1 e2 e3]
          have HCALL := Lib.hid hcall
          have t2 : IntKind.i64.wrap (n - (j : Int)) = n - (j : Int) := IntWalk.i64_in _ (by omega)
          have t3 : IntKind.i64.wrap (q1 + y) = q1 + y := IntWalk.i64_in _ (by omega)
          have t4 : IntKind.i64.wrap (s3 + q3) = s3 + q3 := IntWalk.i64_in _ (by omega)
          have HC := Lib.hid hc; have HCX := Lib.hid hcx
          have HK64 : Hid (I64 (j : Int)) := ⟨by omega, by omega⟩
          have HLE : Hid (([(j : Int)]).length + q2.length ≤ 17592186044416) := by show _ ≤ _; simp; omega
          clear hrow hst hcall hy hq hs ss5 sq5 hxb
          go_wp2_with fail
          refine HCALL.out.mono ?_
          rintro e w3 ⟨A3, c3, rfl, hi3, hb3⟩
          have HI3 := Lib.hid hi3
          have HB3 := Lib.hid (HB.out.trans (hb3.mono HB.out.size))
          have HW3 := Lib.hid ((HW.out.grow hb3).wide (Nat.le_refl _) hb3.size (Nat.le_refl _))
          have hc3 := (hb3.cell (p := ⟨b, off + i, none⟩) hbw).trans HC.out
          have hbk : bk < wr.heap.size := by
            by_cases h : bk < wr.heap.size
            · exact h
            · exfalso
              have := HCX.out
              rw [show wr.cell? ⟨bk, ok + j, none⟩ = none by unfold World.cell?; simp [Array.getElem?_eq_none (Nat.le_of_not_lt h)]] at this
              cases this
          have hcx3 := (hb3.cell (p := ⟨bk, ok + j, none⟩) hbk).trans HCX.out
          have HR3 := Lib.hid (HI3.out.toIR.below ((Below.refl w3.heap.size w3).alloc (Nat.le_refl _) (.cells #[.int .i64 (j : Int)] 3)) (Nat.le_refl _))
          clear hb3 hi3 HCALL hc hcx
          by_cases c0 : q3 = 0
          · have HNX := Lib.hid (HNONE.out c0)
            clear HNONE HNEW HSAME HOLD
            go_wp2
            go_roundw
            case rel => exact ⟨j + 1, A', c', by omega, by omega, by go_num, by rw [HNX.out], by rw [HNX.out], by rw [HNX.out], by rw [HNX.out]; exact HW3.out, HB3.out⟩
            case measure => simp [intOf]; omega
          · have c0' : (q3 == 0) = false := by rw [beq_eq_false_iff_ne]; exact c0
            by_cases c1 : s3 = 0
            · have HNX := Lib.hid (HNEW.out c0 (.inl c1))
              clear HNONE HNEW HSAME HOLD
              go_wp2_with (at_builtin; refine wpList_appendsI rfl _ _ rfl w3.heap.size _ [(j : Int)] q2 A3 _ _ _ c3 rfl rfl rfl (OwnI.one w3 _ HK64.out) HR3.out HLE.out ?_; intro v4 w4 ho4 hb4; have HO4 := Lib.hid ho4; have HB4 := Lib.hid hb4; clear ho4 hb4; obtain ⟨A4, c4, rfl, hi4⟩ := HO4.out.iw (by have := HLE.out; simp at this ⊢; omega); have HI4 := Lib.hid hi4; clear hi4 HO4)
              go_roundw
              case rel =>
                refine ⟨j + 1, A4, c4, by omega, by omega, by go_num, by rw [HNX.out], by rw [HNX.out]; rfl, by rw [HNX.out], ?_, HB3.out.trans ((((Below.refl _ w3).alloc (Nat.le_refl _) _).trans HB4.out).mono HB3.out.size)⟩
                rw [HNX.out]
                exact HI4.out.wide HB3.out.size (Nat.le_refl _) (Nat.le_refl _)
              case measure => simp [intOf]; omega
            · have c1' : (s3 == 0) = false := by rw [beq_eq_false_iff_ne]; exact c1
              by_cases c2 : q1 + y < s1
              · have HNX := Lib.hid (HNEW.out c0 (.inr c2))
                clear HNONE HNEW HSAME HOLD
                go_wp2_with (at_builtin; refine wpList_appendsI rfl _ _ rfl w3.heap.size _ [(j : Int)] q2 A3 _ _ _ c3 rfl rfl rfl (OwnI.one w3 _ HK64.out) HR3.out HLE.out ?_; intro v4 w4 ho4 hb4; have HO4 := Lib.hid ho4; have HB4 := Lib.hid hb4; clear ho4 hb4; obtain ⟨A4, c4, rfl, hi4⟩ := HO4.out.iw (by have := HLE.out; simp at this ⊢; omega); have HI4 := Lib.hid hi4; clear hi4 HO4)
                go_roundw
                case rel =>
                  refine ⟨j + 1, A4, c4, by omega, by omega, by go_num, by rw [HNX.out], by rw [HNX.out]; rfl, by rw [HNX.out], ?_, HB3.out.trans ((((Below.refl _ w3).alloc (Nat.le_refl _) _).trans HB4.out).mono HB3.out.size)⟩
                  rw [HNX.out]
                  exact HI4.out.wide HB3.out.size (Nat.le_refl _) (Nat.le_refl _)
                case measure => simp [intOf]; omega
              · have hno : ¬ (s3 = 0 ∨ q1 + y < s1) := fun h => h.elim c1 c2
                by_cases c3' : q1 + y = s1
                · have HNX := Lib.hid (HSAME.out c0 hno c3')
                  have c4' : (q1 + y == s1) = true := by rw [beq_iff_eq]; exact c3'
                  have c2' : decide (q1 + y < s1) = false := decide_eq_false c2
                  clear HNONE HNEW HSAME HOLD hno
                  go_wp2
                  go_roundw
                  case rel => exact ⟨j + 1, A', c', by omega, by omega, by go_num, by rw [HNX.out], by rw [HNX.out], by rw [HNX.out], by rw [HNX.out]; exact HW3.out, HB3.out⟩
                  case measure => simp [intOf]; omega
                · have HNX := Lib.hid (HOLD.out c0 hno c3')
                  have c4' : (q1 + y == s1) = false := by rw [beq_eq_false_iff_ne]; exact c3'
                  have c2' : decide (q1 + y < s1) = false := decide_eq_false c2
                  clear HNONE HNEW HSAME HOLD hno
                  go_wp2
                  go_roundw
                  case rel => exact ⟨j + 1, A', c', by omega, by omega, by go_num, by rw [HNX.out], by rw [HNX.out], by rw [HNX.out], by rw [HNX.out]; exact HW3.out, HB3.out⟩
                  case measure => simp [intOf]; omega
        · have HE : Hid (tryTo (tryL us) r n j = tryL (rs.drop i) n) := by show _ = _; rw [HTRY.out, show min m (n.toNat + 1) = j by omega]
          clear hrow
          go_wp2
          go_ret3
          rw [← HE.out]
          exact ⟨A', ⟨c', rfl⟩, HW.out, HB.out⟩
      · obtain rfl : j = m := by omega
        have hjm' : ¬ (j : Int) < (j : Int) := by omega
        have HE : Hid (tryTo (tryL us) r n j = tryL (rs.drop i) n) := by show _ = _; rw [HTRY.out, show min j (n.toNat + 1) = j by omega]
        clear hrow
        go_wp2
        go_ret3
        rw [← HE.out]
        exact ⟨A', ⟨c', rfl⟩, HW.out, HB.out⟩

/-- A cost, a list of the call's own, and whether there is one. -/
def RetCL (w : World) (x : Int) (o : Option (List Int)) (e : Ending) (w' : World) : Prop := ∃ A c, e = .returned (.tuple #[.int .i64 x, .slice A (o.getD []).length c, .bool o.isSome]) ∧ IW w' w.heap.size w'.heap.size A (o.getD []) ∧ Below w.heap.size w w'
theorem retCL_none {w w' : World} {A : Option Addr} {c : Nat} (hb : Below w.heap.size w w') : RetCL w 0 none (.returned (.tuple #[.int .i64 0, .slice A 0 c, .bool false])) w' := ⟨A, c, rfl, IW.nil' _ _ _, hb⟩
theorem share_not {rs : List (List Int)} {n : Int} (h : shareOk rs n = false) : shareC rs n = 0 ∧ shareM rs n = none ∧ shareAllL rs n = 0 := by
  unfold shareC shareM shareAllL
  rw [h]
  simp
theorem share_yes {rs : List (List Int)} {n : Int} (h : shareOk rs n = true) : shareC rs n = (tryL rs n).1 ∧ shareM rs n = some (tryL rs n).2.1 ∧ shareAllL rs n = (tryL rs n).2.2 := by
  unfold shareC shareM shareAllL
  rw [h]
  simp
theorem most_le {rs : List (List Int)} (hg : givenB rs = true) : 0 ≤ mostL rs ∧ mostL rs ≤ 48 := by
  obtain ⟨g1, g2, g3⟩ := given_true.1 hg
  have h1 := most_nonneg (rs := rs) fun r hr => by have := (rowB_true.1 (g1 r hr)).2; omega
  have h2 := mostTo_bd (rs := rs) (fun r hr => (given_fit hg r hr).2) rs.length (Nat.le_refl _)
  rw [mostTo_all] at h2
  omega

/-- What the model asks first. -/
theorem share_asks (A : Option Addr) (c lo hi : Nat) (rs : List (List Int)) (w : World) (h : IRR w lo hi A rs) (hg : givenB rs = true) :
    Calls Try.prog 39 #[.slice A rs.length c] w fun e w' => e = .returned (.int .i64 (mostL rs)) ∧ w' = w :=
  l6sMost_any A c lo hi rs w h (fun r hr => (given_fit hg r hr).2) (given_true.1 hg).2.2

set_option maxRecDepth 100000 in
set_option maxHeartbeats 1000000 in
theorem specShareTry_any (A : Option Addr) (c lo hi : Nat) (rs : List (List Int)) (n : Int) (w : World) (h : IRR w lo hi A rs) :
    Calls Try.prog 12 #[.slice A rs.length c, .int .i64 n] w (RetCL w (shareC rs n) (shareM rs n)) := by
  have H := Lib.hid h
  clear h
  go_enter Try.func12, Try.ntmps12
  cases hg : givenB rs with
  | false =>
    have HM := Lib.hid (share_not (rs := rs) (n := n) (by unfold shareOk; rw [hg]; rfl))
    have HG := Lib.hid hg
    clear hg
    go_wp2_with fail
    refine (l6sGiven_any _ _ _ _ rs _ H.out).mono ?_
    rintro e w1 ⟨rfl, rfl⟩
    rw [HG.out]
    go_wp2
    go_ret3
    rw [HM.out.1, HM.out.2.1]
    exact retCL_none ((Below.refl _ _).alloc (Nat.le_refl _) _)
  | true =>
    have HG := Lib.hid hg
    have hml := most_le hg
    clear hg
    go_wp2_with fail
    refine (l6sGiven_any _ _ _ _ rs _ H.out).mono ?_
    rintro e w1 ⟨rfl, rfl⟩
    rw [HG.out]
    go_wp2_with fail
    refine (share_asks _ _ _ _ rs _ H.out HG.out).mono ?_
    rintro e w1 ⟨rfl, rfl⟩
    obtain ⟨q, hq⟩ : ∃ q, inB 0 (mostL rs) n = q := ⟨_, rfl⟩
    have HJ := Lib.hid (fun W => l6In_of hq W)
    have HOK : Hid (shareOk rs n = q) := by show _ = _; unfold shareOk; rw [HG.out, hq]; rfl
    cases q with
    | false =>
      have HM := Lib.hid (share_not HOK.out)
      clear hq
      go_wp2_with fail
      refine (HJ.out _).mono ?_
      rintro e w1 ⟨rfl, rfl⟩
      go_wp2
      go_ret3
      rw [HM.out.1, HM.out.2.1]
      exact retCL_none ((Below.refl _ _).alloc (Nat.le_refl _) _)
    | true =>
      have HM := Lib.hid (share_yes HOK.out)
      have hn := inB_true.1 hq
      obtain ⟨N, hN⟩ : ∃ N, rs.length = N := ⟨_, rfl⟩
      have HT := Lib.hid (l6sTry_any A c lo hi N rs (given_fit HG.out) (given_true.1 HG.out).2.2 hN N 0 n w1 (by omega) (by omega) (by omega) H.out)
      rw [hN]
      clear hq hn hml hN
      go_wp2_with fail
      refine (HJ.out _).mono ?_
      rintro e w2 ⟨rfl, rfl⟩
      go_wp2_with fail
      refine HT.out.mono ?_
      rw [List.drop_zero]
      rintro e w3 ⟨A3, c3, rfl, hi3, hb3⟩
      have HI := Lib.hid hi3; have HB := Lib.hid hb3
      clear hi3 hb3
      go_wp2
      go_ret3
      rw [HM.out.1, HM.out.2.1]
      exact ⟨A3, c3, rfl, HI.out, HB.out⟩


set_option maxRecDepth 100000 in
set_option maxHeartbeats 1000000 in
theorem specShareAll_any (A : Option Addr) (c lo hi : Nat) (rs : List (List Int)) (n : Int) (w : World) (h : IRR w lo hi A rs) :
    Calls Try.prog 33 #[.slice A rs.length c, .int .i64 n] w (RetIB w (shareOk rs n) (shareAllL rs n)) := by
  have H := Lib.hid h
  clear h
  go_enter Try.func33, Try.ntmps33
  cases hg : givenB rs with
  | false =>
    have HM := Lib.hid (share_not (rs := rs) (n := n) (by unfold shareOk; rw [hg]; rfl))
    have HG := Lib.hid hg
    clear hg
    go_wp2_with fail
    refine (l6sGiven_any _ _ _ _ rs _ H.out).mono ?_
    rintro e w1 ⟨rfl, rfl⟩
    rw [HG.out]
    go_wp2
    go_ret2
    rw [HM.out.2.2, (show shareOk rs n = false by unfold shareOk; rw [HG.out]; rfl)]
    exact ⟨rfl, Below.refl _ _⟩
  | true =>
    have HG := Lib.hid hg
    have hml := most_le hg
    clear hg
    go_wp2_with fail
    refine (l6sGiven_any _ _ _ _ rs _ H.out).mono ?_
    rintro e w1 ⟨rfl, rfl⟩
    rw [HG.out]
    go_wp2_with fail
    refine (share_asks _ _ _ _ rs _ H.out HG.out).mono ?_
    rintro e w1 ⟨rfl, rfl⟩
    obtain ⟨q, hq⟩ : ∃ q, inB 0 (mostL rs) n = q := ⟨_, rfl⟩
    have HJ := Lib.hid (fun W => l6In_of hq W)
    have HOK : Hid (shareOk rs n = q) := by show _ = _; unfold shareOk; rw [HG.out, hq]; rfl
    cases q with
    | false =>
      have HM := Lib.hid (share_not HOK.out)
      clear hq
      go_wp2_with fail
      refine (HJ.out _).mono ?_
      rintro e w1 ⟨rfl, rfl⟩
      go_wp2
      go_ret2
      rw [HM.out.2.2, (show shareOk rs n = false by exact HOK.out)]
      exact ⟨rfl, Below.refl _ _⟩
    | true =>
      have HM := Lib.hid (share_yes HOK.out)
      have hn := inB_true.1 hq
      obtain ⟨N, hN⟩ : ∃ N, rs.length = N := ⟨_, rfl⟩
      have HT := Lib.hid (l6sTry_any A c lo hi N rs (given_fit HG.out) (given_true.1 HG.out).2.2 hN N 0 n w1 (by omega) (by omega) (by omega) H.out)
      rw [hN]
      clear hq hn hml hN
      go_wp2_with fail
      refine (HJ.out _).mono ?_
      rintro e w2 ⟨rfl, rfl⟩
      go_wp2_with fail
      refine HT.out.mono ?_
      rw [List.drop_zero]
      rintro e w3 ⟨A3, c3, rfl, hi3, hb3⟩
      have HI := Lib.hid hi3; have HB := Lib.hid hb3
      clear hi3 hb3
      go_wp2
      go_ret2
      rw [HM.out.2.2, HOK.out]
      exact ⟨rfl, HB.out⟩

end Go.Proofs.Ytanmjaljcnihlaa

namespace Go.Proofs.Ytanmjaljcnihlaa
open Go.RowKit

def Bnd (B : Int) (a : List Int) : Prop := ∀ k, -B ≤ a.getD k 0 ∧ a.getD k 0 ≤ B
theorem mergeTo_bd {a b : List Int} {B C : Int} (hB : 0 ≤ B ∧ 0 ≤ C ∧ B + C ≤ 40000) (ha : Bnd B a) (hb : Bnd C b) (k : Nat) : ∀ i, -(B + C) ≤ mergeTo a b k i ∧ mergeTo a b k i ≤ 40000
  | 0 => ⟨by show _ ≤ (40000 : Int); omega, by show (40000 : Int) ≤ 40000; omega⟩
  | i + 1 => by
    have ih := mergeTo_bd hB ha hb k i
    have h1 := ha i; have h2 := hb (k - i)
    unfold mergeTo
    split
    · omega
    · exact ih
theorem mergeL_len (a b : List Int) : (mergeL a b).length = a.length + b.length - 1 := by simp [mergeL]
theorem mergeL_get (a b : List Int) (k : Nat) (h : k < (mergeL a b).length) : (mergeL a b)[k] = mergeTo a b k (k + 1) := by simp [mergeL, mergeAt]

set_option maxRecDepth 100000 in
set_option maxHeartbeats 2000000 in
theorem l3Merge_any (A : Option Addr) (c lo hi : Nat) (a : List Int) (A1 : Option Addr) (c1 lo1 hi1 : Nat) (b : List Int) (B C : Int) (w : World) (h : IR w lo hi A a) (h1 : IR w lo1 hi1 A1 b) (hB : 0 ≤ B ∧ 0 ≤ C ∧ B + C ≤ 40000) (ha : Bnd B a) (hb : Bnd C b) (ha1 : 1 ≤ a.length ∧ a.length ≤ 100) (hb1 : 1 ≤ b.length ∧ b.length ≤ 100) :
    Calls Try.prog 57 #[.slice A a.length c, .slice A1 b.length c1] w (RetS w (mergeL a b)) := by
  have H := Lib.hid h; have H1 := Lib.hid h1
  have HBA := Lib.hid ha; have HBB := Lib.hid hb
  have hml := mergeL_len a b
  obtain ⟨n, hn⟩ : ∃ n, a.length = n := ⟨_, rfl⟩
  obtain ⟨m, hm⟩ : ∃ m, b.length = m := ⟨_, rfl⟩
  obtain ⟨T, hT⟩ : ∃ T, n + m - 1 = T := ⟨_, rfl⟩
  rw [hn, hm, hT] at hml
  have HN := Lib.hid hn; have HM := Lib.hid hm; have HML := Lib.hid hml
  rw [hn] at ha1
  rw [hm] at hb1
  rw [hn, hm]
  have s0 : IntKind.i64.wrap ((n : Int) + (m : Int)) = (n : Int) + (m : Int) := IntWalk.i64_in _ (by omega)
  have s1 : IntKind.i64.wrap ((n : Int) + (m : Int) - 1) = (T : Int) := by rw [IntWalk.i64_in _ (by omega)]; omega
  have hT2 : T ≤ 200 := by omega
  clear h h1 ha hb hn hm hT hml
  go_enter Try.func57, Try.ntmps57
  go_wp2
  go_loopw [5, 6] (fun v x wr => ∃ k : Nat, k ≤ T ∧ x = .int .i64 (k : Int) ∧ OwnI wr w.heap.size v ((mergeL a b).take k) ∧ Below w.heap.size w wr) (fun _ x _ => T - (intOf x).toNat)
  case atStart => exact ⟨0, Nat.zero_le _, rfl, OwnI.made w, (Below.refl _ _).alloc (Nat.le_refl _) _⟩
  case round =>
    obtain ⟨W0, hW0⟩ : ∃ W, W = wr := ⟨_, rfl⟩
    subst hW0
    obtain ⟨k, hk, rfl, ho, hbl⟩ := hrel
    have HO := Lib.hid ho; have HB := Lib.hid hbl
    clear ho hbl
    by_cases hkT : k < T
    · have hkT' : (k : Int) < (T : Int) := by omega
      have k0 : (0 : Int) ≤ (k : Int) := by omega
      go_wp2
      go_loopw [7, 8] (fun v x wr => ∃ i : Nat, i ≤ k + 1 ∧ x = .int .i64 (i : Int) ∧ v = .int .i64 (mergeTo a b k i) ∧ Dr W0 wr) (fun _ x _ => k + 1 - (intOf x).toNat)
      case atStart => exact ⟨0, Nat.zero_le _, rfl, rfl, Dr.refl _⟩
      case round =>
        obtain ⟨i, hi, rfl, rfl, hdr⟩ := hrel
        have HD := Lib.hid hdr
        have HA := Lib.hid (hdr.ir (H.out.below HB.out H.out.2.2.1)); have HA1 := Lib.hid (hdr.ir (H1.out.below HB.out H1.out.2.2.1))
        clear hdr
        have hmb := mergeTo_bd hB HBA.out HBB.out k i
        by_cases hik : i ≤ k
        · have hik' : (i : Int) ≤ (k : Int) := by omega
          have i0 : (0 : Int) ≤ (i : Int) := by omega
          obtain ⟨j, hj⟩ : ∃ j, k - i = j := ⟨_, rfl⟩
          have s2 : IntKind.i64.wrap ((k : Int) - (i : Int)) = (j : Int) := by rw [IntWalk.i64_in _ (by omega)]; omega
          have hst : mergeTo a b k (i + 1) = if i < n ∧ j < m then min (mergeTo a b k i) (a.getD i 0 + b.getD j 0) else mergeTo a b k i := by rw [← HN.out, ← HM.out, ← hj]; rfl
          have j0 : (0 : Int) ≤ (j : Int) := by omega
          have g1 := HBA.out i; have g2 := HBB.out j
          obtain ⟨q, hq⟩ : ∃ q, mergeTo a b k i = q := ⟨_, rfl⟩
          rw [hq] at hst hmb
          rw [hq]
          have HST := Lib.hid hst
          clear hst hj hq
          by_cases hin : i < n
          · have hin' : (i : Int) < (n : Int) := by omega
            by_cases hjm : j < m
            · have hjm' : (j : Int) < (m : Int) := by omega
              obtain ⟨ba, oa, rfl, _, _, hca⟩ := HA.out.at_ (k := i) (by rw [HN.out]; exact hin)
              obtain ⟨bb, ob, rfl, _, _, hcb⟩ := HA1.out.at_ (k := j) (by rw [HM.out]; exact hjm)
              rw [← getD_at] at hca hcb
              obtain ⟨x, hx⟩ : ∃ x, a.getD i 0 = x := ⟨_, rfl⟩
              obtain ⟨y, hy⟩ : ∃ y, b.getD j 0 = y := ⟨_, rfl⟩
              rw [hx] at hca g1 HST
              rw [hy] at hcb g2 HST
              have HS2 : Hid (mergeTo a b k (i + 1) = min q (x + y)) := by show _ = _; rw [HST.out, if_pos ⟨hin, hjm⟩]
              have s3 : IntKind.i64.wrap (x + y) = x + y := IntWalk.i64_in _ (by omega)
              clear hx hy HST g1 g2
              go_wp2
              go_quiet (fail)
              go_wp2
              go_roundw
              case rel => exact ⟨i + 1, by omega, by go_num, by rw [HS2.out]; simp; split <;> omega, HD.out.more _⟩
              case measure => simp [intOf]; omega
            · have hjm' : ¬ (j : Int) < (m : Int) := by omega
              have hjm'' : decide ((j : Int) < (m : Int)) = false := decide_eq_false hjm'
              have HS2 : Hid (mergeTo a b k (i + 1) = q) := by show _ = _; rw [HST.out, if_neg (fun h => hjm h.2)]
              go_wp2
              go_roundw
              case rel => exact ⟨i + 1, by omega, by go_num, by rw [HS2.out], HD.out⟩
              case measure => simp [intOf]; omega
          · have hin' : ¬ (i : Int) < (n : Int) := by omega
            have hin'' : decide ((i : Int) < (n : Int)) = false := decide_eq_false hin'
            have HS2 : Hid (mergeTo a b k (i + 1) = q) := by show _ = _; rw [HST.out, if_neg (fun h => hin h.1)]
            go_wp2
            go_roundw
            case rel => exact ⟨i + 1, by omega, by go_num, by rw [HS2.out], HD.out⟩
            case measure => simp [intOf]; omega
        · obtain rfl : i = k + 1 := by omega
          have hik' : ¬ ((k + 1 : Nat) : Int) ≤ (k : Int) := by omega
          have hkl : k < (mergeL a b).length := by rw [HML.out]; exact hkT
          have hsn := take_snoc (mergeL a b) k hkl
          rw [mergeL_get] at hsn
          obtain ⟨q, hq⟩ : ∃ q, mergeTo a b k (k + 1) = q := ⟨_, rfl⟩
          rw [hq] at hsn hmb
          rw [hq]
          have HSN := Lib.hid hsn
          have HO2 := Lib.hid (HD.out.own HO.out)
          have HB2 := Lib.hid (HB.out.trans (HD.out.below.mono HB.out.size))
          have HLn : Hid (((mergeL a b).take k).length < 17592186044416) := by show _ < _; rw [List.length_take, HML.out]; omega
          have HY : Hid (I64 q) := ⟨by omega, by omega⟩
          clear hsn hq hkl
          go_wp2_with (at_builtin; refine wpList_push rfl _ _ rfl w.heap.size _ _ rfl rfl HO2.out HLn.out HY.out ?_; intro v1 w5 ho1 hb1)
          rw [HSN.out] at ho1
          have HO5 := Lib.hid ho1; have HB5 := Lib.hid (HB2.out.trans hb1)
          clear ho1 hb1
          go_roundw
          case rel => exact ⟨k + 1, by omega, by go_num, HO5.out, HB5.out⟩
          case measure => simp [intOf]; omega
    · obtain rfl : k = T := by omega
      have hkT' : ¬ (k : Int) < (k : Int) := by omega
      have ho := HO.out
      rw [List.take_of_length_le (by rw [HML.out]; exact Nat.le_refl _)] at ho
      obtain ⟨A3, c3, rfl, hiw⟩ := ho.iw (by rw [HML.out]; omega)
      have HIW := Lib.hid hiw
      clear ho hiw HO
      go_wp2
      go_ret
      exact ⟨A3, c3, rfl, HIW.out, HB.out⟩

/-- The first i rows merged. -/
def foldTo (rs : List (List Int)) (i : Nat) : List Int := (rs.take i).foldl mergeL [0]
theorem foldTo_succ {rs : List (List Int)} {i : Nat} (hi : i < rs.length) : foldTo rs (i + 1) = mergeL (foldTo rs i) rs[i] := by
  unfold foldTo
  rw [← takeR_snoc rs i hi, List.foldl_append]
  rfl
theorem bnd_merge {a b : List Int} {B C : Int} (hB : 0 ≤ B ∧ 0 ≤ C ∧ B + C ≤ 40000) (ha : Bnd B a) (hb : Bnd C b) (ha1 : 1 ≤ a.length) (hb1 : 1 ≤ b.length) : Bnd (B + C) (mergeL a b) := by
  intro k
  by_cases hk : k < (mergeL a b).length
  · rw [getD_at hk]
    have h1 := mergeL_get a b k hk
    rw [mergeL_len] at hk
    have hm : MLe a b k (mergeTo a b k (k + 1)) := merge_is (B := B) (C := C) (fun q _ => (ha q).2) (fun q _ => (hb q).2) hB.2.2 ha1 hb1 hk
    obtain ⟨-, i, j, hi, hj, -, e⟩ := hm
    rw [h1, e]
    have := ha i; have := hb j
    omega
  · simp only [List.getD, List.getElem?_eq_none (Nat.le_of_not_lt hk), Option.getD_none]
    omega
theorem fold_facts {rs : List (List Int)} (hg : givenB rs = true) : ∀ i, i ≤ rs.length → Bnd (1000 * (i : Int)) (foldTo rs i) ∧ 1 ≤ (foldTo rs i).length ∧ (foldTo rs i).length ≤ 1 + 12 * i
  | 0, _ => ⟨fun k => by
      show -(1000 * ((0 : Nat) : Int)) ≤ [(0 : Int)].getD k 0 ∧ [(0 : Int)].getD k 0 ≤ 1000 * ((0 : Nat) : Int)
      have : [(0 : Int)].getD k 0 = 0 := by cases k <;> rfl
      rw [this]; omega, Nat.le_refl _, Nat.le_refl _⟩
  | i + 1, hi => by
    obtain ⟨h1, h2, h3⟩ := fold_facts hg i (by omega)
    have hil : i < rs.length := by omega
    obtain ⟨g1, g2, g3⟩ := given_true.1 hg
    have hr := rowB_true.1 (g1 rs[i] (List.getElem_mem hil))
    have hb : Bnd 1000 rs[i] := getD_fits hr.1
    rw [foldTo_succ hil]
    refine ⟨?_, ?_, ?_⟩
    · have := bnd_merge (B := 1000 * (i : Int)) (C := 1000) (by omega) h1 hb h2 hr.2.1
      rwa [show 1000 * (i : Int) + 1000 = 1000 * ((i + 1 : Nat) : Int) by omega] at this
    · rw [mergeL_len]; have := hr.2.1; omega
    · rw [mergeL_len]; have := hr.2.2; omega
theorem foldTo_all (rs : List (List Int)) : foldTo rs rs.length = costsL rs := by unfold foldTo costsL; rw [List.take_length]

set_option maxRecDepth 100000 in
set_option maxHeartbeats 2000000 in
theorem specShareCosts_any (A : Option Addr) (c lo hi : Nat) (rs : List (List Int)) (w : World) (h : IRR w lo hi A rs) :
    Calls Try.prog 30 #[.slice A rs.length c] w (RetSB w (costsM rs)) := by
  have H := Lib.hid h
  clear h
  go_enter Try.func30, Try.ntmps30
  cases hg : givenB rs with
  | false =>
    have HM : Hid (costsM rs = none) := by show _ = _; unfold costsM; rw [hg]; rfl
    have HG := Lib.hid hg
    clear hg
    go_wp2_with fail
    refine (l6sGiven_any _ _ _ _ rs _ H.out).mono ?_
    rintro e w1 ⟨rfl, rfl⟩
    rw [HG.out]
    go_wp2
    go_ret2
    rw [HM.out]
    exact retSB_none ((Below.refl _ _).alloc (Nat.le_refl _) _)
  | true =>
    have HG := Lib.hid hg
    have hml := most_le hg
    clear hg
    go_wp2_with fail
    refine (l6sGiven_any _ _ _ _ rs _ H.out).mono ?_
    rintro e w1 ⟨rfl, rfl⟩
    rw [HG.out]
    go_wp2_with fail
    refine (share_asks _ _ _ _ rs _ H.out HG.out).mono ?_
    rintro e w1 ⟨rfl, rfl⟩
    obtain ⟨M, hM⟩ : ∃ M, mostL rs = M := ⟨_, rfl⟩
    rw [hM] at hml
    rw [hM]
    have s0 : IntKind.i64.wrap (M + 1) = M + 1 := IntWalk.i64_in _ (by omega)
    by_cases h12 : 12 < M + 1
    · have HM : Hid (costsM rs = none) := by show _ = _; unfold costsM; rw [hM, decide_eq_false (show ¬ M + 1 ≤ 12 by omega)]; simp
      clear hM
      go_wp2
      go_ret2
      rw [HM.out]
      exact retSB_none ((Below.refl _ _).alloc (Nat.le_refl _) _)
    · have HM : Hid (costsM rs = doneM (costsL rs)) := by show _ = _; unfold costsM; rw [HG.out, hM, decide_eq_true (show M + 1 ≤ 12 by omega)]; simp
      have HFF := Lib.hid (fold_facts HG.out)
      have HGT := Lib.hid (given_true.1 HG.out)
      obtain ⟨n, hn⟩ : ∃ n, rs.length = n := ⟨_, rfl⟩
      have HN := Lib.hid hn
      rw [hn]
      clear hM hn
      go_wp2
      go_loopw [4, 5] (fun v x wr => ∃ (i : Nat) (A' : Option Addr) (c' : Nat), i ≤ n ∧ x = .int .i64 (i : Int) ∧ v = .slice A' (foldTo rs i).length c' ∧ IW wr w1.heap.size wr.heap.size A' (foldTo rs i) ∧ Below w1.heap.size w1 wr) (fun _ x _ => n - (intOf x).toNat)
      case atStart =>
        refine ⟨0, _, _, Nat.zero_le _, rfl, rfl, ?_, (Below.refl _ _).alloc (Nat.le_refl _) _⟩
        exact ⟨by show [(0 : Int)].length ≤ _; simp, fun z hz => by rw [List.mem_singleton.1 (show z ∈ [(0 : Int)] from hz)]; exact ⟨by omega, by omega⟩, Nat.le_refl _, fun _ => ⟨w1.heap.size, 0, rfl, Nat.le_refl _, by simp, fun j hj => by
          have hj' : j = 0 := by have : j < [(0 : Int)].length := hj; simpa using this
          subst hj'
          exact ⟨(Boxed.new w1 3 (.int .i64 0)).cell, (Boxed.new w1 3 (.int .i64 0)).frozen⟩⟩⟩
      case round =>
        obtain ⟨i, A', c', hi, rfl, rfl, hiw, hbl⟩ := hrel
        have HW := Lib.hid hiw; have HB := Lib.hid hbl
        clear hiw hbl
        have HI := Lib.hid (H.out.below HB.out H.out.2.1)
        by_cases hin : i < n
        · have hin' : (i : Int) < (n : Int) := by omega
          have i0 : (0 : Int) ≤ (i : Int) := by omega
          have hir : i < rs.length := by rw [HN.out]; exact hin
          obtain ⟨b, off, Ak, ck, rfl, _, hc, _, hrow⟩ := HI.out.at_ hir
          have hr := rowB_true.1 (HGT.out.1 rs[i] (List.getElem_mem hir))
          obtain ⟨f1, f2, f3⟩ := HFF.out i (by omega)
          have hn4 : n ≤ 4 := by rw [← HN.out]; exact HGT.out.2.2
          have hcall := l3Merge_any A' c' _ _ (foldTo rs i) Ak ck _ _ rs[i] (1000 * (i : Int)) 1000 wr HW.out.toIR hrow (by omega) f1 (getD_fits hr.1) ⟨f2, by omega⟩ ⟨hr.2.1, by have := hr.2.2; omega⟩
          have HCALL := Lib.hid hcall; have HFS := Lib.hid (foldTo_succ hir)
          rw [← HFS.out] at HCALL
          obtain ⟨m, hm⟩ : ∃ m, rs[i].length = m := ⟨_, rfl⟩
          rw [hm] at hc HCALL
          clear hcall hr f1 f2 f3 hrow hm
          go_wp2_with fail
          refine HCALL.out.mono ?_
          rintro e w3 ⟨A3, c3, rfl, hi3, hb3⟩
          have HI3 := Lib.hid (hi3.wide HB.out.size (Nat.le_refl _) (Nat.le_refl _)); have HB3 := Lib.hid (HB.out.trans (hb3.mono HB.out.size))
          clear hi3 hb3
          go_wp2
          go_roundw
          case rel => exact ⟨i + 1, A3, c3, by omega, by go_num, rfl, HI3.out, HB3.out⟩
          case measure => simp [intOf]; omega
        · obtain rfl : i = n := by omega
          have hin' : ¬ (i : Int) < (i : Int) := by omega
          have hfa := foldTo_all rs
          rw [HN.out] at hfa
          rw [hfa] at HW
          rw [hfa]
          cases hrow : rowB (costsL rs) with
          | false =>
            have HC := Lib.hid (l1Done_false A' c' _ _ (costsL rs) wr HW.out.toIR hrow)
            have HM2 : Hid (costsM rs = none) := by show _ = _; rw [HM.out]; unfold doneM; rw [hrow]; rfl
            clear hrow hfa
            go_wp2_with fail
            refine HC.out.mono ?_
            rintro e w3 ⟨A3, rfl, hb3⟩
            have HB3 := Lib.hid (HB.out.trans (hb3.mono HB.out.size))
            clear hb3
            go_wp2
            go_ret2
            rw [HM2.out]
            exact retSB_none HB3.out
          | true =>
            have HC := Lib.hid (l1Done_true A' c' _ _ (costsL rs) wr HW.out.toIR hrow)
            have HM2 : Hid (costsM rs = some (costsL rs)) := by show _ = _; rw [HM.out]; unfold doneM; rw [hrow]; rfl
            clear hrow hfa
            go_wp2_with fail
            refine HC.out.mono ?_
            rintro e w3 ⟨rfl, rfl⟩
            go_wp2
            go_ret2
            rw [HM2.out]
            exact retSB_some rfl HW.out HB.out
end Go.Proofs.Ytanmjaljcnihlaa
