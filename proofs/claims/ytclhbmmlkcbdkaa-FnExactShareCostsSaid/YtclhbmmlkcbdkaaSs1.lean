/-
  Sharing in the model: are there rows, is a list a sharing, its cost, its prices, its moves. Conditions: the cells are there.
-/
import Derived.Test.YtclhbmmlkcbdkaaTsA
import Derived.Test.YtclhbmmlkcbdkaaSh2
namespace Go.Proofs.Ytclhbmmlkcbdkaa
open Go.RowKit

theorem given_bad {rs : List (List Int)} {k : Nat} (hk : k < rs.length) (h : rowB rs[k] = false) : givenB rs = false := by
  unfold givenB
  rw [show rs.all rowB = false from List.all_eq_false.2 ⟨rs[k], List.getElem_mem hk, by rw [h]; simp⟩]
  rfl
theorem given_all {rs : List (List Int)} (h : ∀ (k : Nat) (hk : k < rs.length), rowB rs[k] = true) : givenB rs = inB 1 4 (rs.length : Int) := by
  unfold givenB
  rw [show rs.all rowB = true from List.all_eq_true.2 fun x hx => by
    obtain ⟨j, hj, rfl⟩ := List.getElem_of_mem hx
    exact h j hj, Bool.true_and]

set_option maxRecDepth 100000 in
set_option maxHeartbeats 1000000 in
theorem l6sGiven_any (A : Option Addr) (c lo hi : Nat) (rs : List (List Int)) (w : World) (h : IRR w lo hi A rs) :
    Calls Try.prog 54 #[.slice A rs.length c] w fun e w' => e = .returned (.bool (givenB rs)) ∧ w = w' := by
  have hl := h.1
  have H := Lib.hid h
  clear h
  go_enter Try.func54, Try.ntmps54
  go_wp2
  go_loop [3] (fun i => ∃ k : Nat, k ≤ rs.length ∧ i = .int .i64 k ∧ Hid (∀ (j : Nat) (hj : j < rs.length), j < k → rowB rs[j] = true)) (fun i => rs.length - (intOf i).toNat)
  case atStart => exact ⟨0, Nat.zero_le _, rfl, fun j _ hj => absurd hj (by omega)⟩
  case round =>
    obtain ⟨k, hk, rfl, hok⟩ := hrel
    by_cases hlt : k < rs.length
    · obtain ⟨b, off, Ak, ck, rfl, _, hc, _, hrow⟩ := H.out.at_ hlt
      have hlt' : (k : Int) < (rs.length : Int) := by omega
      cases hr : rowB rs[k] with
      | false =>
        have HG := Lib.hid (given_bad hlt hr)
        have HR := Lib.hid hr
        obtain ⟨zs, hzs⟩ : ∃ zs, rs[k] = zs := ⟨_, rfl⟩
        rw [hzs] at HR hc hrow
        clear hzs hr hok
        go_wp2_with fail
        refine (specRowIn_any _ _ _ _ zs _ hrow).mono ?_
        rintro e w' ⟨rfl, rfl⟩
        rw [HR.out]
        go_wp2
        go_ret
        exact ⟨by rw [HG.out]; rfl, rfl⟩
      | true =>
        have HR := Lib.hid hr
        have HR2 := Lib.hid hr
        obtain ⟨zs, hzs⟩ : ∃ zs, rs[k] = zs := ⟨_, rfl⟩
        rw [hzs] at HR hc hrow
        clear hzs hr
        go_wp2_with fail
        refine (specRowIn_any _ _ _ _ zs _ hrow).mono ?_
        rintro e w' ⟨rfl, rfl⟩
        rw [HR.out]
        go_wp2
        go_round
        case rel =>
          refine ⟨k + 1, by omega, by go_num, fun j hj h1 => ?_⟩
          by_cases e : j = k
          · subst e; exact HR2.out
          · exact hok.out j hj (by omega)
        case measure => simp [intOf]; omega
    · obtain rfl : k = rs.length := by omega
      have HG : Hid (givenB rs = inB 1 4 (rs.length : Int)) := given_all fun k hk => hok.out k hk hk
      clear hok
      have hlt' : ¬ (rs.length : Int) < (rs.length : Int) := by omega
      go_wp2_with fail
      refine (l6In_any _ _ _ _).mono ?_
      rintro e w' ⟨rfl, rfl⟩
      go_wp2
      go_ret
      exact ⟨ret_bool HG.out.symm, rfl⟩

theorem rowAt_get {rs : List (List Int)} {k : Nat} (hk : k < rs.length) : rowAt rs k = rs[k] := by simp [rowAt, List.getD, hk]
theorem getD_at {l : List Int} {k : Nat} (hk : k < l.length) : l.getD k 0 = l[k] := by simp [List.getD, hk]
theorem places_bad {rs : List (List Int)} {l : List Int} {k : Nat} (hk : k < l.length) (h : inB 0 (((rowAt rs k).length : Int) - 1) (l.getD k 0) = false) : placesB rs l = false := by
  unfold placesB
  rw [show ((List.range l.length).all fun i => inB 0 (((rowAt rs i).length : Int) - 1) (l.getD i 0)) = false from List.all_eq_false.2 ⟨k, List.mem_range.2 hk, by rw [h]; simp⟩, Bool.and_false]
theorem places_all {rs : List (List Int)} {l : List Int} (hg : givenB rs = true) (hl : l.length = rs.length) (h : ∀ k, k < l.length → inB 0 (((rowAt rs k).length : Int) - 1) (l.getD k 0) = true) : placesB rs l = true := by
  unfold placesB
  rw [hg, decide_eq_true hl, Bool.true_and, Bool.true_and, List.all_eq_true]
  intro x hx
  exact h x (List.mem_range.1 hx)

set_option maxRecDepth 100000 in
set_option maxHeartbeats 1000000 in
theorem l6sPlaces_any (A : Option Addr) (c lo hi : Nat) (rs : List (List Int)) (A1 : Option Addr) (c1 lo1 hi1 : Nat) (l : List Int) (w : World) (h : IRR w lo hi A rs) (h1 : IR w lo1 hi1 A1 l) :
    Calls Try.prog 63 #[.slice A rs.length c, .slice A1 l.length c1] w fun e w' => e = .returned (.bool (placesB rs l)) ∧ Dr w w' := by
  have hl := h.1
  have hl1 := h1.1
  have H := Lib.hid h; have H1 := Lib.hid h1
  clear h h1
  go_enter Try.func63, Try.ntmps63
  cases hg : givenB rs with
  | false =>
    have HM : Hid (placesB rs l = false) := by show _ = _; unfold placesB; rw [hg]; rfl
    have HG := Lib.hid hg
    clear hg
    go_wp2_with fail
    refine (l6sGiven_any _ _ _ _ rs _ H.out).mono ?_
    rintro e w' ⟨rfl, rfl⟩
    rw [HG.out]
    go_wp2
    go_ret
    exact ⟨ret_bool HM.out.symm, Dr.refl _⟩
  | true =>
    have HG := Lib.hid hg
    clear hg
    go_wp2_with fail
    refine (l6sGiven_any _ _ _ _ rs _ H.out).mono ?_
    rintro e w' ⟨rfl, rfl⟩
    rw [HG.out]
    by_cases hll : l.length = rs.length
    · have HLL := Lib.hid hll
      have hq : (l.length : Int) = (rs.length : Int) := by omega
      obtain ⟨n, hn⟩ : ∃ n, l.length = n := ⟨_, rfl⟩
      have HN := Lib.hid hn
      have hrn : rs.length = n := by omega
      have HRN := Lib.hid hrn
      rw [hn] at hl1 hll
      rw [hn, hrn]
      clear hll hq hn hrn hl
      go_wp2
      go_loopw [5] (fun i wr => ∃ k : Nat, k ≤ n ∧ i = .int .i64 (k : Int) ∧ Dr w wr ∧ Hid (∀ j, j < k → inB 0 (((rowAt rs j).length : Int) - 1) (l.getD j 0) = true)) (fun i _ => n - (intOf i).toNat)
      case atStart => exact ⟨0, Nat.zero_le _, rfl, Dr.refl _, fun j hj => absurd hj (by omega)⟩
      case round =>
        obtain ⟨k, hk, rfl, hdr, hok⟩ := hrel
        have HD := Lib.hid hdr
        have HW := Lib.hid (hdr.irr H.out); have HW1 := Lib.hid (hdr.ir H1.out)
        clear hdr
        by_cases hlt : k < n
        · have hkr : k < rs.length := by rw [HRN.out]; exact hlt
          have hkl : k < l.length := by rw [HN.out]; exact hlt
          obtain ⟨b, off, Ak, ck, rfl, _, hc, _, hrow⟩ := HW.out.at_ hkr
          obtain ⟨b1, off1, rfl, _, _, hc1⟩ := HW1.out.at_ hkl
          have hrl := hrow.1
          have hx64 := HW1.out.i64 hkl
          obtain ⟨x, hx⟩ : ∃ x, l[k] = x := ⟨_, rfl⟩
          obtain ⟨m, hm⟩ : ∃ m, rs[k].length = m := ⟨_, rfl⟩
          have hgx : l.getD k 0 = x := by rw [getD_at hkl, hx]
          have hrm : (rowAt rs k).length = m := by rw [rowAt_get hkr, hm]
          rw [hx] at hc1 hx64
          rw [hm] at hc hrl
          have hlt' : (k : Int) < (n : Int) := by omega
          have k0 : (0 : Int) ≤ (k : Int) := by omega
          have s1 : IntKind.i64.wrap ((m : Int) - 1) = (m : Int) - 1 := IntWalk.i64_in _ (by omega)
          obtain ⟨p, hp⟩ : ∃ p, inB 0 ((m : Int) - 1) x = p := ⟨_, rfl⟩
          have HP : Hid (inB 0 (((rowAt rs k).length : Int) - 1) (l.getD k 0) = p) := by show _ = _; rw [hgx, hrm]; exact hp
          have HJ : Hid (∀ W : World, Calls Try.prog 55 #[.int .i64 x, .int .i64 0, .int .i64 ((m : Int) - 1)] W fun e w' => e = .returned (.bool p) ∧ w' = W) := l6In_of hp
          clear hp hgx hrm hx hm hrow hx64 hrl
          cases p with
          | false =>
            have HM := Lib.hid (places_bad hkl HP.out)
            go_wp2
            go_quiet ((go_at_call 55; exact Calls.quiet_of_same (HJ.out _)))
            go_wp2
            go_ret
            exact ⟨ret_bool HM.out.symm, HD.out.more _⟩
          | true =>
            go_wp2
            go_quiet ((go_at_call 55; exact Calls.quiet_of_same (HJ.out _)))
            go_wp2
            go_roundw
            case rel =>
              refine ⟨k + 1, by omega, by go_num, HD.out.more _, fun j hj => ?_⟩
              by_cases e : j = k
              · subst e; exact HP.out
              · exact hok.out j (by omega)
            case measure => simp [intOf]; omega
        · obtain rfl : k = n := by omega
          have HM : Hid (placesB rs l = true) := places_all HG.out HLL.out fun j hj => hok.out j (by rw [← HN.out]; exact hj)
          have hlt' : ¬ (k : Int) < (k : Int) := by omega
          clear hok
          go_wp2
          go_ret
          exact ⟨ret_bool HM.out.symm, HD.out⟩
    · have HM : Hid (placesB rs l = false) := by show _ = _; unfold placesB; rw [decide_eq_false hll]; simp
      have hq : ¬ (l.length : Int) = (rs.length : Int) := by omega
      go_wp2
      go_ret
      exact ⟨ret_bool HM.out.symm, Dr.refl _⟩
theorem l6sPlaces_of {b : Bool} {A : Option Addr} {c lo hi : Nat} {rs : List (List Int)} {A1 : Option Addr} {c1 lo1 hi1 : Nat} {l : List Int} {n m : Nat} {w : World} (h : IRR w lo hi A rs) (h1 : IR w lo1 hi1 A1 l) (hb : placesB rs l = b) (hn : n = rs.length) (hm : m = l.length) :
    Calls Try.prog 63 #[.slice A n c, .slice A1 m c1] w fun e w' => e = .returned (.bool b) ∧ Dr w w' := by
  subst hb; subst hn; subst hm; exact l6sPlaces_any A c lo hi rs A1 c1 lo1 hi1 l w h h1

/-- The rows, as they are shared: what a place of row i gives, and how long the rows are. -/
theorem places_facts {rs : List (List Int)} {l : List Int} (h : placesB rs l = true) : l.length = rs.length ∧ rs.length ≤ 4 ∧ ∀ (k : Nat) (hk : k < rs.length), ∃ (p : Nat), l.getD k 0 = (p : Int) ∧ p = plAt l k ∧ p < rs[k].length ∧ rs[k].length ≤ 12 ∧ ∀ j, -1000 ≤ rs[k].getD j 0 ∧ rs[k].getD j 0 ≤ 1000 := by
  obtain ⟨hg, hp⟩ := places_true.1 h
  obtain ⟨g1, g2, g3⟩ := given_true.1 hg
  refine ⟨hp.len, g3, fun k hk => ?_⟩
  obtain ⟨q1, q2⟩ := plAt_is hp hk
  have hr := rowB_true.1 (g1 rs[k] (List.getElem_mem hk))
  rw [rowAt_get hk] at q2
  exact ⟨plAt l k, q1.symm, rfl, q2, hr.2.2, getD_fits hr.1⟩
/-- The cost of the first k places. -/
def costTo (rs : List (List Int)) (l : List Int) (k : Nat) : Int := sumN (fun i => (rowAt rs i).getD (plAt l i) 0) k
theorem costTo_succ (rs : List (List Int)) (l : List Int) (k : Nat) : costTo rs l (k + 1) = costTo rs l k + (rowAt rs k).getD (plAt l k) 0 := rfl
/-- What lies in memory for row k of a sharing. -/
theorem place_cells {W : World} {A : Option Addr} {lo hi : Nat} {rs : List (List Int)} {A1 : Option Addr} {lo1 hi1 : Nat} {l : List Int} (h : IRR W lo hi A rs) (h1 : IR W lo1 hi1 A1 l) (hp : placesB rs l = true) {k : Nat} (hk : k < rs.length) :
    ∃ b off bk ok ck b1 off1 m, A = some ⟨b, off, none⟩ ∧ A1 = some ⟨b1, off1, none⟩ ∧ W.cell? ⟨b, off + k, none⟩ = some (.slice (some ⟨bk, ok, none⟩) m ck) ∧ W.cell? ⟨b1, off1 + k, none⟩ = some (.int .i64 (plAt l k : Int)) ∧ (plAt l k < m ∧ m ≤ 12 ∧ (rowAt rs k).length = m) ∧
      (∀ j, j < m → W.cell? ⟨bk, ok + j, none⟩ = some (.int .i64 ((rowAt rs k).getD j 0))) ∧ (∀ j, -1000 ≤ (rowAt rs k).getD j 0 ∧ (rowAt rs k).getD j 0 ≤ 1000) := by
  obtain ⟨f1, f2, f3⟩ := places_facts hp
  obtain ⟨p, e1, e2, e3, e4, e5⟩ := f3 k hk
  obtain ⟨b, off, Ak, ck, rfl, _, hc, _, hrow⟩ := h.at_ hk
  have hkl : k < l.length := by omega
  obtain ⟨b1, off1, rfl, _, _, hc1⟩ := h1.at_ hkl
  rw [← getD_at hkl, e1] at hc1
  obtain ⟨bk, ok, rfl, _, _, hcs⟩ := hrow.2.2.2 (by omega)
  refine ⟨b, off, bk, ok, ck, b1, off1, rs[k].length, rfl, rfl, hc, by rw [← e2]; exact hc1, ⟨by omega, e4, by rw [rowAt_get hk]⟩, fun j hj => ?_, by rw [rowAt_get hk]; exact e5⟩
  rw [rowAt_get hk, getD_at hj]
  exact hcs j hj
theorem costTo_bd {rs : List (List Int)} {l : List Int} (hp : placesB rs l = true) {k : Nat} (hk : k ≤ rs.length) : -(1000 * (k : Int)) ≤ costTo rs l k ∧ costTo rs l k ≤ 1000 * (k : Int) :=
  sumN_abs k fun i hi => by
    obtain ⟨_, _, _, _, _, e5⟩ := (places_facts hp).2.2 i (by omega)
    rw [rowAt_get (by omega)]
    exact e5 _
theorem costTo_all {rs : List (List Int)} {l : List Int} (hp : placesB rs l = true) : costTo rs l rs.length = costS rs l := (cost_sum (places_facts hp).1).symm

set_option maxRecDepth 100000 in
set_option maxHeartbeats 1000000 in
theorem l6sCost_any (A : Option Addr) (c lo hi n : Nat) (rs : List (List Int)) (A1 : Option Addr) (c1 lo1 hi1 : Nat) (l : List Int) (w : World) (h : IRR w lo hi A rs) (h1 : IR w lo1 hi1 A1 l) (hp : placesB rs l = true) (hn : l.length = n) :
    Calls Try.prog 64 #[.slice A n c, .slice A1 n c1] w fun e w' => e = .returned (.int .i64 (costS rs l)) ∧ Dr w w' := by
  have hn4 : n ≤ 4 := by have := places_facts hp; omega
  have hrn : rs.length = n := by have := places_facts hp; omega
  have H := Lib.hid h; have H1 := Lib.hid h1; have HP := Lib.hid hp; have HRN := Lib.hid hrn
  clear h h1 hp hn hrn
  go_enter Try.func64, Try.ntmps64
  go_wp2
  go_loopw [5, 6] (fun v i wr => ∃ k : Nat, k ≤ n ∧ i = .int .i64 (k : Int) ∧ v = .int .i64 (costTo rs l k) ∧ Dr w wr) (fun _ i _ => n - (intOf i).toNat)
  case atStart => exact ⟨0, Nat.zero_le _, rfl, rfl, Dr.refl _⟩
  case round =>
    obtain ⟨k, hk, rfl, rfl, hdr⟩ := hrel
    have HD := Lib.hid hdr
    by_cases hlt : k < n
    · have hkr : k < rs.length := by rw [HRN.out]; exact hlt
      obtain ⟨b, off, bk, ok, ck, b1, off1, m, rfl, rfl, hc, hc1, ⟨hm1, hm2, hm3⟩, hcs, hbd⟩ := place_cells (hdr.irr H.out) (hdr.ir H1.out) HP.out hkr
      have hcp := hcs _ hm1
      have hbp := hbd (plAt l k)
      have hct := costTo_bd HP.out (show k ≤ rs.length by omega)
      have hsc := costTo_succ rs l k
      obtain ⟨x, hx⟩ : ∃ x, (rowAt rs k).getD (plAt l k) 0 = x := ⟨_, rfl⟩
      obtain ⟨p, hpp⟩ : ∃ p, plAt l k = p := ⟨_, rfl⟩
      obtain ⟨s, hs⟩ : ∃ s, costTo rs l k = s := ⟨_, rfl⟩
      rw [hx] at hcp hbp hsc
      rw [hpp] at hc1 hm1 hcp
      rw [hs] at hct hsc
      rw [hs]
      have HSC := Lib.hid hsc
      have s1 : IntKind.i64.wrap (s + x) = s + x := IntWalk.i64_in _ (by omega)
      have hlt' : (k : Int) < (n : Int) := by omega
      have k0 : (0 : Int) ≤ (k : Int) := by omega
      have p0 : (0 : Int) ≤ (p : Int) := by omega
      have pm : (p : Int) < (m : Int) := by omega
      clear hdr hcs hbd hct hsc hx hpp hs hm3 hbp
      go_wp2
      go_quiet (fail)
      go_wp2
      go_roundw
      case rel => exact ⟨k + 1, by omega, by go_num, by rw [HSC.out], HD.out.more _⟩
      case measure => simp [intOf]; omega
    · obtain rfl : k = n := by omega
      have HC : Hid (costTo rs l k = costS rs l) := by show _ = _; rw [← costTo_all HP.out, HRN.out]
      have hlt' : ¬ (k : Int) < (k : Int) := by omega
      go_wp2
      go_ret
      exact ⟨by rw [HC.out]; rfl, HD.out⟩

/-- ShareCost's answer: a cost, and whether there is one. -/
def RetIB (w : World) (b : Bool) (x : Int) (e : Ending) (w' : World) : Prop := e = .returned (.tuple #[.int .i64 x, .bool b]) ∧ Below w.heap.size w w'

set_option maxRecDepth 100000 in
set_option maxHeartbeats 1000000 in
theorem specShareCost_any (A : Option Addr) (c lo hi : Nat) (rs : List (List Int)) (A1 : Option Addr) (c1 lo1 hi1 : Nat) (l : List Int) (w : World) (h : IRR w lo hi A rs) (h1 : IR w lo1 hi1 A1 l) :
    Calls Try.prog 32 #[.slice A rs.length c, .slice A1 l.length c1] w (RetIB w (placesB rs l) (shareCostL rs l)) := by
  have H := Lib.hid h; have H1 := Lib.hid h1
  clear h h1
  go_enter Try.func32, Try.ntmps32
  cases hp : placesB rs l with
  | false =>
    have HM : Hid (shareCostL rs l = 0) := by show _ = _; unfold shareCostL; rw [hp]; rfl
    have HP := Lib.hid hp
    clear hp
    go_wp2_with fail
    refine (l6sPlaces_of H.out H1.out HP.out rfl rfl).mono ?_
    rintro e w1 ⟨rfl, hd⟩
    have HD := Lib.hid hd.below
    clear hd
    go_wp2
    go_ret2
    rw [HM.out]
    exact ⟨rfl, HD.out⟩
  | true =>
    have HM : Hid (shareCostL rs l = costS rs l) := by show _ = _; unfold shareCostL; rw [hp]; rfl
    have hln := (places_facts hp).1
    have HP := Lib.hid hp
    obtain ⟨n, hn⟩ : ∃ n, l.length = n := ⟨_, rfl⟩
    have hrn : rs.length = n := by omega
    rw [hn, hrn]
    have HN := Lib.hid hn; have HRN := Lib.hid hrn
    clear hp hln hn hrn
    go_wp2_with fail
    refine (l6sPlaces_of H.out H1.out HP.out HRN.out.symm HN.out.symm).mono ?_
    rintro e w1 ⟨rfl, hd⟩
    have HD := Lib.hid hd
    clear hd
    go_wp2_with fail
    refine (l6sCost_any _ _ _ _ n rs _ _ _ _ l _ (HD.out.irr H.out) (HD.out.ir H1.out) HP.out HN.out).mono ?_
    rintro e w2 ⟨rfl, hd⟩
    have HB := Lib.hid (HD.out.trans hd).below
    clear hd
    go_wp2
    go_ret2
    rw [HM.out]
    exact ⟨rfl, HB.out⟩

def priceLo (rs : List (List Int)) (l : List Int) : Int := if pricesB rs l then lowL rs l else 0
def priceHi (rs : List (List Int)) (l : List Int) : Int := if pricesB rs l then highL rs l else 0
/-- SharePrice's answer. -/
def RetP (w : World) (rs : List (List Int)) (l : List Int) (e : Ending) (w' : World) : Prop := e = .returned (.tuple #[.int .i64 (priceLo rs l), .int .i64 (priceHi rs l), .bool (pricesB rs l)]) ∧ Below w.heap.size w w'
theorem lowTo_bd {rs : List (List Int)} {l : List Int} (hp : placesB rs l = true) : ∀ k, k ≤ rs.length → -3000 ≤ lowTo rs l k ∧ lowTo rs l k ≤ 2000
  | 0, _ => ⟨by show -3000 ≤ (-3000 : Int); omega, by show (-3000 : Int) ≤ 2000; omega⟩
  | k + 1, h => by
    have ih := lowTo_bd hp k (by omega)
    obtain ⟨g1, _⟩ := given_true.1 (places_true.1 hp).1
    have h1 := (slope_bd g1 (places_true.1 hp).2 (i := k) (by omega)).1
    unfold lowTo
    split
    · next e => have := h1 e; omega
    · exact ih
theorem highTo_bd {rs : List (List Int)} {l : List Int} (hp : placesB rs l = true) : ∀ k, k ≤ rs.length → -2000 ≤ highTo rs l k ∧ highTo rs l k ≤ 3000
  | 0, _ => ⟨by show -2000 ≤ (3000 : Int); omega, by show (3000 : Int) ≤ 3000; omega⟩
  | k + 1, h => by
    have ih := highTo_bd hp k (by omega)
    obtain ⟨g1, _⟩ := given_true.1 (places_true.1 hp).1
    have h1 := (slope_bd g1 (places_true.1 hp).2 (i := k) (by omega)).2
    unfold highTo
    split
    · next e => have := h1 e; omega
    · exact ih

set_option maxRecDepth 100000 in
set_option maxHeartbeats 2000000 in
theorem specSharePrice_any (A : Option Addr) (c lo hi : Nat) (rs : List (List Int)) (A1 : Option Addr) (c1 lo1 hi1 : Nat) (l : List Int) (w : World) (h : IRR w lo hi A rs) (h1 : IR w lo1 hi1 A1 l) :
    Calls Try.prog 34 #[.slice A rs.length c, .slice A1 l.length c1] w (RetP w rs l) := by
  have H := Lib.hid h; have H1 := Lib.hid h1
  clear h h1
  go_enter Try.func34, Try.ntmps34
  cases hp : placesB rs l with
  | false =>
    have HM : Hid (RetP w rs l = fun e w' => e = .returned (.tuple #[.int .i64 0, .int .i64 0, .bool false]) ∧ Below w.heap.size w w') := by
      show _ = _
      funext e w'
      have : pricesB rs l = false := by unfold pricesB; rw [hp]; rfl
      unfold RetP priceLo priceHi
      rw [this]
      simp
    have HP := Lib.hid hp
    clear hp
    rw [HM.out]
    go_wp2_with fail
    refine (l6sPlaces_of H.out H1.out HP.out rfl rfl).mono ?_
    rintro e w1 ⟨rfl, hd⟩
    have HD := Lib.hid hd.below
    clear hd
    go_wp2
    go_ret3
    exact ⟨rfl, HD.out⟩
  | true =>
    have hln := (places_facts hp).1
    have hn4 := (places_facts hp).2.1
    have HP := Lib.hid hp
    obtain ⟨n, hn⟩ : ∃ n, l.length = n := ⟨_, rfl⟩
    have hrn : rs.length = n := by omega
    rw [hn, hrn]
    rw [hrn] at hn4
    have HN := Lib.hid hn; have HRN := Lib.hid hrn
    clear hp hln hn hrn
    go_wp2_with fail
    refine (l6sPlaces_of H.out H1.out HP.out HRN.out.symm HN.out.symm).mono ?_
    rintro e w1 ⟨rfl, hd⟩
    have HD0 := Lib.hid hd
    clear hd
    go_wp2
    go_loopw [7, 8, 9] (fun v u i wr => ∃ k : Nat, k ≤ n ∧ i = .int .i64 (k : Int) ∧ v = .int .i64 (lowTo rs l k) ∧ u = .int .i64 (highTo rs l k) ∧ Dr w wr) (fun _ _ i _ => n - (intOf i).toNat)
    case atStart => exact ⟨0, Nat.zero_le _, rfl, rfl, rfl, HD0.out⟩
    case round =>
      clear HD0
      obtain ⟨k, hk, rfl, rfl, rfl, hdr⟩ := hrel
      have HD := Lib.hid hdr
      by_cases hlt : k < n
      · have hkr : k < rs.length := by rw [HRN.out]; exact hlt
        obtain ⟨b, off, bk, ok, ck, b1, off1, m, rfl, rfl, hc, hc1, ⟨hm1, hm2, hm3⟩, hcs, hbd⟩ := place_cells (hdr.irr H.out) (hdr.ir H1.out) HP.out hkr
        have hlo := lowTo_bd HP.out k (by omega)
        have hhi := highTo_bd HP.out k (by omega)
        have hs1 : lowTo rs l (k + 1) = if 0 < plAt l k then max (lowTo rs l k) (toS rs l k) else lowTo rs l k := rfl
        have hs2 : highTo rs l (k + 1) = if plAt l k + 1 < m then min (highTo rs l k) (frS rs l k) else highTo rs l k := by rw [← hm3]; rfl
        have hto : toS rs l k = (rowAt rs k).getD (plAt l k) 0 - (rowAt rs k).getD (plAt l k - 1) 0 := rfl
        have hfr : frS rs l k = (rowAt rs k).getD (plAt l k + 1) 0 - (rowAt rs k).getD (plAt l k) 0 := rfl
        obtain ⟨p, hpp⟩ : ∃ p, plAt l k = p := ⟨_, rfl⟩
        rw [hpp] at hc1 hm1 hs1 hs2 hto hfr
        have c0 := hcs p hm1
        have d0 := hbd p; have d1 := hbd (p - 1); have d2 := hbd (p + 1)
        have c1' := hcs (p - 1) (by omega)
        have c2' : p + 1 < m → _ := hcs (p + 1)
        obtain ⟨x0, hx0⟩ : ∃ x, (rowAt rs k).getD p 0 = x := ⟨_, rfl⟩
        obtain ⟨x1, hx1⟩ : ∃ x, (rowAt rs k).getD (p - 1) 0 = x := ⟨_, rfl⟩
        obtain ⟨x2, hx2⟩ : ∃ x, (rowAt rs k).getD (p + 1) 0 = x := ⟨_, rfl⟩
        obtain ⟨q1, hq1⟩ : ∃ s, lowTo rs l k = s := ⟨_, rfl⟩
        obtain ⟨q2, hq2⟩ : ∃ s, highTo rs l k = s := ⟨_, rfl⟩
        rw [hx0] at c0 d0 hto hfr
        rw [hx1] at c1' d1 hto
        rw [hx2] at c2' d2 hfr
        rw [hq1] at hlo hs1
        rw [hq2] at hhi hs2
        rw [hto] at hs1
        rw [hfr] at hs2
        rw [hq1, hq2]
        have HS1 := Lib.hid hs1; have HS2 := Lib.hid hs2; have HC2 := Lib.hid c2'
        have t1 : IntKind.i64.wrap (x0 - x1) = x0 - x1 := IntWalk.i64_in _ (by omega)
        have t2 : IntKind.i64.wrap (x2 - x0) = x2 - x0 := IntWalk.i64_in _ (by omega)
        have hlt' : (k : Int) < (n : Int) := by omega
        have k0 : (0 : Int) ≤ (k : Int) := by omega
        have p0 : (0 : Int) ≤ (p : Int) := by omega
        have pm : (p : Int) < (m : Int) := by omega
        have t3 : IntKind.i64.wrap ((p : Int) + 1) = (p : Int) + 1 := IntWalk.i64_in _ (by omega)
        have t4 : ((p : Int) + 1).toNat = p + 1 := by omega
        have p1 : (0 : Int) ≤ (p : Int) + 1 := by omega
        clear hdr hcs hbd hs1 hs2 hto hfr hx0 hx1 hx2 hq1 hq2 hm3 hpp c2' hlo hhi d0 d1 d2
        have key : ∀ r1 r2, lowTo rs l (k + 1) = r1 → highTo rs l (k + 1) = r2 → Hid (lowTo rs l (k + 1) = r1 ∧ highTo rs l (k + 1) = r2) := fun _ _ h1 h2 => ⟨h1, h2⟩
        by_cases hz : 0 < p
        · have e1 : lowTo rs l (k + 1) = max q1 (x0 - x1) := by rw [HS1.out, if_pos hz]
          obtain ⟨j, hj⟩ : ∃ j, p - 1 = j := ⟨_, rfl⟩
          rw [hj] at c1'
          have t5 : IntKind.i64.wrap ((p : Int) - 1) = (j : Int) := by rw [IntWalk.i64_in _ (by omega)]; omega
          have j0 : (0 : Int) ≤ (j : Int) := by omega
          have jm : (j : Int) < (m : Int) := by omega
          have hz' : (0 : Int) < (p : Int) := by omega
          clear hj hz
          by_cases g1 : q1 < x0 - x1
          · by_cases hz2 : p + 1 < m
            · have hz2' : (p : Int) + 1 < (m : Int) := by omega
              have e2 : highTo rs l (k + 1) = min q2 (x2 - x0) := by rw [HS2.out, if_pos hz2]
              have HK := key _ _ e1 e2
              have c2 := HC2.out hz2
              clear key HS1 HS2 HC2 e1 e2
              go_wp2
              go_quiet (fail)
              go_wp2
              go_quiet (fail)
              go_wp2
              go_roundw
              case rel => exact ⟨k + 1, by omega, by go_num, by rw [HK.out.1]; simp; omega, by rw [HK.out.2]; simp; split <;> omega, by first | exact (HD.out.more _).more _ | exact HD.out.more _⟩
              case measure => simp [intOf]; omega
            · have hz2' : ¬ (p : Int) + 1 < (m : Int) := by omega
              have e2 : highTo rs l (k + 1) = q2 := by rw [HS2.out, if_neg hz2]
              have HK := key _ _ e1 e2
              clear key HS1 HS2 HC2 e1 e2
              go_wp2
              go_quiet (fail)
              go_wp2
              go_roundw
              case rel => exact ⟨k + 1, by omega, by go_num, by rw [HK.out.1]; simp; omega, by rw [HK.out.2], by first | exact HD.out.more _ | exact HD.out⟩
              case measure => simp [intOf]; omega
          · by_cases hz2 : p + 1 < m
            · have hz2' : (p : Int) + 1 < (m : Int) := by omega
              have e2 : highTo rs l (k + 1) = min q2 (x2 - x0) := by rw [HS2.out, if_pos hz2]
              have HK := key _ _ e1 e2
              have c2 := HC2.out hz2
              clear key HS1 HS2 HC2 e1 e2
              go_wp2
              go_quiet (fail)
              go_wp2
              go_quiet (fail)
              go_wp2
              go_roundw
              case rel => exact ⟨k + 1, by omega, by go_num, by rw [HK.out.1]; simp; omega, by rw [HK.out.2]; simp; split <;> omega, by first | exact (HD.out.more _).more _ | exact HD.out.more _⟩
              case measure => simp [intOf]; omega
            · have hz2' : ¬ (p : Int) + 1 < (m : Int) := by omega
              have e2 : highTo rs l (k + 1) = q2 := by rw [HS2.out, if_neg hz2]
              have HK := key _ _ e1 e2
              clear key HS1 HS2 HC2 e1 e2
              go_wp2
              go_quiet (fail)
              go_wp2
              go_roundw
              case rel => exact ⟨k + 1, by omega, by go_num, by rw [HK.out.1]; simp; omega, by rw [HK.out.2], by first | exact HD.out.more _ | exact HD.out⟩
              case measure => simp [intOf]; omega
        · have hz' : ¬ (0 : Int) < (p : Int) := by omega
          have e1 : lowTo rs l (k + 1) = q1 := by rw [HS1.out, if_neg hz]
          clear c1' hz
          by_cases hz2 : p + 1 < m
          · have hz2' : (p : Int) + 1 < (m : Int) := by omega
            have e2 : highTo rs l (k + 1) = min q2 (x2 - x0) := by rw [HS2.out, if_pos hz2]
            have HK := key _ _ e1 e2
            have c2 := HC2.out hz2
            clear key HS1 HS2 HC2 e1 e2
            go_wp2
            go_quiet (fail)
            go_wp2
            go_roundw
            case rel => exact ⟨k + 1, by omega, by go_num, by rw [HK.out.1], by rw [HK.out.2]; simp; split <;> omega, by first | exact (HD.out.more _).more _ | exact HD.out.more _⟩
            case measure => simp [intOf]; omega
          · have hz2' : ¬ (p : Int) + 1 < (m : Int) := by omega
            have e2 : highTo rs l (k + 1) = q2 := by rw [HS2.out, if_neg hz2]
            have HK := key _ _ e1 e2
            clear key HS1 HS2 HC2 e1 e2
            go_wp2
            go_roundw
            case rel => exact ⟨k + 1, by omega, by go_num, by rw [HK.out.1], by rw [HK.out.2], by first | exact HD.out.more _ | exact HD.out⟩
            case measure => simp [intOf]; omega
      · obtain rfl : k = n := by omega
        have hlt' : ¬ (k : Int) < (k : Int) := by omega
        have h1 : lowTo rs l k = lowL rs l := by unfold lowL; rw [HRN.out]
        have h2 : highTo rs l k = highL rs l := by unfold highL; rw [HRN.out]
        rw [h1, h2]
        obtain ⟨q1, hq1⟩ : ∃ s, lowL rs l = s := ⟨_, rfl⟩
        obtain ⟨q2, hq2⟩ : ∃ s, highL rs l = s := ⟨_, rfl⟩
        have hpb : pricesB rs l = decide (q1 ≤ q2) := by unfold pricesB; rw [HP.out, hq1, hq2, Bool.true_and]
        by_cases hle : q1 ≤ q2
        · have HM : Hid (RetP w rs l = fun e w' => e = .returned (.tuple #[.int .i64 q1, .int .i64 q2, .bool true]) ∧ Below w.heap.size w w') := by
            show _ = _
            funext e w'
            have : pricesB rs l = true := by rw [hpb, decide_eq_true hle]
            unfold RetP priceLo priceHi
            rw [this, if_pos rfl, if_pos rfl, hq1, hq2]
          rw [hq1, hq2]
          have hgt : ¬ q2 < q1 := by omega
          clear hpb hq1 hq2 h1 h2
          go_wp2
          go_ret3
          rw [HM.out]
          exact ⟨rfl, HD.out.below⟩
        · have HM : Hid (RetP w rs l = fun e w' => e = .returned (.tuple #[.int .i64 0, .int .i64 0, .bool false]) ∧ Below w.heap.size w w') := by
            show _ = _
            funext e w'
            have : pricesB rs l = false := by rw [hpb, decide_eq_false hle]
            unfold RetP priceLo priceHi
            rw [this]
            simp
          rw [hq1, hq2]
          have hgt : q2 < q1 := by omega
          clear hpb hq1 hq2 h1 h2
          go_wp2
          go_ret3
          rw [HM.out]
          exact ⟨rfl, HD.out.below⟩

def betN (rs : List (List Int)) (l : List Int) (i k : Nat) : Int := if i ≠ k ∧ 0 < plAt l i ∧ plAt l k + 1 < (rowAt rs k).length ∧ moveD rs l i k < 0 then 1 else 0
theorem betN_bd (rs : List (List Int)) (l : List Int) (i k : Nat) : 0 ≤ betN rs l i k ∧ betN rs l i k ≤ 1 := by
  unfold betN
  split
  · omega
  · omega
theorem sumN_bd {f : Nat → Int} {B : Int} (h : ∀ k, 0 ≤ f k ∧ f k ≤ B) : ∀ n : Nat, 0 ≤ sumN f n ∧ sumN f n ≤ B * (n : Int)
  | 0 => ⟨Int.le_refl _, by show (0 : Int) ≤ B * ((0 : Nat) : Int); simp⟩
  | n + 1 => by
    have ih := sumN_bd h n
    have h1 := h n
    have e : B * ((n + 1 : Nat) : Int) = B * (n : Int) + B := by rw [Int.natCast_succ, Int.mul_add, Int.mul_one]
    show 0 ≤ sumN f n + f n ∧ sumN f n + f n ≤ _
    rw [e]
    omega
/-- The moves from the first rows that help. -/
def movesTo (rs : List (List Int)) (l : List Int) (n i : Nat) : Int := sumN (fun j => sumN (betN rs l j) n) i
theorem moves_all (rs : List (List Int)) (l : List Int) : movesTo rs l rs.length rs.length = movesL rs l := rfl
theorem movesTo_bd (rs : List (List Int)) (l : List Int) {n i k : Nat} (hn : n ≤ 4) (hi : i ≤ 4) (hk : k ≤ 4) : 0 ≤ movesTo rs l n i + sumN (betN rs l i) k ∧ movesTo rs l n i + sumN (betN rs l i) k ≤ 20 := by
  have h1 : ∀ j, 0 ≤ sumN (betN rs l j) n ∧ sumN (betN rs l j) n ≤ 4 := fun j => by
    have := sumN_bd (f := betN rs l j) (B := 1) (betN_bd rs l j) n
    omega
  have h2 := sumN_bd (f := fun j => sumN (betN rs l j) n) (B := 4) h1 i
  have h3 := sumN_bd (f := betN rs l i) (B := 1) (betN_bd rs l i) k
  unfold movesTo
  omega
theorem bet_no {rs : List (List Int)} {l : List Int} {i k m : Nat} (hm : (rowAt rs k).length = m) (h : i = k ∨ plAt l i = 0 ∨ plAt l k + 1 = m ∨ ¬ moveD rs l i k < 0) : betN rs l i k = 0 := by
  unfold betN
  rw [if_neg]
  rintro ⟨h1, h2, h3, h4⟩
  rcases h with h | h | h | h
  · exact h1 h
  · omega
  · omega
  · exact h h4
theorem bet_yes {rs : List (List Int)} {l : List Int} {i k m : Nat} (hm : (rowAt rs k).length = m) (h1 : i ≠ k) (h2 : 0 < plAt l i) (h3 : plAt l k + 1 < m) (h4 : moveD rs l i k < 0) : betN rs l i k = 1 := by
  unfold betN
  rw [if_pos ⟨h1, h2, by omega, h4⟩]

set_option maxRecDepth 100000 in
set_option maxHeartbeats 2000000 in
theorem specShareMoves_any (A : Option Addr) (c lo hi : Nat) (rs : List (List Int)) (A1 : Option Addr) (c1 lo1 hi1 : Nat) (l : List Int) (w : World) (h : IRR w lo hi A rs) (h1 : IR w lo1 hi1 A1 l) :
    Calls Try.prog 36 #[.slice A rs.length c, .slice A1 l.length c1] w (RetIB w (placesB rs l) (shareMovesL rs l)) := by
  have H := Lib.hid h; have H1 := Lib.hid h1
  clear h h1
  go_enter Try.func36, Try.ntmps36
  cases hp : placesB rs l with
  | false =>
    have HM : Hid (shareMovesL rs l = 0) := by show _ = _; unfold shareMovesL; rw [hp]; rfl
    have HP := Lib.hid hp
    clear hp
    go_wp2_with fail
    refine (l6sPlaces_of H.out H1.out HP.out rfl rfl).mono ?_
    rintro e w1 ⟨rfl, hd⟩
    have HD := Lib.hid hd.below
    clear hd
    go_wp2
    go_ret2
    rw [HM.out]
    exact ⟨rfl, HD.out⟩
  | true =>
    have HM : Hid (shareMovesL rs l = movesL rs l) := by show _ = _; unfold shareMovesL; rw [hp]; rfl
    have hln := (places_facts hp).1
    have hn4 := (places_facts hp).2.1
    have HP := Lib.hid hp
    obtain ⟨n, hn⟩ : ∃ n, l.length = n := ⟨_, rfl⟩
    have hrn : rs.length = n := by omega
    rw [hn, hrn]
    rw [hrn] at hn4
    have HN := Lib.hid hn; have HRN := Lib.hid hrn
    clear hp hln hn hrn
    go_wp2_with fail
    refine (l6sPlaces_of H.out H1.out HP.out HRN.out.symm HN.out.symm).mono ?_
    rintro e w1 ⟨rfl, hd⟩
    have HD0 := Lib.hid hd
    clear hd
    go_wp2
    go_loopw [6, 7] (fun v x wr => ∃ i : Nat, i ≤ n ∧ x = .int .i64 (i : Int) ∧ v = .int .i64 (movesTo rs l n i) ∧ Dr w wr) (fun _ x _ => n - (intOf x).toNat)
    case atStart => exact ⟨0, Nat.zero_le _, rfl, rfl, HD0.out⟩
    case round =>
      clear HD0
      obtain ⟨W0, hW0⟩ : ∃ W, W = wr := ⟨_, rfl⟩
      subst hW0
      obtain ⟨i, hi, rfl, rfl, hdr⟩ := hrel
      have HD := Lib.hid hdr
      clear hdr
      by_cases hin : i < n
      · have hin' : (i : Int) < (n : Int) := by omega
        have i0 : (0 : Int) ≤ (i : Int) := by omega
        go_wp2
        go_loopw [6, 8] (fun v x wr => ∃ k : Nat, k ≤ n ∧ x = .int .i64 (k : Int) ∧ v = .int .i64 (movesTo rs l n i + sumN (betN rs l i) k) ∧ Dr w wr) (fun _ x _ => n - (intOf x).toNat)
        case atStart => exact ⟨0, Nat.zero_le _, rfl, by show _ = Value.int .i64 (movesTo rs l n i + 0); rw [Int.add_zero], HD.out⟩
        case round =>
          clear HD
          obtain ⟨k, hk, rfl, rfl, hdr⟩ := hrel
          have HD := Lib.hid hdr
          by_cases hkn : k < n
          · have hir : i < rs.length := by rw [HRN.out]; exact hin
            have hkr : k < rs.length := by rw [HRN.out]; exact hkn
            obtain ⟨b, off, bi, oi, ci, b1, off1, m, rfl, rfl, hci, hci1, ⟨hm1, hm2, hm3⟩, hcsi, hbdi⟩ := place_cells (hdr.irr H.out) (hdr.ir H1.out) HP.out hir
            obtain ⟨_, _, bk, ok, ck, _, _, m', e1, e2, hck, hck1, ⟨hm1', hm2', hm3'⟩, hcsk, hbdk⟩ := place_cells (hdr.irr H.out) (hdr.ir H1.out) HP.out hkr
            injection e1 with e1; injection e1 with e3 e4 _; subst e3; subst e4
            injection e2 with e2; injection e2 with e3 e4 _; subst e3; subst e4
            have hkn' : (k : Int) < (n : Int) := by omega
            have k0 : (0 : Int) ≤ (k : Int) := by omega
            have hbd := movesTo_bd rs l (n := n) (i := i) (k := k) hn4 (by omega) (by omega)
            have hmv : moveD rs l i k = frS rs l k - toS rs l i := rfl
            have hto : toS rs l i = (rowAt rs i).getD (plAt l i) 0 - (rowAt rs i).getD (plAt l i - 1) 0 := rfl
            have hfr : frS rs l k = (rowAt rs k).getD (plAt l k + 1) 0 - (rowAt rs k).getD (plAt l k) 0 := rfl
            rw [hto, hfr] at hmv
            have hsn : sumN (betN rs l i) (k + 1) = sumN (betN rs l i) k + betN rs l i k := rfl
            have HNO := Lib.hid (fun h => bet_no (i := i) (l := l) hm3' h)
            have HYES := Lib.hid (fun h1 h2 h3 h4 => bet_yes (i := i) (l := l) hm3' h1 h2 h3 h4)
            obtain ⟨p, hpp⟩ : ∃ p, plAt l i = p := ⟨_, rfl⟩
            obtain ⟨q, hqq⟩ : ∃ q, plAt l k = q := ⟨_, rfl⟩
            rw [hpp] at hci1 hm1 hmv HNO HYES
            rw [hqq] at hck1 hm1' hmv HNO HYES
            have c1 := hcsi p hm1; have c2 := hcsi (p - 1) (by omega); have c3 := hcsk q hm1'
            have c4 : q + 1 < m' → _ := hcsk (q + 1)
            have d1 := hbdi p; have d2 := hbdi (p - 1); have d3 := hbdk q; have d4 := hbdk (q + 1)
            obtain ⟨x1, hx1⟩ : ∃ x, (rowAt rs i).getD p 0 = x := ⟨_, rfl⟩
            obtain ⟨x2, hx2⟩ : ∃ x, (rowAt rs i).getD (p - 1) 0 = x := ⟨_, rfl⟩
            obtain ⟨x3, hx3⟩ : ∃ x, (rowAt rs k).getD q 0 = x := ⟨_, rfl⟩
            obtain ⟨x4, hx4⟩ : ∃ x, (rowAt rs k).getD (q + 1) 0 = x := ⟨_, rfl⟩
            rw [hx1] at c1 d1 hmv
            rw [hx2] at c2 d2 hmv
            rw [hx3] at c3 d3 hmv
            rw [hx4] at c4 d4 hmv
            obtain ⟨M, hM⟩ : ∃ M, movesTo rs l n i + sumN (betN rs l i) k = M := ⟨_, rfl⟩
            rw [hM] at hbd
            rw [hM]
            have HSN : Hid (movesTo rs l n i + sumN (betN rs l i) (k + 1) = M + betN rs l i k) := by show _ = _; rw [hsn, ← hM]; omega
            have HC4 := Lib.hid c4; have HMV := Lib.hid hmv
            have t1 : IntKind.i64.wrap ((q : Int) + 1) = (q : Int) + 1 := IntWalk.i64_in _ (by omega)
            have t2 : ((q : Int) + 1).toNat = q + 1 := by omega
            have s1 : IntKind.i64.wrap (x2 - x1) = x2 - x1 := IntWalk.i64_in _ (by omega)
            have s2 : IntKind.i64.wrap (x2 - x1 + x4) = x2 - x1 + x4 := IntWalk.i64_in _ (by omega)
            have s3 : IntKind.i64.wrap (x2 - x1 + x4 - x3) = x2 - x1 + x4 - x3 := IntWalk.i64_in _ (by omega)
            have p0 : (0 : Int) ≤ (p : Int) := by omega
            have q0 : (0 : Int) ≤ (q : Int) := by omega
            have q1 : (0 : Int) ≤ (q : Int) + 1 := by omega
            have pm : (p : Int) < (m : Int) := by omega
            have qm : (q : Int) < (m' : Int) := by omega
            clear hdr hcsi hbdi hcsk hbdk hto hfr hsn hpp hqq hx1 hx2 hx3 hx4 hM hmv c4 d1 d2 d3 d4 hm3 hm3'
            by_cases hik : i = k
            · have HZ := Lib.hid (HNO.out (.inl hik))
              subst hik
              clear HNO HYES c1 c2 c3 HC4
              go_wp2
              go_quiet (fail)
              go_wp2
              go_roundw
              case rel => exact ⟨i + 1, by omega, by go_num, by rw [HSN.out, HZ.out, Int.add_zero], HD.out.more _⟩
              case measure => simp [intOf]; omega
            · have hik1 : ¬ (i : Int) = (k : Int) := by omega
              have hik2 : ((i : Int) == (k : Int)) = false := by rw [beq_eq_false_iff_ne]; exact hik1
              by_cases hp0 : p = 0
              · have HZ := Lib.hid (HNO.out (.inr (.inl hp0)))
                have hp1 : (p : Int) = 0 := by omega
                have hp2 : ((p : Int) == 0) = true := by rw [beq_iff_eq]; exact hp1
                clear HNO HYES c1 c2 c3 HC4 hp0
                go_wp2
                go_quiet (fail)
                go_wp2
                go_roundw
                case rel => exact ⟨k + 1, by omega, by go_num, by rw [HSN.out, HZ.out, Int.add_zero], HD.out.more _⟩
                case measure => simp [intOf]; omega
              · have hp1 : ¬ (p : Int) = 0 := by omega
                have hp2 : ((p : Int) == 0) = false := by rw [beq_eq_false_iff_ne]; exact hp1
                obtain ⟨j, hj⟩ : ∃ j, p - 1 = j := ⟨_, rfl⟩
                rw [hj] at c2
                have t5 : IntKind.i64.wrap ((p : Int) - 1) = (j : Int) := by rw [IntWalk.i64_in _ (by omega)]; omega
                have j0 : (0 : Int) ≤ (j : Int) := by omega
                have jm : (j : Int) < (m : Int) := by omega
                have HPP : Hid (0 < p) := Nat.pos_of_ne_zero hp0
                clear hj hp0
                by_cases hqm : q + 1 = m'
                · have HZ := Lib.hid (HNO.out (.inr (.inr (.inl hqm))))
                  have hq1 : (q : Int) + 1 = (m' : Int) := by omega
                  have hq2 : ((q : Int) + 1 == (m' : Int)) = true := by rw [beq_iff_eq]; exact hq1
                  clear HNO HYES c1 c2 c3 HC4 hqm
                  go_wp2
                  go_quiet (fail)
                  go_wp2
                  go_roundw
                  case rel => exact ⟨k + 1, by omega, by go_num, by rw [HSN.out, HZ.out, Int.add_zero], HD.out.more _⟩
                  case measure => simp [intOf]; omega
                · have hq1 : ¬ (q : Int) + 1 = (m' : Int) := by omega
                  have hq2 : ((q : Int) + 1 == (m' : Int)) = false := by rw [beq_eq_false_iff_ne]; exact hq1
                  have hqlt : q + 1 < m' := by omega
                  have hqlt' : (q : Int) + 1 < (m' : Int) := by omega
                  have c4 := HC4.out hqlt
                  by_cases hneg : x2 - x1 + x4 - x3 < 0
                  · have HZ := Lib.hid (HYES.out hik HPP.out hqlt (by rw [HMV.out]; omega))
                    have sM : IntKind.i64.wrap (M + 1) = M + 1 := IntWalk.i64_in _ (by omega)
                    clear HNO HYES HC4 HMV
                    go_wp2
                    go_quiet (fail)
                    go_wp2
                    go_quiet (fail)
                    go_wp2
                    go_roundw
                    case rel => exact ⟨k + 1, by omega, by go_num, by rw [HSN.out, HZ.out], by first | exact (HD.out.more _).more _ | exact HD.out.more _⟩
                    case measure => simp [intOf]; omega
                  · have HZ := Lib.hid (HNO.out (.inr (.inr (.inr (by rw [HMV.out]; omega)))))
                    clear HNO HYES HC4 HMV
                    go_wp2
                    go_quiet (fail)
                    go_wp2
                    go_quiet (fail)
                    go_wp2
                    go_roundw
                    case rel => exact ⟨k + 1, by omega, by go_num, by rw [HSN.out, HZ.out, Int.add_zero], by first | exact (HD.out.more _).more _ | exact HD.out.more _⟩
                    case measure => simp [intOf]; omega
          · obtain rfl : k = n := by omega
            have hkn' : ¬ (k : Int) < (k : Int) := by omega
            clear hdr
            go_wp2
            go_roundw
            case rel => exact ⟨i + 1, by omega, by go_num, rfl, HD.out⟩
            case measure => simp [intOf]; omega
      · obtain rfl : i = n := by omega
        have hin' : ¬ (i : Int) < (i : Int) := by omega
        have HC : Hid (movesTo rs l i i = movesL rs l) := by show _ = _; rw [← moves_all, HRN.out]
        go_wp2
        go_ret2
        rw [HM.out, ← HC.out]
        exact ⟨rfl, HD.out.below⟩
end Go.Proofs.Ytclhbmmlkcbdkaa
