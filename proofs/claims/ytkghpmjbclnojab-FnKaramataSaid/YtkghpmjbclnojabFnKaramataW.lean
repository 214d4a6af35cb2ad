/-
  The law FnKaramata walked: for all codes it returns true, and nothing that lay before has turned. Conditions: none but those of its row.
-/
import Derived.Test.YtkghpmjbclnojabDrawEv
import Derived.Test.YtkghpmjbclnojabEvB
import Derived.Test.YtkghpmjbclnojabSame
namespace Go.Proofs.Ytkghpmjbclnojab
open Go.RowKit

theorem squares_len : squaresL.length = 12 := by simp [squaresL]
theorem squares_take {k : Nat} (h : k < 12) : squaresL.take k ++ [(k : Int) * (k : Int)] = squaresL.take (k + 1) := by
  have h2 : k < squaresL.length := by rw [squares_len]; exact h
  have e : squaresL[k] = (k : Int) * (k : Int) := by simp [squaresL]
  rw [← take_snoc squaresL k h2, e]
theorem square_top {k : Nat} (h : k < 12) : 0 ≤ (k : Int) * (k : Int) ∧ (k : Int) * (k : Int) ≤ 144 := by
  constructor
  · exact Int.mul_nonneg (by omega) (by omega)
  · have hk : (k : Int) ≤ 12 := by omega
    have h0 : (0 : Int) ≤ (k : Int) := by omega
    exact Int.mul_le_mul hk hk h0 (by decide)
theorem implEvenSum_n {n : Nat} (A0 : Option Addr) (c0 : Nat) (f : List Int) (A1 : Option Addr) (c1 : Nat) (a : List Int) (w : World) (h0 : IR w 0 w.heap.size A0 f) (h1 : IR w 0 w.heap.size A1 a) (hn : n = f.length) :
    Calls Try.prog 13 #[.slice A0 n c0, .slice A1 a.length c1] w fun e w' => e = .returned (.tuple #[.int .i64 (evenSumL f a), .bool (atB f a)]) ∧ Below w.heap.size w w' := by
  subst hn; exact implEvenSum_any A0 c0 f A1 c1 a w h0 h1
theorem karamata_sum {a b : List Int} (h : evenIsB a b = true) (ha : atB squaresL a = true) (hb : atB squaresL b = true) : evenSumL squaresL a ≤ evenSumL squaresL b := by
  unfold evenSumL
  rw [if_pos ha, if_pos hb]
  exact karamata_law h ha hb

set_option maxHeartbeats 1500000 in
set_option maxRecDepth 100000 in
theorem lawFnKaramata_any (A0 : Option Addr) (c0 : Nat) (bs : List Int) (w : World) (h0 : BR w w.heap.size A0 bs) (hc : bs.length ≤ c0) (hc2 : c0 ≤ 9000000000000000000) :
    Calls Try.prog 3 #[.slice A0 bs.length c0] w fun e w' => e = .returned (.bool true) ∧ Below w.heap.size w w' := by
  by_cases hbig : (1048576 : Int) < (bs.length : Int)
  · clear h0
    go_enter Try.func3, Try.ntmps3
    go_wp2
    go_ret
    exact ⟨rfl, Below.refl _ _⟩
  have H0 := Lib.hid h0
  clear h0
  have BB := Lib.hid (Below.refl w.heap.size w)
  go_enter Try.func3, Try.ntmps3
  go_wp2_with fail
  refine (DrawEvenIs_any _ _ bs _ H0.out hc hc2).mono ?_
  rintro e w1 ⟨A, c, za, B, d, zb, rfl, hza, hzb, iwa, iwb, bb⟩
  replace BB := Lib.hid (below_then BB.out (Nat.le_refl _) bb)
  have ZA := Lib.hid iwa.toAll
  have ZB := Lib.hid iwb.toAll
  clear bb
  clear iwa iwb hza hzb
  go_wp2_with fail
  refine (implEvenIs_any _ _ za _ _ zb _ ZA.out.toAll ZB.out.toAll).mono ?_
  rintro e w2 ⟨rfl, bb⟩
  replace BB := Lib.hid (below_then BB.out (Nat.le_refl _) bb)
  replace ZA := Lib.hid (ZA.out.grow bb)
  replace ZB := Lib.hid (ZB.out.grow bb)
  clear bb
  go_wp2_with fail
  refine (specEvenIs_any _ _ za _ _ zb _ ZA.out.toAll ZB.out.toAll).mono ?_
  rintro e w3 ⟨rfl, bb⟩
  replace BB := Lib.hid (below_then BB.out (Nat.le_refl _) bb)
  replace ZA := Lib.hid (ZA.out.grow bb)
  replace ZB := Lib.hid (ZB.out.grow bb)
  clear bb
  cases hr : evenIsB za zb with
  | false =>
    clear hr
    go_wp2
    go_ret
    exact ⟨rfl, BB.out⟩
  | true =>
    have HR := Lib.hid hr
    clear hr
    go_wp2
    go_loopw [7, 8] (fun v x wr => ∃ k : Nat, k ≤ 12 ∧ x = .int .i64 (k : Int) ∧ OwnI wr w3.heap.size v (squaresL.take k) ∧ Below w3.heap.size w3 wr) (fun _ x _ => 12 - (intOf x).toNat)
    case atStart => exact ⟨0, Nat.zero_le _, rfl, OwnI.made w3, (Below.refl _ _).alloc (Nat.le_refl _) _⟩
    case round =>
      obtain ⟨k, hk, rfl, ho, hbl⟩ := hrel
      have HO := Lib.hid ho; have HBL := Lib.hid hbl
      clear ho hbl
      by_cases hkt : k < 12
      · have hkt' : (k : Int) < 12 := by omega
        obtain ⟨q0, q1⟩ := square_top hkt
        have HT := Lib.hid (squares_take hkt)
        have HLn : Hid ((squaresL.take k).length < 17592186044416) := by show _ < _; rw [List.length_take, squares_len]; omega
        obtain ⟨q, hq⟩ : ∃ q, (k : Int) * (k : Int) = q := ⟨_, rfl⟩
        rw [hq] at q0 q1 HT
        have s1 : IntKind.i64.wrap q = q := IntWalk.i64_in _ (by omega)
        have HY : Hid (I64 q) := ⟨by omega, by omega⟩
        go_wp2_with (at_builtin; refine wpList_push rfl _ _ rfl w3.heap.size _ _ rfl rfl HO.out HLn.out HY.out ?_; intro v1 w9 ho1 hb1)
        rw [HT.out] at ho1
        have HO1 := Lib.hid ho1; have HB1 := Lib.hid hb1
        clear ho1 hb1 s1
        go_roundw
        case rel => exact ⟨k + 1, by omega, by go_num, HO1.out, HBL.out.trans HB1.out⟩
        case measure => simp [intOf]; omega
      · obtain rfl : k = 12 := by omega
        have ho := HO.out
        rw [List.take_of_length_le (by rw [squares_len]; exact Nat.le_refl _)] at ho
        obtain ⟨A7, c7, rfl, hiw⟩ := ho.iwn (n := 12) squares_len (by omega)
        have HQ := Lib.hid hiw.toIR.toAll
        have HZA := Lib.hid (ZA.out.grow HBL.out)
        have HZB := Lib.hid (ZB.out.grow HBL.out)
        replace BB := Lib.hid (below_then BB.out (Nat.le_refl _) HBL.out)
        clear hiw ho HO ZA ZB
        go_wp2_with fail
        refine (implEvenSum_n _ _ squaresL _ _ za _ HQ.out.toAll HZA.out.toAll squares_len.symm).mono ?_
        rintro e w5 ⟨rfl, bb⟩
        replace BB := Lib.hid (below_then BB.out (Nat.le_refl _) bb)
        have HQ5 := Lib.hid (HQ.out.grow bb)
        have HZB5 := Lib.hid (HZB.out.grow bb)
        clear bb
        go_wp2_with fail
        refine (implEvenSum_n _ _ squaresL _ _ zb _ HQ5.out.toAll HZB5.out.toAll squares_len.symm).mono ?_
        rintro e w6 ⟨rfl, bb⟩
        replace BB := Lib.hid (below_then BB.out (Nat.le_refl _) bb)
        have HK : Hid (atB squaresL za = true → atB squaresL zb = true → evenSumL squaresL za ≤ evenSumL squaresL zb) := fun h1 h2 => karamata_sum HR.out h1 h2
        obtain ⟨x, hx⟩ : ∃ x, evenSumL squaresL za = x := ⟨_, rfl⟩
        obtain ⟨y, hy⟩ : ∃ y, evenSumL squaresL zb = y := ⟨_, rfl⟩
        obtain ⟨p, hp⟩ : ∃ p, atB squaresL za = p := ⟨_, rfl⟩
        obtain ⟨q, hq⟩ : ∃ q, atB squaresL zb = q := ⟨_, rfl⟩
        rw [hx, hy, hp, hq] at HK
        rw [hx, hy, hp, hq]
        clear bb hx hy hp hq
        cases p with
        | false =>
          go_wp2
          go_ret
          exact ⟨rfl, BB.out⟩
        | true =>
          cases q with
          | false =>
            go_wp2
            go_ret
            exact ⟨rfl, BB.out⟩
          | true =>
            have hd := decide_eq_true (HK.out rfl rfl)
            go_wp2
            go_ret
            exact ⟨rfl, BB.out⟩
end Go.Proofs.Ytkghpmjbclnojab
