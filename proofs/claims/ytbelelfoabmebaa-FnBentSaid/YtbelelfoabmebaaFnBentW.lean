/-
  The law FnBent walked: for all codes it returns true, and nothing that lay before has turned. Conditions: none but those of its row.
-/
import Derived.Test.YtbelelfoabmebaaDrawOne
import Derived.Test.YtbelelfoabmebaaMath2
import Derived.Test.YtbelelfoabmebaaPart2
namespace Go.Proofs.Ytbelelfoabmebaa
open Go.RowKit

set_option maxHeartbeats 1000000 in
theorem DrawRowBent_any (A : Option Addr) (c : Nat) (bs : List Int) (w : World) (h : BR w w.heap.size A bs) (hc : bs.length ≤ c) (hc2 : c ≤ 9000000000000000000) :
    Calls Try.prog 19 #[.slice A bs.length c] w (OnePost w 10) := by
  have H := Lib.hid h
  clear h
  go_enter Try.func19, Try.ntmps19
  go_wp2_with fail
  refine (l91One_any A c bs _ H.out hc hc2).mono ?_
  rintro e w1 ⟨A1, c1, zs, rfl, hz, hi, hb⟩
  have I0 := Lib.hid hi; have B0 := Lib.hid hb; have HZ := Lib.hid hz
  clear hi hb hz
  go_wp2
  go_ret
  exact ⟨A1, c1, zs, rfl, HZ.out, I0.out, B0.out⟩

set_option maxHeartbeats 4000000 in
set_option maxRecDepth 100000 in
theorem lawFnBent_any (A0 : Option Addr) (c0 : Nat) (bs : List Int) (w : World) (h0 : BR w w.heap.size A0 bs) (hc : bs.length ≤ c0) (hc2 : c0 ≤ 9000000000000000000) :
    Calls Try.prog 4 #[.slice A0 bs.length c0] w fun e w' => e = .returned (.bool true) ∧ Below w.heap.size w w' := by
  by_cases hbig : (1048576 : Int) < (bs.length : Int)
  · clear h0
    go_enter Try.func4, Try.ntmps4
    go_wp2
    go_ret
    exact ⟨rfl, Below.refl _ _⟩
  have H0 := Lib.hid h0
  clear h0
  have BB := Lib.hid (Below.refl w.heap.size w)
  go_enter Try.func4, Try.ntmps4
  go_wp2_with fail
  refine (DrawRowBent_any _ _ bs _ H0.out hc hc2).mono ?_
  rintro e w1 ⟨A, c, zs, rfl, hz, iw, bb⟩
  replace BB := Lib.hid (below_then BB.out (Nat.le_refl _) bb)
  have Z := Lib.hid iw.toAll
  clear bb
  have HK := Lib.hid hz.2
  clear iw hz
  go_wp2_with fail
  refine (implRowBent_any _ _ zs _ Z.out.toAll).mono ?_
  rintro e w2 ⟨rfl, bb⟩
  replace BB := Lib.hid (below_then BB.out (Nat.le_refl _) bb)
  replace Z := Lib.hid (Z.out.grow bb)
  clear bb
  go_wp2_with fail
  refine (specRowBent_any _ _ zs _ Z.out.toAll).mono ?_
  rintro e w3 ⟨rfl, bb⟩
  replace BB := Lib.hid (below_then BB.out (Nat.le_refl _) bb)
  replace Z := Lib.hid (Z.out.grow bb)
  clear bb
  obtain ⟨p, hp⟩ : ∃ p, (rowB zs && bentB zs) = p := ⟨_, rfl⟩
  rw [hp]
  cases p with
  | false =>
    clear hp
    go_wp2
    go_ret
    exact ⟨rfl, BB.out⟩
  | true =>
    rw [Bool.and_eq_true] at hp
    obtain ⟨hr, hb⟩ := hp
    have hl := rowB_true.1 hr
    obtain ⟨n, hn⟩ : ∃ n, zs.length = n := ⟨_, rfl⟩
    have HN := Lib.hid hn
    have n1 : 1 ≤ n := by omega
    have n2 : n ≤ 12 := by omega
    have FM : Hid (backM zs = some zs.reverse) := by show _ = _; simp [backM, hr]
    have HRV : Hid ((rowB zs.reverse && bentB zs.reverse) = true) := by show _ = _; rw [rowB_reverse hr, bent_reverse, hb]; rfl
    have LR : Hid (zs.reverse.length = n) := by show _ = _; rw [List.length_reverse, hn]
    have HB := Lib.hid (bent_half hb)
    have HBD := Lib.hid hl.1
    have hpp : 1 < n → ∃ out, partM zs 1 ((n : Int) - 1) = some out := by
      intro h
      refine ⟨partL zs (1 : Int).toNat ((n : Int) - 1).toNat, ?_⟩
      have hok : partOk zs 1 ((n : Int) - 1) = true := by
        simp only [partOk, Bool.and_eq_true]
        exact ⟨⟨hr, inB_true.2 (by omega)⟩, inB_true.2 (by omega)⟩
      unfold partM
      rw [if_pos hok]
    have HPP := Lib.hid hpp
    have HBT := Lib.hid hb
    clear hr hb hl hpp hn
    go_wp2_with fail
    refine (implRowBack_any _ _ zs _ Z.out.toAll).mono ?_
    rintro e w4 ⟨A5, c5, rfl, iw, bb⟩
    replace BB := Lib.hid (below_then BB.out (Nat.le_refl _) bb)
    replace Z := Lib.hid (Z.out.grow bb)
    have X := Lib.hid iw.toAll
    clear bb
    clear iw
    rw [FM.out] at X
    rw [FM.out]
    have e1 : (some zs.reverse).getD [] = zs.reverse := rfl
    rw [e1]
    replace X : Hid (IR w4 _ _ A5 zs.reverse) := X
    clear e1
    rw [LR.out, HN.out]
    by_cases hn1 : 1 < n
    · have hn1' : (1 : Int) < (n : Int) := by omega
      obtain ⟨out, ho⟩ := HPP.out hn1
      obtain ⟨-, -, -, -, -, hro, -, hbo, -⟩ := partM_some ho
      have HO := Lib.hid ho
      have HOB : Hid ((rowB out && bentB out) = true) := by show _ = _; rw [hro, hbo HBT.out]; rfl
      clear ho hro hbo
      go_wp2_with fail
      have HPt := implRowPart_any A c zs 1 ((n : Int) - 1) _ Z.out.toAll HK.out.1 HK.out.2
      rw [HN.out] at HPt
      have HPt' := Lib.hid HPt
      clear HPt
      refine HPt'.out.mono ?_
      rintro e w5 ⟨A6, c6, rfl, iw, bb⟩
      replace BB := Lib.hid (below_then BB.out (Nat.le_refl _) bb)
      replace Z := Lib.hid (Z.out.grow bb)
      replace X := Lib.hid (X.out.grow bb)
      have P := Lib.hid iw.toAll
      clear bb iw HPt'
      rw [HO.out] at P
      rw [HO.out]
      have e1 : (some out).getD [] = out := rfl
      rw [e1]
      replace P : Hid (IR w5 _ _ A6 out) := P
      clear e1
      go_wp2_with fail
      refine (implBent_of _ _ _ _ out _ P.out HOB.out rfl).mono ?_
      rintro e w6 ⟨rfl, bb⟩
      replace BB := Lib.hid (below_then BB.out (Nat.le_refl _) bb)
      replace Z := Lib.hid (Z.out.grow bb)
      replace X := Lib.hid (X.out.grow bb)
      replace P := Lib.hid (P.out.grow bb)
      clear bb
      clear P
      go_wp2
      go_loopw [10] (fun i wr => ∃ j m : Nat, j ≤ n ∧ i = .int .i64 j ∧ wr = World.drewN w6 m) (fun i _ => n - (intOf i).toNat)
      case atStart => exact ⟨0, 0, Nat.zero_le _, rfl, rfl⟩
      case round =>
        obtain ⟨j, m, hj, rfl, rfl⟩ := hrel
        by_cases hlt : j < n
        · have hlt' : (j : Int) < (n : Int) := by omega
          go_wp2
          go_loopw [11] (fun i wr => ∃ d m : Nat, 1 ≤ d ∧ d ≤ n ∧ i = .int .i64 d ∧ wr = World.drewN w6 m) (fun i _ => n + 1 - (intOf i).toNat)
          case atStart => exact ⟨1, m, Nat.le_refl _, n1, rfl, rfl⟩
          case round =>
            obtain ⟨d, m', d1, dn, rfl, rfl⟩ := hrel
            have q0 : (0 : Int) ≤ (d : Int) := by omega
            by_cases c1 : d ≤ j
            · have c1' : (0 : Int) ≤ (j : Int) - (d : Int) := by omega
              by_cases c2 : j + d < n
              · have c2' : (j : Int) + (d : Int) < (n : Int) := by omega
                have j1 : j < zs.length := by rw [HN.out]; exact hlt
                have j2 : j - d < zs.length := by rw [HN.out]; omega
                have j3 : j + d < zs.length := by rw [HN.out]; exact c2
                have hh := HB.out d j c1 j3
                rw [getD_in j1, getD_in j2, getD_in j3] at hh
                have b1 := HBD.out _ (List.getElem_mem j1)
                have b2 := HBD.out _ (List.getElem_mem j2)
                have b3 := HBD.out _ (List.getElem_mem j3)
                obtain ⟨b, off, hA, _, _, hc1⟩ := Z.out.at_ j1
                obtain ⟨b', off', e, _, _, hc2'⟩ := Z.out.at_ j2
                obtain ⟨b'', off'', e', _, _, hc3⟩ := Z.out.at_ j3
                subst hA
                injection e with e; injection e with e3 e4 _; subst e3; subst e4
                injection e' with e'; injection e' with e3 e4 _; subst e3; subst e4
                obtain ⟨x, hx⟩ : ∃ x, zs[j]'j1 = x := ⟨_, rfl⟩
                obtain ⟨y, hy⟩ : ∃ x, zs[j - d]'j2 = x := ⟨_, rfl⟩
                obtain ⟨z, hz⟩ : ∃ x, zs[j + d]'j3 = x := ⟨_, rfl⟩
                rw [hx] at hh b1 hc1
                rw [hy] at hh b2 hc2'
                rw [hz] at hh b3 hc3
                obtain ⟨b11, b12⟩ := b1
                obtain ⟨b21, b22⟩ := b2
                obtain ⟨b31, b32⟩ := b3
                have s1 : IntKind.i64.wrap (2 * x) = 2 * x := IntWalk.i64_in _ (by omega)
                have s2 : IntKind.i64.wrap (y + z) = y + z := IntWalk.i64_in _ (by omega)
                have s3 : IntKind.i64.wrap ((j : Int) - (d : Int)) = (j : Int) - (d : Int) := IntWalk.i64_in _ (by omega)
                have s4 : IntKind.i64.wrap ((j : Int) + (d : Int)) = (j : Int) + (d : Int) := IntWalk.i64_in _ (by omega)
                have t1 : ((j : Int) - (d : Int)).toNat = j - d := by omega
                have t2 : ((j : Int) + (d : Int)).toNat = j + d := by omega
                have q1 : (0 : Int) ≤ (j : Int) := by omega
                have q2 : (j : Int) - (d : Int) < (n : Int) := by omega
                have q3 : (0 : Int) ≤ (j : Int) + (d : Int) := by omega
                have hh' : ¬ y + z < 2 * x := by omega
                clear hx hy hz hh j1 j2 j3
                go_wp2
                go_quiet (fail)
                go_wp2
                go_roundw
                case rel => exact ⟨d + 1, _, by omega, by omega, by go_num, rfl⟩
                case measure => simp [intOf]; omega
              · have c2' : ¬ (j : Int) + (d : Int) < (n : Int) := by omega
                go_wp2
                go_roundw
                case rel => exact ⟨j + 1, _, by omega, by go_num, rfl⟩
                case measure => simp [intOf]; omega
            · have c1' : ¬ (0 : Int) ≤ (j : Int) - (d : Int) := by omega
              go_wp2
              go_roundw
              case rel => exact ⟨j + 1, _, by omega, by go_num, rfl⟩
              case measure => simp [intOf]; omega
        · obtain rfl : j = n := by omega
          replace BB := Lib.hid (below_drawN BB.out m)
          replace Z := Lib.hid (Z.out.drewN m)
          replace X := Lib.hid (X.out.drewN m)
          have hjj : ¬ (j : Int) < (j : Int) := by omega
          go_wp2_with fail
          refine (implBent_of _ _ _ _ zs.reverse _ X.out HRV.out LR.out.symm).mono ?_
          rintro e w7 ⟨rfl, bb⟩
          replace BB := Lib.hid (below_then BB.out (Nat.le_refl _) bb)
          replace Z := Lib.hid (Z.out.grow bb)
          replace X := Lib.hid (X.out.grow bb)
          clear bb
          go_wp2
          go_ret
          exact ⟨rfl, BB.out⟩
    · have hn1' : ¬ (1 : Int) < (n : Int) := by omega
      go_wp2
      go_loopw [10] (fun i wr => ∃ j m : Nat, j ≤ n ∧ i = .int .i64 j ∧ wr = World.drewN w4 m) (fun i _ => n - (intOf i).toNat)
      case atStart => exact ⟨0, 0, Nat.zero_le _, rfl, rfl⟩
      case round =>
        obtain ⟨j, m, hj, rfl, rfl⟩ := hrel
        by_cases hlt : j < n
        · have hlt' : (j : Int) < (n : Int) := by omega
          go_wp2
          go_loopw [11] (fun i wr => ∃ d m : Nat, 1 ≤ d ∧ d ≤ n ∧ i = .int .i64 d ∧ wr = World.drewN w4 m) (fun i _ => n + 1 - (intOf i).toNat)
          case atStart => exact ⟨1, m, Nat.le_refl _, n1, rfl, rfl⟩
          case round =>
            obtain ⟨d, m', d1, dn, rfl, rfl⟩ := hrel
            have q0 : (0 : Int) ≤ (d : Int) := by omega
            by_cases c1 : d ≤ j
            · exfalso; omega
            · have c1' : ¬ (0 : Int) ≤ (j : Int) - (d : Int) := by omega
              go_wp2
              go_roundw
              case rel => exact ⟨j + 1, _, by omega, by go_num, rfl⟩
              case measure => simp [intOf]; omega
        · obtain rfl : j = n := by omega
          replace BB := Lib.hid (below_drawN BB.out m)
          replace Z := Lib.hid (Z.out.drewN m)
          replace X := Lib.hid (X.out.drewN m)
          have hjj : ¬ (j : Int) < (j : Int) := by omega
          go_wp2_with fail
          refine (implBent_of _ _ _ _ zs.reverse _ X.out HRV.out LR.out.symm).mono ?_
          rintro e w5 ⟨rfl, bb⟩
          replace BB := Lib.hid (below_then BB.out (Nat.le_refl _) bb)
          replace Z := Lib.hid (Z.out.grow bb)
          replace X := Lib.hid (X.out.grow bb)
          clear bb
          go_wp2
          go_ret
          exact ⟨rfl, BB.out⟩
end Go.Proofs.Ytbelelfoabmebaa
