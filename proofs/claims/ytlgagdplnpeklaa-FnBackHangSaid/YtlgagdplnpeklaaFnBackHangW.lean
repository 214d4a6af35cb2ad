/-
  The law FnBackHang walked: for all codes it returns true, and nothing that lay before has turned. Conditions: none but those of its row.
-/
import Derived.Test.YtlgagdplnpeklaaDrawOne
import Derived.Test.YtlgagdplnpeklaaSame
import Derived.Test.YtlgagdplnpeklaaMath
import Derived.Test.YtlgagdplnpeklaaLnM
import Derived.Test.YtlgagdplnpeklaaColl
namespace Go.Proofs.Ytlgagdplnpeklaa
open Go.RowKit

set_option maxHeartbeats 1000000 in
theorem DrawLineHang_any (A : Option Addr) (c : Nat) (bs : List Int) (w : World) (h : BR w w.heap.size A bs) (hc : bs.length ≤ c) (hc2 : c ≤ 9000000000000000000) :
    Calls Try.prog 33 #[.slice A bs.length c] w (OnePost w 10) := by
  have H := Lib.hid h
  clear h
  go_enter Try.func33, Try.ntmps33
  go_wp2_with fail
  refine (l91One_any A c bs _ H.out hc hc2).mono ?_
  rintro e w1 ⟨A1, c1, zs, rfl, hz, hi, hb⟩
  have I0 := Lib.hid hi; have B0 := Lib.hid hb; have HZ := Lib.hid hz
  clear hi hb hz
  go_wp2
  go_ret
  exact ⟨A1, c1, zs, rfl, HZ.out, I0.out, B0.out⟩

set_option maxHeartbeats 4000000 in
set_option maxRecDepth 100000 in
theorem lawFnBackHang_any (A0 : Option Addr) (c0 : Nat) (bs : List Int) (w : World) (h0 : BR w w.heap.size A0 bs) (hc : bs.length ≤ c0) (hc2 : c0 ≤ 9000000000000000000) :
    Calls Try.prog 12 #[.slice A0 bs.length c0] w fun e w' => e = .returned (.bool true) ∧ Below w.heap.size w w' := by
  by_cases hbig : (1048576 : Int) < (bs.length : Int)
  · clear h0
    go_enter Try.func12, Try.ntmps12
    go_wp2
    go_ret
    exact ⟨rfl, Below.refl _ _⟩
  have H0 := Lib.hid h0
  clear h0
  have BB := Lib.hid (Below.refl w.heap.size w)
  go_enter Try.func12, Try.ntmps12
  go_wp2_with fail
  refine (DrawLineHang_any _ _ bs _ H0.out hc hc2).mono ?_
  rintro e w1 ⟨A, c, zs, rfl, hz, iw, bb⟩
  replace BB := Lib.hid (below_then BB.out (Nat.le_refl _) bb)
  have Z := Lib.hid iw.toAll
  clear bb
  clear iw hz
  go_wp2_with fail
  refine (implLineHang_any _ _ zs _ Z.out.toAll).mono ?_
  rintro e w2 ⟨A2, c2, rfl, iw, bb⟩
  replace BB := Lib.hid (below_then BB.out (Nat.le_refl _) bb)
  replace Z := Lib.hid (Z.out.grow bb)
  have G := Lib.hid iw.toAll
  clear bb
  clear iw
  go_wp2_with fail
  refine (specLineHang_any _ _ zs _ Z.out.toAll).mono ?_
  rintro e w3 ⟨A3, c3, rfl, iw, bb⟩
  replace BB := Lib.hid (below_then BB.out (Nat.le_refl _) bb)
  replace Z := Lib.hid (Z.out.grow bb)
  replace G := Lib.hid (G.out.grow bb)
  have V := Lib.hid iw.toAll
  clear bb
  clear iw
  obtain ⟨o, hm⟩ : ∃ o, hangM zs = o := ⟨_, rfl⟩
  rw [hm] at G V
  rw [hm]
  cases o with
  | none =>
    clear hm
    replace G : Hid (IR w3 _ _ A2 []) := G
    replace V : Hid (IR w3 _ _ A3 []) := V
    go_wp2_with fail
    refine (sameInts_b _ _ _ _ _ _ _ _ _ _ [] _ G.out V.out rfl rfl).mono ?_
    rintro e w4 ⟨rfl, bb⟩
    replace BB := Lib.hid (below_then BB.out (Nat.le_refl _) bb)
    replace G := Lib.hid (G.out.grow bb)
    replace V := Lib.hid (V.out.grow bb)
    clear bb
    go_wp2_with fail
    refine (sameInts_b _ _ _ _ _ _ _ _ _ _ [] _ G.out V.out rfl rfl).mono ?_
    rintro e w5 ⟨rfl, bb⟩
    replace BB := Lib.hid (below_then BB.out (Nat.le_refl _) bb)
    replace G := Lib.hid (G.out.grow bb)
    replace V := Lib.hid (V.out.grow bb)
    clear bb
    go_wp2
    go_ret
    exact ⟨rfl, BB.out⟩
  | some out =>
    have e1 : (some out).getD [] = out := rfl
    rw [e1]
    replace G : Hid (IR w3 _ _ A2 out) := G
    replace V : Hid (IR w3 _ _ A3 out) := V
    have HM := Lib.hid hm
    clear hm e1
    go_wp2_with fail
    refine (sameInts_b _ _ _ _ _ _ _ _ _ _ out _ G.out V.out rfl rfl).mono ?_
    rintro e w4 ⟨rfl, bb⟩
    replace BB := Lib.hid (below_then BB.out (Nat.le_refl _) bb)
    replace Z := Lib.hid (Z.out.grow bb)
    replace G := Lib.hid (G.out.grow bb)
    replace V := Lib.hid (V.out.grow bb)
    clear bb
    clear V
    obtain ⟨hr, ho⟩ := hangM_some HM.out
    have HR := Lib.hid hr; have HO := Lib.hid ho
    have F1 : Hid (rowSlopesM zs = some (slopesL zs)) := by show _ = _; simp [rowSlopesM, hr]
    have F2 : Hid (lineFallsM zs (-100) 100 = some (fallsL zs (-100) 201)) := by show _ = _; simp [lineFallsM, hr, inB]
    have hl := (rowB_true.1 hr).2
    obtain ⟨n, hn⟩ : ∃ n, zs.length - 1 = n := ⟨_, rfl⟩
    have L1 : Hid ((slopesL zs).length = n) := by show _ = _; rw [slopesL_len]; exact hn
    have L2 : Hid ((fallsL zs (-100) 201).length = 201) := falls_len _ _ _
    have hz1 : zs.length = n + 1 := by omega
    have HZ1 := Lib.hid hz1
    have hn12 : n < 12 := by omega
    have HF : Hid ((∀ j, j < n → -100 ≤ (slopesL zs).getD j 0 ∧ (slopesL zs).getD j 0 ≤ 100) → lineBackM (zs.length : Int) (-100) (fallsL zs (-100) 201) = some out) := by
      intro hall
      rw [ho]
      refine back_hang hr fun j hj => ?_
      have := hall j (by omega)
      rw [getD_in (by rw [slopesL_len]; omega), slopesL_get zs j hj] at this
      rw [getD_in hj, getD_in (show j < zs.length by omega)]
      exact this
    clear HM hr ho hn hl hz1
    go_wp2_with fail
    refine (implRowSlopes_any _ _ zs _ Z.out.toAll).mono ?_
    rintro e w5 ⟨A5, c5, rfl, iw, bb⟩
    replace BB := Lib.hid (below_then BB.out (Nat.le_refl _) bb)
    replace Z := Lib.hid (Z.out.grow bb)
    replace G := Lib.hid (G.out.grow bb)
    have S := Lib.hid iw.toAll
    clear bb
    clear iw
    rw [F1.out] at S
    rw [F1.out]
    have e1 : (some (slopesL zs)).getD [] = (slopesL zs) := rfl
    rw [e1]
    replace S : Hid (IR w5 _ _ A5 (slopesL zs)) := S
    clear e1
    rw [L1.out]
    go_wp2
    go_loop [10] (fun i => ∃ j : Nat, j ≤ n ∧ i = .int .i64 j ∧ ∀ k, k < j → -100 ≤ (slopesL zs).getD k 0 ∧ (slopesL zs).getD k 0 ≤ 100) (fun i => n - (intOf i).toNat)
    case atStart => exact ⟨0, Nat.zero_le _, rfl, fun k hk => by omega⟩
    case round =>
      obtain ⟨j, hj, rfl, hall⟩ := hrel
      have HA := Lib.hid hall
      clear hall
      by_cases hlt : j < n
      · have hj1 : j < (slopesL zs).length := by rw [L1.out]; exact hlt
        obtain ⟨b, off, rfl, _, _, hcs⟩ := S.out.at_ hj1
        have HG := Lib.hid (getD_in hj1)
        obtain ⟨X, hX⟩ : ∃ X, (slopesL zs)[j]'hj1 = X := ⟨_, rfl⟩
        rw [hX] at hcs HG
        have hlt' : (j : Int) < (n : Int) := by omega
        clear hX hj1
        by_cases h1 : X < -100
        · go_wp2
          go_ret
          exact ⟨rfl, BB.out⟩
        · by_cases h2 : 100 < X
          · go_wp2
            go_ret
            exact ⟨rfl, BB.out⟩
          · have HN : Hid (∀ k, k < j + 1 → -100 ≤ (slopesL zs).getD k 0 ∧ (slopesL zs).getD k 0 ≤ 100) := by
              intro k hk
              by_cases e : k = j
              · subst e; rw [HG.out]; omega
              · exact HA.out k (by omega)
            go_wp2
            go_round
            case rel => exact ⟨j + 1, by omega, by go_num, HN.out⟩
            case measure => simp [intOf]; omega
      · obtain rfl : j = n := by omega
        have FM := Lib.hid (HF.out HA.out)
        go_wp2_with fail
        refine (implLineFalls_any _ _ zs _ _ _ Z.out.toAll).mono ?_
        rintro e w6 ⟨A6, c6, rfl, iw, bb⟩
        replace BB := Lib.hid (below_then BB.out (Nat.le_refl _) bb)
        replace Z := Lib.hid (Z.out.grow bb)
        replace G := Lib.hid (G.out.grow bb)
        replace S := Lib.hid (S.out.grow bb)
        have X := Lib.hid iw.toAll
        clear bb
        clear iw
        rw [F2.out] at X
        rw [F2.out]
        have e1 : (some (fallsL zs (-100) 201)).getD [] = (fallsL zs (-100) 201) := rfl
        rw [e1]
        replace X : Hid (IR w6 _ _ A6 (fallsL zs (-100) 201)) := X
        clear e1
        go_wp2_with fail
        refine (implLineBack_any _ _ _ _ (fallsL zs (-100) 201) _ X.out.toAll).mono ?_
        rintro e w7 ⟨A7, c7, rfl, iw, bb⟩
        replace BB := Lib.hid (below_then BB.out (Nat.le_refl _) bb)
        replace Z := Lib.hid (Z.out.grow bb)
        replace G := Lib.hid (G.out.grow bb)
        replace S := Lib.hid (S.out.grow bb)
        replace X := Lib.hid (X.out.grow bb)
        have Y := Lib.hid iw.toAll
        clear bb
        clear iw
        rw [FM.out] at Y
        rw [FM.out]
        have e1 : (some out).getD [] = out := rfl
        rw [e1]
        replace Y : Hid (IR w7 _ _ A7 out) := Y
        clear e1
        go_wp2_with fail
        refine (sameInts_b _ _ _ _ _ _ _ _ _ _ out _ Y.out G.out rfl rfl).mono ?_
        rintro e w8 ⟨rfl, bb⟩
        replace BB := Lib.hid (below_then BB.out (Nat.le_refl _) bb)
        replace Z := Lib.hid (Z.out.grow bb)
        replace G := Lib.hid (G.out.grow bb)
        replace S := Lib.hid (S.out.grow bb)
        replace X := Lib.hid (X.out.grow bb)
        replace Y := Lib.hid (Y.out.grow bb)
        clear bb
        go_wp2
        go_ret
        exact ⟨rfl, BB.out⟩
end Go.Proofs.Ytlgagdplnpeklaa
