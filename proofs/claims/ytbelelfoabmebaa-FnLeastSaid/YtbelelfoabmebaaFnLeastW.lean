/-
  The law FnLeast walked: for all codes it returns true, and nothing that lay before has turned. Conditions: none but those of its row.
-/
import Derived.Test.YtbelelfoabmebaaDrawOne
import Derived.Test.YtbelelfoabmebaaMath2
namespace Go.Proofs.Ytbelelfoabmebaa
open Go.RowKit

set_option maxHeartbeats 1000000 in
theorem DrawRowLeast_any (A : Option Addr) (c : Nat) (bs : List Int) (w : World) (h : BR w w.heap.size A bs) (hc : bs.length ≤ c) (hc2 : c ≤ 9000000000000000000) :
    Calls Try.prog 42 #[.slice A bs.length c] w (OnePost w 10) := by
  have H := Lib.hid h
  clear h
  go_enter Try.func42, Try.ntmps42
  go_wp2_with fail
  refine (l91One_any A c bs _ H.out hc hc2).mono ?_
  rintro e w1 ⟨A1, c1, zs, rfl, hz, hi, hb⟩
  have I0 := Lib.hid hi; have B0 := Lib.hid hb; have HZ := Lib.hid hz
  clear hi hb hz
  go_wp2
  go_ret
  exact ⟨A1, c1, zs, rfl, HZ.out, I0.out, B0.out⟩

set_option maxHeartbeats 4000000 in
set_option maxRecDepth 100000 in
theorem lawFnLeast_any (A0 : Option Addr) (c0 : Nat) (bs : List Int) (w : World) (h0 : BR w w.heap.size A0 bs) (hc : bs.length ≤ c0) (hc2 : c0 ≤ 9000000000000000000) :
    Calls Try.prog 11 #[.slice A0 bs.length c0] w fun e w' => e = .returned (.bool true) ∧ Below w.heap.size w w' := by
  by_cases hbig : (1048576 : Int) < (bs.length : Int)
  · clear h0
    go_enter Try.func11, Try.ntmps11
    go_wp2
    go_ret
    exact ⟨rfl, Below.refl _ _⟩
  have H0 := Lib.hid h0
  clear h0
  have BB := Lib.hid (Below.refl w.heap.size w)
  go_enter Try.func11, Try.ntmps11
  go_wp2_with fail
  refine (DrawRowLeast_any _ _ bs _ H0.out hc hc2).mono ?_
  rintro e w1 ⟨A, c, zs, rfl, hz, iw, bb⟩
  replace BB := Lib.hid (below_then BB.out (Nat.le_refl _) bb)
  have Z := Lib.hid iw.toAll
  clear bb
  clear iw hz
  go_wp2_with fail
  refine (implRowLeast_any _ _ zs _ Z.out.toAll).mono ?_
  rintro e w2 ⟨rfl, bb⟩
  replace BB := Lib.hid (below_then BB.out (Nat.le_refl _) bb)
  replace Z := Lib.hid (Z.out.grow bb)
  clear bb
  go_wp2_with fail
  refine (specRowLeast_any _ _ zs _ Z.out.toAll).mono ?_
  rintro e w3 ⟨rfl, bb⟩
  replace BB := Lib.hid (below_then BB.out (Nat.le_refl _) bb)
  replace Z := Lib.hid (Z.out.grow bb)
  clear bb
  cases hr : rowB zs with
  | false =>
    obtain ⟨x, hx⟩ : ∃ x, leastA zs = x := ⟨_, rfl⟩
    obtain ⟨i, hi⟩ : ∃ x, leastB zs = x := ⟨_, rfl⟩
    obtain ⟨k, hk⟩ : ∃ x, leastC zs = x := ⟨_, rfl⟩
    rw [hx, hi, hk]
    clear hx hi hk hr
    go_wp2
    go_ret
    exact ⟨rfl, BB.out⟩
  | true =>
    obtain ⟨x, i, k, hx, hi, hk, ik, kl, xi, xk, hE⟩ := least_spec hr
    have HE := Lib.hid hE
    rw [hx, hi, hk]
    obtain ⟨n, hn⟩ : ∃ n, zs.length = n := ⟨_, rfl⟩
    have HN := Lib.hid hn
    rw [hn]
    rw [hn] at kl
    obtain ⟨p, hp⟩ : ∃ p, bentB zs = p := ⟨_, rfl⟩
    have HP := Lib.hid hp
    have hn12 : n ≤ 12 := by have := (rowB_true.1 hr).2; omega
    have HA : Hid ((rowB zs && bentB zs) = p) := by show _ = _; rw [hr, hp]; rfl
    have HXI := Lib.hid xi; have HXK := Lib.hid xk
    clear hE hx hi hk hn hr hp xi xk
    go_wp2
    go_loopw [12] (fun i wr => ∃ j : Nat, j ≤ n ∧ i = .int .i64 j ∧ IR wr 0 wr.heap.size A zs ∧ Below w.heap.size w wr) (fun i _ => n - (intOf i).toNat)
    case atStart => exact ⟨0, Nat.zero_le _, rfl, Z.out.toAll, BB.out⟩
    case round =>
      clear Z BB
      obtain ⟨j, hj, rfl, hz, hb⟩ := hrel
      have Z := Lib.hid hz; have BB := Lib.hid hb
      clear hz hb
      by_cases hlt : j < n
      · have hj1 : j < zs.length := by rw [HN.out]; exact hlt
        obtain ⟨h1, h2, h3⟩ := HE.out j hj1
        rw [getD_in hj1] at h1 h2 h3
        obtain ⟨b, off, hA, _, _, hcj⟩ := Z.out.at_ hj1
        obtain ⟨y, hy⟩ : ∃ y, zs[j]'hj1 = y := ⟨_, rfl⟩
        rw [hy] at h1 h2 h3 hcj
        have HY := Lib.hid hy
        have hlt' : (j : Int) < (n : Int) := by omega
        have q0 : (0 : Int) ≤ (j : Int) := by omega
        have hyx : ¬ y < x := by omega
        clear hy
        cases p with
        | false =>
          clear h3
          by_cases hyx2 : y = x
          · have h4 := h2 hyx2
            have r1 : ¬ (j : Int) < (i : Int) := by omega
            have r2 : ¬ (k : Int) < (j : Int) := by omega
            clear h2 h4
            subst hA
            go_wp2_with fail
            refine (implBent_of _ _ _ _ zs _ Z.out HA.out HN.out.symm).mono ?_
            rintro e w4 ⟨rfl, bb⟩
            replace BB := Lib.hid (below_then BB.out (Nat.le_refl _) bb)
            replace Z := Lib.hid (Z.out.grow bb)
            clear bb
            go_wp2
            go_roundw
            case rel => exact ⟨j + 1, by omega, by go_num, Z.out.toAll, BB.out⟩
            case measure => simp [intOf]; omega
          · clear h2
            skip
            subst hA
            go_wp2_with fail
            refine (implBent_of _ _ _ _ zs _ Z.out HA.out HN.out.symm).mono ?_
            rintro e w4 ⟨rfl, bb⟩
            replace BB := Lib.hid (below_then BB.out (Nat.le_refl _) bb)
            replace Z := Lib.hid (Z.out.grow bb)
            clear bb
            go_wp2
            go_roundw
            case rel => exact ⟨j + 1, by omega, by go_num, Z.out.toAll, BB.out⟩
            case measure => simp [intOf]; omega
        | true =>
          have h5 := h3 HP.out
          clear h3
          by_cases hyx2 : y = x
          · have h4 := h2 hyx2
            have r1 : ¬ (j : Int) < (i : Int) := by omega
            have r2 : ¬ (k : Int) < (j : Int) := by omega
            have r3 : (i : Int) ≤ (j : Int) := by omega
            have r4 : (j : Int) ≤ (k : Int) := by omega
            clear h2 h4 h5
            subst hA
            go_wp2_with fail
            refine (implBent_of _ _ _ _ zs _ Z.out HA.out HN.out.symm).mono ?_
            rintro e w4 ⟨rfl, bb⟩
            replace BB := Lib.hid (below_then BB.out (Nat.le_refl _) bb)
            replace Z := Lib.hid (Z.out.grow bb)
            clear bb
            obtain ⟨b', off', e, _, _, hcj2⟩ := Z.out.at_ hj1
            injection e with e; injection e with e3 e4 _; subst e3; subst e4
            rw [HY.out] at hcj2
            go_wp2
            go_roundw
            case rel => exact ⟨j + 1, by omega, by go_num, Z.out.toAll, BB.out⟩
            case measure => simp [intOf]; omega
          · clear h2
            by_cases r3 : (i : Int) ≤ (j : Int)
            · have r4 : ¬ (j : Int) ≤ (k : Int) := fun h6 => hyx2 (h5 (by omega) (by omega))
              clear h5
              subst hA
              go_wp2_with fail
              refine (implBent_of _ _ _ _ zs _ Z.out HA.out HN.out.symm).mono ?_
              rintro e w4 ⟨rfl, bb⟩
              replace BB := Lib.hid (below_then BB.out (Nat.le_refl _) bb)
              replace Z := Lib.hid (Z.out.grow bb)
              clear bb
              go_wp2
              go_roundw
              case rel => exact ⟨j + 1, by omega, by go_num, Z.out.toAll, BB.out⟩
              case measure => simp [intOf]; omega
            · skip
              clear h5
              subst hA
              go_wp2_with fail
              refine (implBent_of _ _ _ _ zs _ Z.out HA.out HN.out.symm).mono ?_
              rintro e w4 ⟨rfl, bb⟩
              replace BB := Lib.hid (below_then BB.out (Nat.le_refl _) bb)
              replace Z := Lib.hid (Z.out.grow bb)
              clear bb
              go_wp2
              go_roundw
              case rel => exact ⟨j + 1, by omega, by go_num, Z.out.toAll, BB.out⟩
              case measure => simp [intOf]; omega
      · obtain rfl : j = n := by omega
        have hi1 : i < zs.length := by rw [HN.out]; omega
        have hk1 : k < zs.length := by rw [HN.out]; omega
        obtain ⟨b, off, rfl, _, _, hci⟩ := Z.out.at_ hi1
        obtain ⟨b', off', e, _, _, hck⟩ := Z.out.at_ hk1
        injection e with e; injection e with e3 e4 _; subst e3; subst e4
        rw [← getD_in hi1, HXI.out] at hci
        rw [← getD_in hk1, HXK.out] at hck
        have hjj : ¬ (j : Int) < (j : Int) := by omega
        have q0 : (0 : Int) ≤ (i : Int) := by omega
        have q1 : (i : Int) < (j : Int) := by omega
        have q2 : (0 : Int) ≤ (k : Int) := by omega
        have q3 : (k : Int) < (j : Int) := by omega
        have q4 : (i : Int) ≤ (k : Int) := by omega
        go_wp2
        go_ret
        exact ⟨rfl, BB.out⟩
end Go.Proofs.Ytbelelfoabmebaa
