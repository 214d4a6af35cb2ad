/-
  The laws' helpers sameInts and sameRows: whether two lists of one length are alike, two lists of lists that are. Conditions: the cells are there.
-/
import Derived.Test.YtfkmnlhmldjieabTabA
import Derived.Test.YtfkmnlhmldjieabSame
import Derived.StillTailTactics
namespace Go.Proofs.Ytfkmnlhmldjieab
open Go.RowKit

set_option maxHeartbeats 1000000 in
/-- Two lists of one length: whether they are alike. -/
theorem sameInts_decE (A A' : Option Addr) (n n' c c' lo hi lo' hi' : Nat) (xs ys : List Int) (w : World) (h : IR w lo hi A xs) (h' : IR w lo' hi' A' ys) (hn : n = xs.length) (hn' : n' = ys.length) (hl : ys.length = xs.length) :
    Calls Try.prog 12 #[.slice A n c, .slice A' n' c'] w fun e w' => e = .returned (.bool (decide (xs = ys))) ∧ Below w.heap.size w w' := by
  subst hn
  rw [hl] at hn'
  subst hn'
  have hlx := h.1
  have HL := Lib.hid hl
  clear hl
  go_enter Try.func12, Try.ntmps12
  go_wp2
  go_loopw [5] (fun i wr => ∃ k m : Nat, k ≤ xs.length ∧ i = .int .i64 k ∧ wr = w.drewN m ∧ ∀ j, j < k → xs.getD j 0 = ys.getD j 0) (fun i _ => xs.length - (intOf i).toNat)
  case atStart => exact ⟨0, 0, Nat.zero_le _, rfl, rfl, fun j hj => by omega⟩
  case round =>
    obtain ⟨k, m, hk, rfl, rfl, hall⟩ := hrel
    have HA := Lib.hid hall
    clear hall
    by_cases hlt : k < xs.length
    · have hlt2 : k < ys.length := by rw [HL.out]; exact hlt
      obtain ⟨b, off, rfl, _, _, hc⟩ := h.at_ hlt
      obtain ⟨b', off', rfl, _, _, hc'⟩ := h'.at_ hlt2
      have hlt' : (k : Int) < (xs.length : Int) := by omega
      have G1 := Lib.hid (getD_in hlt); have G2 := Lib.hid (getD_in hlt2)
      by_cases e : xs[k] = ys[k]
      · have E := Lib.hid e
        go_wp2
        go_quiet (fail)
        go_wp2
        go_roundw
        case rel =>
          refine ⟨k + 1, _, by omega, by go_num, rfl, fun j hj => ?_⟩
          by_cases ej : j = k
          · subst ej; rw [G1.out, G2.out]; exact E.out
          · exact HA.out j (by omega)
        case measure => simp [intOf]; omega
      · have E := Lib.hid e
        go_wp2
        go_quiet (fail)
        go_wp2
        go_ret
        refine ⟨ret_bool ?_, below_drawN (below_drawN (Below.refl _ _) _) _⟩
        rw [Eq.comm, decide_eq_false_iff_not]
        intro hq
        apply E.out
        subst hq; rfl
    · obtain rfl : k = xs.length := by omega
      go_wp2
      go_ret
      refine ⟨ret_bool ?_, below_drawN (Below.refl _ _) _⟩
      rw [Eq.comm, decide_eq_true_iff]
      apply List.ext_getElem HL.out.symm
      intro j j1 j2
      have := HA.out j j1
      rwa [getD_in j1, getD_in j2] at this

/-- Only draws. -/
def DrE (w w' : World) : Prop := ∃ m, w' = w.drewN m
theorem DrE.refl (w : World) : DrE w w := ⟨0, rfl⟩
theorem DrE.more {w w' : World} (h : DrE w w') (n : Nat) : DrE w (w'.drewN n) := by
  obtain ⟨m, rfl⟩ := h; exact ⟨m + n, by simp [World.drewN]; omega⟩
theorem DrE.irr {w w' : World} {lo hi : Nat} {A : Option Addr} {t : List (List Int)} (h : IRR w lo hi A t) (k : DrE w w') : IRR w' lo hi A t := by
  obtain ⟨m, rfl⟩ := k; exact h.drewN m
theorem DrE.below {w w' : World} (k : DrE w w') : Below w.heap.size w w' := by
  obtain ⟨m, rfl⟩ := k; exact below_drawN (Below.refl _ _) m

set_option maxHeartbeats 1000000 in
set_option maxRecDepth 100000 in
theorem sameRows_bE (A A' : Option Addr) (n n' c c' lo hi lo' hi' : Nat) (zss : List (List Int)) (w : World) (h : IRR w lo hi A zss) (h' : IRR w lo' hi' A' zss) (hn : n = zss.length) (hn' : n' = zss.length) :
    Calls Try.prog 27 #[.slice A n c, .slice A' n' c'] w fun e w' => e = .returned (.bool true) ∧ Below w.heap.size w w' := by
  refine Calls.mono (R := fun e w' => e = .returned (.bool true) ∧ DrE w w') ?_ fun _ _ ⟨he, d⟩ => ⟨he, d.below⟩
  have hl := h.1
  have H := Lib.hid h; have G := Lib.hid h'
  obtain ⟨N, hN⟩ : ∃ N, zss.length = N := ⟨_, rfl⟩
  have HN := Lib.hid hN
  rw [hN] at hn hn' hl
  subst hn
  have e : n = n' := hn'.symm
  subst e
  clear h h' hN hn'
  go_enter Try.func27, Try.ntmps27
  go_wp2
  go_loopw [5] (fun i wr => ∃ k : Nat, k ≤ n ∧ i = .int .i64 k ∧ DrE w wr) (fun i _ => n - (intOf i).toNat)
  case atStart => exact ⟨0, Nat.zero_le _, rfl, DrE.refl _⟩
  case round =>
    obtain ⟨W, hW⟩ : ∃ W, W = wr := ⟨_, rfl⟩
    subst hW
    obtain ⟨k, hk, rfl, hd⟩ := hrel
    have HD := Lib.hid hd
    by_cases hlt : k < n
    · have hkz : k < zss.length := by rw [HN.out]; exact hlt
      obtain ⟨b, off, Ak, ck, rfl, _, hc, _, hrow⟩ := (hd.irr H.out).at_ hkz
      obtain ⟨b', off', Ak', ck', rfl, _, hc', _, hrow'⟩ := (hd.irr G.out).at_ hkz
      have hlt' : (k : Int) < (n : Int) := by omega
      obtain ⟨zs, hzs⟩ : ∃ zs, zss[k] = zs := ⟨_, rfl⟩
      rw [hzs] at hc hc' hrow hrow'
      obtain ⟨m, hm⟩ : ∃ m, zs.length = m := ⟨_, rfl⟩
      rw [hm] at hc hc'
      have HR := Lib.hid hrow; have HR' := Lib.hid hrow'; have HM := Lib.hid hm.symm
      clear hrow hrow' hzs hd hm
      go_wp2
      go_still_tail 8, (by kernel_rfl)
      change wpList _ _ _ _ _ (World.drew W)
      go_wp2_with fail
      refine (sameInts_true Ak Ak' m m ck ck' _ _ _ _ zs _ (HR.out.drewN 1) (HR'.out.drewN 1) HM.out HM.out).mono ?_
      rintro e w' ⟨rfl, m', rfl⟩
      go_wp2
      go_roundw
      case rel => exact ⟨k + 1, by omega, by go_num, HD.out.more (1 + m')⟩
      case measure => simp [intOf]; omega
    · obtain rfl : k = n := by omega
      clear hd
      go_wp2
      go_ret
      exact ⟨rfl, HD.out⟩
end Go.Proofs.Ytfkmnlhmldjieab
