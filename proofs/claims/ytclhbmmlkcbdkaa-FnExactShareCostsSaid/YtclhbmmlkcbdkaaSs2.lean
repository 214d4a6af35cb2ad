/-
  Sharing in the model: the greatest amount, all sharings tried, ShareTry, ShareAll. Conditions: the cells are there.
-/
import Derived.Test.YtclhbmmlkcbdkaaSs1
import Derived.Test.YtclhbmmlkcbdkaaTsB
namespace Go.Proofs.Ytclhbmmlkcbdkaa
open Go.RowKit

/-- The greatest places of the first k rows, added up. -/
def mostTo (rs : List (List Int)) : Nat → Int
  | 0 => 0
  | k + 1 => mostTo rs k + ((rowAt rs k).length : Int) - 1
theorem mostTo_cons (r : List Int) (rs : List (List Int)) : ∀ k : Nat, mostTo (r :: rs) (k + 1) = (r.length : Int) - 1 + mostTo rs k
  | 0 => by show (0 : Int) + (r.length : Int) - 1 = (r.length : Int) - 1 + 0; omega
  | k + 1 => by
    show mostTo (r :: rs) (k + 1) + ((rowAt (r :: rs) (k + 1)).length : Int) - 1 = (r.length : Int) - 1 + (mostTo rs k + ((rowAt rs k).length : Int) - 1)
    rw [mostTo_cons r rs k, show rowAt (r :: rs) (k + 1) = rowAt rs k from rfl]
    omega
theorem mostTo_all : ∀ rs : List (List Int), mostTo rs rs.length = mostL rs
  | [] => rfl
  | r :: rs => by rw [List.length_cons, mostTo_cons, mostTo_all rs]; rfl
theorem mostTo_bd {rs : List (List Int)} (h : ∀ r, r ∈ rs → r.length ≤ 12) : ∀ k : Nat, k ≤ rs.length → -(k : Int) ≤ mostTo rs k ∧ mostTo rs k ≤ 12 * (k : Int)
  | 0, _ => ⟨Int.le_refl _, Int.le_refl _⟩
  | k + 1, hk => by
    have ih := mostTo_bd h k (by omega)
    have h1 := h rs[k] (List.getElem_mem (by omega))
    have e : mostTo rs (k + 1) = mostTo rs k + ((rowAt rs k).length : Int) - 1 := rfl
    rw [e, rowAt_get (show k < rs.length by omega)]
    omega

set_option maxRecDepth 100000 in
set_option maxHeartbeats 1000000 in
theorem l6sMost_any (A : Option Addr) (c lo hi : Nat) (rs : List (List Int)) (w : World) (h : IRR w lo hi A rs) (hb : ∀ r, r ∈ rs → r.length ≤ 12) (h4 : rs.length ≤ 4) :
    Calls Try.prog 56 #[.slice A rs.length c] w fun e w' => e = .returned (.int .i64 (mostL rs)) ∧ w' = w := by
  have H := Lib.hid h; have HBD := Lib.hid hb
  clear h hb
  obtain ⟨n, hn⟩ : ∃ n, rs.length = n := ⟨_, rfl⟩
  have HN := Lib.hid hn
  rw [hn] at h4
  rw [hn]
  clear hn
  go_enter Try.func56, Try.ntmps56
  go_wp2
  go_loop [3, 4] (fun v i => ∃ k : Nat, k ≤ n ∧ i = .int .i64 (k : Int) ∧ v = .int .i64 (mostTo rs k)) (fun _ i => n - (intOf i).toNat)
  case atStart => exact ⟨0, Nat.zero_le _, rfl, rfl⟩
  case round =>
    obtain ⟨k, hk, rfl, rfl⟩ := hrel
    by_cases hlt : k < n
    · have hkr : k < rs.length := by rw [HN.out]; exact hlt
      obtain ⟨b, off, Ak, ck, rfl, _, hc, _, hrow⟩ := H.out.at_ hkr
      have hbd := mostTo_bd HBD.out k (by omega)
      have hsc : mostTo rs (k + 1) = mostTo rs k + (rs[k].length : Int) - 1 := by rw [← rowAt_get hkr]; rfl
      have hl := HBD.out rs[k] (List.getElem_mem hkr)
      obtain ⟨m, hm⟩ : ∃ m, rs[k].length = m := ⟨_, rfl⟩
      obtain ⟨s, hs⟩ : ∃ s, mostTo rs k = s := ⟨_, rfl⟩
      rw [hm] at hc hsc hl
      rw [hs] at hbd hsc
      rw [hs]
      have HSC := Lib.hid hsc
      have s1 : IntKind.i64.wrap (s + (m : Int)) = s + (m : Int) := IntWalk.i64_in _ (by omega)
      have s2 : IntKind.i64.wrap (s + (m : Int) - 1) = s + (m : Int) - 1 := IntWalk.i64_in _ (by omega)
      have hlt' : (k : Int) < (n : Int) := by omega
      have k0 : (0 : Int) ≤ (k : Int) := by omega
      clear hrow hbd hsc hm hs hl
      go_wp2
      go_round
      case rel => exact ⟨k + 1, by omega, by go_num, by rw [HSC.out]⟩
      case measure => simp [intOf]; omega
    · obtain rfl : k = n := by omega
      have HC : Hid (mostTo rs k = mostL rs) := by show _ = _; rw [← mostTo_all, HN.out]
      have hlt' : ¬ (k : Int) < (k : Int) := by omega
      go_wp2
      go_ret
      rw [← HC.out]
      exact ⟨rfl, rfl⟩

theorem drop_cons {rs : List (List Int)} {i : Nat} (hi : i < rs.length) : rs.drop i = rs[i] :: rs.drop (i + 1) := List.drop_eq_getElem_cons hi
/-- The rows' bounds. -/
def Fit (rs : List (List Int)) : Prop := ∀ r, r ∈ rs → (∀ z, z ∈ r → -1000 ≤ z ∧ z ≤ 1000) ∧ r.length ≤ 12
theorem Fit.drop {rs : List (List Int)} (h : Fit rs) (i : Nat) : Fit (rs.drop i) := fun r hr => h r (List.mem_of_mem_drop hr)
theorem Fit.at_ {rs : List (List Int)} (h : Fit rs) {i : Nat} (hi : i < rs.length) : (∀ z, z ∈ rs[i] → -1000 ≤ z ∧ z ≤ 1000) ∧ rs[i].length ≤ 12 := h _ (List.getElem_mem hi)
theorem given_fit {rs : List (List Int)} (h : givenB rs = true) : Fit rs := fun r hr => by
  have := rowB_true.1 ((given_true.1 h).1 r hr)
  exact ⟨this.1, this.2.2⟩
theorem pow12_le : ∀ {d : Nat}, d ≤ 4 → pow12 d ≤ 20736
  | 0, _ => by decide
  | 1, _ => by decide
  | 2, _ => by decide
  | 3, _ => by decide
  | 4, _ => by decide
  | _ + 5, h => absurd h (by omega)
/-- All that is tried is small. -/
theorem small_s {rs : List (List Int)} (h : Fit rs) (h4 : rs.length ≤ 4) (n : Int) : (0 ≤ (tryL rs n).2.2 ∧ (tryL rs n).2.2 ≤ 30000) ∧ (-10000 ≤ (tryL rs n).1 ∧ (tryL rs n).1 ≤ 10000) ∧ (tryL rs n).2.1.length ≤ 4 := by
  have h1 := try_small h n
  have h2 := pow12_le h4
  exact ⟨⟨h1.1.1, by have := h1.1.2; omega⟩, ⟨by have := h1.2.1; omega, by have := h1.2.1; omega⟩, by have := h1.2.2; omega⟩
theorem small_t {rs : List (List Int)} (h : Fit rs) (h4 : rs.length ≤ 3) {r : List Int} (hr : ∀ z, z ∈ r → -1000 ≤ z ∧ z ≤ 1000) (n : Int) {j : Nat} (hj : j ≤ 12) : (0 ≤ (tryTo (tryL rs) r n j).2.2 ∧ (tryTo (tryL rs) r n j).2.2 ≤ 30000) ∧ (-10000 ≤ (tryTo (tryL rs) r n j).1 ∧ (tryTo (tryL rs) r n j).1 ≤ 10000) ∧ (tryTo (tryL rs) r n j).2.1.length ≤ 4 := by
  have h1 := small_len h hr n j
  have h2 : pow12 rs.length ≤ 1728 := by
    match rs.length, h4 with
    | 0, _ => decide
    | 1, _ => decide
    | 2, _ => decide
    | 3, _ => decide
    | _ + 4, h => exact absurd h (by omega)
  have h3 : (j : Int) * pow12 rs.length ≤ 12 * 1728 := Int.mul_le_mul (by omega) h2 (by have := pow12_pos rs.length; omega) (by omega)
  exact ⟨⟨h1.1.1, by have := h1.1.2; omega⟩, ⟨by have := h1.2.1; omega, by have := h1.2.1; omega⟩, by have := h1.2.2; omega⟩
theorem step_none {acc q : Res} {x : Nat} {e : Int} (h : q.2.2 = 0) : stepT acc x q e = acc := by unfold stepT; rw [if_pos h]
theorem step_new {acc q : Res} {x : Nat} {e : Int} (h : ¬ q.2.2 = 0) (h2 : acc.2.2 = 0 ∨ q.1 + e < acc.1) : stepT acc x q e = (q.1 + e, (x : Int) :: q.2.1, q.2.2) := by unfold stepT; rw [if_neg h, if_pos h2]
theorem step_same {acc q : Res} {x : Nat} {e : Int} (h : ¬ q.2.2 = 0) (h2 : ¬ (acc.2.2 = 0 ∨ q.1 + e < acc.1)) (h3 : q.1 + e = acc.1) : stepT acc x q e = (acc.1, acc.2.1, acc.2.2 + q.2.2) := by unfold stepT; rw [if_neg h, if_neg h2, if_pos h3]
theorem step_old {acc q : Res} {x : Nat} {e : Int} (h : ¬ q.2.2 = 0) (h2 : ¬ (acc.2.2 = 0 ∨ q.1 + e < acc.1)) (h3 : ¬ q.1 + e = acc.1) : stepT acc x q e = acc := by unfold stepT; rw [if_neg h, if_neg h2, if_neg h3]

set_option maxRecDepth 100000 in
set_option maxHeartbeats 2000000 in
theorem l6sTry_any (A : Option Addr) (c lo hi N : Nat) (rs : List (List Int)) (hf : Fit rs) (h4 : rs.length ≤ 4) (hN : rs.length = N) : ∀ (d i : Nat) (n : Int) (w : World), i + d = N → 0 ≤ n → n ≤ 1000 → IRR w lo hi A rs →
    Calls Try.prog 57 #[.slice A N c, .int .i64 (i : Int), .int .i64 n] w fun e w' => ∃ A' c', e = .returned (.tuple #[.int .i64 (tryL (rs.drop i) n).1, .slice A' (tryL (rs.drop i) n).2.1.length c', .int .i64 (tryL (rs.drop i) n).2.2]) ∧ IW w' w.heap.size w'.heap.size A' (tryL (rs.drop i) n).2.1 ∧ Below w.heap.size w w' := by
  have HF := Lib.hid hf; have HN := Lib.hid hN
  have hN4 : N ≤ 4 := by omega
  clear hf h4 hN
  intro d
  induction d with
  | zero =>
    intro i n w hid n0 n1 h
    have hin : (i : Int) = (N : Int) := by omega
    have hd : rs.drop i = [] := List.drop_eq_nil_of_le (by rw [HN.out]; omega)
    rw [hd]
    clear h
    by_cases hz : n = 0
    · have e : tryL [] n = (0, [], 1) := by unfold tryL; rw [if_pos hz]
      rw [e]
      clear e hd
      go_enter Try.func57, Try.ntmps57
      go_wp2
      go_ret3
      exact ⟨_, 0, rfl, IW.nil' _ _ _, (Below.refl _ _).alloc (Nat.le_refl _) _⟩
    · have e : tryL [] n = (0, [], 0) := by unfold tryL; rw [if_neg hz]
      have hz' : (n == 0) = false := by rw [beq_eq_false_iff_ne]; exact hz
      rw [e]
      clear e hd
      go_enter Try.func57, Try.ntmps57
      go_wp2
      go_ret3
      exact ⟨_, 0, rfl, IW.nil' _ _ _, (Below.refl _ _).alloc (Nat.le_refl _) _⟩
  | succ d ih =>
    intro i n w hid n0 n1 h
    have hir : i < rs.length := by rw [HN.out]; omega
    have hlen : (rs.drop (i + 1)).length ≤ 3 := by rw [List.length_drop, HN.out]; omega
    obtain ⟨r, hr⟩ : ∃ r, rs[i] = r := ⟨_, rfl⟩
    have hrl := (HF.out.at_ hir).2
    have hrb := (HF.out.at_ hir).1
    have hdc := drop_cons hir
    rw [hr] at hrl hrb hdc
    obtain ⟨us, hus⟩ : ∃ us, rs.drop (i + 1) = us := ⟨_, rfl⟩
    have HUF : Hid (Fit us) := by rw [← hus]; exact HF.out.drop _
    rw [hus] at hdc hlen
    have HTRY : Hid (tryL (rs.drop i) n = tryTo (tryL us) r n (min r.length (n.toNat + 1))) := by show _ = _; rw [hdc]; rfl
    obtain ⟨m, hm⟩ : ∃ m, r.length = m := ⟨_, rfl⟩
    rw [hm] at hrl HTRY
    have H := Lib.hid h; have HIH := Lib.hid ih; have HR := Lib.hid hr; have HM := Lib.hid hm; have HRB := Lib.hid hrb; have HUS := Lib.hid hus; have HLEN := Lib.hid hlen
    have hin : ¬ (i : Int) = (N : Int) := by omega
    have hinb : ((i : Int) == (N : Int)) = false := by rw [beq_eq_false_iff_ne]; exact hin
    have i0 : (0 : Int) ≤ (i : Int) := by omega
    have iN : (i : Int) < (N : Int) := by omega
    have t1 : IntKind.i64.wrap ((i : Int) + 1) = (i : Int) + 1 := IntWalk.i64_in _ (by omega)
    clear h ih hr hm hrb hdc hus hlen
    go_enter Try.func57, Try.ntmps57
    go_wp2
    go_loopw [9, 10, 11, 12] (fun b v k x wr => ∃ (j : Nat) (A' : Option Addr) (c' : Nat), j ≤ m ∧ (j : Int) ≤ n + 1 ∧ x = .int .i64 (j : Int) ∧ b = .int .i64 (tryTo (tryL us) r n j).1 ∧ v = .slice A' (tryTo (tryL us) r n j).2.1.length c' ∧ k = .int .i64 (tryTo (tryL us) r n j).2.2 ∧ IW wr w.heap.size wr.heap.size A' (tryTo (tryL us) r n j).2.1 ∧ Below w.heap.size w wr) (fun _ _ _ x _ => m - (intOf x).toNat)
    case atStart => exact ⟨0, _, 0, Nat.zero_le _, by omega, rfl, rfl, rfl, rfl, IW.nil' _ _ _, (Below.refl _ _).alloc (Nat.le_refl _) _⟩
    case round =>
      obtain ⟨j, A', c', hj, hjn, rfl, rfl, rfl, rfl, hiw, hbl⟩ := hrel
      have HW := Lib.hid hiw; have HB := Lib.hid hbl
      clear hiw hbl
      have HI := Lib.hid (H.out.below HB.out H.out.2.1)
      obtain ⟨b, off, Ak, ck, rfl, hbw, hc, _, hrow⟩ := HI.out.at_ hir
      rw [HR.out] at hc hrow
      rw [HM.out] at hc
      by_cases hjm : j < m
      · have hjm' : (j : Int) < (m : Int) := by omega
        have j0 : (0 : Int) ≤ (j : Int) := by omega
        by_cases hj2 : (j : Int) ≤ n
        · have hjr : j < r.length := by rw [HM.out]; exact hjm
          obtain ⟨bk, ok, rfl, _, _, hcx⟩ := hrow.at_ hjr
          have hxb := HRB.out _ (List.getElem_mem hjr)
          have hcall := HIH.out (i + 1) (n - (j : Int)) wr (by omega) (by omega) (by omega) HI.out
          rw [HUS.out, show ((i + 1 : Nat) : Int) = (i : Int) + 1 by omega] at hcall
          have hsq := small_s HUF.out (by have := HLEN.out; omega) (n - (j : Int))
          have hss := small_t HUF.out HLEN.out HRB.out n (j := j) (by omega)
          have hst : tryTo (tryL us) r n (j + 1) = stepT (tryTo (tryL us) r n j) j (tryL us (n - (j : Int))) (r.getD j 0) := rfl
          rw [getD_at hjr] at hst
          obtain ⟨y, hy⟩ : ∃ y, r[j] = y := ⟨_, rfl⟩
          obtain ⟨q1, q2, q3, hq⟩ : ∃ q1 q2 q3, tryL us (n - (j : Int)) = (q1, q2, q3) := ⟨_, _, _, rfl⟩
          obtain ⟨s1, s2, s3, hs⟩ : ∃ s1 s2 s3, tryTo (tryL us) r n j = (s1, s2, s3) := ⟨_, _, _, rfl⟩
          rw [hy] at hcx hxb hst
          rw [hq] at hcall hsq hst
          rw [hs] at hss hst HW
          rw [hs]
          dsimp only at hcall hsq hss HW
          dsimp only
          obtain ⟨⟨sq1, sq2⟩, ⟨sq3, sq4⟩, sq5⟩ := hsq
          obtain ⟨⟨ss1, ss2⟩, ⟨ss3, ss4⟩, ss5⟩ := hss
          have HNONE : Hid (q3 = 0 → tryTo (tryL us) r n (j + 1) = (s1, s2, s3)) := fun e => by rw [hst, step_none e]
          have HNEW : Hid (¬ q3 = 0 → (s3 = 0 ∨ q1 + y < s1) → tryTo (tryL us) r n (j + 1) = (q1 + y, (j : Int) :: q2, q3)) := fun e1 e2 => by rw [hst, step_new e1 e2]
          have HSAME : Hid (¬ q3 = 0 → ¬ (s3 = 0 ∨ q1 + y < s1) → q1 + y = s1 → tryTo (tryL us) r n (j + 1) = (s1, s2, s3 + q3)) := fun e1 e2 e3 => by rw [hst, step_same e1 e2 e3]
          have HOLD : Hid (¬ q3 = 0 → ¬ (s3 = 0 ∨ q1 + y < s1) → ¬ q1 + y = s1 → tryTo (tryL us) r n (j + 1) = (s1, s2, s3)) := fun e1 e2 e3 => by rw [hst, step_old e1 e2 e3]
          have HCALL := Lib.hid hcall
          have t2 : IntKind.i64.wrap (n - (j : Int)) = n - (j : Int) := IntWalk.i64_in _ (by omega)
          have t3 : IntKind.i64.wrap (q1 + y) = q1 + y := IntWalk.i64_in _ (by omega)
          have t4 : IntKind.i64.wrap (s3 + q3) = s3 + q3 := IntWalk.i64_in _ (by omega)
          have HC := Lib.hid hc; have HCX := Lib.hid hcx
          have HK64 : Hid (I64 (j : Int)) := ⟨by omega, by omega⟩
          have HLE : Hid (([(j : Int)]).length + q2.length ≤ 17592186044416) := by show _ ≤ _; simp; omega
          clear hrow hst hcall hy hq hs ss5 sq5 hxb
          go_wp2_with fail
          refine HCALL.out.mono ?_
          rintro e w3 ⟨A3, c3, rfl, hi3, hb3⟩
          have HI3 := Lib.hid hi3
          have HB3 := Lib.hid (HB.out.trans (hb3.mono HB.out.size))
          have HW3 := Lib.hid ((HW.out.grow hb3).wide (Nat.le_refl _) hb3.size (Nat.le_refl _))
          have hc3 := (hb3.cell (p := ⟨b, off + i, none⟩) hbw).trans HC.out
          have hbk : bk < wr.heap.size := by
            by_cases h : bk < wr.heap.size
            · exact h
            · exfalso
              have := HCX.out
              rw [show wr.cell? ⟨bk, ok + j, none⟩ = none by unfold World.cell?; simp [Array.getElem?_eq_none (Nat.le_of_not_lt h)]] at this
              cases this
          have hcx3 := (hb3.cell (p := ⟨bk, ok + j, none⟩) hbk).trans HCX.out
          have HR3 := Lib.hid (HI3.out.toIR.below ((Below.refl w3.heap.size w3).alloc (Nat.le_refl _) (.cells #[.int .i64 (j : Int)] 3)) (Nat.le_refl _))
          clear hb3 hi3 HCALL hc hcx
          by_cases c0 : q3 = 0
          · have HNX := Lib.hid (HNONE.out c0)
            clear HNONE HNEW HSAME HOLD
            go_wp2
            go_roundw
            case rel => exact ⟨j + 1, A', c', by omega, by omega, by go_num, by rw [HNX.out], by rw [HNX.out], by rw [HNX.out], by rw [HNX.out]; exact HW3.out, HB3.out⟩
            case measure => simp [intOf]; omega
          · have c0' : (q3 == 0) = false := by rw [beq_eq_false_iff_ne]; exact c0
            by_cases c1 : s3 = 0
            · have HNX := Lib.hid (HNEW.out c0 (.inl c1))
              clear HNONE HNEW HSAME HOLD
              go_wp2_with (at_builtin; refine wpList_appendsI rfl _ _ rfl w3.heap.size _ [(j : Int)] q2 A3 _ _ _ c3 rfl rfl rfl (OwnI.one w3 _ HK64.out) HR3.out HLE.out ?_; intro v4 w4 ho4 hb4; have HO4 := Lib.hid ho4; have HB4 := Lib.hid hb4; clear ho4 hb4; obtain ⟨A4, c4, rfl, hi4⟩ := HO4.out.iw (by have := HLE.out; simp at this ⊢; omega); have HI4 := Lib.hid hi4; clear hi4 HO4)
              go_roundw
              case rel =>
                refine ⟨j + 1, A4, c4, by omega, by omega, by go_num, by rw [HNX.out], by rw [HNX.out]; rfl, by rw [HNX.out], ?_, HB3.out.trans ((((Below.refl _ w3).alloc (Nat.le_refl _) _).trans HB4.out).mono HB3.out.size)⟩
                rw [HNX.out]
                exact HI4.out.wide HB3.out.size (Nat.le_refl _) (Nat.le_refl _)
              case measure => simp [intOf]; omega
            · have c1' : (s3 == 0) = false := by rw [beq_eq_false_iff_ne]; exact c1
              by_cases c2 : q1 + y < s1
              · have HNX := Lib.hid (HNEW.out c0 (.inr c2))
                clear HNONE HNEW HSAME HOLD
                go_wp2_with (at_builtin; refine wpList_appendsI rfl _ _ rfl w3.heap.size _ [(j : Int)] q2 A3 _ _ _ c3 rfl rfl rfl (OwnI.one w3 _ HK64.out) HR3.out HLE.out ?_; intro v4 w4 ho4 hb4; have HO4 := Lib.hid ho4; have HB4 := Lib.hid hb4; clear ho4 hb4; obtain ⟨A4, c4, rfl, hi4⟩ := HO4.out.iw (by have := HLE.out; simp at this ⊢; omega); have HI4 := Lib.hid hi4; clear hi4 HO4)
                go_roundw
                case rel =>
                  refine ⟨j + 1, A4, c4, by omega, by omega, by go_num, by rw [HNX.out], by rw [HNX.out]; rfl, by rw [HNX.out], ?_, HB3.out.trans ((((Below.refl _ w3).alloc (Nat.le_refl _) _).trans HB4.out).mono HB3.out.size)⟩
                  rw [HNX.out]
                  exact HI4.out.wide HB3.out.size (Nat.le_refl _) (Nat.le_refl _)
                case measure => simp [intOf]; omega
              · have hno : ¬ (s3 = 0 ∨ q1 + y < s1) := fun h => h.elim c1 c2
                by_cases c3' : q1 + y = s1
                · have HNX := Lib.hid (HSAME.out c0 hno c3')
                  have c4' : (q1 + y == s1) = true := by rw [beq_iff_eq]; exact c3'
                  have c2' : decide (q1 + y < s1) = false := decide_eq_false c2
                  clear HNONE HNEW HSAME HOLD hno
                  go_wp2
                  go_roundw
                  case rel => exact ⟨j + 1, A', c', by omega, by omega, by go_num, by rw [HNX.out], by rw [HNX.out], by rw [HNX.out], by rw [HNX.out]; exact HW3.out, HB3.out⟩
                  case measure => simp [intOf]; omega
                · have HNX := Lib.hid (HOLD.out c0 hno c3')
                  have c4' : (q1 + y == s1) = false := by rw [beq_eq_false_iff_ne]; exact c3'
                  have c2' : decide (q1 + y < s1) = false := decide_eq_false c2
                  clear HNONE HNEW HSAME HOLD hno
                  go_wp2
                  go_roundw
                  case rel => exact ⟨j + 1, A', c', by omega, by omega, by go_num, by rw [HNX.out], by rw [HNX.out], by rw [HNX.out], by rw [HNX.out]; exact HW3.out, HB3.out⟩
                  case measure => simp [intOf]; omega
        · have HE : Hid (tryTo (tryL us) r n j = tryL (rs.drop i) n) := by show _ = _; rw [HTRY.out, show min m (n.toNat + 1) = j by omega]
          clear hrow
          go_wp2
          go_ret3
          rw [← HE.out]
          exact ⟨A', ⟨c', rfl⟩, HW.out, HB.out⟩
      · obtain rfl : j = m := by omega
        have hjm' : ¬ (j : Int) < (j : Int) := by omega
        have HE : Hid (tryTo (tryL us) r n j = tryL (rs.drop i) n) := by show _ = _; rw [HTRY.out, show min j (n.toNat + 1) = j by omega]
        clear hrow
        go_wp2
        go_ret3
        rw [← HE.out]
        exact ⟨A', ⟨c', rfl⟩, HW.out, HB.out⟩

/-- A cost, a list of the call's own, and whether there is one. -/
def RetCL (w : World) (x : Int) (o : Option (List Int)) (e : Ending) (w' : World) : Prop := ∃ A c, e = .returned (.tuple #[.int .i64 x, .slice A (o.getD []).length c, .bool o.isSome]) ∧ IW w' w.heap.size w'.heap.size A (o.getD []) ∧ Below w.heap.size w w'
theorem retCL_none {w w' : World} {A : Option Addr} {c : Nat} (hb : Below w.heap.size w w') : RetCL w 0 none (.returned (.tuple #[.int .i64 0, .slice A 0 c, .bool false])) w' := ⟨A, c, rfl, IW.nil' _ _ _, hb⟩
theorem share_not {rs : List (List Int)} {n : Int} (h : shareOk rs n = false) : shareC rs n = 0 ∧ shareM rs n = none ∧ shareAllL rs n = 0 := by
  unfold shareC shareM shareAllL
  rw [h]
  simp
theorem share_yes {rs : List (List Int)} {n : Int} (h : shareOk rs n = true) : shareC rs n = (tryL rs n).1 ∧ shareM rs n = some (tryL rs n).2.1 ∧ shareAllL rs n = (tryL rs n).2.2 := by
  unfold shareC shareM shareAllL
  rw [h]
  simp
theorem most_le {rs : List (List Int)} (hg : givenB rs = true) : 0 ≤ mostL rs ∧ mostL rs ≤ 48 := by
  obtain ⟨g1, g2, g3⟩ := given_true.1 hg
  have h1 := most_nonneg (rs := rs) fun r hr => by have := (rowB_true.1 (g1 r hr)).2; omega
  have h2 := mostTo_bd (rs := rs) (fun r hr => (given_fit hg r hr).2) rs.length (Nat.le_refl _)
  rw [mostTo_all] at h2
  omega

/-- What the model asks first. -/
theorem share_asks (A : Option Addr) (c lo hi : Nat) (rs : List (List Int)) (w : World) (h : IRR w lo hi A rs) (hg : givenB rs = true) :
    Calls Try.prog 56 #[.slice A rs.length c] w fun e w' => e = .returned (.int .i64 (mostL rs)) ∧ w' = w :=
  l6sMost_any A c lo hi rs w h (fun r hr => (given_fit hg r hr).2) (given_true.1 hg).2.2

set_option maxRecDepth 100000 in
set_option maxHeartbeats 1000000 in
theorem specShareTry_any (A : Option Addr) (c lo hi : Nat) (rs : List (List Int)) (n : Int) (w : World) (h : IRR w lo hi A rs) :
    Calls Try.prog 28 #[.slice A rs.length c, .int .i64 n] w (RetCL w (shareC rs n) (shareM rs n)) := by
  have H := Lib.hid h
  clear h
  go_enter Try.func28, Try.ntmps28
  cases hg : givenB rs with
  | false =>
    have HM := Lib.hid (share_not (rs := rs) (n := n) (by unfold shareOk; rw [hg]; rfl))
    have HG := Lib.hid hg
    clear hg
    go_wp2_with fail
    refine (l6sGiven_any _ _ _ _ rs _ H.out).mono ?_
    rintro e w1 ⟨rfl, rfl⟩
    rw [HG.out]
    go_wp2
    go_ret3
    rw [HM.out.1, HM.out.2.1]
    exact retCL_none ((Below.refl _ _).alloc (Nat.le_refl _) _)
  | true =>
    have HG := Lib.hid hg
    have hml := most_le hg
    clear hg
    go_wp2_with fail
    refine (l6sGiven_any _ _ _ _ rs _ H.out).mono ?_
    rintro e w1 ⟨rfl, rfl⟩
    rw [HG.out]
    go_wp2_with fail
    refine (share_asks _ _ _ _ rs _ H.out HG.out).mono ?_
    rintro e w1 ⟨rfl, rfl⟩
    obtain ⟨q, hq⟩ : ∃ q, inB 0 (mostL rs) n = q := ⟨_, rfl⟩
    have HJ := Lib.hid (fun W => l6In_of hq W)
    have HOK : Hid (shareOk rs n = q) := by show _ = _; unfold shareOk; rw [HG.out, hq]; rfl
    cases q with
    | false =>
      have HM := Lib.hid (share_not HOK.out)
      clear hq
      go_wp2_with fail
      refine (HJ.out _).mono ?_
      rintro e w1 ⟨rfl, rfl⟩
      go_wp2
      go_ret3
      rw [HM.out.1, HM.out.2.1]
      exact retCL_none ((Below.refl _ _).alloc (Nat.le_refl _) _)
    | true =>
      have HM := Lib.hid (share_yes HOK.out)
      have hn := inB_true.1 hq
      obtain ⟨N, hN⟩ : ∃ N, rs.length = N := ⟨_, rfl⟩
      have HT := Lib.hid (l6sTry_any A c lo hi N rs (given_fit HG.out) (given_true.1 HG.out).2.2 hN N 0 n w1 (by omega) (by omega) (by omega) H.out)
      rw [hN]
      clear hq hn hml hN
      go_wp2_with fail
      refine (HJ.out _).mono ?_
      rintro e w2 ⟨rfl, rfl⟩
      go_wp2_with fail
      refine HT.out.mono ?_
      rw [List.drop_zero]
      rintro e w3 ⟨A3, c3, rfl, hi3, hb3⟩
      have HI := Lib.hid hi3; have HB := Lib.hid hb3
      clear hi3 hb3
      go_wp2
      go_ret3
      rw [HM.out.1, HM.out.2.1]
      exact ⟨A3, c3, rfl, HI.out, HB.out⟩


set_option maxRecDepth 100000 in
set_option maxHeartbeats 1000000 in
theorem specShareAll_any (A : Option Addr) (c lo hi : Nat) (rs : List (List Int)) (n : Int) (w : World) (h : IRR w lo hi A rs) :
    Calls Try.prog 40 #[.slice A rs.length c, .int .i64 n] w (RetIB w (shareOk rs n) (shareAllL rs n)) := by
  have H := Lib.hid h
  clear h
  go_enter Try.func40, Try.ntmps40
  cases hg : givenB rs with
  | false =>
    have HM := Lib.hid (share_not (rs := rs) (n := n) (by unfold shareOk; rw [hg]; rfl))
    have HG := Lib.hid hg
    clear hg
    go_wp2_with fail
    refine (l6sGiven_any _ _ _ _ rs _ H.out).mono ?_
    rintro e w1 ⟨rfl, rfl⟩
    rw [HG.out]
    go_wp2
    go_ret2
    rw [HM.out.2.2, (show shareOk rs n = false by unfold shareOk; rw [HG.out]; rfl)]
    exact ⟨rfl, Below.refl _ _⟩
  | true =>
    have HG := Lib.hid hg
    have hml := most_le hg
    clear hg
    go_wp2_with fail
    refine (l6sGiven_any _ _ _ _ rs _ H.out).mono ?_
    rintro e w1 ⟨rfl, rfl⟩
    rw [HG.out]
    go_wp2_with fail
    refine (share_asks _ _ _ _ rs _ H.out HG.out).mono ?_
    rintro e w1 ⟨rfl, rfl⟩
    obtain ⟨q, hq⟩ : ∃ q, inB 0 (mostL rs) n = q := ⟨_, rfl⟩
    have HJ := Lib.hid (fun W => l6In_of hq W)
    have HOK : Hid (shareOk rs n = q) := by show _ = _; unfold shareOk; rw [HG.out, hq]; rfl
    cases q with
    | false =>
      have HM := Lib.hid (share_not HOK.out)
      clear hq
      go_wp2_with fail
      refine (HJ.out _).mono ?_
      rintro e w1 ⟨rfl, rfl⟩
      go_wp2
      go_ret2
      rw [HM.out.2.2, (show shareOk rs n = false by exact HOK.out)]
      exact ⟨rfl, Below.refl _ _⟩
    | true =>
      have HM := Lib.hid (share_yes HOK.out)
      have hn := inB_true.1 hq
      obtain ⟨N, hN⟩ : ∃ N, rs.length = N := ⟨_, rfl⟩
      have HT := Lib.hid (l6sTry_any A c lo hi N rs (given_fit HG.out) (given_true.1 HG.out).2.2 hN N 0 n w1 (by omega) (by omega) (by omega) H.out)
      rw [hN]
      clear hq hn hml hN
      go_wp2_with fail
      refine (HJ.out _).mono ?_
      rintro e w2 ⟨rfl, rfl⟩
      go_wp2_with fail
      refine HT.out.mono ?_
      rw [List.drop_zero]
      rintro e w3 ⟨A3, c3, rfl, hi3, hb3⟩
      have HI := Lib.hid hi3; have HB := Lib.hid hb3
      clear hi3 hb3
      go_wp2
      go_ret2
      rw [HM.out.2.2, HOK.out]
      exact ⟨rfl, HB.out⟩

end Go.Proofs.Ytclhbmmlkcbdkaa
