/-
  Chapter 8 of the model: costs of parts, splits, least splits, any number of parts, greatest sums. Conditions: the lists' cells are there.
-/
import Derived.Test.YtfkmnlhmldjieaaSplitMath3
import Derived.Test.YtfkmnlhmldjieaaHl4
import Derived.Test.YtfkmnlhmldjieaaDraw2
import Derived.Test.YtfkmnlhmldjieaaFrom
namespace Go.Proofs.Ytfkmnlhmldjieaa
open Go.RowKit

/-- The letters w and s. -/
def sqB (s : ByteArray) : Bool := s.toList == [115]
def letB (s : ByteArray) : Bool := s.toList == [119] || s.toList == [115]
def givenS (zs : List Int) (s : ByteArray) : Bool := rowB zs && letB s

theorem l8Given_any (A : Option Addr) (c lo hi : Nat) (zs : List Int) (s : ByteArray) (w : World) (h : IR w lo hi A zs) :
    Calls Try.prog 43 #[.slice A zs.length c, .string s] w fun e w' => e = .returned (.bool (givenS zs s)) ∧ w = w' := by
  cases hr : rowB zs with
  | false =>
    have HM : Hid (givenS zs s = false) := by show _ = _; unfold givenS; rw [hr]; rfl
    have HR := Lib.hid hr; clear hr
    go_enter Try.func43, Try.ntmps43
    go_wp2_with fail
    refine (specRowIn_false _ _ _ _ zs _ h HR.out).mono ?_; rintro e w' ⟨rfl, rfl⟩
    go_wp2
    go_ret
    exact ⟨ret_bool HM.out.symm, rfl⟩
  | true =>
    have HM : Hid (givenS zs s = letB s) := by show _ = _; unfold givenS; rw [hr]; rfl
    have HR := Lib.hid hr; clear hr
    by_cases e1 : s.toList = [119]
    · have HM2 : Hid (letB s = true) := by show _ = _; unfold letB; rw [e1]; rfl
      go_enter Try.func43, Try.ntmps43
      go_wp2_with fail
      refine (specRowIn_true _ _ _ _ zs _ h HR.out).mono ?_; rintro e w' ⟨rfl, rfl⟩
      go_wp2
      go_ret
      exact ⟨ret_bool (by rw [HM.out, HM2.out]), rfl⟩
    · have HM2 : Hid (letB s = (s.toList == [119] || s.toList == [115])) := Lib.hid rfl
      go_enter Try.func43, Try.ntmps43
      go_wp2_with fail
      refine (specRowIn_true _ _ _ _ zs _ h HR.out).mono ?_; rintro e w' ⟨rfl, rfl⟩
      go_wp2
      go_ret
      exact ⟨ret_bool (by rw [HM.out, HM2.out]), rfl⟩
theorem l8Given_of {b : Bool} (A : Option Addr) (c lo hi : Nat) (zs : List Int) (s : ByteArray) (w : World) (h : IR w lo hi A zs) (hb : givenS zs s = b) :
    Calls Try.prog 43 #[.slice A zs.length c, .string s] w fun e w' => e = .returned (.bool b) ∧ w = w' := by
  have := l8Given_any A c lo hi zs s w h; rwa [hb] at this
theorem given_row {zs : List Int} {s : ByteArray} (h : givenS zs s = true) : rowB zs = true := by
  unfold givenS at h; exact (Bool.and_eq_true_iff.1 h).1

set_option maxHeartbeats 1000000 in
theorem l8Part_any (A : Option Addr) (c lo hi : Nat) (zs : List Int) (s : ByteArray) (i j : Nat) (w : World) (h : IR w lo hi A zs) (hr : rowB zs = true) (hij : i ≤ j) (hj : j < zs.length) :
    Calls Try.prog 45 #[.slice A zs.length c, .string s, .int .i64 (i : Int), .int .i64 (j : Int)] w fun e w' => e = .returned (.int .i64 (partV zs (sqB s) (i : Int) (j : Int))) ∧ w = w' := by
  have H := Lib.hid h; have HR := Lib.hid hr
  have hz := (rowB_true.1 hr).1
  have h12 := (rowB_true.1 hr).2.2
  have HZ := Lib.hid hz
  obtain ⟨b, off, rfl, _, _, hc0⟩ := h.at_ (k := i) (by omega)
  rw [← getD_in] at hc0
  have hi0 : (i : Int) < (zs.length : Int) := by omega
  clear h hr hz
  go_enter Try.func45, Try.ntmps45
  go_wp2
  clear hc0
  go_loop [9, 10, 11, 12] (fun lo hi sm x => ∃ d : Nat, i + d ≤ j + 1 ∧ x = .int .i64 ((i + d : Nat) : Int) ∧ lo = .int .i64 (loTo zs i (d - 1)) ∧ hi = .int .i64 (hiTo zs i (d - 1)) ∧ sm = .int .i64 (smN zs i d)) (fun _ _ _ x => j + 1 - (intOf x).toNat)
  case atStart => exact ⟨0, by omega, rfl, rfl, rfl, rfl⟩
  case round =>
    obtain ⟨d, hd, rfl, rfl, rfl, rfl⟩ := hrel
    have hsb := smN_bd HZ.out i d
    by_cases hlt : i + d ≤ j
    · obtain ⟨b', o', e, _, _, hc⟩ := H.out.at_ (k := i + d) (by omega)
      injection e with e; injection e with e1 e2 _; subst e1; subst e2
      rw [← getD_in] at hc
      have hlt' : ((i + d : Nat) : Int) ≤ (j : Int) := by omega
      have hl2 : ((i + d : Nat) : Int) < (zs.length : Int) := by omega
      have hgb : -1000 ≤ zs.getD (i + d) 0 ∧ zs.getD (i + d) 0 ≤ 1000 := by rw [getD_in (by omega)]; exact HZ.out _ (List.getElem_mem _)
      have HL : Hid (loTo zs i d = min (loTo zs i (d - 1)) (zs.getD (i + d) 0)) := by
        show _ = _
        cases d with
        | zero => simp [loTo]
        | succ d => simp only [loTo, Nat.add_sub_cancel]; rw [show i + (d + 1) = i + d + 1 by omega]
      have HH : Hid (hiTo zs i d = max (hiTo zs i (d - 1)) (zs.getD (i + d) 0)) := by
        show _ = _
        cases d with
        | zero => simp [hiTo]
        | succ d => simp only [hiTo, Nat.add_sub_cancel]; rw [show i + (d + 1) = i + d + 1 by omega]
      have HS : Hid (smN zs i (d + 1) = smN zs i d + zs.getD (i + d) 0) := Lib.hid rfl
      have hdi : (d : Int) ≤ 12 := by omega
      generalize zs.getD (i + d) 0 = y at hc hgb HL HH HS
      generalize loTo zs i (d - 1) = lo at HL
      generalize hiTo zs i (d - 1) = hi at HH
      generalize smN zs i d = sm at HS hsb
      have s1 : IntKind.i64.wrap (sm + y) = sm + y := IntWalk.i64_in _ (by omega)
      have s2 : IntKind.i64.wrap (((i + d : Nat) : Int) + 1) = ((i + d : Nat) : Int) + 1 := IntWalk.i64_in _ (by omega)
      have HL2 : Hid (loTo zs i d = if y < lo then y else lo) := by have := HL.out; show _ = _; split <;> omega
      by_cases c1 : hi < y
      · have HH2 : Hid (hiTo zs i d = y) := by have := HH.out; show _ = _; omega
        go_wp2
        go_round
        case rel => exact ⟨d + 1, by omega, by go_num, by rw [Nat.add_sub_cancel, HL2.out], by rw [Nat.add_sub_cancel, HH2.out], by rw [HS.out]⟩
        case measure => simp [intOf]; omega
      · have HH2 : Hid (hiTo zs i d = hi) := by have := HH.out; show _ = _; omega
        go_wp2
        go_round
        case rel => exact ⟨d + 1, by omega, by go_num, by rw [Nat.add_sub_cancel, HL2.out], by rw [Nat.add_sub_cancel, HH2.out], by rw [HS.out]⟩
        case measure => simp [intOf]; omega
    · obtain rfl : d = j + 1 - i := by omega
      have hlt' : ¬ ((i + (j + 1 - i) : Nat) : Int) ≤ (j : Int) := by omega
      have hb := part_bd (sq := true) HR.out (show (0 : Int) ≤ (i : Int) by omega) (show (i : Int) ≤ (j : Int) by omega) (show (j : Int) < (zs.length : Int) by omega)
      have hb2 := part_bd (sq := false) HR.out (show (0 : Int) ≤ (i : Int) by omega) (show (i : Int) ≤ (j : Int) by omega) (show (j : Int) < (zs.length : Int) by omega)
      unfold partV at hb hb2
      simp only [if_true, Bool.false_eq_true, if_false] at hb hb2
      have e0 : j + 1 - i = j - i + 1 := by omega
      have e1 : ((j : Int) - (i : Int)).toNat = j - i := by omega
      rw [e1, Int.toNat_natCast] at hb hb2
      rw [smTo_smN, ← e0] at hb
      rw [show j + 1 - i - 1 = j - i by omega]
      by_cases es : s.toList = [115]
      · have HM : Hid (partV zs (sqB s) (i : Int) (j : Int) = smN zs i (j + 1 - i) * smN zs i (j + 1 - i)) := by
          show _ = _
          unfold sqB partV
          rw [es, if_pos (by rfl), e1, Int.toNat_natCast, smTo_smN, ← e0]
        have s1 : IntKind.i64.wrap (smN zs i (j + 1 - i) * smN zs i (j + 1 - i)) = smN zs i (j + 1 - i) * smN zs i (j + 1 - i) := IntWalk.i64_in _ (by omega)
        generalize smN zs i (j + 1 - i) = S at s1 HM
        clear hb hb2 hsb
        go_wp2
        go_ret
        refine ⟨?_, rfl⟩
        rw [HM.out]; rfl
      · have HM : Hid (partV zs (sqB s) (i : Int) (j : Int) = hiTo zs i (j - i) - loTo zs i (j - i)) := by
          show _ = _
          unfold sqB partV
          rw [show (s.toList == [115]) = false by simpa using es, if_neg (by simp), e1, Int.toNat_natCast]
        have s1 : IntKind.i64.wrap (hiTo zs i (j - i) - loTo zs i (j - i)) = hiTo zs i (j - i) - loTo zs i (j - i) := IntWalk.i64_in _ (by omega)
        generalize hiTo zs i (j - i) = hi at s1 HM
        generalize loTo zs i (j - i) = lo at s1 HM
        have esb : (s.toList == [115]) = false := by simpa using es
        clear hb hb2 hsb
        go_wp2
        go_ret
        refine ⟨?_, rfl⟩
        rw [HM.out]; rfl

theorem part_row {zs : List Int} {s : ByteArray} (hr : rowB zs = true) : ∀ i j : Int, 0 ≤ i → i ≤ j → j < (zs.length : Int) → 0 ≤ partV zs (sqB s) i j ∧ partV zs (sqB s) i j ≤ 144000000 := fun _ _ h0 h1 h2 => part_bd hr h0 h1 h2
theorem l8Part_at (A : Option Addr) (c lo hi n : Nat) (zs : List Int) (s : ByteArray) (i j : Int) (w : World) (h : IR w lo hi A zs) (hr : rowB zs = true) (h0 : 0 ≤ i) (hij : i ≤ j) (hj : j < (zs.length : Int)) (hn : n = zs.length) :
    Calls Try.prog 45 #[.slice A n c, .string s, .int .i64 i, .int .i64 j] w fun e w' => e = .returned (.int .i64 (partV zs (sqB s) i j)) ∧ w = w' := by
  subst hn
  have := l8Part_any A c lo hi zs s i.toNat j.toNat w h hr (by omega) (by omega)
  rwa [show ((i.toNat : Nat) : Int) = i by omega, show ((j.toNat : Nat) : Int) = j by omega] at this

set_option maxRecDepth 100000 in
set_option maxHeartbeats 2000000 in
theorem l8Best_any (A : Option Addr) (c n : Nat) (zs : List Int) (s : ByteArray) (hr : rowB zs = true) (hn : zs.length = n) : ∀ (k f : Nat) (F K : Int) (w : World), F = (f : Int) → K = (k : Int) + 1 → f + k + 1 ≤ n → IR w 0 w.heap.size A zs →
    Calls Try.prog 46 #[.slice A n c, .string s, .int .i64 F, .int .i64 K] w fun e w' => ∃ A' c', e = .returned (.tuple #[.int .i64 (bestL (partV zs (sqB s)) (n : Int) k F).1, .slice A' (bestL (partV zs (sqB s)) (n : Int) k F).2.length c']) ∧ IW w' w.heap.size w'.heap.size A' (bestL (partV zs (sqB s)) (n : Int) k F).2 ∧ Below w.heap.size w w' := by
  have HR := Lib.hid hr
  have hn12 : n ≤ 12 := by have := (rowB_true.1 hr).2; omega
  have HN : Hid (n = zs.length) := Lib.hid hn.symm
  have HW := Lib.hid (part_row (s := s) hr)
  rw [hn] at HW
  obtain ⟨V, hV⟩ : ∃ V, partV zs (sqB s) = V := ⟨_, rfl⟩
  have HP : Hid (∀ (i j : Int) (w : World), IR w 0 w.heap.size A zs → 0 ≤ i → i ≤ j → j < (n : Int) → Calls Try.prog 45 #[.slice A n c, .string s, .int .i64 i, .int .i64 j] w fun e w' => e = .returned (.int .i64 (V i j)) ∧ w = w') :=
    Lib.hid fun i j w h h0 h1 h2 => by rw [← hV]; exact l8Part_at A c _ _ n zs s i j w h hr h0 h1 (by omega) hn.symm
  rw [hV] at HW
  rw [hV]
  clear hr hn hV
  intro k
  induction k with
  | zero =>
    intro f F K w hF hK hf h
    have H := Lib.hid h
    clear h
    have hk1 : K = 1 := hK
    have HFF := Lib.hid hF
    clear hK
    subst hk1
    have s1 : IntKind.i64.wrap ((n : Int) - 1) = (n : Int) - 1 := IntWalk.i64_in _ (by omega)
    have HC := Lib.hid (HP.out F ((n : Int) - 1) w H.out (by omega) (by omega) (by omega))
    have ho := OwnI.one w ((n : Int) - 1) (by unfold I64; omega)
    obtain ⟨A1, c1, e1, i1⟩ := ho.iw (by simp)
    injection e1 with e1 e2 e3
    clear e2
    subst e1; subst e3
    have HI := Lib.hid i1
    clear ho i1 hF
    go_enter Try.func46, Try.ntmps46
    go_wp2_with fail
    refine HC.out.mono ?_; rintro e w' ⟨rfl, rfl⟩
    go_wp2
    go_ret2
    exact ⟨_, _, rfl, HI.out, (Below.refl _ _).alloc (Nat.le_refl _) _⟩
  | succ k ih =>
    intro f F K w hF hK hf h
    have H := Lib.hid h; have HIH := Lib.hid ih
    have hk1 : ¬ K = 1 := by omega
    have hk1b : (K == 1) = false := by rw [beq_eq_false_iff_ne]; exact hk1
    obtain ⟨D, hD⟩ : ∃ D : Nat, n = f + D + k + 1 := ⟨n - k - 1 - f, by omega⟩
    have HM : Hid (bestL V (n : Int) (k + 1) F = partTo V (bestL V (n : Int) k) F D) := by
      show partTo _ _ _ _ = _
      rw [hF, show ((n : Int) - (k : Int) - 1 - (f : Int)).toNat = D by omega]
    rw [HM.out]
    obtain ⟨G, hG⟩ : ∃ G, bestL V (n : Int) k = G := ⟨_, rfl⟩
    have HGB : Hid (∀ g : Nat, g + k + 1 ≤ n → 0 ≤ (G (g : Int)).1 ∧ (G (g : Int)).1 ≤ 144000000 * ((k : Int) + 1) ∧ (G (g : Int)).2.length = k + 1) := Lib.hid fun g hg => by rw [← hG]; exact best_bd HW.out (by omega) (by omega)
    rw [hG] at HIH
    rw [hG]
    clear h ih hG
    have k64 : IntKind.i64.wrap (K - 1) = K - 1 := IntWalk.i64_in _ (by omega)
    have n64 : IntKind.i64.wrap ((n : Int) - K) = (n : Int) - K := IntWalk.i64_in _ (by omega)
    have HD := Lib.hid hD; have HF := Lib.hid hF; have HK := Lib.hid hK; have HF2 := Lib.hid hf
    clear hD hF hK hf
    go_enter Try.func46, Try.ntmps46
    go_wp2
    go_loopw [10, 11, 12] (fun b v x wr => ∃ (d : Nat) (A' : Option Addr) (c' : Nat), d ≤ D ∧ x = .int .i64 (F + (d : Int)) ∧ b = .int .i64 (partTo V G F d).1 ∧ v = .slice A' (partTo V G F d).2.length c' ∧ IW wr w.heap.size wr.heap.size A' (partTo V G F d).2 ∧ Below w.heap.size w wr) (fun _ _ x _ => n - (intOf x).toNat)
    case atStart => exact ⟨0, _, 0, Nat.zero_le _, by go_num, rfl, rfl, IW.nil' _ _ _, (Below.refl _ _).alloc (Nat.le_refl _) _⟩
    case round =>
      obtain ⟨d, A', c', hd, rfl, rfl, rfl, hiw, hbl⟩ := hrel
      have HI := Lib.hid hiw; have HB := Lib.hid hbl
      clear hiw hbl
      have hD := HD.out; have hF := HF.out; have hK := HK.out; have hf := HF2.out
      by_cases hlt : d < D
      · have hlt' : F + (d : Int) ≤ (n : Int) - K := by omega
        have x64 : IntKind.i64.wrap (F + (d : Int) + 1) = F + (d : Int) + 1 := IntWalk.i64_in _ (by omega)
        have HH := Lib.hid (H.out.grow HB.out)
        have HC := Lib.hid (HIH.out (f + d + 1) (F + (d : Int) + 1) (K - 1) wr (by omega) (by omega) (by omega) HH.out.toAll)
        have hgb := HGB.out (f + d + 1) (by omega)
        rw [show ((f + d + 1 : Nat) : Int) = F + (d : Int) + 1 by omega] at hgb
        have hvb := HW.out F (F + (d : Int)) (by omega) (by omega) (by omega)
        have HST : Hid (partTo V G F (d + 1) = partStep (partTo V G F d) (F + (d : Int)) (G (F + (d : Int) + 1)) (V F (F + (d : Int)))) := Lib.hid rfl
        obtain ⟨q1, q2, hq⟩ : ∃ q1 q2, G (F + (d : Int) + 1) = (q1, q2) := ⟨_, _, rfl⟩
        obtain ⟨a1, a2, ha⟩ : ∃ a1 a2, partTo V G F d = (a1, a2) := ⟨_, _, rfl⟩
        have HCP := Lib.hid (fun w4 (h4 : IR w4 0 w4.heap.size A zs) => HP.out F (F + (d : Int)) w4 h4 (by omega) (by omega) (by omega))
        rw [hq] at hgb HST HC
        rw [ha] at HI HST
        rw [ha]
        dsimp only at hgb HI HC
        dsimp only
        obtain ⟨y, hy⟩ : ∃ y, V F (F + (d : Int)) = y := ⟨_, rfl⟩
        rw [hy] at hvb HST HCP
        clear hq ha hy hD hF hK hf
        go_wp2_with fail
        refine HC.out.mono ?_
        rintro e w3 ⟨A3, c3, rfl, hi3, hb3⟩
        have HB3 := Lib.hid (HB.out.trans (hb3.mono HB.out.size))
        replace HI := Lib.hid ((HI.out.grow hb3).wide (Nat.le_refl _) hb3.size (Nat.le_refl _))
        have hqb : 0 ≤ q1 ∧ q1 ≤ 1728000000 := by
          have := HF2.out
          have : (k : Int) + 1 ≤ 12 := by omega
          omega
        have HL3 := Lib.hid hgb.2.2
        have t1 : IntKind.i64.wrap (q1 + y) = q1 + y := IntWalk.i64_in _ (by omega)
        have HR3 := Lib.hid (hi3.toIR.below ((Below.refl w3.heap.size w3).alloc (Nat.le_refl _) (.cells #[.int .i64 (F + (d : Int))] 3)) (Nat.le_refl _))
        have HK64 : Hid (I64 (F + (d : Int))) := by have := HD.out; have := HF.out; exact ⟨by omega, by omega⟩
        have HLE : Hid (([F + (d : Int)]).length + q2.length ≤ 17592186044416) := by have := HF2.out; show _ ≤ _; rw [HL3.out]; simp; omega
        have HCW := Lib.hid (HCP.out w3 (HH.out.grow hb3).toAll)
        clear hi3 hb3 hgb HC HCP
        go_wp2_with fail
        refine HCW.out.mono ?_; rintro e w4 ⟨rfl, rfl⟩
        clear HCW
        by_cases c1 : a2.length = 0
        · have HNEW : Hid (partTo V G F (d + 1) = (q1 + y, (F + (d : Int)) :: q2)) := by
            show _ = _; rw [HST.out]; unfold partStep; rw [if_pos (.inl (List.eq_nil_of_length_eq_zero c1))]
          have c1' : (a2.length : Int) = 0 := by omega
          go_wp2_with (at_builtin; refine wpList_appendsI rfl _ _ rfl w3.heap.size _ [F + (d : Int)] q2 A3 _ _ _ c3 rfl rfl rfl (OwnI.one w3 _ HK64.out) HR3.out HLE.out ?_; intro v4 w4 ho4 hb4; have HO4 := Lib.hid ho4; have HB4 := Lib.hid hb4; clear ho4 hb4; obtain ⟨A4, c4, rfl, hi4⟩ := HO4.out.iw (by have := HLE.out; simp at this ⊢; omega); have HI4 := Lib.hid hi4; clear hi4 HO4)
          go_roundw
          case rel =>
            refine ⟨d + 1, A4, c4, by omega, by go_num, by rw [HNEW.out], by rw [HNEW.out]; rfl, ?_, HB3.out.trans ((((Below.refl _ w3).alloc (Nat.le_refl _) _).trans HB4.out).mono HB3.out.size)⟩
            rw [HNEW.out]
            exact HI4.out.wide HB3.out.size (Nat.le_refl _) (Nat.le_refl _)
          case measure => have := HD.out; have := HF.out; simp [intOf]; omega
        · have c1' : ¬ (a2.length : Int) = 0 := by omega
          have c1'' : ((a2.length : Int) == 0) = false := by rw [beq_eq_false_iff_ne]; exact c1'
          by_cases c2 : q1 + y < a1
          · have HNEW : Hid (partTo V G F (d + 1) = (q1 + y, (F + (d : Int)) :: q2)) := by
              show _ = _; rw [HST.out]; unfold partStep; rw [if_pos (.inr c2)]
            go_wp2_with (at_builtin; refine wpList_appendsI rfl _ _ rfl w3.heap.size _ [F + (d : Int)] q2 A3 _ _ _ c3 rfl rfl rfl (OwnI.one w3 _ HK64.out) HR3.out HLE.out ?_; intro v4 w4 ho4 hb4; have HO4 := Lib.hid ho4; have HB4 := Lib.hid hb4; clear ho4 hb4; obtain ⟨A4, c4, rfl, hi4⟩ := HO4.out.iw (by have := HLE.out; simp at this ⊢; omega); have HI4 := Lib.hid hi4; clear hi4 HO4)
            go_roundw
            case rel =>
              refine ⟨d + 1, A4, c4, by omega, by go_num, by rw [HNEW.out], by rw [HNEW.out]; rfl, ?_, HB3.out.trans ((((Below.refl _ w3).alloc (Nat.le_refl _) _).trans HB4.out).mono HB3.out.size)⟩
              rw [HNEW.out]
              exact HI4.out.wide HB3.out.size (Nat.le_refl _) (Nat.le_refl _)
            case measure => have := HD.out; have := HF.out; simp [intOf]; omega
          · have HOLD : Hid (partTo V G F (d + 1) = (a1, a2)) := by
              show _ = _; rw [HST.out]; unfold partStep; rw [if_neg (fun e => e.elim (fun e => c1 (by rw [show a2 = [] from e]; rfl)) c2)]
            have c2' : decide (q1 + y < a1) = false := decide_eq_false c2
            go_wp2
            go_roundw
            case rel => exact ⟨d + 1, A', c', by omega, by go_num, by rw [HOLD.out], by rw [HOLD.out], by rw [HOLD.out]; exact HI.out, HB3.out⟩
            case measure => have := HD.out; have := HF.out; simp [intOf]; omega
      · obtain rfl : d = D := by omega
        have hlt' : ¬ F + (d : Int) ≤ (n : Int) - K := by omega
        clear hD hF hK hf
        go_wp2
        go_ret2
        exact ⟨A', ⟨c', rfl⟩, HI.out, HB.out⟩

theorem retV_ok {w w' : World} {v : Value} {e : Ending} (h : e = .returned v) (hb : Below w.heap.size w w') : e = .returned v ∧ Below w.heap.size w w' := ⟨h, hb⟩
/- What the functions answer. -/
def splitOkB (zs : List Int) (s : ByteArray) (l : List Int) : Bool := givenS zs s && segOk 0 l (zs.length : Int)
def splitCostV (zs : List Int) (s : ByteArray) (l : List Int) : Value := if splitOkB zs s l then .tuple #[.int .i64 (splitCost zs (sqB s) l), .bool true] else .tuple #[.int .i64 0, .bool false]
def leastOkB (zs : List Int) (s : ByteArray) (x : Int) : Bool := givenS zs s && inB 1 (zs.length : Int) x
def splitLeastV (zs : List Int) (s : ByteArray) (x : Int) : Value := if leastOkB zs s x then .tuple #[.int .i64 (splitLeast zs (sqB s) x.toNat), .bool true] else .tuple #[.int .i64 0, .bool false]
def splitFirstM (zs : List Int) (s : ByteArray) (x : Int) : Option (List Int) := if leastOkB zs s x then some (splitFirst zs (sqB s) x.toNat) else none
def splitCostsL (zs : List Int) (s : ByteArray) : List Int := (List.range zs.length).map fun i => splitLeast zs (sqB s) (i + 1)
def splitCostsM (zs : List Int) (s : ByteArray) : Option (List Int) := if givenS zs s then some (splitCostsL zs s) else none
def anyOkB (zs : List Int) (s : ByteArray) (p : Int) : Bool := givenS zs s && inB 0 5000 p
def splitAnyV (zs : List Int) (s : ByteArray) (p : Int) : Value := if anyOkB zs s p then .tuple #[.int .i64 (splitAny zs (sqB s) p).1, .int .i64 (splitAny zs (sqB s) p).2, .bool true] else .tuple #[.int .i64 0, .int .i64 0, .bool false]
def manyOkB (zs : List Int) (x : Int) : Bool := rowB zs && inB 1 (zs.length : Int) x
def splitManyV (zs : List Int) (x : Int) : Value := if manyOkB zs x then .tuple #[.int .i64 (chooseN (zs.length - 1) (x.toNat - 1) : Int), .bool true] else .tuple #[.int .i64 0, .bool false]
def evenOkB (zs : List Int) (x : Int) : Bool := hillB zs && inB 1 (zs.length : Int) x
def splitEvenV (zs : List Int) (x : Int) : Value := if evenOkB zs x then .tuple #[.int .i64 (splitEven zs x.toNat), .bool true] else .tuple #[.int .i64 0, .bool false]

theorem splitCostV_tuple (zs : List Int) (s : ByteArray) (l : List Int) : ∃ (u : Int) (b : Bool), splitCostV zs s l = .tuple #[.int .i64 u, .bool b] := by unfold splitCostV; split <;> exact ⟨_, _, rfl⟩
theorem splitLeastV_tuple (zs : List Int) (s : ByteArray) (x : Int) : ∃ (u : Int) (b : Bool), splitLeastV zs s x = .tuple #[.int .i64 u, .bool b] := by unfold splitLeastV; split <;> exact ⟨_, _, rfl⟩
theorem splitAnyV_tuple (zs : List Int) (s : ByteArray) (x : Int) : ∃ (u v : Int) (b : Bool), splitAnyV zs s x = .tuple #[.int .i64 u, .int .i64 v, .bool b] := by unfold splitAnyV; split <;> exact ⟨_, _, _, rfl⟩
theorem splitManyV_tuple (zs : List Int) (x : Int) : ∃ (u : Int) (b : Bool), splitManyV zs x = .tuple #[.int .i64 u, .bool b] := by unfold splitManyV; split <;> exact ⟨_, _, rfl⟩
theorem splitEvenV_tuple (zs : List Int) (x : Int) : ∃ (u : Int) (b : Bool), splitEvenV zs x = .tuple #[.int .i64 u, .bool b] := by unfold splitEvenV; split <;> exact ⟨_, _, rfl⟩

set_option maxRecDepth 100000 in
set_option maxHeartbeats 1000000 in
theorem specSplitLeast_any (A : Option Addr) (c : Nat) (zs : List Int) (s : ByteArray) (x : Int) (_hx : I64 x) (w : World) (h : IR w 0 w.heap.size A zs) :
    Calls Try.prog 15 #[.slice A zs.length c, .string s, .int .i64 x] w fun e w' => e = .returned (splitLeastV zs s x) ∧ Below w.heap.size w w' := by
  have H := Lib.hid h; clear h
  cases hg : givenS zs s with
  | false =>
    have HM : Hid (splitLeastV zs s x = .tuple #[.int .i64 0, .bool false]) := by show _ = _; unfold splitLeastV leastOkB; rw [hg]; rfl
    have HG := Lib.hid hg; clear hg
    go_enter Try.func15, Try.ntmps15
    go_wp2_with fail
    refine (l8Given_of _ _ _ _ zs s _ H.out HG.out).mono ?_; rintro e w' ⟨rfl, rfl⟩
    go_wp2
    go_ret2
    exact ⟨by rw [HM.out]; rfl, Below.refl _ _⟩
  | true =>
    have hl := (rowB_true.1 (given_row hg)).2
    cases hi : inB 1 (zs.length : Int) x with
    | false =>
      have HM : Hid (splitLeastV zs s x = .tuple #[.int .i64 0, .bool false]) := by show _ = _; unfold splitLeastV leastOkB; rw [hi, Bool.and_false]; rfl
      have HG := Lib.hid hg; have HI := Lib.hid hi; clear hg hi
      go_enter Try.func15, Try.ntmps15
      go_wp2_with fail
      refine (l8Given_of _ _ _ _ zs s _ H.out HG.out).mono ?_; rintro e w' ⟨rfl, rfl⟩
      go_wp2_with fail
      refine (l6In_false _ _ _ _ HI.out).mono ?_; rintro e w' ⟨rfl, rfl⟩
      go_wp2
      go_ret2
      exact ⟨by rw [HM.out]; rfl, Below.refl _ _⟩
    | true =>
      have hx1 := inB_true.1 hi
      obtain ⟨k, hk⟩ : ∃ k : Nat, x = (k : Int) + 1 := ⟨(x - 1).toNat, by omega⟩
      have HM : Hid (splitLeastV zs s x = .tuple #[.int .i64 (bestL (partV zs (sqB s)) (zs.length : Int) k 0).1, .bool true]) := by
        show _ = _; unfold splitLeastV leastOkB
        rw [hg, hi, if_pos (by rfl)]
        unfold splitLeast leastP
        rw [show x.toNat - 1 = k by omega]
      have HC := Lib.hid (l8Best_any A c zs.length zs s (given_row hg) rfl k 0 0 x w rfl hk (by omega) H.out)
      have HG := Lib.hid hg; have HI := Lib.hid hi; clear hg hi hx1 hk
      go_enter Try.func15, Try.ntmps15
      go_wp2_with fail
      refine (l8Given_of _ _ _ _ zs s _ H.out HG.out).mono ?_; rintro e w' ⟨rfl, rfl⟩
      go_wp2_with fail
      refine (l6In_true _ _ _ _ HI.out).mono ?_; rintro e w' ⟨rfl, rfl⟩
      go_wp2_with fail
      refine HC.out.mono ?_; rintro e w1 ⟨A1, c1, rfl, -, hb⟩
      have HB := Lib.hid hb; clear hb HC
      go_wp2
      go_ret2
      exact ⟨by rw [HM.out]; rfl, HB.out⟩

set_option maxRecDepth 100000 in
set_option maxHeartbeats 1000000 in
theorem specSplitFirst_any (A : Option Addr) (c : Nat) (zs : List Int) (s : ByteArray) (x : Int) (_hx : I64 x) (w : World) (h : IR w 0 w.heap.size A zs) :
    Calls Try.prog 19 #[.slice A zs.length c, .string s, .int .i64 x] w (RetSB w (splitFirstM zs s x)) := by
  have H := Lib.hid h; clear h
  cases hg : givenS zs s with
  | false =>
    have HM : Hid (splitFirstM zs s x = none) := by show _ = _; unfold splitFirstM leastOkB; rw [hg]; rfl
    have HG := Lib.hid hg; clear hg
    go_enter Try.func19, Try.ntmps19
    go_wp2_with fail
    refine (l8Given_of _ _ _ _ zs s _ H.out HG.out).mono ?_; rintro e w' ⟨rfl, rfl⟩
    go_wp2
    go_ret2
    rw [HM.out]
    exact retSB_none ((Below.refl _ _).alloc (Nat.le_refl _) _)
  | true =>
    have hl := (rowB_true.1 (given_row hg)).2
    cases hi : inB 1 (zs.length : Int) x with
    | false =>
      have HM : Hid (splitFirstM zs s x = none) := by show _ = _; unfold splitFirstM leastOkB; rw [hi, Bool.and_false]; rfl
      have HG := Lib.hid hg; have HI := Lib.hid hi; clear hg hi
      go_enter Try.func19, Try.ntmps19
      go_wp2_with fail
      refine (l8Given_of _ _ _ _ zs s _ H.out HG.out).mono ?_; rintro e w' ⟨rfl, rfl⟩
      go_wp2_with fail
      refine (l6In_false _ _ _ _ HI.out).mono ?_; rintro e w' ⟨rfl, rfl⟩
      go_wp2
      go_ret2
      rw [HM.out]
      exact retSB_none ((Below.refl _ _).alloc (Nat.le_refl _) _)
    | true =>
      have hx1 := inB_true.1 hi
      obtain ⟨k, hk⟩ : ∃ k : Nat, x = (k : Int) + 1 := ⟨(x - 1).toNat, by omega⟩
      have HM : Hid (splitFirstM zs s x = some (bestL (partV zs (sqB s)) (zs.length : Int) k 0).2) := by
        show _ = _; unfold splitFirstM leastOkB
        rw [hg, hi, if_pos (by rfl)]
        unfold splitFirst firstP
        rw [show x.toNat - 1 = k by omega]
      have HC := Lib.hid (l8Best_any A c zs.length zs s (given_row hg) rfl k 0 0 x w rfl hk (by omega) H.out)
      have HG := Lib.hid hg; have HI := Lib.hid hi; clear hg hi hx1 hk
      go_enter Try.func19, Try.ntmps19
      go_wp2_with fail
      refine (l8Given_of _ _ _ _ zs s _ H.out HG.out).mono ?_; rintro e w' ⟨rfl, rfl⟩
      go_wp2_with fail
      refine (l6In_true _ _ _ _ HI.out).mono ?_; rintro e w' ⟨rfl, rfl⟩
      go_wp2_with fail
      refine HC.out.mono ?_; rintro e w1 ⟨A1, c1, rfl, hi1, hb⟩
      have HB := Lib.hid hb; have HI1 := Lib.hid hi1; clear hb hi1 HC
      go_wp2
      go_ret2
      rw [HM.out]
      exact retSB_some rfl HI1.out HB.out

end Go.Proofs.Ytfkmnlhmldjieaa
