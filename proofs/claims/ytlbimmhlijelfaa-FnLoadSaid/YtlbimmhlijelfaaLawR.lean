/-
  The laws' helpers sameRows and across: two lists of lists compared, a table turned across. Conditions: the cells are there.
-/
import Derived.Test.YtlbimmhlijelfaaTsA
import Derived.Test.YtlbimmhlijelfaaSame
import Derived.StillTailTactics
namespace Go.Proofs.Ytlbimmhlijelfaa
open Go.RowKit

set_option maxHeartbeats 1000000 in
set_option maxRecDepth 100000 in
theorem sameRows_b (A A' : Option Addr) (n n' c c' lo hi lo' hi' : Nat) (zss : List (List Int)) (w : World) (h : IRR w lo hi A zss) (h' : IRR w lo' hi' A' zss) (hn : n = zss.length) (hn' : n' = zss.length) :
    Calls Try.prog 35 #[.slice A n c, .slice A' n' c'] w fun e w' => e = .returned (.bool true) ∧ Below w.heap.size w w' := by
  refine Calls.mono (R := fun e w' => e = .returned (.bool true) ∧ Dr w w') ?_ fun _ _ ⟨he, d⟩ => ⟨he, d.below⟩
  have hl := h.1
  have H := Lib.hid h; have G := Lib.hid h'
  obtain ⟨N, hN⟩ : ∃ N, zss.length = N := ⟨_, rfl⟩
  have HN := Lib.hid hN
  rw [hN] at hn hn' hl
  subst hn
  have e : n = n' := hn'.symm
  subst e
  clear h h' hN hn'
  go_enter Try.func35, Try.ntmps35
  go_wp2
  go_loopw [5] (fun i wr => ∃ k : Nat, k ≤ n ∧ i = .int .i64 k ∧ Dr w wr) (fun i _ => n - (intOf i).toNat)
  case atStart => exact ⟨0, Nat.zero_le _, rfl, Dr.refl _⟩
  case round =>
    obtain ⟨W, hW⟩ : ∃ W, W = wr := ⟨_, rfl⟩
    subst hW
    obtain ⟨k, hk, rfl, hd⟩ := hrel
    have HD := Lib.hid hd
    by_cases hlt : k < n
    · have hkz : k < zss.length := by rw [HN.out]; exact hlt
      obtain ⟨b, off, Ak, ck, rfl, _, hc, _, hrow⟩ := (hd.irr H.out).at_ hkz
      obtain ⟨b', off', Ak', ck', rfl, _, hc', _, hrow'⟩ := (hd.irr G.out).at_ hkz
      have hlt' : (k : Int) < (n : Int) := by omega
      obtain ⟨zs, hzs⟩ : ∃ zs, zss[k] = zs := ⟨_, rfl⟩
      rw [hzs] at hc hc' hrow hrow'
      obtain ⟨m, hm⟩ : ∃ m, zs.length = m := ⟨_, rfl⟩
      rw [hm] at hc hc'
      have HR := Lib.hid hrow; have HR' := Lib.hid hrow'; have HM := Lib.hid hm.symm
      clear hrow hrow' hzs hd hm
      go_wp2
      go_still_tail 8, (by kernel_rfl)
      change wpList _ _ _ _ _ (World.drew W)
      go_wp2_with fail
      refine (sameInts_true Ak Ak' m m ck ck' _ _ _ _ zs _ (HR.out.drewN 1) (HR'.out.drewN 1) HM.out HM.out).mono ?_
      rintro e w' ⟨rfl, m', rfl⟩
      go_wp2
      go_roundw
      case rel => exact ⟨k + 1, by omega, by go_num, HD.out.more (1 + m')⟩
      case measure => simp [intOf]; omega
    · obtain rfl : k = n := by omega
      clear hd
      go_wp2
      go_ret
      exact ⟨rfl, HD.out⟩

set_option maxRecDepth 100000 in
theorem across_row (t : List (List Int)) (n m k : Nat) (h : k < (acrossL t n m).length) : (acrossL t n m)[k] = (List.range n).map fun i => ent t i k := by simp [acrossL, tabL]

set_option maxRecDepth 100000 in
set_option maxHeartbeats 2000000 in
theorem across_any (A : Option Addr) (n m c lo hi : Nat) (t : List (List Int)) (w : World) (h : IRR w lo hi A t) (ht : tableB t = true) (hn : n = t.length) (hm : m = colsN t) :
    Calls Try.prog 33 #[.slice A n c] w (RetT w (acrossL t n m)) := by
  have H := Lib.hid h; have HT := Lib.hid ht; have HN := Lib.hid hn.symm; have HM := Lib.hid hm.symm
  obtain ⟨_, bn, bm, hE⟩ := table_sh ht
  rw [← hn, ← hm] at hE
  have HE := Lib.hid hE
  rw [← hn] at bn
  rw [← hm] at bm
  have HLA : Hid ((acrossL t n m).length = m) := (tab_sh _ _ _).1
  clear h ht hn hm hE
  go_enter Try.func33, Try.ntmps33
  go_wp2
  go_loopw [3, 4] (fun v x wr => ∃ k : Nat, k ≤ m ∧ x = .int .i64 (k : Int) ∧ OwnT wr w.heap.size wr.heap.size v ((acrossL t n m).take k) ∧ Below w.heap.size w wr) (fun _ x _ => m - (intOf x).toNat)
  case atStart =>
    have h0 := OwnT.made w
    rw [show w.heap.size + 1 = (w.alloc (.cells #[] 23)).heap.size by simp] at h0
    exact ⟨0, Nat.zero_le _, rfl, h0, (Below.refl _ _).alloc (Nat.le_refl _) _⟩
  case round =>
    obtain ⟨W, hW⟩ : ∃ W, W = wr := ⟨_, rfl⟩
    subst hW
    obtain ⟨k, hk, rfl, ho, hb⟩ := hrel
    have HO := Lib.hid ho; have HB := Lib.hid hb
    clear ho hb
    obtain ⟨b, off, b0, o0, c0, hA, hc0, _⟩ := (H.out.below HB.out H.out.2.1).entry HT.out (i := 0) (by rw [HN.out]; omega)
    rw [HM.out, Nat.add_zero] at hc0
    have h0n : 0 < n := by omega
    by_cases hlt : k < m
    · have hlt' : (k : Int) < (m : Int) := by omega
      have k0 : (0 : Int) ≤ (k : Int) := by omega
      have htk := takeR_snoc (acrossL t n m) k (by rw [HLA.out]; exact hlt)
      rw [across_row] at htk
      obtain ⟨row, hrw⟩ : ∃ row, (List.range n).map (fun i => ent t i k) = row := ⟨_, rfl⟩
      rw [hrw] at htk
      have HTK := Lib.hid htk
      have HRL : Hid (row.length = n) := by show _ = _; rw [← hrw]; simp
      have HRG : Hid (∀ i (hi : i < row.length), row[i] = ent t i k) := fun i hi => by subst hrw; simp
      clear htk hrw
      subst hA
      go_wp2
      go_loopw [5, 6] (fun v x wq => ∃ i : Nat, i ≤ n ∧ x = .int .i64 (i : Int) ∧ OwnI wq W.heap.size v (row.take i) ∧ Below W.heap.size W wq) (fun _ x _ => n - (intOf x).toNat)
      case atStart => exact ⟨0, Nat.zero_le _, rfl, OwnI.made W, (Below.refl _ _).alloc (Nat.le_refl _) _⟩
      case round =>
        obtain ⟨X, hX⟩ : ∃ X, X = wr := ⟨_, rfl⟩
        subst hX
        obtain ⟨i, hi, rfl, hoi, hbq⟩ := hrel
        have HOI := Lib.hid hoi; have HBQ := Lib.hid hbq
        clear hoi hbq
        have HBW := Lib.hid (HB.out.trans (HBQ.out.mono HB.out.size))
        by_cases hin : i < n
        · have hin' : (i : Int) < (n : Int) := by omega
          have i0 : (0 : Int) ≤ (i : Int) := by omega
          obtain ⟨_, _, b1, o1, c1, e, hc1, he1⟩ := (H.out.below HBW.out H.out.2.1).entry HT.out (i := i) (by rw [HN.out]; exact hin)
          injection e with e; injection e with e3 e4 _; subst e3; subst e4
          rw [HM.out] at hc1 he1
          have x1 := he1 k hlt
          have g1 := HE.out i k hin hlt
          have hsn := take_snoc row i (by rw [HRL.out]; exact hin)
          rw [HRG.out i (by rw [HRL.out]; exact hin)] at hsn
          obtain ⟨z, hz⟩ : ∃ z, ent t i k = z := ⟨_, rfl⟩
          rw [hz] at x1 g1 hsn
          have HSN := Lib.hid hsn
          have HLn : Hid ((row.take i).length < 17592186044416) := by show _ < _; rw [List.length_take, HRL.out]; omega
          have HY : Hid (I64 z) := ⟨by omega, by omega⟩
          clear he1 hz hsn g1 hc0
          go_wp2_with (at_builtin; refine wpList_push rfl _ _ rfl W.heap.size _ _ rfl rfl HOI.out HLn.out HY.out ?_; intro v1 w5 ho1 hb1)
          rw [HSN.out] at ho1
          have HO5 := Lib.hid ho1; have HB5 := Lib.hid (HBQ.out.trans hb1)
          clear ho1 hb1
          go_roundw
          case rel => exact ⟨i + 1, by omega, by go_num, HO5.out, HB5.out⟩
          case measure => simp [intOf]; omega
        · obtain rfl : i = n := by omega
          have hin' : ¬ (i : Int) < (i : Int) := by omega
          have hoi := HOI.out
          rw [List.take_of_length_le (by rw [HRL.out]; exact Nat.le_refl _)] at hoi
          obtain ⟨A3, c3, rfl, hiw, hcap⟩ := hoi.iwc HRL.out (by omega)
          have HIW := Lib.hid hiw; have HCAP := Lib.hid hcap
          have HO2 := Lib.hid (HO.out.below HBQ.out (Nat.le_refl _))
          have HTLn : Hid (((acrossL t i m).take k).length < 1000000) := by show _ < _; rw [List.length_take, HLA.out]; omega
          clear hoi hiw hcap HOI
          go_wp2_with (at_builtin; refine wpList_pushT rfl _ _ rfl w.heap.size _ W.heap.size _ _ rfl rfl HO2.out _ HRL.out.symm HCAP.out (Nat.le_refl _) HIW.out HTLn.out ?_; intro v2 w6 ho2 hb2)
          rw [HTK.out] at ho2
          have HO6 := Lib.hid ho2; have HB6 := Lib.hid (HBW.out.trans hb2)
          clear ho2 hb2
          go_roundw
          case rel => exact ⟨k + 1, by omega, by go_num, HO6.out, HB6.out⟩
          case measure => simp [intOf]; omega
    · obtain rfl : k = m := by omega
      have hlt' : ¬ (k : Int) < (k : Int) := by omega
      have ho := HO.out
      rw [List.take_of_length_le (by rw [HLA.out]; exact Nat.le_refl _)] at ho
      obtain ⟨A3, c3, rfl, hc3, -, hiw⟩ := ho.iww (by rw [HLA.out]; omega)
      have HIW := Lib.hid hiw; have HC3 := Lib.hid hc3
      clear ho hiw hc3 HO
      subst hA
      go_wp2
      go_ret
      exact ⟨A3, c3, rfl, HC3.out, HIW.out, HB.out⟩
end Go.Proofs.Ytlbimmhlijelfaa
