/-
  ProofCrossed of the model: the first place where a table is not crossed. Conditions: the table's cells are there.
-/
import Derived.Test.YtanoojpmokbiaaaTsA
import Derived.Test.YtanoojpmokbiaaaPcM
namespace Go.Proofs.Ytanoojpmokbiaaa
open Go.RowKit

theorem pc_bad {t : List (List Int)} {n m p q : Nat} (hT : tableB t = true) (hn : t.length = n) (hm : colsN t = m) (hp : p + 1 < n) (hq : q + 1 < m) (hc : CrTo t m (p + 1) (q + 1)) (h : ent t p (q + 1) + ent t (p + 1) q < ent t p q + ent t (p + 1) (q + 1)) : pcM t = some (p, q) := by
  unfold pcM
  rw [if_pos hT, hn, hm]
  refine ex_at (excB_iff.2 ⟨hp, hq, h⟩) fun i k hk hb => decide_eq_false fun c => ?_
  have := hc i k hk (by omega)
  omega
theorem pc_all {t : List (List Int)} {n m : Nat} (hT : tableB t = true) (hn : t.length = n) (hm : colsN t = m) (hc : CrTo t m n 1) : pcM t = none := by
  rw [pc_none hT]
  unfold crossedB
  rw [hT, hn, hm, crTo_all hc]; rfl

set_option maxRecDepth 100000 in
set_option maxHeartbeats 4000000 in
theorem specProofCrossed_any (A : Option Addr) (c lo hi : Nat) (t : List (List Int)) (w : World) (h : IRR w lo hi A t) :
    Calls Try.prog 9 #[.slice A t.length c] w fun e w' => e = .returned (.tuple (pcV (pcM t))) ∧ Dr w w' := by
  have H0 := Lib.hid h
  clear h
  go_enter Try.func9, Try.ntmps9
  go_wp2_with fail
  refine (l5Table_any A c lo hi t _ H0.out).mono ?_
  rintro e w1 ⟨rfl, hd⟩
  have HD0 := Lib.hid hd
  have H := Lib.hid (hd.irr H0.out)
  clear hd H0
  cases ht : tableB t with
  | false =>
    have HX : Hid (pcM t = none) := by show _ = _; unfold pcM; rw [ht]; rfl
    clear ht
    go_wp2
    go_ret3
    exact ⟨by rw [HX.out]; rfl, HD0.out⟩
  | true =>
    have HT := Lib.hid ht
    obtain ⟨_, hn, hm, hE⟩ := table_sh ht
    have HE := Lib.hid hE
    clear ht hE
    obtain ⟨n, hnn⟩ : ∃ n, t.length = n := ⟨_, rfl⟩
    obtain ⟨m, hmm⟩ : ∃ m, colsN t = m := ⟨_, rfl⟩
    have HN := Lib.hid hnn; have HM := Lib.hid hmm
    rw [hnn] at hn
    rw [hmm] at hm
    rw [hnn]
    clear hnn hmm
    go_wp2
    go_loopw [5] (fun i wr => ∃ p : Nat, p + 1 ≤ n ∧ i = .int .i64 ((p : Int) + 1) ∧ Dr w1 wr ∧ Hid (CrTo t m (p + 1) 1)) (fun i _ => n - (intOf i).toNat)
    case atStart => exact ⟨0, by omega, rfl, Dr.refl _, crTo_start t m⟩
    case round =>
      obtain ⟨p, hp, rfl, hdr, hcr⟩ := hrel
      have HD := Lib.hid hdr
      have HC := hcr
      clear hdr hcr
      by_cases hlt : p + 1 < n
      · have hlt' : (p : Int) + 1 < (n : Int) := by omega
        have p0 : (0 : Int) ≤ (p : Int) := by omega
        have p1 : (0 : Int) ≤ (p : Int) + 1 := by omega
        have t0 : (p : Int).toNat = p := by omega
        have t1 : ((p : Int) + 1).toNat = p + 1 := by omega
        go_wp2
        go_loopw [6] (fun i wr => ∃ q : Nat, q + 1 ≤ m ∧ i = .int .i64 ((q : Int) + 1) ∧ Dr w1 wr ∧ Hid (CrTo t m (p + 1) (q + 1))) (fun i _ => m - (intOf i).toNat)
        case atStart => exact ⟨0, by omega, rfl, HD.out, HC.out⟩
        case round =>
          clear HD
          obtain ⟨q, hq, rfl, hdr, hcr⟩ := hrel
          have HD := Lib.hid hdr
          have HQ := hcr
          have HW := Lib.hid (hdr.irr H.out)
          clear hdr hcr
          obtain ⟨b, off, b0, o0, c0, rfl, hc0, he0⟩ := HW.out.entry HT.out (i := p) (by rw [HN.out]; omega)
          obtain ⟨_, _, b1, o1, c1, e, hc1, he1⟩ := HW.out.entry HT.out (i := p + 1) (by rw [HN.out]; omega)
          injection e with e; injection e with e3 e4 _; subst e3; subst e4
          rw [HM.out] at hc0 hc1 he0 he1
          by_cases hqm : q + 1 < m
          · have x00 := he0 q (by omega)
            have x01 := he0 (q + 1) hqm
            have x10 := he1 q (by omega)
            have x11 := he1 (q + 1) hqm
            have g00 := HE.out p q (by rw [HN.out]; omega) (by rw [HM.out]; omega)
            have g01 := HE.out p (q + 1) (by rw [HN.out]; omega) (by rw [HM.out]; omega)
            have g10 := HE.out (p + 1) q (by rw [HN.out]; omega) (by rw [HM.out]; omega)
            have g11 := HE.out (p + 1) (q + 1) (by rw [HN.out]; omega) (by rw [HM.out]; omega)
            have HST : Hid (ent t p q + ent t (p + 1) (q + 1) ≤ ent t p (q + 1) + ent t (p + 1) q → CrTo t m (p + 1) (q + 2)) := fun e => crTo_step HQ.out e
            have HBD : Hid (ent t p (q + 1) + ent t (p + 1) q < ent t p q + ent t (p + 1) (q + 1) → pcM t = some (p, q)) := fun e => pc_bad HT.out HN.out HM.out hlt hqm HQ.out e
            obtain ⟨y00, hy00⟩ : ∃ y, ent t p q = y := ⟨_, rfl⟩
            obtain ⟨y01, hy01⟩ : ∃ y, ent t p (q + 1) = y := ⟨_, rfl⟩
            obtain ⟨y10, hy10⟩ : ∃ y, ent t (p + 1) q = y := ⟨_, rfl⟩
            obtain ⟨y11, hy11⟩ : ∃ y, ent t (p + 1) (q + 1) = y := ⟨_, rfl⟩
            rw [hy00] at x00 g00 HST HBD
            rw [hy01] at x01 g01 HST HBD
            rw [hy10] at x10 g10 HST HBD
            rw [hy11] at x11 g11 HST HBD
            have s1 : IntKind.i64.wrap (y00 + y11) = y00 + y11 := IntWalk.i64_in _ (by omega)
            have s2 : IntKind.i64.wrap (y01 + y10) = y01 + y10 := IntWalk.i64_in _ (by omega)
            have sp : IntKind.i64.wrap (p : Int) = (p : Int) := IntWalk.i64_in _ (by omega)
            have sq : IntKind.i64.wrap (q : Int) = (q : Int) := IntWalk.i64_in _ (by omega)
            have hqm' : (q : Int) + 1 < (m : Int) := by omega
            have q0 : (0 : Int) ≤ (q : Int) := by omega
            have q1 : (0 : Int) ≤ (q : Int) + 1 := by omega
            have u0 : (q : Int).toNat = q := by omega
            have u1 : ((q : Int) + 1).toNat = q + 1 := by omega
            have v0 : p < n := by omega
            have v1 : q < m := by omega
            have v0' : (p : Int) < (n : Int) := by omega
            have v1' : (q : Int) < (m : Int) := by omega
            clear he0 he1 hy00 hy01 hy10 hy11 g00 g01 g10 g11
            by_cases hbad : y01 + y10 < y00 + y11
            · have HF := Lib.hid (HBD.out hbad)
              clear HST HBD
              go_wp2
              go_quiet (fail)
              go_wp2
              go_ret3
              exact ⟨by rw [HF.out]; rfl, HD0.out.trans (HD.out.more _)⟩
            · have HG := Lib.hid (HST.out (by omega))
              clear HST HBD
              go_wp2
              go_quiet (fail)
              go_wp2
              go_roundw
              case rel => exact ⟨q + 1, by omega, by go_num, HD.out.more _, HG.out⟩
              case measure => simp [intOf]; omega
          · obtain rfl : m = q + 1 := by omega
            clear he0 he1
            have HG : Hid (CrTo t (q + 1) (p + 1 + 1) 1) := crTo_next HQ.out
            have hqm' : ¬ (q : Int) + 1 < (q : Int) + 1 := by omega
            go_wp2
            go_roundw
            case rel => exact ⟨p + 1, by omega, by go_num, HD.out, HG.out⟩
            case measure => simp [intOf]; omega
      · obtain rfl : n = p + 1 := by omega
        have HF : Hid (pcM t = none) := pc_all HT.out HN.out HM.out HC.out
        go_wp2
        go_ret3
        exact ⟨by rw [HF.out]; rfl, HD0.out.trans HD.out⟩
set_option maxRecDepth 100000 in
theorem specProofCrossed_b (A : Option Addr) (c : Nat) (t : List (List Int)) (w : World) (h : IRR w 0 w.heap.size A t) :
    Calls Try.prog 9 #[.slice A t.length c] w fun e w' => e = .returned (.tuple #[.int .i64 (pcI t), .int .i64 (pcK t), .bool (pcM t).isSome]) ∧ Below w.heap.size w w' :=
  (specProofCrossed_any A c _ _ t w h).mono fun _ _ ⟨e, d⟩ => ⟨by rw [e, pcV_is], d.below⟩
end Go.Proofs.Ytanoojpmokbiaaa
