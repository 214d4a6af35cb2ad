/-
  What the laws of chapter 5 draw: a table (l92Table). Conditions: the reader has been asked at most 800,000,000 times.
-/
import Derived.Test.YtanoojpmokbiaaaDT
namespace Go.Proofs.Ytanoojpmokbiaaa
open Go.RowKit

/-- The call draws a table of n rows; the reader is asked at most k times. -/
def TabPost (w : World) (R p k : Nat) (e : Ending) (w' : World) : Prop :=
  ∃ A n c zss p', e = .returned (.slice A n c) ∧ zss.length = n ∧ n ≤ c ∧ c ≤ 9223372036854775807 ∧ IRR w' w.heap.size w'.heap.size A zss ∧ But w.heap.size R w w' ∧ Rd w' R p' ∧ p' ≤ p + k

/-- From w to w' only the blocks R and S have been written, and some made. -/
structure ButT (R S : Nat) (w w' : World) : Prop where
  os : w'.os = w.os
  tape : w'.tape = w.tape
  output : w'.output = w.output
  size : w.heap.size ≤ w'.heap.size
  block : ∀ k, k < w.heap.size → k ≠ R → k ≠ S → w'.heap[k]? = w.heap[k]?
theorem ButT.refl (R S : Nat) (w : World) : ButT R S w w := ⟨rfl, rfl, rfl, Nat.le_refl _, fun _ _ _ _ => rfl⟩
theorem ButT.but {R S : Nat} {a b c : World} (h : ButT R S a b) (k : But b.heap.size R b c) : ButT R S a c :=
  ⟨k.os.trans h.os, k.tape.trans h.tape, k.output.trans h.output, Nat.le_trans h.size k.size, fun i hi h1 h2 => (k.block i (Nat.lt_of_lt_of_le hi h.size) h1).trans (h.block i hi h1 h2)⟩
theorem ButT.set_ {R S : Nat} {a b : World} (h : ButT R S a b) (o : Nat) (v : Value) : ButT R S a (b.setCell ⟨S, o, none⟩ v) :=
  ⟨h.os, h.tape, h.output, by simpa [World.setCell] using h.size, fun i hi h1 h2 => by rw [heap_setCell_other b ⟨S, o, none⟩ i v (fun e => h2 e)]; exact h.block i hi h1 h2⟩
theorem ButT.drewN {R S : Nat} {a b : World} (h : ButT R S a b) (n : Nat) : ButT R S a (b.drewN n) := ⟨h.os, h.tape, h.output, h.size, h.block⟩
theorem ButT.drew {R S : Nat} {a b : World} (h : ButT R S a b) : ButT R S a b.drew := ⟨h.os, h.tape, h.output, h.size, h.block⟩
theorem Rd.drew {w : World} {R p : Nat} (h : Rd w R p) : Rd w.drew R p := h
theorem ButT.toBut {R S C : Nat} {a b : World} (h : ButT R S a b) (hC : C ≤ a.heap.size) (hS : C ≤ S) : But C R a b := ⟨h.os, h.tape, h.output, h.size, fun k hk hR => h.block k (by omega) hR (by omega)⟩

/-- The drawn table as far as it goes: i rows. -/
def TI (w w1 w3 : World) (R P m : Nat) (i : Nat) (v : Value) (wr : World) : Prop :=
  ∃ p' zss F C, zss.length = i ∧ (∀ r, r ∈ zss → r.length = m) ∧ DT wr w.heap.size v zss F C ∧ But w.heap.size R w wr ∧ Rd wr R p' ∧ p' ≤ P + i * 60 ∧
    (∀ g, v.ownBlock = some g → g < w1.heap.size ∨ w3.heap.size ≤ g) ∧ (∀ k, w1.heap.size ≤ k → k < w3.heap.size → wr.heap[k]? = w3.heap[k]?) ∧ w3.heap.size ≤ wr.heap.size

set_option maxRecDepth 100000 in
set_option maxHeartbeats 4000000 in
theorem l92Table_any (R p n m : Nat) (w : World) (h : Rd w R p) (hp : p ≤ 800000000) (hn : 1 ≤ n ∧ n ≤ 12) (hm : 1 ≤ m ∧ m ≤ 12) :
    Calls Try.prog 41 #[.pointer (some ⟨R, 0, none⟩), .int .i64 (n : Int), .int .i64 (m : Int)] w (TabPost w R p 1000) := by
  have H := Lib.hid h
  have hR := h.lt
  have D0 := Lib.hid (DT.made w)
  clear h
  go_enter Try.func41, Try.ntmps41
  go_wp2_with fail
  refine (pick_any R p _ _ (H.out.below ((Below.refl w.heap.size w).alloc (Nat.le_refl _) _) hR) (by omega) (by omega)).mono ?_
  rintro e w1 ⟨K, rfl, k0, k1, -, hb, hs, hr⟩
  have k2 := k1 (by omega)
  have hs1 : w.heap.size < w1.heap.size := by rw [hs]; simp
  replace D0 := Lib.hid (D0.out.keepZ hb.size (fun k => k = R) (fun k hk hne => hb.block k hk hne) (fun g hg => by simp [Value.ownBlock] at hg; omega) (fun k a hk => absurd hk (by simp)))
  have B1 := Lib.hid ((But.of (R := R) ((Below.refl w.heap.size w).alloc (Nat.le_refl _) (.cells #[] 31))).trans (hb.mono (by simp)))
  have R1 := Lib.hid hr
  clear hb hs hr k1
  obtain ⟨q, hq⟩ : ∃ q : Nat, n + m - 1 = q := ⟨_, rfl⟩
  have s1 : IntKind.i64.wrap ((n : Int) + (m : Int)) = (n : Int) + (m : Int) := IntWalk.i64_in _ (by omega)
  have s2 : IntKind.i64.wrap ((n : Int) + (m : Int) - 1) = (q : Int) := by rw [IntWalk.i64_in _ (by omega)]; omega
  go_wp2_with fail
  refine (l91Bent_any R (p + 1) q _ R1.out (by omega) (by omega)).mono ?_
  rintro e w2 ⟨Af, cf, zf, p2, rfl, hzf, hif, hb, hr, hp2, hcapf⟩
  have hq1 : q - 1 + 1 = q := by omega
  rw [hq1] at hzf ⊢
  clear hq1
  replace D0 := Lib.hid (D0.out.keepZ hb.size (fun k => k = R) (fun k hk hne => hb.block k hk hne) (fun g hg => by simp [Value.ownBlock] at hg; omega) (fun k a hk => absurd hk (by simp)))
  replace B1 := Lib.hid (B1.out.trans (hb.mono (Nat.le_of_lt hs1)))
  replace R1 := Lib.hid hr
  have IF := Lib.hid hif
  have hs2 := hb.size
  clear hb hr hif hcapf
  go_wp2_with fail
  refine (l91Row_any R p2 m _ R1.out (by omega) (by omega)).mono ?_
  rintro e w3 ⟨Ag, cg, zg, p3, rfl, hzg, hig, hb, hr, hp3, hcapg⟩
  replace D0 := Lib.hid (D0.out.keepZ hb.size (fun k => k = R) (fun k hk hne => hb.block k hk hne) (fun g hg => by simp [Value.ownBlock] at hg; omega) (fun k a hk => absurd hk (by simp)))
  replace B1 := Lib.hid (B1.out.trans (hb.mono (Nat.le_trans (Nat.le_of_lt hs1) hs2)))
  replace R1 := Lib.hid hr
  replace IF := Lib.hid ((IF.out.but hb (Nat.le_refl _) (.inl (by omega))).wide (lo' := w1.heap.size) (hi' := w3.heap.size) (Nat.le_refl _) hb.size (Nat.le_refl _))
  have IG := Lib.hid (hig.wide (lo' := w1.heap.size) (hi' := w3.heap.size) hs2 (Nat.le_refl _) (Nat.le_refl _))
  have hs3 := hb.size
  clear hb hr hig hcapg
  have HFL : Hid (zf.length = q) := by show _ = _; omega
  have HGL := Lib.hid hzg
  have HI0 : Hid (TI w w1 w3 R p3 m 0 (.slice (some ⟨w.heap.size, 0, none⟩) 0 0) w3) :=
    ⟨p3, [], _, _, rfl, fun r h => absurd h (by simp), D0.out, B1.out, R1.out, by omega, fun g hg => by simp only [Value.ownBlock] at hg; injection hg with hg; omega, fun _ _ _ => rfl, Nat.le_refl _⟩
  have hp3' : p3 ≤ p + 60 := by omega
  have IF' := Lib.hid IF.out.toIR; have IG' := Lib.hid IG.out.toIR
  clear D0 B1 R1 IF IG hzf hzg hp2 hp3 s1 s2 H
  go_wp2
  go_loopw [7, 11] (fun v x wr => ∃ i : Nat, i ≤ n ∧ x = .int .i64 (i : Int) ∧ TI w w1 w3 R p3 m i v wr) (fun _ x _ => n - (intOf x).toNat)
  case atStart => exact ⟨0, Nat.zero_le _, rfl, HI0.out⟩
  case round =>
    obtain ⟨W, hW⟩ : ∃ W, W = wr := ⟨_, rfl⟩
    subst hW
    obtain ⟨v, hv0⟩ : ∃ v, v = u7 := ⟨_, rfl⟩
    subst hv0
    clear HI0
    obtain ⟨i, hi, rfl, p', zss, F, C, hzl, hrl, hD, hB, hr, hp', hv, hkf, hsz⟩ := hrel
    have HD := Lib.hid hD; have HB := Lib.hid hB; have HR := Lib.hid hr; have HV := Lib.hid hv; have HKF := Lib.hid hkf; have HRL := Lib.hid hrl; have HZL := Lib.hid hzl
    clear hD hB hr hv hkf hrl hzl
    by_cases hin : i < n
    · have hin' : (i : Int) < (n : Int) := by omega
      have i0 : (0 : Int) ≤ (i : Int) := by omega
      go_wp2_with fail
      refine (l91Row_own R p' m _ HR.out (by omega) (by omega)).mono ?_
      rintro e w4 ⟨Ar, cr, zr, p4, rfl, hzr, hor, hb, hr, hp4⟩
      obtain ⟨G, rfl, hG1, hG2⟩ := hor.some_ (by omega)
      have HD4 := Lib.hid (HD.out.keepZ hb.size (fun k => k = R) (fun k hk hne => hb.block k hk hne) (fun g hg e => by have := (ownsRow_lt HD.out.own hg).1; omega) (fun k a hk ha e => by
        have h1 := (HD.out.row k hk).1; rw [ha] at h1; have := (own_at h1).1; omega))
      have HB4 := Lib.hid (HB.out.trans (hb.mono (by omega)))
      have HR4 := Lib.hid hr
      have HOR := Lib.hid (hor.mono (base' := w.heap.size) (by omega))
      have HKF4 : Hid (∀ k, w1.heap.size ≤ k → k < w3.heap.size → w4.heap[k]? = w3.heap[k]?) := fun k h1 h2 => (hb.block k (by omega) (by omega)).trans (HKF.out k h1 h2)
      have hs4 := hb.size
      clear hb hr hor HR
      go_wp2_with fail
      refine (pick_any R p4 _ _ HR4.out (by omega) (by omega)).mono ?_
      rintro e w5 ⟨D, rfl, d0, d1, -, hb, hs, hr⟩
      have d2 := d1 (by omega)
      replace HD4 := Lib.hid (HD4.out.keepZ hb.size (fun k => k = R) (fun k hk hne => hb.block k hk hne) (fun g hg e => by have := (ownsRow_lt HD4.out.own hg).1; omega) (fun k a hk ha e => by
        have h1 := (HD4.out.row k hk).1; rw [ha] at h1; have := (own_at h1).1; omega))
      replace HB4 := Lib.hid (HB4.out.trans (hb.mono (by omega)))
      replace HR4 := Lib.hid hr
      replace HOR := Lib.hid (HOR.out.keepB hb.size fun a ha => hb.block _ (by injection ha with ha; subst ha; exact hG2) (by injection ha with ha; subst ha; show G ≠ R; omega))
      replace HKF4 : Hid (∀ k, w1.heap.size ≤ k → k < w3.heap.size → w5.heap[k]? = w3.heap[k]?) := fun k h1 h2 => (hb.block k (by omega) (by omega)).trans (HKF4.out k h1 h2)
      have hs5 := hb.size
      have HZR := Lib.hid hzr
      clear hb hr hs d1 hzr
      go_wp2
      go_loopw [14] (fun x X => ∃ (k p2 : Nat) (ys : List Int), k ≤ m ∧ x = .int .i64 (k : Int) ∧ ys.length = m ∧ OwnI X w.heap.size (.slice (some ⟨G, 0, none⟩) m cr) ys ∧ ButT R G w5 X ∧ Rd X R p2 ∧ p2 ≤ p4 + 1 + k) (fun x _ => m - (intOf x).toNat)
      case atStart => exact ⟨0, p4 + 1, zr, Nat.zero_le _, rfl, HZR.out, HOR.out, ButT.refl _ _ _, HR4.out, by omega⟩
      case round =>
        obtain ⟨X, hX⟩ : ∃ X, X = wr := ⟨_, rfl⟩
        subst hX
        clear HR4
        obtain ⟨k, p5, ys, hk, rfl, hyl, hoy, hbt, hr, hp5⟩ := hrel
        have HOY := Lib.hid hoy; have HBT := Lib.hid hbt; have HR := Lib.hid hr; have HYL := Lib.hid hyl
        clear hoy hbt hr hyl
        have hsX := HBT.out.size
        by_cases hkm : k < m
        · have hkm' : (k : Int) < (m : Int) := by omega
          have k0' : (0 : Int) ≤ (k : Int) := by omega
          have hky : k < ys.length := by rw [HYL.out]; exact hkm
          obtain ⟨hcY, hfY⟩ := HOY.out.cells hky
          obtain ⟨yo, hyo⟩ : ∃ yo, ys[k]'hky = yo := ⟨_, rfl⟩
          rw [hyo] at hcY
          clear hyo
          by_cases hK0 : K = 0
          · subst hK0
            have HKX : Hid (∀ j, w1.heap.size ≤ j → j < w3.heap.size → X.heap[j]? = w3.heap[j]?) := fun j h1 h2 => (HBT.out.block j (by omega) (by omega) (by omega)).trans (HKF4.out j h1 h2)
            have HFX := Lib.hid (IF'.out.keep (w' := X) (by omega) fun a h1 h2 => World.cell?_of_block (HKX.out _ h1 h2))
            have HGX := Lib.hid (IG'.out.keep (w' := X) (by omega) fun a h1 h2 => World.cell?_of_block (HKX.out _ h1 h2))
            obtain ⟨j, hj⟩ : ∃ j : Nat, n - 1 - i + k = j := ⟨_, rfl⟩
            have hjf : j < zf.length := by rw [HFL.out]; omega
            have hkg : k < zg.length := by rw [HGL.out]; exact hkm
            obtain ⟨bf, of_, rfl, hbf1, hbf2, hcf⟩ := HFX.out.at_ hjf
            obtain ⟨bg, og, rfl, hbg1, hbg2, hcg⟩ := HGX.out.at_ hkg
            have s1 : IntKind.i64.wrap ((n : Int) - 1) = (n : Int) - 1 := IntWalk.i64_in _ (by omega)
            have s2 : IntKind.i64.wrap ((n : Int) - 1 - (i : Int)) = (n : Int) - 1 - (i : Int) := IntWalk.i64_in _ (by omega)
            have s3 : IntKind.i64.wrap ((n : Int) - 1 - (i : Int) + (k : Int)) = (j : Int) := by rw [IntWalk.i64_in _ (by omega)]; omega
            obtain ⟨fv, hfv⟩ : ∃ fv, zf[j]'hjf = fv := ⟨_, rfl⟩
            obtain ⟨gv, hgv⟩ : ∃ gv, zg[k]'hkg = gv := ⟨_, rfl⟩
            rw [hfv] at hcf
            rw [hgv] at hcg
            have j0 : (0 : Int) ≤ (j : Int) := by omega
            have hjq : j < q := by omega
            have hjq' : (j : Int) < (q : Int) := by omega
            have HNE1 : Hid (bf ≠ G) := by show _ ≠ _; omega
            have HNE2 : Hid (bg ≠ G) := by show _ ≠ _; omega
            have HYS : Hid (∀ yv, I64 yv → OwnI (X.setCell ⟨G, k, none⟩ (.int .i64 yv)) w.heap.size (.slice (some ⟨G, 0, none⟩) m cr) (ys.set k yv)) := fun yv h => HOY.out.set_ k h
            have HBS : Hid (∀ yv, ButT R G w5 (X.setCell ⟨G, k, none⟩ yv)) := fun yv => HBT.out.set_ k yv
            have HRS : Hid (∀ yv, Rd (X.setCell ⟨G, k, none⟩ yv) R p5) := fun yv => HR.out.below ((Below.refl w.heap.size X).setCell (p := ⟨G, k, none⟩) (by show w.heap.size ≤ G; omega) yv) hR
            have HL2 : Hid (∀ yv, (ys.set k yv).length = m) := fun yv => by rw [List.length_set]; exact HYL.out
            clear hj hfv hgv hjf hkg hky
            go_wp2
            go_region
            go_wp2
            go_roundw
            case rel => exact ⟨k + 1, p5, ys.set k _, by omega, by go_num, HL2.out _, (HYS.out _ (wrap64_i64 _)).drew, (HBS.out _).drew, (HRS.out _).drew, by omega⟩
            case measure => simp [intOf]; omega
          · by_cases hK1 : K = 1
            · subst hK1
              go_wp2_with fail
              refine (pick_any R p5 _ _ HR.out (by omega) (by omega)).mono ?_
              rintro e X2 ⟨pv, rfl, pv0, pv1, -, hb, hs, hr⟩
              have pv2 := pv1 (by omega)
              have HOY2 := Lib.hid (HOY.out.keepB hb.size fun a ha => hb.block _ (by injection ha with ha; subst ha; show G < _; omega) (by injection ha with ha; subst ha; show G ≠ R; omega))
              have HBT2 := Lib.hid (HBT.out.but hb)
              have HR2 := Lib.hid hr
              obtain ⟨hcY2, hfY2⟩ := HOY2.out.cells hky
              obtain ⟨yo, hyo⟩ : ∃ yo, ys[k]'hky = yo := ⟨_, rfl⟩
              rw [hyo] at hcY2
              have HYS : Hid (∀ yv, I64 yv → OwnI (X2.setCell ⟨G, k, none⟩ (.int .i64 yv)) w.heap.size (.slice (some ⟨G, 0, none⟩) m cr) (ys.set k yv)) := fun yv h => HOY2.out.set_ k h
              have HBS : Hid (∀ yv, ButT R G w5 (X2.setCell ⟨G, k, none⟩ yv)) := fun yv => HBT2.out.set_ k yv
              have HRS : Hid (∀ yv, Rd (X2.setCell ⟨G, k, none⟩ yv) R (p5 + 1)) := fun yv => HR2.out.below ((Below.refl w.heap.size X2).setCell (p := ⟨G, k, none⟩) (by show w.heap.size ≤ G; omega) yv) hR
              have HL2 : Hid (∀ yv, (ys.set k yv).length = m) := fun yv => by rw [List.length_set]; exact HYL.out
              clear hyo hb hs hr pv1 hcY hfY
              go_wp2
              go_roundw
              case rel => exact ⟨k + 1, p5 + 1, ys.set k _, by omega, by go_num, HL2.out _, HYS.out _ (wrap64_i64 _), HBS.out _, HRS.out _, by omega⟩
              case measure => simp [intOf]; omega
            · clear hcY hfY
              go_wp2
              go_roundw
              case rel => exact ⟨k + 1, p5, ys, by omega, by go_num, HYL.out, HOY.out, HBT.out, HR.out, by omega⟩
              case measure => simp [intOf]; omega
        · obtain rfl : k = m := by omega
          have hkm' : ¬ (k : Int) < (k : Int) := by omega
          have HDX := Lib.hid (HD4.out.keepZ hsX (fun j => j = R ∨ j = G) (fun j hj hne => HBT.out.block j hj (fun e => hne (.inl e)) (fun e => hne (.inr e))) (fun g hg e => by
              have h1 := (ownsRow_lt HD.out.own hg); rcases e with e | e <;> omega) (fun j a hj ha e => by
              have h1 := (HD.out.row j hj).1; rw [ha] at h1; have := (own_at h1); rcases e with e | e <;> omega))
          have HNE : Hid (∀ a, some (⟨G, 0, none⟩ : Addr) = some a → v.ownBlock ≠ some a.block ∧ ∀ j b, j < zss.length → F j = some b → b.block ≠ a.block) := fun a ha => by
            injection ha with ha
            subst ha
            refine ⟨fun e => ?_, fun j b hj hb e => ?_⟩
            · have := (ownsRow_lt HD.out.own e).2
              have e2 : (⟨G, 0, none⟩ : Addr).block = G := rfl
              omega
            · have h1 := (HD.out.row j hj).1; rw [hb] at h1; have := (own_at h1).2
              have e2 : (⟨G, 0, none⟩ : Addr).block = G := rfl
              omega
          have hz1 := HZL.out
          go_wp2_with (at_builtin; refine wpList_pushD rfl _ _ rfl w.heap.size v zss F C rfl rfl HDX.out ys HYL.out.symm HOY.out HNE.out (by omega) ?_; intro v1 w6 hd1 hg1 ho1; have HD1 := Lib.hid hd1; have HG1 := Lib.hid hg1; have HO1 := Lib.hid ho1; clear hd1 hg1 ho1)
          go_roundw
          case rel =>
            have hbel : Below w.heap.size X w6 := grown_below HG1.out (fun g hg => (ownsRow_lt HDX.out.own hg).1) (by omega)
            refine ⟨i + 1, by omega, by go_num, p5, zss ++ [ys], _, _, by rw [List.length_append, HZL.out]; rfl, fun r hr => ?_, HD1.out, (HB4.out.trans (HBT.out.toBut (by omega) (by omega))).trans (But.of hbel), HR.out.below hbel hR, by omega, fun g hg => ?_, fun j h1 h2 => ?_, ?_⟩
            · rcases List.mem_append.1 hr with hr | hr
              · exact HRL.out r hr
              · obtain rfl := List.mem_singleton.1 hr; exact HYL.out
            · rcases HO1.out with h | h
              · rw [h] at hg; exact HV.out g hg
              · have := h g hg; omega
            · refine (HG1.out.block j (by omega) fun e => ?_).trans ((HBT.out.block j (by omega) (by omega) (by omega)).trans (HKF4.out j h1 h2))
              have := HV.out j e.symm; omega
            · have := HG1.out.size; omega
          case measure => simp [intOf]; omega
    · obtain rfl : i = n := by omega
      have hin' : ¬ (i : Int) < (i : Int) := by omega
      go_wp2_with fail
      refine (pick_any R p' _ _ HR.out (by omega) (by omega)).mono ?_
      rintro e w4 ⟨v0, rfl, v00, v01, -, hb, hs, hr⟩
      replace HD := Lib.hid (HD.out.keepZ hb.size (fun k => k = R) (fun k hk hne => hb.block k hk hne) (fun g hg e => by have := (ownsRow_lt HD.out.own hg).1; omega) (fun k a hk ha e => by
        have h1 := (HD.out.row k hk).1; rw [ha] at h1; have := (own_at h1).1; omega))
      replace HB := Lib.hid (HB.out.trans (hb.mono (by omega)))
      replace HR := Lib.hid hr
      have hs4 := hb.size
      have hz0 : 0 < zss.length := by rw [HZL.out]; omega
      obtain ⟨A, c, rfl, hirr, hc1, hc2⟩ := HD.out.irr (by rw [HZL.out]; omega) (fun r hr => by rw [HRL.out r hr]; omega)
      have HIR := Lib.hid hirr; have HC1 := Lib.hid hc1; have HC2 := Lib.hid hc2
      clear hb hs hr hirr hc1 hc2 v01 HKF HV
      by_cases c0 : v0 = 0
      · subst c0
        obtain ⟨g, rfl, hcell⟩ := HD.out.top hz0
        obtain ⟨z0, hz0'⟩ : ∃ z, zss[0]'hz0 = z := ⟨_, rfl⟩
        have hl0 : z0.length = m := by rw [← hz0']; exact HRL.out _ (List.getElem_mem _)
        have hrow0 := (HD.out.row 0 hz0).1
        rw [hz0'] at hcell hrow0
        rw [hl0] at hcell hrow0
        have HROW := Lib.hid hrow0
        have HL0 := Lib.hid hl0
        have HI0 : Hid (I64 0) := ⟨by omega, by omega⟩
        have HF : Hid (∀ v1 w6, OwnI w6 w.heap.size v1 (z0 ++ [0]) → w4.grownBy w6 (Value.slice (F 0) m (C 0)).ownBlock → (v1.ownBlock = (Value.slice (F 0) m (C 0)).ownBlock ∨ ∀ g, v1.ownBlock = some g → w4.heap.size ≤ g) →
            ∃ A' m' c', v1 = .slice A' m' c' ∧ w6.cell? ⟨g, 0, none⟩ = some (.slice (F 0) m (C 0)) ∧ w6.frozen? ⟨g, 0, none⟩ = false ∧ IRR (w6.setCell ⟨g, 0, none⟩ v1) w.heap.size w6.heap.size (some ⟨g, 0, none⟩) (zss.set 0 (z0 ++ [0])) ∧ Below w.heap.size w4 (w6.setCell ⟨g, 0, none⟩ v1)) := fun v1 w6 ho hg he => by
          obtain ⟨A', c', rfl, -⟩ := ho.shape
          have hg' : w4.grownBy w6 (Value.slice (F 0) (zss[0]'hz0).length (C 0)).ownBlock := by rw [hz0', HL0.out]; exact hg
          obtain ⟨g2, e1, e2, e3, e4, e5, e6⟩ := HD.out.first hz0 (by rw [HZL.out]; omega) (fun r hr => by rw [HRL.out r hr]; omega) ho (by rw [List.length_append, HL0.out]; simp; omega) hg' (fun a ha => by
            rcases he with he | he
            · cases hF : F 0 with
              | none => rw [ha, hF] at he; simp [Value.ownBlock] at he
              | some b => rw [ha, hF] at he; simp only [Value.ownBlock] at he; injection he with he; exact .inl ⟨b, rfl, he.symm⟩
            · exact .inr (he a.block (by rw [ha]; rfl)))
          injection e1 with e1
          injection e1 with e1 _ _
          subst e1
          rw [hz0', HL0.out] at e4
          refine ⟨A', _, c', rfl, e4, e5, e6, (grown_below hg (fun b hb => ?_) (by have := HD.out.low; omega)).setCell (p := ⟨g, 0, none⟩) e3 _⟩
          cases hF : F 0 with
          | none => rw [hF] at hb; simp [Value.ownBlock] at hb
          | some a =>
            have h1 := HROW.out
            rw [hF] at h1 hb
            simp only [Value.ownBlock] at hb
            injection hb with hb
            rw [← hb]
            exact (own_at h1).1
        have hi0 : (0 : Int) < (i : Int) := by omega
        have hi0' : 0 < i := by omega
        have hz1 := HZL.out
        rw [hz1]
        clear hz0' hrow0 hl0 hz0
        go_wp2_with (at_builtin; refine wpList_pushG rfl _ _ rfl w.heap.size _ z0 rfl rfl HROW.out (by have := HL0.out; omega) HI0.out ?_; intro v1 w6 ho1 hg1 he1; obtain ⟨A1, m1, c1, rfl, hcell6, hfr6, hirr6, hbel6⟩ := HF.out v1 w6 ho1 hg1 he1; have HI6 := Lib.hid hirr6; have HB6 := Lib.hid hbel6; clear ho1 hg1 he1 hirr6 hbel6)
        go_ret
        exact ⟨_, i, c, zss.set 0 (z0 ++ [0]), p' + 1, rfl, by rw [List.length_set]; exact HZL.out, by have := HC1.out; omega, HC2.out, HI6.out.wide (Nat.le_refl _) (by simp [World.setCell]) (Nat.le_refl _), HB.out.trans (But.of HB6.out), HR.out.below HB6.out hR, by omega⟩
      · go_wp2
        go_ret
        exact ⟨A, i, c, zss, p' + 1, by rw [HZL.out]; rfl, HZL.out, by have := HC1.out; have := HZL.out; omega, HC2.out, HIR.out, HB.out, HR.out, by omega⟩

/-- A drawn table; two of them. -/
def OneTPost (w : World) (e : Ending) (w' : World) : Prop := ∃ A c t, e = .returned (.slice A t.length c) ∧ IRR w' 0 w'.heap.size A t ∧ Below w.heap.size w w'
def TwoTPost (w : World) (e : Ending) (w' : World) : Prop := ∃ A c t A' c' u, e = .returned (.tuple #[.slice A t.length c, .slice A' u.length c']) ∧ IRR w' 0 w'.heap.size A t ∧ IRR w' 0 w'.heap.size A' u ∧ Below w.heap.size w w'


set_option maxRecDepth 100000 in
set_option maxHeartbeats 2000000 in
theorem l92One_any (A : Option Addr) (c : Nat) (bs : List Int) (w : World) (h : BR w w.heap.size A bs) (hc : bs.length ≤ c) (hc2 : c ≤ 9000000000000000000) :
    Calls Try.prog 30 #[.slice A bs.length c] w (OneTPost w) := by
  have H := Lib.hid h
  clear h
  go_enter Try.func30, Try.ntmps30
  go_wp2_with fail
  refine (l6Open_any A c bs _ H.out hc hc2).mono ?_
  rintro e w1 ⟨rfl, hr, hb⟩
  have B0 := Lib.hid hb; have R0 := Lib.hid hr
  have hs1 : w.heap.size < w1.heap.size := R0.out.lt
  have hs2 := B0.out.size
  clear hb hr
  go_wp2_with fail
  refine (pick_any w.heap.size _ 6 _ R0.out (by omega) (by omega)).mono ?_
  rintro e w2 ⟨v0, rfl, v00, v01, -, hb, hs, hr⟩
  have v02 := v01 (by omega)
  replace B0 := Lib.hid (B0.out.trans (hb.toBelow hs2 (Nat.le_refl _)))
  replace R0 := Lib.hid hr
  have hs2 := B0.out.size
  clear hb hs hr v01
  obtain ⟨n0, hn0⟩ : ∃ n : Nat, 1 + v0 = (n : Int) := ⟨(1 + v0).toNat, by omega⟩
  have t0 : IntKind.i64.wrap (1 + v0) = (n0 : Int) := by rw [← hn0]; exact IntWalk.i64_in _ (by omega)
  go_wp2_with fail
  refine (pick_any w.heap.size _ 6 _ R0.out (by omega) (by omega)).mono ?_
  rintro e w3 ⟨v1, rfl, v10, v11, -, hb, hs, hr⟩
  have v12 := v11 (by omega)
  replace B0 := Lib.hid (B0.out.trans (hb.toBelow hs2 (Nat.le_refl _)))
  replace R0 := Lib.hid hr
  have hs2 := B0.out.size
  clear hb hs hr v11
  obtain ⟨n1, hn1⟩ : ∃ n : Nat, 1 + v1 = (n : Int) := ⟨(1 + v1).toNat, by omega⟩
  have t1 : IntKind.i64.wrap (1 + v1) = (n1 : Int) := by rw [← hn1]; exact IntWalk.i64_in _ (by omega)
  go_wp2_with fail
  refine (l92Table_any w.heap.size _ n0 n1 _ R0.out (by omega) (by omega) (by omega)).mono ?_
  rintro e w4 ⟨A4, m4, c4, t, p4, rfl, rfl, hcc, hcc2, hi, hb, hr, -⟩
  replace B0 := Lib.hid (B0.out.trans (hb.toBelow hs2 (Nat.le_refl _)))
  have I0 := Lib.hid hi
  clear hb hr hi
  go_wp2
  go_ret
  exact ⟨A4, c4, t, rfl, I0.out.toAll, B0.out⟩

set_option maxHeartbeats 1000000 in
theorem DrawTableLeast_any (A : Option Addr) (c : Nat) (bs : List Int) (w : World) (h : BR w w.heap.size A bs) (hc : bs.length ≤ c) (hc2 : c ≤ 9000000000000000000) :
    Calls Try.prog 15 #[.slice A bs.length c] w (OneTPost w) := by
  have H := Lib.hid h
  clear h
  go_enter Try.func15, Try.ntmps15
  go_wp2_with fail
  refine (l92One_any A c bs _ H.out hc hc2).mono ?_
  rintro e w1 ⟨A1, c1, t, rfl, hi, hb⟩
  have I0 := Lib.hid hi; have B0 := Lib.hid hb
  clear hi hb
  go_wp2
  go_ret
  exact ⟨A1, c1, t, rfl, I0.out, B0.out⟩

end Go.Proofs.Ytanoojpmokbiaaa
