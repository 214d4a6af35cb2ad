/-
  ShareGreedy of the model. Conditions: the rows' cells are there.
-/
import Derived.Test.YtanoojpmokbiaabSsA
import Derived.Test.YtanoojpmokbiaabGrM
import Derived.Test.YtanoojpmokbiaabBent
import Derived.Test.YtanoojpmokbiaabTbL
namespace Go.Proofs.Ytanoojpmokbiaab
open Go.RowKit

theorem greedy_not {rs : List (List Int)} {n : Int} (h : (shareOk rs n && bentsB rs) = false) : greedyM rs n = none := by
  unfold greedyM; rw [h]; rfl
theorem greedy_yes {rs : List (List Int)} {n : Int} (h1 : shareOk rs n = true) (h2 : bentsB rs = true) : greedyM rs n = some (greedyTo rs n.toNat) := by
  unfold greedyM; rw [h1, h2]; rfl
theorem bents_no {rs : List (List Int)} {i : Nat} (hi : i < rs.length) (h : bentB rs[i] = false) : bentsB rs = false := by
  unfold bentsB
  exact List.all_eq_false.2 ⟨rs[i], List.getElem_mem hi, by rw [h]; simp⟩
theorem bents_all {rs : List (List Int)} (h : ∀ (i : Nat) (hi : i < rs.length), bentB rs[i] = true) : bentsB rs = true := by
  unfold bentsB
  rw [List.all_eq_true]
  intro r hr
  obtain ⟨i, hi, rfl⟩ := List.getElem_of_mem hr
  exact h i hi
theorem bents_true {rs : List (List Int)} (h : bentsB rs = true) : ∀ r, r ∈ rs → bentB r = true := by
  unfold bentsB at h; rwa [List.all_eq_true] at h
/-- What a greedy sharing of k looks like. -/
theorem greedy_facts {rs : List (List Int)} (hg : givenB rs = true) (hb : bentsB rs = true) {k : Nat} (hk : (k : Int) ≤ mostL rs) : Pl rs (greedyTo rs k) ∧ (greedyTo rs k).length = rs.length ∧ totL (greedyTo rs k) = (k : Int) := by
  obtain ⟨g1, -, -⟩ := given_true.1 hg
  obtain ⟨h1, h2, -⟩ := greedy_is (fun r hr => row_pos (g1 r hr)) (bents_true hb) k hk
  exact ⟨h1, h1.len, h2⟩
theorem pl_at {rs : List (List Int)} {l : List Int} (h : Pl rs l) {j : Nat} (hj : j < rs.length) : l.getD j 0 = (plAt l j : Int) ∧ plAt l j < (rowAt rs j).length := by
  have := (pl_iff.1 h).2 j hj
  have e : plAt l j = (l.getD j 0).toNat := rfl
  omega
/-- What lies in memory for row j when l has been given. -/
theorem greedy_cells {W : World} {A : Option Addr} {lo hi P : Nat} {rs : List (List Int)} {l : List Int} (h : IRR W lo hi A rs) (hc : Cells W P 0 l) (hg : givenB rs = true) (hp : Pl rs l) {j : Nat} (hj : j < rs.length) :
    ∃ b off bk ok ck m, A = some ⟨b, off, none⟩ ∧ W.cell? ⟨b, off + j, none⟩ = some (.slice (some ⟨bk, ok, none⟩) m ck) ∧ W.cell? ⟨P, j, none⟩ = some (.int .i64 (plAt l j : Int)) ∧ (plAt l j < m ∧ m ≤ 12 ∧ (rowAt rs j).length = m) ∧
      (∀ i, i < m → W.cell? ⟨bk, ok + i, none⟩ = some (.int .i64 ((rowAt rs j).getD i 0))) ∧ (∀ i, -1000 ≤ (rowAt rs j).getD i 0 ∧ (rowAt rs j).getD i 0 ≤ 1000) := by
  obtain ⟨b, off, Ak, ck, rfl, _, hcc, _, hrow⟩ := h.at_ hj
  obtain ⟨e1, e2⟩ := pl_at hp hj
  have hjl : j < l.length := by rw [hp.len]; exact hj
  have hrb := (given_true.1 hg).1 rs[j] (List.getElem_mem hj)
  have hl := rowB_true.1 hrb
  rw [rowAt_get hj] at e2 ⊢
  obtain ⟨bk, ok, rfl, _, _, hcs⟩ := hrow.2.2.2 (by omega)
  have hc1 := (hc j hjl).1
  rw [← getD_at hjl, e1, Nat.zero_add] at hc1
  refine ⟨b, off, bk, ok, ck, rs[j].length, rfl, hcc, hc1, ⟨e2, hl.2.2, rfl⟩, fun i hi => ?_, fun i => ?_⟩
  · rw [getD_at hi]; exact hcs i hi
  · by_cases c : i < rs[j].length
    · exact row_getD hrb _ c
    · rw [List.getD_eq_getElem?_getD, List.getElem?_eq_none (by omega)]; simp

set_option maxRecDepth 100000 in
set_option maxHeartbeats 4000000 in
theorem specShareGreedy_any (A : Option Addr) (c l0 h0 : Nat) (rs : List (List Int)) (n : Int) (w : World) (h : IRR w l0 h0 A rs) :
    Calls Try.prog 6 #[.slice A rs.length c, .int .i64 n] w (RetSB w (greedyM rs n)) := by
  have H := Lib.hid h
  clear h
  go_enter Try.func6, Try.ntmps6
  cases hg : givenB rs with
  | false =>
    have HM := Lib.hid (greedy_not (rs := rs) (n := n) (by unfold shareOk; rw [hg]; rfl))
    have HG := Lib.hid hg
    clear hg
    go_wp2_with fail
    refine (l6sGiven_any _ _ _ _ rs _ H.out).mono ?_
    rintro e w1 ⟨rfl, rfl⟩
    rw [HG.out]
    go_wp2
    go_ret2
    rw [HM.out]
    exact retSB_none ((Below.refl _ _).alloc (Nat.le_refl _) _)
  | true =>
    have HG := Lib.hid hg
    have hml := most_le hg
    have h4 := (given_true.1 hg).2
    clear hg
    go_wp2_with fail
    refine (l6sGiven_any _ _ _ _ rs _ H.out).mono ?_
    rintro e w1 ⟨rfl, rfl⟩
    rw [HG.out]
    go_wp2_with fail
    refine (share_asks _ _ _ _ rs _ H.out HG.out).mono ?_
    rintro e w1 ⟨rfl, rfl⟩
    obtain ⟨q, hq⟩ : ∃ q, inB 0 (mostL rs) n = q := ⟨_, rfl⟩
    have HJ := Lib.hid (fun W => l6In_of hq W)
    have HOK : Hid (shareOk rs n = q) := by show _ = _; unfold shareOk; rw [HG.out, hq]; rfl
    cases q with
    | false =>
      have HM := Lib.hid (greedy_not (rs := rs) (n := n) (by rw [HOK.out]; rfl))
      clear hq
      go_wp2_with fail
      refine (HJ.out _).mono ?_
      rintro e w1 ⟨rfl, rfl⟩
      go_wp2
      go_ret2
      rw [HM.out]
      exact retSB_none ((Below.refl _ _).alloc (Nat.le_refl _) _)
    | true =>
      have hn := inB_true.1 hq
      obtain ⟨n', rfl⟩ : ∃ k : Nat, n = (k : Int) := ⟨n.toNat, by omega⟩
      obtain ⟨N, hN⟩ : ∃ N, rs.length = N := ⟨_, rfl⟩
      have HN := Lib.hid hN
      rw [hN] at h4
      rw [hN]
      have HML := Lib.hid hml; have HNM := Lib.hid hn.2
      have hn48 : n' ≤ 48 := by omega
      clear hq hn hN hml
      go_wp2_with fail
      refine (HJ.out _).mono ?_
      rintro e w2 ⟨rfl, rfl⟩
      go_wp2
      go_loopw [6] (fun v wr => ∃ i : Nat, i ≤ N ∧ v = .int .i64 (i : Int) ∧ Below w2.heap.size w2 wr ∧ Hid (∀ (j : Nat) (hj : j < rs.length), j < i → bentB rs[j] = true)) (fun v _ => N - (intOf v).toNat)
      case atStart => exact ⟨0, Nat.zero_le _, rfl, Below.refl _ _, fun j _ hj => absurd hj (by omega)⟩
      case round =>
        obtain ⟨i, hi, rfl, hb, hok⟩ := hrel
        have HB := Lib.hid hb
        have HOKB := hok
        by_cases hlt : i < N
        · have hir : i < rs.length := by rw [HN.out]; exact hlt
          obtain ⟨b, off, Ak, ck, rfl, _, hc, _, hrow⟩ := (H.out.grow hb).at_ hir
          have hrb := (given_true.1 HG.out).1 rs[i] (List.getElem_mem hir)
          have HC := Lib.hid (l1Bent_any Ak ck _ _ rs[i] wr hrow hrb)
          have hlt' : (i : Int) < (N : Int) := by omega
          have i0 : (0 : Int) ≤ (i : Int) := by omega
          obtain ⟨z, hz⟩ : ∃ z, bentB rs[i] = z := ⟨_, rfl⟩
          have HZ := Lib.hid hz
          rw [hz] at HC
          clear hb hok hrow hrb hz
          cases z with
          | false =>
            have HM := Lib.hid (greedy_not (rs := rs) (n := (n' : Int)) (by rw [bents_no hir HZ.out, Bool.and_false]))
            go_wp2_with fail
            refine HC.out.mono ?_
            rintro e w3 ⟨rfl, hb3⟩
            have HB3 := Lib.hid (below_then HB.out (Nat.le_refl _) hb3)
            clear hb3
            go_wp2
            go_ret2
            rw [HM.out]
            exact retSB_none (HB3.out.alloc HB3.out.size _)
          | true =>
            go_wp2_with fail
            refine HC.out.mono ?_
            rintro e w3 ⟨rfl, hb3⟩
            have HB3 := Lib.hid (below_then HB.out (Nat.le_refl _) hb3)
            clear hb3
            go_wp2
            go_roundw
            case rel => exact ⟨i + 1, by omega, by go_num, HB3.out, fun j hj hji => by
              by_cases e : j = i
              · subst e; exact HZ.out
              · exact HOKB.out j hj (by omega)⟩
            case measure => simp [intOf]; omega
        · obtain rfl : i = N := by omega
          have HBT : Hid (bentsB rs = true) := bents_all fun j hj => HOKB.out j hj (by rw [← HN.out]; exact hj)
          have HM := Lib.hid (greedy_yes HOK.out HBT.out)
          have hlt' : ¬ (i : Int) < (i : Int) := by omega
          have hmk := run_makeInts i (by omega) wr
          have hC0 := Cells.made wr i 3
          have HC0 := Lib.hid hC0
          have HR0 := Lib.hid ((H.out.grow hb).grow ((Below.refl _ wr).alloc (Nat.le_refl _) (.cells (madeCells #[.int .i64 0] i) 3)))
          have HB0 := Lib.hid (hb.alloc hb.size (.cells (madeCells #[.int .i64 0] i) 3))
          obtain ⟨P, hP⟩ : ∃ P, wr.heap.size = P := ⟨_, rfl⟩
          have hPw : w2.heap.size ≤ P := by rw [← hP]; exact hb.size
          have HPW := Lib.hid hPw
          have HS0 : Hid ((wr.alloc (.cells (madeCells #[.int .i64 0] i) 3)).heap.size = P + 1) := by show _ = _; rw [World.size_alloc, hP]
          have HFW := Lib.hid (fun k hk => greedy_facts (k := k) HG.out HBT.out hk)
          rw [hP] at hmk HC0
          clear hb hok hC0 hP hPw
          go_wp2
          clear hmk
          go_loopw [8] (fun v W => ∃ k : Nat, k ≤ n' ∧ v = .int .i64 (k : Int) ∧ Cells W P 0 (greedyTo rs k) ∧ IRR W l0 h0 A rs ∧ Below w2.heap.size w2 W ∧ W.heap.size = P + 1) (fun v _ => n' - (intOf v).toNat)
          case atStart => exact ⟨0, Nat.zero_le _, rfl, by show Cells _ _ _ (List.replicate rs.length 0); rw [HN.out]; exact HC0.out, HR0.out, HB0.out, HS0.out⟩
          case round =>
            clear HC0 HR0 HB0 HS0
            obtain ⟨W, hW⟩ : ∃ W, W = wr := ⟨_, rfl⟩
            subst hW
            obtain ⟨k, hk, rfl, hC, hR, hB, hs⟩ := hrel
            have HC := Lib.hid hC; have HR := Lib.hid hR; have HB := Lib.hid hB; have HS := Lib.hid hs
            clear hC hR hB hs
            by_cases hkn : k < n'
            · have hkn' : (k : Int) < (n' : Int) := by omega
              obtain ⟨f1, f2, f3⟩ := HFW.out k (by have := HNM.out; omega)
              have HF1 := Lib.hid f1; have HF2 := Lib.hid f2; have HF3 := Lib.hid f3
              have HGR : Hid (greedyTo rs (k + 1) = growL rs (greedyTo rs k)) := rfl
              obtain ⟨l, hl⟩ : ∃ l, greedyTo rs k = l := ⟨_, rfl⟩
              rw [hl] at HC HF1 HF2 HF3 HGR
              clear f1 f2 f3 hl
              go_wp2
              go_loopw [9, 10, 11] (fun a b v wr => ∃ j : Nat, j ≤ i ∧ v = .int .i64 (j : Int) ∧ a = .int .i64 (pickTo rs l j).1 ∧ b = .int .i64 (pickTo rs l j).2 ∧ Dr W wr) (fun _ _ v _ => i - (intOf v).toNat)
              case atStart => exact ⟨0, Nat.zero_le _, rfl, rfl, rfl, Dr.refl _⟩
              case round =>
                obtain ⟨j, hj, rfl, rfl, rfl, hdr⟩ := hrel
                have HD := Lib.hid hdr
                have hst : pickTo rs l (j + 1) = if room rs l j ∧ ((pickTo rs l j).1 < 0 ∨ frS rs l j < (pickTo rs l j).2) then ((j : Int), frS rs l j) else pickTo rs l j := rfl
                obtain ⟨a, ha⟩ : ∃ a, (pickTo rs l j).1 = a := ⟨_, rfl⟩
                obtain ⟨b, hb⟩ : ∃ b, (pickTo rs l j).2 = b := ⟨_, rfl⟩
                have HPE : Hid (pickTo rs l j = (a, b)) := by show _ = _; rw [← ha, ← hb]
                rw [ha, hb] at hst
                rw [ha, hb]
                by_cases hji : j < i
                · have hjr : j < rs.length := by rw [HN.out]; exact hji
                  obtain ⟨bb, off, bk, ok, ck, m, rfl, hc, hc1, ⟨hm1, hm2, hm3⟩, hcs, hbd⟩ := greedy_cells (hdr.irr HR.out) (Dr.cells HC.out hdr) HG.out HF1.out hjr
                  have hfr : frS rs l j = (rowAt rs j).getD (plAt l j + 1) 0 - (rowAt rs j).getD (plAt l j) 0 := rfl
                  have hrm : room rs l j ↔ plAt l j + 1 < m := by unfold room; rw [hm3]
                  obtain ⟨p, hp⟩ : ∃ p, plAt l j = p := ⟨_, rfl⟩
                  rw [hp] at hc1 hm1 hfr hrm
                  have hx1 := hcs p hm1
                  have hd1 := hbd p; have hd2 := hbd (p + 1)
                  have hx2 : p + 1 < m → _ := hcs (p + 1)
                  obtain ⟨y1, hy1⟩ : ∃ y, (rowAt rs j).getD p 0 = y := ⟨_, rfl⟩
                  obtain ⟨y2, hy2⟩ : ∃ y, (rowAt rs j).getD (p + 1) 0 = y := ⟨_, rfl⟩
                  rw [hy1] at hx1 hd1 hfr
                  rw [hy2] at hx2 hd2 hfr
                  have hji' : (j : Int) < (i : Int) := by omega
                  have j0 : (0 : Int) ≤ (j : Int) := by omega
                  have p0 : (0 : Int) ≤ (p : Int) := by omega
                  have p1 : (0 : Int) ≤ (p : Int) + 1 := by omega
                  have pm : (p : Int) < (m : Int) := by omega
                  have t1 : IntKind.i64.wrap ((p : Int) + 1) = (p : Int) + 1 := IntWalk.i64_in _ (by omega)
                  have t2 : ((p : Int) + 1).toNat = p + 1 := by omega
                  have s1 : IntKind.i64.wrap (y2 - y1) = y2 - y1 := IntWalk.i64_in _ (by omega)
                  rw [hfr] at hst
                  have HST := Lib.hid hst; have HRM := Lib.hid hrm; have HX2 := Lib.hid hx2
                  clear hst hrm hx2 hcs hbd hd1 hd2 hy1 hy2 hp hfr hdr hm3 ha hb
                  by_cases hroom : p + 1 < m
                  · have hroom' : (p : Int) + 1 < (m : Int) := by omega
                    have hx2 := HX2.out hroom
                    by_cases ha0 : a < 0
                    · have HE : Hid (pickTo rs l (j + 1) = ((j : Int), y2 - y1)) := by show _ = _; rw [HST.out, if_pos ⟨HRM.out.2 hroom, .inl ha0⟩]
                      go_wp2
                      go_quiet (fail)
                      go_wp2
                      go_quiet (fail)
                      go_wp2
                      go_roundw
                      case rel => exact ⟨j + 1, by omega, by go_num, by rw [HE.out], by rw [HE.out], HD.out.more _⟩
                      case measure => simp [intOf]; omega
                    · by_cases hless : y2 - y1 < b
                      · have HE : Hid (pickTo rs l (j + 1) = ((j : Int), y2 - y1)) := by show _ = _; rw [HST.out, if_pos ⟨HRM.out.2 hroom, .inr hless⟩]
                        go_wp2
                        go_quiet (fail)
                        go_wp2
                        go_quiet (fail)
                        go_wp2
                        go_roundw
                        case rel => exact ⟨j + 1, by omega, by go_num, by rw [HE.out], by rw [HE.out], HD.out.more _⟩
                        case measure => simp [intOf]; omega
                      · have HE : Hid (pickTo rs l (j + 1) = (a, b)) := by show _ = _; rw [HST.out, if_neg (fun h => by rcases h.2 with h | h <;> contradiction), HPE.out]
                        go_wp2
                        go_quiet (fail)
                        go_wp2
                        go_roundw
                        case rel => exact ⟨j + 1, by omega, by go_num, by rw [HE.out], by rw [HE.out], HD.out.more _⟩
                        case measure => simp [intOf]; omega
                  · have hroom' : ¬ (p : Int) + 1 < (m : Int) := by omega
                    have hroom'' : decide ((p : Int) + 1 < (m : Int)) = false := decide_eq_false hroom'
                    have HE : Hid (pickTo rs l (j + 1) = (a, b)) := by show _ = _; rw [HST.out, if_neg (fun h => hroom (HRM.out.1 h.1)), HPE.out]
                    clear HX2
                    go_wp2
                    go_quiet (fail)
                    go_wp2
                    go_roundw
                    case rel => exact ⟨j + 1, by omega, by go_num, by rw [HE.out], by rw [HE.out], HD.out.more _⟩
                    case measure => simp [intOf]; omega
                · obtain rfl : j = i := by omega
                  have hji' : ¬ (j : Int) < (j : Int) := by omega
                  obtain ⟨g1, g2, -, -⟩ := grow_pick HF1.out (by have := HF3.out; have := HNM.out; omega)
                  rw [HN.out] at g1 g2
                  rw [ha] at g2
                  have hgl : growL rs l = l.set (pickL rs l) (l.getD (pickL rs l) 0 + 1) := rfl
                  obtain ⟨q, hq⟩ : ∃ q, pickL rs l = q := ⟨_, rfl⟩
                  rw [hq] at g1 g2 hgl
                  have hql : q < l.length := by rw [HF2.out, HN.out]; exact g1
                  have hCw := Dr.cells HC.out hdr
                  obtain ⟨cq, fq⟩ := hCw q hql
                  rw [← getD_at hql, Nat.zero_add] at cq
                  rw [Nat.zero_add] at fq
                  obtain ⟨e1, e2⟩ := pl_at HF1.out (show q < rs.length by rw [HN.out]; exact g1)
                  have e3 := (given_true.1 HG.out).1 rs[q]! (by rw [getElem!_pos rs q (by rw [HN.out]; exact g1)]; exact List.getElem_mem _)
                  have e4 : (rowAt rs q).length ≤ 12 := by
                    rw [rowAt_get (by rw [HN.out]; exact g1)]
                    rw [getElem!_pos rs q (by rw [HN.out]; exact g1)] at e3
                    exact (rowB_true.1 e3).2.2
                  obtain ⟨x, hx⟩ : ∃ x, l.getD q 0 = x := ⟨_, rfl⟩
                  rw [hx] at cq e1 hgl
                  have s1 : IntKind.i64.wrap (x + 1) = x + 1 := IntWalk.i64_in _ (by omega)
                  have HCN : Hid (Cells (wr.setCell ⟨P, q, none⟩ (.int .i64 (x + 1))) P 0 (greedyTo rs (k + 1))) := by
                    show Cells _ _ _ _
                    rw [HGR.out, hgl]
                    have := hCw.set_ q hql (x + 1)
                    rwa [Nat.zero_add] at this
                  have q0 : (0 : Int) ≤ (q : Int) := by omega
                  have qi : (q : Int) < (j : Int) := by omega
                  have HRN := Lib.hid (hdr.irr HR.out)
                  have hdsz : wr.heap.size = P + 1 := by obtain ⟨z, hz⟩ := hdr; rw [hz]; exact HS.out
                  have HDS := Lib.hid hdsz
                  subst g2
                  clear hdr hst ha hb e1 e2 e3 e4 hq hx hgl hCw hdsz
                  go_wp2
                  go_roundw
                  case rel => exact ⟨k + 1, by omega, by go_num, HCN.out, HRN.out.below ((Below.refl P wr).setCell (p := ⟨P, q, none⟩) (Nat.le_refl P) _) (by have := HPW.out; have := H.out.2.1; omega), (HD.out.grow HB.out).setCell (p := ⟨P, q, none⟩) HPW.out _, by simpa [World.setCell] using HDS.out⟩
                  case measure => simp [intOf]; omega
            · obtain rfl : k = n' := by omega
              have hkn' : ¬ (k : Int) < (k : Int) := by omega
              obtain ⟨f1, f2, f3⟩ := HFW.out k (by have := HNM.out; omega)
              have HF1 := Lib.hid f1; have HF2 := Lib.hid f2
              clear f1 f2 f3
              go_wp2
              go_ret2
              rw [HM.out]
              refine retSB_some (by show i = (greedyTo rs k).length; rw [HF2.out, HN.out]) (HC.out.iw rfl HPW.out (by have := HS.out; omega) (Nat.le_refl _) (by rw [HF2.out, HN.out]; omega) fun z hz => ?_) HB.out
              obtain ⟨j, hj, rfl⟩ := List.getElem_of_mem hz
              have hjr : j < rs.length := by rw [← HF2.out]; exact hj
              obtain ⟨e1, e2⟩ := pl_at HF1.out hjr
              have e3 := rowB_true.1 ((given_true.1 HG.out).1 rs[j] (List.getElem_mem hjr))
              rw [rowAt_get hjr] at e2
              rw [← getD_at hj]
              exact ⟨by omega, by omega⟩
end Go.Proofs.Ytanoojpmokbiaab
