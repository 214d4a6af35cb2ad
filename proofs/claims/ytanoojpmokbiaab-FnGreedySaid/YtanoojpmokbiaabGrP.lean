/-
  Greedy sharings of the model and of the program: steps of all rows in order, greedy, ShareGreedy. Conditions: the rows' cells are there.
-/
import Derived.Test.YtanoojpmokbiaabSsA
import Derived.Test.YtanoojpmokbiaabGrM
import Derived.Test.YtanoojpmokbiaabBent
import Derived.Test.YtanoojpmokbiaabTbL
import Derived.Test.YtanoojpmokbiaabGrB
import Derived.RangeFuncBox
import Derived.LoopNIn
namespace Go.Proofs.Ytanoojpmokbiaab
open Go.RowKit

theorem greedy_not {rs : List (List Int)} {n : Int} (h : (shareOk rs n && bentsB rs) = false) : greedyM rs n = none := by
  unfold greedyM; rw [h]; rfl
theorem greedy_yes {rs : List (List Int)} {n : Int} (h1 : shareOk rs n = true) (h2 : bentsB rs = true) : greedyM rs n = some (greedyTo rs n.toNat) := by
  unfold greedyM; rw [h1, h2]; rfl
theorem bents_no {rs : List (List Int)} {i : Nat} (hi : i < rs.length) (h : bentB rs[i] = false) : bentsB rs = false := by
  unfold bentsB
  exact List.all_eq_false.2 ⟨rs[i], List.getElem_mem hi, by rw [h]; simp⟩
theorem bents_all {rs : List (List Int)} (h : ∀ (i : Nat) (hi : i < rs.length), bentB rs[i] = true) : bentsB rs = true := by
  unfold bentsB
  rw [List.all_eq_true]
  intro r hr
  obtain ⟨i, hi, rfl⟩ := List.getElem_of_mem hr
  exact h i hi
theorem bents_true {rs : List (List Int)} (h : bentsB rs = true) : ∀ r, r ∈ rs → bentB r = true := by
  unfold bentsB at h; rwa [List.all_eq_true] at h
/-- What a greedy sharing of k looks like. -/
theorem greedy_facts {rs : List (List Int)} (hg : givenB rs = true) (hb : bentsB rs = true) {k : Nat} (hk : (k : Int) ≤ mostL rs) : Pl rs (greedyTo rs k) ∧ (greedyTo rs k).length = rs.length ∧ totL (greedyTo rs k) = (k : Int) := by
  obtain ⟨g1, -, -⟩ := given_true.1 hg
  obtain ⟨h1, h2, -⟩ := greedy_is (fun r hr => row_pos (g1 r hr)) (bents_true hb) k hk
  exact ⟨h1, h1.len, h2⟩
theorem pl_at {rs : List (List Int)} {l : List Int} (h : Pl rs l) {j : Nat} (hj : j < rs.length) : l.getD j 0 = (plAt l j : Int) ∧ plAt l j < (rowAt rs j).length := by
  have := (pl_iff.1 h).2 j hj
  have e : plAt l j = (l.getD j 0).toNat := rfl
  omega
/-- What lies in memory for row j when l has been given. -/
theorem greedy_cells {W : World} {A : Option Addr} {lo hi P : Nat} {rs : List (List Int)} {l : List Int} (h : IRR W lo hi A rs) (hc : Cells W P 0 l) (hg : givenB rs = true) (hp : Pl rs l) {j : Nat} (hj : j < rs.length) :
    ∃ b off bk ok ck m, A = some ⟨b, off, none⟩ ∧ W.cell? ⟨b, off + j, none⟩ = some (.slice (some ⟨bk, ok, none⟩) m ck) ∧ W.cell? ⟨P, j, none⟩ = some (.int .i64 (plAt l j : Int)) ∧ (plAt l j < m ∧ m ≤ 12 ∧ (rowAt rs j).length = m) ∧
      (∀ i, i < m → W.cell? ⟨bk, ok + i, none⟩ = some (.int .i64 ((rowAt rs j).getD i 0))) ∧ (∀ i, -1000 ≤ (rowAt rs j).getD i 0 ∧ (rowAt rs j).getD i 0 ≤ 1000) := by
  obtain ⟨b, off, Ak, ck, rfl, _, hcc, _, hrow⟩ := h.at_ hj
  obtain ⟨e1, e2⟩ := pl_at hp hj
  have hjl : j < l.length := by rw [hp.len]; exact hj
  have hrb := (given_true.1 hg).1 rs[j] (List.getElem_mem hj)
  have hl := rowB_true.1 hrb
  rw [rowAt_get hj] at e2 ⊢
  obtain ⟨bk, ok, rfl, _, _, hcs⟩ := hrow.2.2.2 (by omega)
  have hc1 := (hc j hjl).1
  rw [← getD_at hjl, e1, Nat.zero_add] at hc1
  refine ⟨b, off, bk, ok, ck, rs[j].length, rfl, hcc, hc1, ⟨e2, hl.2.2, rfl⟩, fun i hi => ?_, fun i => ?_⟩
  · rw [getD_at hi]; exact hcs i hi
  · by_cases c : i < rs[j].length
    · exact row_getD hrb _ c
    · rw [List.getD_eq_getElem?_getD, List.getElem?_eq_none (by omega)]; simp

set_option maxRecDepth 100000 in
set_option maxHeartbeats 4000000 in
theorem specShareGreedy_any (A : Option Addr) (c l0 h0 : Nat) (rs : List (List Int)) (n : Int) (w : World) (h : IRR w l0 h0 A rs) :
    Calls Try.prog 6 #[.slice A rs.length c, .int .i64 n] w (RetSB w (greedyM rs n)) := by
  have H := Lib.hid h
  clear h
  go_enter Try.func6, Try.ntmps6
  cases hg : givenB rs with
  | false =>
    have HM := Lib.hid (greedy_not (rs := rs) (n := n) (by unfold shareOk; rw [hg]; rfl))
    have HG := Lib.hid hg
    clear hg
    go_wp2_with fail
    refine (l6sGiven_any _ _ _ _ rs _ H.out).mono ?_
    rintro e w1 ⟨rfl, rfl⟩
    rw [HG.out]
    go_wp2
    go_ret2
    rw [HM.out]
    exact retSB_none ((Below.refl _ _).alloc (Nat.le_refl _) _)
  | true =>
    have HG := Lib.hid hg
    have hml := most_le hg
    have h4 := (given_true.1 hg).2
    clear hg
    go_wp2_with fail
    refine (l6sGiven_any _ _ _ _ rs _ H.out).mono ?_
    rintro e w1 ⟨rfl, rfl⟩
    rw [HG.out]
    go_wp2_with fail
    refine (share_asks _ _ _ _ rs _ H.out HG.out).mono ?_
    rintro e w1 ⟨rfl, rfl⟩
    obtain ⟨q, hq⟩ : ∃ q, inB 0 (mostL rs) n = q := ⟨_, rfl⟩
    have HJ := Lib.hid (fun W => l6In_of hq W)
    have HOK : Hid (shareOk rs n = q) := by show _ = _; unfold shareOk; rw [HG.out, hq]; rfl
    cases q with
    | false =>
      have HM := Lib.hid (greedy_not (rs := rs) (n := n) (by rw [HOK.out]; rfl))
      clear hq
      go_wp2_with fail
      refine (HJ.out _).mono ?_
      rintro e w1 ⟨rfl, rfl⟩
      go_wp2
      go_ret2
      rw [HM.out]
      exact retSB_none ((Below.refl _ _).alloc (Nat.le_refl _) _)
    | true =>
      have hn := inB_true.1 hq
      obtain ⟨n', rfl⟩ : ∃ k : Nat, n = (k : Int) := ⟨n.toNat, by omega⟩
      obtain ⟨N, hN⟩ : ∃ N, rs.length = N := ⟨_, rfl⟩
      have HN := Lib.hid hN
      rw [hN] at h4
      rw [hN]
      have HML := Lib.hid hml; have HNM := Lib.hid hn.2
      have hn48 : n' ≤ 48 := by omega
      clear hq hn hN hml
      go_wp2_with fail
      refine (HJ.out _).mono ?_
      rintro e w2 ⟨rfl, rfl⟩
      go_wp2
      go_loopw [6] (fun v wr => ∃ i : Nat, i ≤ N ∧ v = .int .i64 (i : Int) ∧ Below w2.heap.size w2 wr ∧ Hid (∀ (j : Nat) (hj : j < rs.length), j < i → bentB rs[j] = true)) (fun v _ => N - (intOf v).toNat)
      case atStart => exact ⟨0, Nat.zero_le _, rfl, Below.refl _ _, fun j _ hj => absurd hj (by omega)⟩
      case round =>
        obtain ⟨i, hi, rfl, hb, hok⟩ := hrel
        have HB := Lib.hid hb
        have HOKB := hok
        by_cases hlt : i < N
        · have hir : i < rs.length := by rw [HN.out]; exact hlt
          obtain ⟨b, off, Ak, ck, rfl, _, hc, _, hrow⟩ := (H.out.grow hb).at_ hir
          have hrb := (given_true.1 HG.out).1 rs[i] (List.getElem_mem hir)
          have HC := Lib.hid (l1Bent_any Ak ck _ _ rs[i] wr hrow hrb)
          have hlt' : (i : Int) < (N : Int) := by omega
          have i0 : (0 : Int) ≤ (i : Int) := by omega
          obtain ⟨z, hz⟩ : ∃ z, bentB rs[i] = z := ⟨_, rfl⟩
          have HZ := Lib.hid hz
          rw [hz] at HC
          clear hb hok hrow hrb hz
          cases z with
          | false =>
            have HM := Lib.hid (greedy_not (rs := rs) (n := (n' : Int)) (by rw [bents_no hir HZ.out, Bool.and_false]))
            go_wp2_with fail
            refine HC.out.mono ?_
            rintro e w3 ⟨rfl, hb3⟩
            have HB3 := Lib.hid (below_then HB.out (Nat.le_refl _) hb3)
            clear hb3
            go_wp2
            go_ret2
            rw [HM.out]
            exact retSB_none (HB3.out.alloc HB3.out.size _)
          | true =>
            go_wp2_with fail
            refine HC.out.mono ?_
            rintro e w3 ⟨rfl, hb3⟩
            have HB3 := Lib.hid (below_then HB.out (Nat.le_refl _) hb3)
            clear hb3
            go_wp2
            go_roundw
            case rel => exact ⟨i + 1, by omega, by go_num, HB3.out, fun j hj hji => by
              by_cases e : j = i
              · subst e; exact HZ.out
              · exact HOKB.out j hj (by omega)⟩
            case measure => simp [intOf]; omega
        · obtain rfl : i = N := by omega
          have HBT : Hid (bentsB rs = true) := bents_all fun j hj => HOKB.out j hj (by rw [← HN.out]; exact hj)
          have HM := Lib.hid (greedy_yes HOK.out HBT.out)
          have hlt' : ¬ (i : Int) < (i : Int) := by omega
          have hmk := run_makeInts i (by omega) wr
          have hC0 := Cells.made wr i 3
          have HC0 := Lib.hid hC0
          have HR0 := Lib.hid ((H.out.grow hb).grow ((Below.refl _ wr).alloc (Nat.le_refl _) (.cells (madeCells #[.int .i64 0] i) 3)))
          have HB0 := Lib.hid (hb.alloc hb.size (.cells (madeCells #[.int .i64 0] i) 3))
          obtain ⟨P, hP⟩ : ∃ P, wr.heap.size = P := ⟨_, rfl⟩
          have hPw : w2.heap.size ≤ P := by rw [← hP]; exact hb.size
          have HPW := Lib.hid hPw
          have HS0 : Hid ((wr.alloc (.cells (madeCells #[.int .i64 0] i) 3)).heap.size = P + 1) := by show _ = _; rw [World.size_alloc, hP]
          have HFW := Lib.hid (fun k hk => greedy_facts (k := k) HG.out HBT.out hk)
          rw [hP] at hmk HC0
          clear hb hok hC0 hP hPw
          go_wp2
          clear hmk
          go_loopw [8] (fun v W => ∃ k : Nat, k ≤ n' ∧ v = .int .i64 (k : Int) ∧ Cells W P 0 (greedyTo rs k) ∧ IRR W l0 h0 A rs ∧ Below w2.heap.size w2 W ∧ W.heap.size = P + 1) (fun v _ => n' - (intOf v).toNat)
          case atStart => exact ⟨0, Nat.zero_le _, rfl, by show Cells _ _ _ (List.replicate rs.length 0); rw [HN.out]; exact HC0.out, HR0.out, HB0.out, HS0.out⟩
          case round =>
            clear HC0 HR0 HB0 HS0
            obtain ⟨W, hW⟩ : ∃ W, W = wr := ⟨_, rfl⟩
            subst hW
            obtain ⟨k, hk, rfl, hC, hR, hB, hs⟩ := hrel
            have HC := Lib.hid hC; have HR := Lib.hid hR; have HB := Lib.hid hB; have HS := Lib.hid hs
            clear hC hR hB hs
            by_cases hkn : k < n'
            · have hkn' : (k : Int) < (n' : Int) := by omega
              obtain ⟨f1, f2, f3⟩ := HFW.out k (by have := HNM.out; omega)
              have HF1 := Lib.hid f1; have HF2 := Lib.hid f2; have HF3 := Lib.hid f3
              have HGR : Hid (greedyTo rs (k + 1) = growL rs (greedyTo rs k)) := rfl
              obtain ⟨l, hl⟩ : ∃ l, greedyTo rs k = l := ⟨_, rfl⟩
              rw [hl] at HC HF1 HF2 HF3 HGR
              clear f1 f2 f3 hl
              go_wp2
              go_loopw [9, 10, 11] (fun a b v wr => ∃ j : Nat, j ≤ i ∧ v = .int .i64 (j : Int) ∧ a = .int .i64 (pickTo rs l j).1 ∧ b = .int .i64 (pickTo rs l j).2 ∧ Dr W wr) (fun _ _ v _ => i - (intOf v).toNat)
              case atStart => exact ⟨0, Nat.zero_le _, rfl, rfl, rfl, Dr.refl _⟩
              case round =>
                obtain ⟨j, hj, rfl, rfl, rfl, hdr⟩ := hrel
                have HD := Lib.hid hdr
                have hst : pickTo rs l (j + 1) = if room rs l j ∧ ((pickTo rs l j).1 < 0 ∨ frS rs l j < (pickTo rs l j).2) then ((j : Int), frS rs l j) else pickTo rs l j := rfl
                obtain ⟨a, ha⟩ : ∃ a, (pickTo rs l j).1 = a := ⟨_, rfl⟩
                obtain ⟨b, hb⟩ : ∃ b, (pickTo rs l j).2 = b := ⟨_, rfl⟩
                have HPE : Hid (pickTo rs l j = (a, b)) := by show _ = _; rw [← ha, ← hb]
                rw [ha, hb] at hst
                rw [ha, hb]
                by_cases hji : j < i
                · have hjr : j < rs.length := by rw [HN.out]; exact hji
                  obtain ⟨bb, off, bk, ok, ck, m, rfl, hc, hc1, ⟨hm1, hm2, hm3⟩, hcs, hbd⟩ := greedy_cells (hdr.irr HR.out) (Dr.cells HC.out hdr) HG.out HF1.out hjr
                  have hfr : frS rs l j = (rowAt rs j).getD (plAt l j + 1) 0 - (rowAt rs j).getD (plAt l j) 0 := rfl
                  have hrm : room rs l j ↔ plAt l j + 1 < m := by unfold room; rw [hm3]
                  obtain ⟨p, hp⟩ : ∃ p, plAt l j = p := ⟨_, rfl⟩
                  rw [hp] at hc1 hm1 hfr hrm
                  have hx1 := hcs p hm1
                  have hd1 := hbd p; have hd2 := hbd (p + 1)
                  have hx2 : p + 1 < m → _ := hcs (p + 1)
                  obtain ⟨y1, hy1⟩ : ∃ y, (rowAt rs j).getD p 0 = y := ⟨_, rfl⟩
                  obtain ⟨y2, hy2⟩ : ∃ y, (rowAt rs j).getD (p + 1) 0 = y := ⟨_, rfl⟩
                  rw [hy1] at hx1 hd1 hfr
                  rw [hy2] at hx2 hd2 hfr
                  have hji' : (j : Int) < (i : Int) := by omega
                  have j0 : (0 : Int) ≤ (j : Int) := by omega
                  have p0 : (0 : Int) ≤ (p : Int) := by omega
                  have p1 : (0 : Int) ≤ (p : Int) + 1 := by omega
                  have pm : (p : Int) < (m : Int) := by omega
                  have t1 : IntKind.i64.wrap ((p : Int) + 1) = (p : Int) + 1 := IntWalk.i64_in _ (by omega)
                  have t2 : ((p : Int) + 1).toNat = p + 1 := by omega
                  have s1 : IntKind.i64.wrap (y2 - y1) = y2 - y1 := IntWalk.i64_in _ (by omega)
                  rw [hfr] at hst
                  have HST := Lib.hid hst; have HRM := Lib.hid hrm; have HX2 := Lib.hid hx2
                  clear hst hrm hx2 hcs hbd hd1 hd2 hy1 hy2 hp hfr hdr hm3 ha hb
                  by_cases hroom : p + 1 < m
                  · have hroom' : (p : Int) + 1 < (m : Int) := by omega
                    have hx2 := HX2.out hroom
                    by_cases ha0 : a < 0
                    · have HE : Hid (pickTo rs l (j + 1) = ((j : Int), y2 - y1)) := by show _ = _; rw [HST.out, if_pos ⟨HRM.out.2 hroom, .inl ha0⟩]
                      go_wp2
                      go_quiet (fail)
                      go_wp2
                      go_quiet (fail)
                      go_wp2
                      go_roundw
                      case rel => exact ⟨j + 1, by omega, by go_num, by rw [HE.out], by rw [HE.out], HD.out.more _⟩
                      case measure => simp [intOf]; omega
                    · by_cases hless : y2 - y1 < b
                      · have HE : Hid (pickTo rs l (j + 1) = ((j : Int), y2 - y1)) := by show _ = _; rw [HST.out, if_pos ⟨HRM.out.2 hroom, .inr hless⟩]
                        go_wp2
                        go_quiet (fail)
                        go_wp2
                        go_quiet (fail)
                        go_wp2
                        go_roundw
                        case rel => exact ⟨j + 1, by omega, by go_num, by rw [HE.out], by rw [HE.out], HD.out.more _⟩
                        case measure => simp [intOf]; omega
                      · have HE : Hid (pickTo rs l (j + 1) = (a, b)) := by show _ = _; rw [HST.out, if_neg (fun h => by rcases h.2 with h | h <;> contradiction), HPE.out]
                        go_wp2
                        go_quiet (fail)
                        go_wp2
                        go_roundw
                        case rel => exact ⟨j + 1, by omega, by go_num, by rw [HE.out], by rw [HE.out], HD.out.more _⟩
                        case measure => simp [intOf]; omega
                  · have hroom' : ¬ (p : Int) + 1 < (m : Int) := by omega
                    have hroom'' : decide ((p : Int) + 1 < (m : Int)) = false := decide_eq_false hroom'
                    have HE : Hid (pickTo rs l (j + 1) = (a, b)) := by show _ = _; rw [HST.out, if_neg (fun h => hroom (HRM.out.1 h.1)), HPE.out]
                    clear HX2
                    go_wp2
                    go_quiet (fail)
                    go_wp2
                    go_roundw
                    case rel => exact ⟨j + 1, by omega, by go_num, by rw [HE.out], by rw [HE.out], HD.out.more _⟩
                    case measure => simp [intOf]; omega
                · obtain rfl : j = i := by omega
                  have hji' : ¬ (j : Int) < (j : Int) := by omega
                  obtain ⟨g1, g2, -, -⟩ := grow_pick HF1.out (by have := HF3.out; have := HNM.out; omega)
                  rw [HN.out] at g1 g2
                  rw [ha] at g2
                  have hgl : growL rs l = l.set (pickL rs l) (l.getD (pickL rs l) 0 + 1) := rfl
                  obtain ⟨q, hq⟩ : ∃ q, pickL rs l = q := ⟨_, rfl⟩
                  rw [hq] at g1 g2 hgl
                  have hql : q < l.length := by rw [HF2.out, HN.out]; exact g1
                  have hCw := Dr.cells HC.out hdr
                  obtain ⟨cq, fq⟩ := hCw q hql
                  rw [← getD_at hql, Nat.zero_add] at cq
                  rw [Nat.zero_add] at fq
                  obtain ⟨e1, e2⟩ := pl_at HF1.out (show q < rs.length by rw [HN.out]; exact g1)
                  have e3 := (given_true.1 HG.out).1 rs[q]! (by rw [getElem!_pos rs q (by rw [HN.out]; exact g1)]; exact List.getElem_mem _)
                  have e4 : (rowAt rs q).length ≤ 12 := by
                    rw [rowAt_get (by rw [HN.out]; exact g1)]
                    rw [getElem!_pos rs q (by rw [HN.out]; exact g1)] at e3
                    exact (rowB_true.1 e3).2.2
                  obtain ⟨x, hx⟩ : ∃ x, l.getD q 0 = x := ⟨_, rfl⟩
                  rw [hx] at cq e1 hgl
                  have s1 : IntKind.i64.wrap (x + 1) = x + 1 := IntWalk.i64_in _ (by omega)
                  have HCN : Hid (Cells (wr.setCell ⟨P, q, none⟩ (.int .i64 (x + 1))) P 0 (greedyTo rs (k + 1))) := by
                    show Cells _ _ _ _
                    rw [HGR.out, hgl]
                    have := hCw.set_ q hql (x + 1)
                    rwa [Nat.zero_add] at this
                  have q0 : (0 : Int) ≤ (q : Int) := by omega
                  have qi : (q : Int) < (j : Int) := by omega
                  have HRN := Lib.hid (hdr.irr HR.out)
                  have hdsz : wr.heap.size = P + 1 := by obtain ⟨z, hz⟩ := hdr; rw [hz]; exact HS.out
                  have HDS := Lib.hid hdsz
                  subst g2
                  clear hdr hst ha hb e1 e2 e3 e4 hq hx hgl hCw hdsz
                  go_wp2
                  go_roundw
                  case rel => exact ⟨k + 1, by omega, by go_num, HCN.out, HRN.out.below ((Below.refl P wr).setCell (p := ⟨P, q, none⟩) (Nat.le_refl P) _) (by have := HPW.out; have := H.out.2.1; omega), (HD.out.grow HB.out).setCell (p := ⟨P, q, none⟩) HPW.out _, by simpa [World.setCell] using HDS.out⟩
                  case measure => simp [intOf]; omega
            · obtain rfl : k = n' := by omega
              have hkn' : ¬ (k : Int) < (k : Int) := by omega
              obtain ⟨f1, f2, f3⟩ := HFW.out k (by have := HNM.out; omega)
              have HF1 := Lib.hid f1; have HF2 := Lib.hid f2
              clear f1 f2 f3
              go_wp2
              go_ret2
              rw [HM.out]
              refine retSB_some (by show i = (greedyTo rs k).length; rw [HF2.out, HN.out]) (HC.out.iw rfl HPW.out (by have := HS.out; omega) (Nat.le_refl _) (by rw [HF2.out, HN.out]; omega) fun z hz => ?_) HB.out
              obtain ⟨j, hj, rfl⟩ := List.getElem_of_mem hz
              have hjr : j < rs.length := by rw [← HF2.out]; exact hj
              obtain ⟨e1, e2⟩ := pl_at HF1.out hjr
              have e3 := rowB_true.1 ((given_true.1 HG.out).1 rs[j] (List.getElem_mem hjr))
              rw [rowAt_get hjr] at e2
              rw [← getD_at hj]
              exact ⟨by omega, by omega⟩
end Go.Proofs.Ytanoojpmokbiaab

namespace Go.Proofs.Ytanoojpmokbiaab
open Go.RowKit Go.Shelf Go.Lib Go.Sort

theorem info_step : (Try.prog.info? 61).map (fun i => (i.zero, i.size, i.bytes)) = some (some (.agg #[.int .i64 0, .int .i64 0]), 2, 16) := by kernel_rfl
/-- The value is a list of steps of the call's own. -/
def OwnS (W : World) (base : Nat) (v : Value) (L : List (Nat × Int)) : Prop := W.ownsRow base 61 2 v L.length (L.flatMap encS) ∧ base ≤ W.heap.size
theorem OwnS.nil (W : World) (base : Nat) (h : base ≤ W.heap.size) : OwnS W base (.slice none 0 0) [] := ⟨World.ownsRow_nil _ _ _ _, h⟩
theorem OwnS.alloc {W : World} {base : Nat} {v : Value} {L : List (Nat × Int)} (h : OwnS W base v L) (o : Obj) : OwnS (W.alloc o) base v L := ⟨World.ownsRow.alloc h.1 o, Nat.le_trans h.2 (by simp)⟩
set_option maxRecDepth 100000 in
theorem wpListIn_pushS {F : Fence} {n : Nat} {ops : Array Oper} {rest : List Oper} {o : Oper} {a : Act} {W : World} {Q : Exit → Act → World → Prop} (y : Nat × Int) (hgd : o.guard = none) (s x : Operand)
    (ho : o.op = .call { callee := .builtin .append, args := #[s, x], argTypes := #[57, 57] })
    (base : Nat) (v : Value) (L : List (Nat × Int)) (hs : a.eval s = v) (hx : a.eval x = .slice (some ⟨W.heap.size, 0, none⟩) 1 1) (hown : OwnS W base v L) (hl : L.length < 1000000)
    (h : ∀ v' w', OwnS w' base v' (L ++ [y]) → (W.alloc (.cells #[.int .i64 (y.1 : Int), .int .i64 y.2] 61)).grownBy w' v.ownBlock → wpListIn F n Try.prog ops Q rest (a.put o.dst v') w') :
    wpListIn F n Try.prog ops Q (o :: rest) a (W.alloc (.cells #[.int .i64 (y.1 : Int), .int .i64 y.2] 61)) := by
  refine wpListIn_plain hgd fun K hK => ?_
  obtain ⟨i0, hi, hz0, hz1, hz2⟩ := info_parts info_step
  have hnw := World.alloc_heap_new W (.cells #[.int .i64 (y.1 : Int), .int .i64 y.2] 61)
  obtain ⟨v', w', hrun, h2, h3, _⟩ := run_append_own (P := Try.prog) (W.alloc (.cells #[.int .i64 (y.1 : Int), .int .i64 y.2] 61)) base 57 o.type 61 i0 (.agg #[.int .i64 0, .int .i64 0]) 2 16 Try.underlying57 hi hz0 hz1 hz2 rfl (by decide) v L.length (L.flatMap encS) (hown.alloc _).1 ⟨W.heap.size, 0, none⟩ 1 1 (encS y) rfl
    (fun j u hj => by
      have e : (⟨W.heap.size, 0, none⟩ : Addr).add j = ⟨W.heap.size, 0 + j, none⟩ := by unfold Addr.add; split <;> simp_all
      rw [e, Nat.zero_add, cell_of_row _ _ j _ _ _ hnw]
      match j, hj with
      | 0, hj => simpa [encS] using hj
      | 1, hj => simpa [encS] using hj) (by intro u hu; simp [encS] at hu; rcases hu with rfl | rfl <;> rfl) (by unfold maxLen; omega) (by omega) (Nat.le_trans hown.2 (by simp))
  have hown' : OwnS w' base v' (L ++ [y]) := ⟨by rw [List.length_append, List.flatMap_append, List.flatMap_singleton]; exact h2, Nat.le_trans (hown.alloc _).2 h3.size⟩
  unfold Oper.wpIn
  refine ⟨?_, ?_⟩
  · simp [Oper.about, ho, resolve, Target.leads, Sem.run_pure]
  · rw [Oper.semAt_plain F _ _ (by rw [ho]; intro c hc'; cases hc')]
    simp only [execOp, ho, resolve, invoke, builtin, Sem.run_bind, Sem.run_pure, Result.andThen_ok, List.map_toArray, List.map_cons, List.map_nil, hs, hx, hrun]
    exact hK _ _ (h v' w' hown' h3)

/-- The list of steps in its variable, and whatever else is held while rows are gone through. -/
structure StI (W w : World) (B Bi i : Nat) (L : List (Nat × Int)) : Prop where
  own : ∃ v, Boxed W B 57 v ∧ OwnS W B v L
  box : Boxed W Bi 3 (.int .i64 (i : Int))
  below : Below w.heap.size w W
/-- The marks of the ranges that have ended. -/
def Marks (W : World) (B : Nat) (ds : List Nat) : Prop := ds.Pairwise (fun a b => b < a) ∧ ∀ D, D ∈ ds → B < D ∧ W.heap[D]? = some (.deferred (some []))
theorem Marks.grow {W W' : World} {B : Nat} {ds : List Nat} (h : Marks W B ds) (hk : KeepsOthers W W') : Marks W' B ds := ⟨h.1, fun D hD => ⟨(h.2 D hD).1, hk.same D _ (h.2 D hD).2 rfl⟩⟩
def dsOf (ds : List Nat) : List Deferred := ds.map fun D => { target := .collected D, args := #[] }
/-- At the function's return the marks are taken one by one. -/
theorem marks_leave {F : Fence} {n : Nat} {P : Program} {fn : Func} {tmps : Array Value} {R : Ending → World → Prop} {B : Nat} : ∀ (ds : List Nat) (W : World), Marks W B ds → (∀ W', Below B W W' → (∀ k, k < W.heap.size → k ∉ ds → W'.heap[k]? = W.heap[k]?) → LeavesIn F n P fn tmps R [] .returning W') →
    LeavesInM F n P fn tmps R (dsOf ds) .returning W
  | [], W, _, h => h W (Below.refl _ _) (fun _ _ _ => rfl)
  | D :: ds, W, hm, h => by
    obtain ⟨h1, h2⟩ := hm
    obtain ⟨hB, hD⟩ := h2 D (by simp)
    have hp := List.pairwise_cons.1 h1
    refine ⟨by simp, .inl ⟨D, _, rfl, run_takeDeferred hD, ?_⟩⟩
    refine marks_leave (B := B) ds _ ⟨hp.2, fun E hE => ?_⟩ fun W' hb hk => h W' ?_ ?_
    · have := hp.1 E hE
      exact ⟨(h2 E (by simp [hE])).1, (World.putObj_heap_other (by omega)).trans (h2 E (by simp [hE])).2⟩
    · exact ((Below.refl B W).grown (grownBy_putObj' W D (.deferred none)) (by have := (Array.getElem?_eq_some_iff.1 hD).1; omega) (fun k e => by cases e; omega)).trans hb
    · intro k hk' hn
      rw [hk k (by rw [show (W.putObj D (.deferred none)).heap.size = W.heap.size by simp [World.putObj]]; exact hk') (fun e => hn (by simp [e]))]
      exact World.putObj_heap_other (fun e => hn (by simp [e]))

theorem flat_at : ∀ (L : List (Nat × Int)) (j : Nat), j < L.length * 2 → (L.flatMap encS)[j]? = some ((encS (L.toArray[j / 2]!))[j % 2]!)
  | [], j, h => by simp at h
  | x :: L, 0, _ => by simp [encS]
  | x :: L, 1, _ => by simp [encS]
  | x :: L, j + 2, h => by
    have ih := flat_at L j (by simp at h; omega)
    rw [List.flatMap_cons, List.getElem?_append_right (by simp [encS])]
    rw [show j + 2 - (encS x).length = j by simp [encS], ih]
    have e1 : (j + 2) / 2 = j / 2 + 1 := by omega
    have e2 : (j + 2) % 2 = j % 2 := by omega
    have e3 : (x :: L).toArray[j / 2 + 1]! = L.toArray[j / 2]! := by
      have hl : j / 2 < L.length := by simp at h; omega
      rw [getElem!_pos _ _ (by simpa using hl), getElem!_pos _ _ (by simpa using hl)]
      simp
    rw [e1, e2, e3]
theorem OwnS.holds {W : World} {base g k cap : Nat} {L : List (Nat × Int)} (h : OwnS W base (.slice (some ⟨g, 0, none⟩) k cap) L) : k = L.length ∧ base ≤ g ∧ g < W.heap.size ∧ HoldsK encS 2 W g 0 L.toArray := by
  have h0 := h.1
  rcases h0.2 with ⟨e, _⟩ | ⟨g', cap', cur, e, hb, hh, hn, hc, hs, ht⟩
  · cases e
  · injection e with e1 e2 e3
    injection e1 with e1; injection e1 with e1 _ _
    subst e1; subst e2; subst e3
    refine ⟨rfl, hb, (Array.getElem?_eq_some_iff.1 hh).1, fun j hj => ⟨?_, by simp [World.frozen?, hh]⟩⟩
    rw [size_flatK, List.size_toArray] at hj
    rw [Nat.zero_add, h0.cellAt j hj, flat_at L j hj, get_flatK _ _ _ _ (by rw [List.size_toArray]; exact hj)]
    rfl
/-- Behind an append to the list in its variable. -/
theorem push_box {W w1 : World} {B : Nat} {v v' : Value} {L L' : List (Nat × Int)} {tmp : Obj} (hv : Boxed W B 57 v) (ho : OwnS W B v L) (ho1 : OwnS w1 B v' L') (hg : (W.alloc tmp).grownBy w1 v.ownBlock) :
    Boxed w1 B 57 v ∧ Boxed (w1.setCell ⟨B, 0, none⟩ v') B 57 v' ∧ OwnS (w1.setCell ⟨B, 0, none⟩ v') B v' L' ∧ KeepsOthers W (w1.setCell ⟨B, 0, none⟩ v') ∧ Below B W (w1.setCell ⟨B, 0, none⟩ v') := by
  obtain ⟨h1, h2, h3, h4, h5⟩ := hv.appended (by decide) ho.1 ho.2 (Nat.le_refl _) ho1.1 hg
  exact ⟨h1, h2, ⟨h3, by simpa [World.setCell] using ho1.2⟩, h4, h5⟩
/-- Another variable keeps what it holds. -/
theorem push_other {W w1 : World} {B B2 : Nat} {t : TypeId} {u v v' : Value} {L : List (Nat × Int)} {tmp : Obj} (hu : Boxed W B2 t u) (ht : t ≠ 61) (hB : B2 ≠ B) (ho : OwnS W B v L) (hg : (W.alloc tmp).grownBy w1 v.ownBlock) : Boxed (w1.setCell ⟨B, 0, none⟩ v') B2 t u :=
  ((hu.alloc tmp).kept hg (hu.not_row ht ho.1)).other hB v'
theorem push_same {W w1 : World} {B B2 : Nat} {t : TypeId} {u v v' : Value} {L : List (Nat × Int)} {tmp : Obj} (hu : Boxed W B2 t u) (ht : t ≠ 61) (hB : B2 ≠ B) (ho : OwnS W B v L) (hg : (W.alloc tmp).grownBy w1 v.ownBlock) : (w1.setCell ⟨B, 0, none⟩ v').heap[B2]? = W.heap[B2]? :=
  (push_other (v' := v') hu ht hB ho hg).trans hu.symm
theorem ownS_own {β : Type} (C base : Nat) (v : Value) (L : β → List (Nat × Int)) : OwnFrom C (fun s W => OwnS W base v (L s)) := fun s X Y row h hg hr => by
  refine ⟨h.1.kept hg ?_, Nat.le_trans h.2 hg.size⟩
  rcases h.1.2 with ⟨rfl, _⟩ | ⟨g, cap, cur, rfl, _, hgb, _⟩
  · exact .inl rfl
  · refine .inr fun e' => ?_
    obtain ⟨_, o, ho, hc⟩ := hr g (by simpa [Value.ownBlock] using e'.symm)
    rw [hgb] at ho; cases ho; cases hc
theorem ownS_some {W : World} {base : Nat} {v : Value} {L : List (Nat × Int)} {y : Nat × Int} (h : OwnS W base v (L ++ [y])) : ∃ g cap, v = .slice (some ⟨g, 0, none⟩) (L.length + 1) cap := by
  have := h.1
  rw [List.length_append, List.length_singleton] at this
  exact ownsRow_succ this
/-- The world behind a sort: another block lies as it lay. -/
theorem sw_block {W : World} {g m k : Nat} {d : Array (Nat × Int)} {os : Array Obj} (hk : k ≠ g) (hs : k < W.heap.size) : (sortWorldK encS 2 W g 0 m d os).heap[k]? = W.heap[k]? := by
  unfold sortWorldK grow putRowK Sort.putRow Sort.mapBlock Sort.ahead
  show (Array.modify _ _ _ ++ os)[k]? = _
  rw [Array.getElem?_append_left (by simpa using hs), Array.getElem?_modify]
  rw [if_neg (Ne.symm hk)]
theorem sw_size {W : World} {g m : Nat} {d : Array (Nat × Int)} {os : Array Obj} : W.heap.size ≤ (sortWorldK encS 2 W g 0 m d os).heap.size := by
  unfold sortWorldK grow putRowK Sort.putRow Sort.mapBlock Sort.ahead
  show _ ≤ (Array.modify _ _ _ ++ os).size
  simp
theorem sw_below {W : World} {B g m : Nat} {d : Array (Nat × Int)} {os : Array Obj} (hg : B ≤ g) (hB : B ≤ W.heap.size) : Below B W (sortWorldK encS 2 W g 0 m d os) :=
  ⟨rfl, rfl, rfl, sw_size, fun k hk => sw_block (by omega) (by omega)⟩
theorem holdsK_block {W W' : World} {g : Nat} {d : Array (Nat × Int)} (h : HoldsK encS 2 W g 0 d) (hb : W'.heap[g]? = W.heap[g]?) : HoldsK encS 2 W' g 0 d := fun j hj =>
  ⟨(World.cell?_of_block (a := ⟨g, 0 + j, none⟩) hb).trans (h j hj).1, (World.frozen?_of_block (a := ⟨g, 0 + j, none⟩) hb).trans (h j hj).2⟩
theorem ltS (x y : Nat × Int) : ltOf cfS x y = true ↔ x.2 < y.2 ∨ (x.2 = y.2 ∧ x.1 < y.1) := by
  unfold ltOf cfS
  rw [decide_eq_true_iff]
  rcases Int.lt_trichotomy x.2 y.2 with h | h | h
  · simp [h]
  · rcases Nat.lt_trichotomy x.1 y.1 with h' | h' | h'
    · simp [h, h']
    · simp [h, h']
    · simp [h, h', Nat.lt_asymm h']
  · simp [h, Int.lt_asymm h, Int.ne_of_gt h]
theorem ltS_no (x y : Nat × Int) : ltOf cfS x y = false ↔ ¬ (x.2 < y.2 ∨ (x.2 = y.2 ∧ x.1 < y.1)) := by rw [← ltS, Bool.not_eq_true]
theorem swoS : SWO (ltOf cfS) where
  irrefl x := by rw [ltS_no]; omega
  trans x y z h1 h2 := by rw [ltS] at *; omega
  ntrans x y z h1 h2 := by rw [ltS_no] at *; omega
theorem totS (x y : Nat × Int) (h1 : ltOf cfS x y = false) (h2 : ltOf cfS y x = false) : x = y := by
  rw [ltS_no] at h1 h2
  obtain ⟨a, b⟩ := x
  obtain ⟨c, d⟩ := y
  simp only at h1 h2
  have : a = c := by omega
  have : b = d := by omega
  subst_vars; rfl
theorem cmpS (blk off size : Nat) (w : World) : CmpLays Try.prog 37 #[] encS 2 cfS blk off size w := fun _ _ _ _ x y => flatter_any x y _
theorem OwnS.below {w w' : World} {base C : Nat} {v : Value} {L : List (Nat × Int)} (h : OwnS w base v L) (hb : Below C w w') (hC : w.heap.size ≤ C) : OwnS w' base v L := by
  obtain ⟨ho, hs⟩ := h
  refine ⟨⟨ho.1, ?_⟩, Nat.le_trans hs hb.size⟩
  rcases ho.2 with h0 | ⟨g, cap, cur, e, hg, hh, r⟩
  · exact .inl h0
  · exact .inr ⟨g, cap, cur, e, hg, (hb.block g (Nat.lt_of_lt_of_le (Array.getElem?_eq_some_iff.1 hh).1 hC)).trans hh, r⟩
end Go.Proofs.Ytanoojpmokbiaab

namespace Go.Proofs.Ytanoojpmokbiaab
open Go.RowKit Go.Shelf Go.Lib Go.Sort
attribute [local go_sem] Oper.semAt_some

theorem st_short {rs : List (List Int)} (h : ∀ r, r ∈ rs → r.length ≤ 12) : ∀ i, (stTo rs i).length ≤ 12 * i
  | 0 => Nat.le_refl _
  | i + 1 => by
    have ih := st_short h i
    simp only [stTo]
    rw [List.length_append, List.length_map, slopesL_len]
    have : (rowAt rs i).length ≤ 12 := by
      by_cases c : i < rs.length
      · exact h _ (row_at_mem c)
      · unfold rowAt; rw [List.getD_eq_getElem?_getD, List.getElem?_eq_none (by omega)]; simp
    omega
def StB (W w : World) (B : Nat) (L : List (Nat × Int)) : Prop := (∃ v, Boxed W B 57 v ∧ OwnS W B v L) ∧ Below B w W
/-- The frame at the loop's head. -/
def stFrame (A : Option Addr) (n c B i : Nat) (f x2 x3 x6 x7 x8 : Value) (y z : Nat → Value) (ds : List Nat) : Act :=
  { tmps := #[.slice A n c, f, x2, x3, .slice none 0 0, .pointer (some ⟨B, 0, none⟩), x6, x7, x8, .slice A n c, .int .i64 (n : Int), .int .i64 (i : Int), y 0, y 1, y 2, y 3, y 4, y 5, z 0, z 1, z 2, z 3, z 4, z 5, z 6, z 7, z 8, z 9, z 10, z 11], defers := dsOf ds }

set_option maxRecDepth 100000 in
set_option maxHeartbeats 4000000 in
theorem steps_any (A : Option Addr) (c n : Nat) (rs : List (List Int)) (w : World) (h : IRR w 0 w.heap.size A rs) (hr : ∀ r, r ∈ rs → rowB r = true) (hn : rs.length = n) (hn4 : n ≤ 4) :
    Calls Try.prog 36 #[.slice A n c, .func (.func 37) #[] #[]] w fun e w' => ∃ A' c', e = .returned (.slice A' (stepsR rs).length c') ∧ ((stepsR rs).length ≤ c' ∧ c' ≤ 9223372036854775807) ∧
      (0 < (stepsR rs).length → ∃ b, A' = some ⟨b, 0, none⟩ ∧ w.heap.size ≤ b ∧ b < w'.heap.size ∧ HoldsK encS 2 w' b 0 ((stepsR rs).mergeSort leS).toArray) ∧ Below w.heap.size w w' := by
  have H := Lib.hid h
  have HR := Lib.hid hr
  have HN := Lib.hid hn
  clear h hr hn
  obtain ⟨B, hB⟩ : ∃ B, w.heap.size = B := ⟨_, rfl⟩
  have HB := Lib.hid hB
  have hb0 := Boxed.new w 57 (.slice none 0 0)
  rw [hB] at hb0
  have HB0 : Hid (StB (w.alloc (.cells #[.slice none 0 0] 57)) w B (stTo rs 0)) := ⟨⟨_, hb0, OwnS.nil _ _ (by simp; omega)⟩, by rw [← hB]; exact (Below.refl _ w).alloc (Nat.le_refl _) _⟩
  clear hb0
  refine (callsIn_wide (n := 6)).1 ?_
  refine callsIn_of_wp_marks Try.func36 rfl trivial ?_ rfl
  simp only [Try.ntmps36, List.size_toArray, List.length_cons, List.length_nil, Nat.reduceAdd, Nat.reduceSub, Array.replicate_succ, Array.replicate_zero, List.push_toArray, List.append_toArray, List.nil_append, List.cons_append]
  gi_wp2
  clear hB
  obtain ⟨I, hI⟩ : ∃ I : Act → World → Prop, I = fun a W => ∃ (i : Nat) (ds : List Nat) (x2 x3 x6 x7 x8 : Value) (y z : Nat → Value), a = stFrame A n c B i (.func (.func 37) #[] #[]) x2 x3 x6 x7 x8 y z ds ∧ i ≤ n ∧ StB W w B (stTo rs i) ∧ Marks W B ds := ⟨_, rfl⟩
  have HI : Hid (I = _) := hI
  refine wpIn_loop I (fun a _ => n - (intOf (a.tmps.getD 11 undef)).toNat) ?start ?round
  case start =>
    rw [hI]
    exact ⟨0, [], undef, undef, undef, undef, undef, fun _ => undef, fun _ => undef, rfl, Nat.zero_le _, HB0.out, List.Pairwise.nil, fun D hD => by cases hD⟩
  case round =>
    clear HB0
    intro a W ha
    rw [hI] at ha
    obtain ⟨i, ds, x2, x3, x6, x7, x8, y, z, rfl, hin, hst, hmk⟩ := ha
    clear hI
    unfold stFrame
    have HM := Lib.hid hmk
    obtain ⟨⟨v, hv, hown⟩, hbw⟩ := hst
    have HV := Lib.hid hv; have HO := Lib.hid hown; have HBW := Lib.hid hbw
    obtain ⟨DS, hDS⟩ : ∃ DS, dsOf ds = DS := ⟨_, rfl⟩
    have HDS := Lib.hid hDS
    rw [hDS]
    clear hmk hv hown hbw hDS
    by_cases hlt : i < n
    · have hir : i < rs.length := by rw [HN.out]; exact hlt
      obtain ⟨b, off, Ak, ck, rfl, hbl, hc, hcl, hrow⟩ := (H.out.below HBW.out (by rw [HB.out]; exact Nat.le_refl _)).at_ hir
      have HROW := Lib.hid hrow
      have hlt' : (i : Int) < (n : Int) := by omega
      have i0 : (0 : Int) ≤ (i : Int) := by omega
      obtain ⟨m, hm⟩ : ∃ m, rs[i].length = m := ⟨_, rfl⟩
      rw [hm] at hc
      have HMM := Lib.hid hm
      clear hrow hm
      gi_wp2_with (refine ⟨trivial, ?_⟩; gi_at_call 50; refine (callsIn_wide.2 (slopes_any _ _ _ _)).mono ?_; rintro e w' ⟨rfl, rfl⟩)
      obtain ⟨X, hX⟩ : ∃ X, (W.alloc (.cells #[.int .i64 (i : Int)] 3)).alloc (.cells #[.slice Ak m ck] 56) = X := ⟨_, rfl⟩
      have hsX : X.heap.size = W.heap.size + 2 := by rw [← hX]; simp
      have hbX : Below W.heap.size W X := by rw [← hX]; exact ((Below.refl _ W).alloc (Nat.le_refl _) _).alloc (by simp) _
      have bI : Boxed X W.heap.size 3 (.int .i64 (i : Int)) := by rw [← hX]; exact (Boxed.new W _ _).alloc _
      have bR : Boxed X (W.heap.size + 1) 56 (.slice Ak m ck) := by
        rw [← hX]
        have := Boxed.new (W.alloc (.cells #[.int .i64 (i : Int)] 3)) 56 (.slice Ak m ck)
        rwa [World.size_alloc] at this
      have hKX : KeepsOthers W X := by rw [← hX]; exact (KeepsOthers.alloc W _).trans (KeepsOthers.alloc _ _)
      rw [hX]
      clear hX
      have hBW := HBW.out.size
      rw [HB.out] at hBW
      have hlB : B < W.heap.size := HV.out.lt
      obtain ⟨S, hS⟩ : ∃ S, W.heap.size = S := ⟨_, rfl⟩
      rw [hS] at hsX hbX bI bR hlB
      rw [hS]
      have hrb := HR.out rs[i] (List.getElem_mem hir)
      have HOX : Hid (OwnS X B v (stTo rs i)) := HO.out.below hbX (Nat.le_of_eq hS)
      have HVX : Hid (Boxed X B 57 v) := (hbX.block B hlB).trans HV.out
      have HBX : Hid (Below B w X) := HBW.out.trans (hbX.mono (by omega))
      have HMX : Hid (Marks X B ds) := HM.out.grow hKX
      have HDL : Hid (∀ D, D ∈ ds → D < S) := fun D hD => by rw [← hS]; exact (Array.getElem?_eq_some_iff.1 (HM.out.2 D hD).2).1
      obtain rfl : m = rs[i].length := HMM.out.symm
      have hbl2 : rs[i].length ≤ 12 := (rowB_true.1 hrb).2.2
      have HSL := Lib.hid (slopesL_len rs[i])
      have hiw : IR X 0 B Ak rs[i] := by rw [← HB.out]; exact HROW.out.below hbX (by rw [HB.out]; omega)
      have hsq := slopes_pf (6 - 1) (S + 1) B ck Ak rs[i] hrb X (by omega) (by omega) bR.cell hiw
      have HHB := Lib.hid hsX; have HSB := Lib.hid hlB; have HII := Lib.hid bI; have HRR := Lib.hid bR; have HL12 := Lib.hid hbl2
      obtain ⟨sl, hsl⟩ : ∃ sl : Fin (slopesL rs[i]).length → Int, sl = fun x => (slopesL rs[i])[x] := ⟨_, rfl⟩
      have HSLF := Lib.hid hsl
      obtain ⟨J, hJ⟩ : ∃ J : List (Fin (slopesL rs[i]).length) → World → Prop, J = fun pre Y => (((∃ v, Boxed Y B 57 v ∧ OwnS Y B v (stTo rs i ++ pre.map fun x => (i, sl x))) ∧ (Boxed Y S 3 (.int .i64 (i : Int)) ∧ Boxed Y (S + 1) 56 (.slice Ak rs[i].length ck))) ∧ Below B w Y) ∧ Marks Y B ds := ⟨_, rfl⟩
      have HJ := Lib.hid hJ
      have hJo : OwnFrom X.heap.size J := by
        rw [hJ]
        refine OwnFrom.and (OwnFrom.and (OwnFrom.and (fun s Y Z row h hg hr => ?_) (OwnFrom.and (Own.from (boxed_own _ _ _) _) (Own.from (boxed_own _ _ _) _))) (ownFrom_below (by rw [HB.out]; exact Nat.le_refl _) (by omega))) (fun s Y Z row h hg hr => ⟨h.1, fun D hD => ⟨(h.2 D hD).1, ?_⟩⟩)
        · obtain ⟨v, h1, h2⟩ := h
          exact ⟨v, (Own.from (boxed_own (β := Unit) _ _ (fun _ => _)) _) () Y Z row h1 hg hr, ownS_own (β := Unit) _ _ _ (fun _ => _) () Y Z row h2 hg hr⟩
        · have hlt := (Array.getElem?_eq_some_iff.1 (h.2 D hD).2).1
          refine (hg.block D hlt fun e => ?_).trans (h.2 D hD).2
          have := (hr D e.symm).1
          have := HDL.out D hD
          omega
      have hJ0 : J [] X := by rw [hJ]; exact ⟨⟨⟨⟨v, HVX.out, by rw [List.map_nil, List.append_nil]; exact HOX.out⟩, HII.out, HRR.out⟩, HBX.out⟩, HMX.out⟩
      have HJO := Lib.hid hJo; have HJ0 := Lib.hid hJ0; have HSQ := Lib.hid hsq
      clear hsX hbX bI bR hKX hBW hlB hrb hbl2 hiw hsq hsl hJ hJo hJ0 hS hc hcl hbl
      refine wpIn_rangeFunc_ownF (F := Fence.wide) ?h1 ?h2 (gf := 62) (lb := #[.pointer (some ⟨S + 1, 0, none⟩)]) ?h3 ?h4 ?h5 HSQ.out ?h6 ?h7 ?h8 ?h9 J (fun _ _ _ => False) HJO.out (fun _ _ _ _ _ hs _ _ => hs) HJ0.out ?a1 ?hassign ?hbody ?hdone ?hstop
      case h1 => rfl
      case h2 => decide
      case h3 => rfl
      case h4 => trivial
      case h5 => exact enters_of Try.func62 (by kernel_rfl) rfl
      case h6 => exact fun h1 h2 => KeepAt.trans h1 h2
      case h7 => exact keepAt_b (by have := HHB.out; have := HSB.out; omega) (by have := HHB.out; omega)
      case h8 => exact Below.refl _ _
      case h9 => exact fun _ => rfl
      case hassign =>
        intro l x Y K hK
        go_simp
        repeat (first | gi_guarded | gi_step | gi_upon | gi_in | gi_back)
        exact hK
      case hbody =>
        rintro l pre x Y hy hlt
        rw [HJ.out] at hy
        obtain ⟨⟨⟨⟨u, hv, ho⟩, hi2, hr2⟩, hb2⟩, hm2⟩ := hy
        have cv := hv.cell; have ci := hi2.cell
        have hll : (stTo rs i ++ pre.map fun x => (i, sl x)).length < 1000000 := by
          have h1 := HSL.out; have h2 := HL12.out
          have h3 : (stTo rs i).length ≤ 12 * i := st_short (fun r hr => (rowB_true.1 (HR.out r hr)).2.2) i
          rw [List.length_append, List.length_map]; omega
        obtain ⟨s, hs⟩ : ∃ s, (slopesL rs[i])[x.1]'x.2 = s := ⟨_, rfl⟩
        rw [hs]
        have HS1 : Hid (sl x = s) := by show _ = _; rw [HSLF.out]; exact hs
        have HV2 := Lib.hid hv; have HO2 := Lib.hid ho; have HI2 := Lib.hid hi2; have HR2 := Lib.hid hr2; have HB2 := Lib.hid hb2; have HM2 := Lib.hid hm2; have HLL := Lib.hid hll
        clear hv ho hi2 hr2 hb2 hm2 hll hs hlt
        gi_wp2_with (gi_at_builtin; refine wpListIn_pushS (i, s) rfl _ _ rfl B _ _ rfl rfl HO2.out HLL.out ?_; intro v' w1 ho1 hg1; obtain ⟨g', cap', rfl⟩ := ownS_some ho1; obtain ⟨p1, p2, p3, p4, p5⟩ := push_box HV2.out HO2.out ho1 hg1; have hc1 := p1.cell; have hf1 := p1.frozen)
        have q1 := push_other (v' := .slice (some ⟨g', 0, none⟩) ((stTo rs i ++ pre.map fun x => (i, sl x)).length + 1) cap') HI2.out (by decide) (by have := HSB.out; omega) HO2.out hg1
        have q2 := push_other (v' := .slice (some ⟨g', 0, none⟩) ((stTo rs i ++ pre.map fun x => (i, sl x)).length + 1) cap') HR2.out (by decide) (by have := HSB.out; omega) HO2.out hg1
        have q3 := push_same (v' := .slice (some ⟨g', 0, none⟩) ((stTo rs i ++ pre.map fun x => (i, sl x)).length + 1) cap') HR2.out (by decide) (by have := HSB.out; omega) HO2.out hg1
        have hlm : (stTo rs i ++ pre.map fun x => (i, sl x)).length = (stTo rs i).length + pre.length := by rw [List.length_append, List.length_map]
        rw [hlm] at p2 p3 p4 p5 q1 q2 q3
        refine ⟨p4, ⟨p5.size, fun k hk => ?_⟩, ?_⟩
        · rcases hk with hk | hk
          · exact p5.block k hk
          · rw [hk]; exact q3
        · rw [HJ.out]
          refine ⟨⟨⟨⟨_, p2, ?_⟩, q1, q2⟩, HB2.out.trans (p5.mono (by omega))⟩, HM2.out.grow p4⟩
          rw [List.map_append, ← List.append_assoc]
          show OwnS _ _ _ (_ ++ [(i, sl x)])
          rw [HS1.out]; exact p3
      case hdone =>
        rintro D ys Y hD rfl hy hK
        rw [HJ.out] at hy
        obtain ⟨⟨⟨⟨u, hv, ho⟩, hi2, hr2⟩, hb2⟩, hm2⟩ := hy
        have HV2 := Lib.hid hv; have HO2 := Lib.hid ho; have HB2 := Lib.hid hb2; have HM2 := Lib.hid hm2; have HK2 := Lib.hid hK; have HD2 := Lib.hid hD
        clear hv ho hi2 hr2 hb2 hm2 hK hD
        gi_wp2
        have ei : ((i + 1 : Nat) : Int) = (i : Int) + 1 := by omega
        have hst : stTo rs (i + 1) = stTo rs i ++ (List.finRange (slopesL rs[i]).length).map fun x => (i, sl x) := by
          simp only [stTo]
          congr 1
          rw [rowAt_get hir]
          refine List.ext_getElem (by simp) fun j h1 h2 => ?_
          have hsl2 : ∀ x, sl x = (slopesL rs[i])[x] := fun x => by rw [HSLF.out]
          rw [List.getElem_map, List.getElem_map, List.getElem_finRange, hsl2]; rfl
        refine ⟨?_, by simp [intOf]; omega⟩
        rw [HI.out]
        refine ⟨i + 1, D :: ds, x2, x3, .pointer (some ⟨S, 0, none⟩), .slice Ak rs[i].length ck, x8, fun j => ([.bool true, .int .i64 (i : Int), .pointer (some ⟨b, off + i, none⟩), .slice Ak rs[i].length ck, .slice Ak rs[i].length ck, .func (.func 62) #[] #[.pointer (some ⟨S + 1, 0, none⟩)]] : List Value).getD j undef, fun j => if j = 7 then .int .i64 ((i : Int) + 1) else z j, ?_, by omega, ⟨⟨u, HV2.out, by rw [hst]; exact HO2.out⟩, HB2.out⟩, List.pairwise_cons.2 ⟨fun E hE => ?_, HM2.out.1⟩, fun E hE => ?_⟩
        · unfold stFrame
          rw [ei, ← HDS.out]; rfl
        · have := HDL.out E hE; have := HD2.out; have := HHB.out; omega
        · rcases List.mem_cons.1 hE with rfl | hE
          · exact ⟨by have := HD2.out; have := HHB.out; have := HSB.out; omega, HK2.out⟩
          · exact HM2.out.2 E hE
      case hstop => exact fun _ _ _ _ _ _ h _ => h.elim
    · obtain rfl : i = n := by omega
      have hlt' : ¬ (i : Int) < (i : Int) := by omega
      have hSR : stTo rs i = stepsR rs := by unfold stepsR; rw [HN.out]
      rw [hSR] at HO
      have c0 := HV.out.cell
      have hlen : (stepsR rs).length ≤ 48 := by
        have := st_short (fun r hr => (rowB_true.1 (HR.out r hr)).2.2) i
        rw [hSR] at this; omega
      have HLE := Lib.hid hlen
      rcases HO.out.1.2 with ⟨rfl, h0⟩ | ⟨g, cap, cur, rfl, hg, hh, hnc, hcm, -⟩
      · have HC := Lib.hid (fun W => AnyF.slices_SortFunc_none { sortF_lays with } none 0 (.func (.func 37) #[] #[]) W)
        have H0 := Lib.hid h0
        clear h0 hSR hlen
        gi_wp2_with (refine ⟨trivial, ?_⟩; gi_at_call 51; refine (callsIn_wide.2 (HC.out _)).mono ?_; rintro e w' ⟨rfl, rfl⟩)
        show LeavesInM _ _ _ _ _ _ DS .returning _
        rw [← HDS.out]
        refine marks_leave (B := B) ds _ HM.out fun W' hb hk => ⟨_, results_tmp rfl _ _ _, none, 0, by rw [H0.out]; rfl, by rw [H0.out]; omega, fun h => by rw [H0.out] at h; omega, by rw [HB.out]; exact HBW.out.trans hb⟩
      · obtain ⟨e1, -, e3, e4⟩ := HO.out.holds
        have eg : ∀ args w, (callFunc 37 args).run Try.prog w = .ok (.enter 37 args) w := enters_of Try.func37 (by kernel_rfl) rfl
        have hC := (AnyQ.slices_SortFunc_total sortF_lays 2 Try.isAgg61 Try.sizeOf61 encS (fun _ => rfl) (fun x v hv => by simp [encS] at hv; rcases hv with rfl | rfl <;> rfl) cfS swoS 37 #[] g 0 cap (stepsR rs).toArray W eg (cmpS g 0 _ W) e4 e3 (by rw [List.size_toArray]; omega) totS)
        change Calls Try.prog 51 #[.slice (some ⟨g, 0, none⟩) (stepsR rs).length cap, .func (.func 37) #[] #[]] W _ at hC
        have HC := Lib.hid hC
        have HNE : Hid (B ≠ g) := by
          intro e
          have h1 : W.heap[B]? = some (.cells #[.slice (some ⟨g, 0, none⟩) (stepsR rs).length cap] 57 (0, 0)) := HV.out
          rw [e, hh] at h1
          simp at h1
        clear hC
        have HE4 := Lib.hid e4; have HE3 := Lib.hid e3; have HG := Lib.hid hg; have HHH := Lib.hid hh; have HCP := Lib.hid (And.intro hnc hcm)
        clear e1 e3 e4 hSR hlen eg hg hh hnc hcm
        gi_wp2_with (refine ⟨trivial, ?_⟩; gi_at_call 51; refine (callsIn_wide.2 HC.out).mono ?_; rintro e w' ⟨rfl, nq, os, hw⟩; have c1 : w'.cell? ⟨B, 0, none⟩ = some (.slice (some ⟨g, 0, none⟩) (stepsR rs).length cap) := (by rw [hw]; exact (World.cell?_of_block (a := ⟨B, 0, none⟩) (sw_block HNE.out HV.out.lt)).trans HV.out.cell); have HW := Lib.hid hw; clear hw)
        have hmw : Marks w' B ds := ⟨HM.out.1, fun D hD => ⟨(HM.out.2 D hD).1, by
          rw [HW.out]
          refine (sw_block ?_ (Array.getElem?_eq_some_iff.1 (HM.out.2 D hD).2).1).trans (HM.out.2 D hD).2
          intro e
          have h1 := (HM.out.2 D hD).2
          rw [e, HHH.out] at h1
          simp at h1⟩⟩
        have hgd : g ∉ ds := fun e => by
          have h1 := (HM.out.2 g e).2
          rw [HHH.out] at h1
          simp at h1
        have hbw : Below B W w' := by rw [HW.out]; exact sw_below HG.out (by have := HBW.out.size; rw [HB.out] at this; exact this)
        have hgs : g < w'.heap.size := Nat.lt_of_lt_of_le HE3.out hbw.size
        have hho : HoldsK encS 2 w' g 0 ((stepsR rs).mergeSort leS).toArray := by
          rw [HW.out]
          exact holdsK_sortWorldK_c encS 2 W g 0 (stepsR rs).toArray _ nq os HE4.out HE3.out (by simp)
        show LeavesInM _ _ _ _ _ _ DS .returning _
        rw [← HDS.out]
        refine marks_leave (B := B) ds _ hmw fun W' hb hk => ⟨_, results_tmp rfl _ _ _, some ⟨g, 0, none⟩, cap, rfl, ⟨HCP.out.1, by have := HCP.out.2; unfold maxLen at this; omega⟩, fun _ => ⟨g, rfl, by rw [HB.out]; exact HG.out, Nat.lt_of_lt_of_le hgs hb.size, holdsK_block hho (hk g hgs hgd)⟩, by rw [HB.out]; exact (HBW.out.trans hbw).trans hb⟩
end Go.Proofs.Ytanoojpmokbiaab

namespace Go.Proofs.Ytanoojpmokbiaab
open Go.RowKit Go.Shelf Go.Lib Go.Sort

theorem holdsK_at {W : World} {b : Nat} {L : List (Nat × Int)} (h : HoldsK encS 2 W b 0 L.toArray) {k : Nat} (hk : k < L.length) : W.cell? ⟨b, k * 2, none⟩ = some (.int .i64 (L[k].1 : Int)) ∧ W.cell? ⟨b, k * 2 + 1, none⟩ = some (.int .i64 L[k].2) := by
  have hs : (flatK encS 2 L.toArray).size = L.length * 2 := by rw [size_flatK, List.size_toArray]
  have h1 := (h (k * 2) (by rw [hs]; omega)).1
  have h2 := (h (k * 2 + 1) (by rw [hs]; omega)).1
  rw [get_flatK _ _ _ _ (by rw [List.size_toArray]; omega)] at h1 h2
  have e1 : k * 2 / 2 = k := by omega
  have e2 : k * 2 % 2 = 0 := by omega
  have e3 : (k * 2 + 1) / 2 = k := by omega
  have e4 : (k * 2 + 1) % 2 = 1 := by omega
  have e5 : L.toArray[k]! = L[k] := by rw [getElem!_pos _ _ (by simpa using hk)]; simp
  rw [e1, e2, e5, Nat.zero_add] at h1
  rw [e3, e4, e5, Nat.zero_add] at h2
  exact ⟨h1, h2⟩

set_option maxRecDepth 100000 in
set_option maxHeartbeats 4000000 in
theorem greedyS_any (A : Option Addr) (c N n' : Nat) (rs : List (List Int)) (w : World) (h : IRR w 0 w.heap.size A rs) (hg : givenB rs = true) (hb : bentsB rs = true) (hk : (n' : Int) ≤ mostL rs) (hN : rs.length = N) :
    Calls Try.prog 27 #[.slice A N c, .int .i64 (n' : Int)] w (RetS w (greedyTo rs n')) := by
  obtain ⟨g1, g2, g3⟩ := given_true.1 hg
  have hlen : ((stepsR rs).length : Int) = mostL rs := steps_len fun r hr => row_pos (g1 r hr)
  obtain ⟨LL, hLL⟩ : ∃ LL, (stepsR rs).mergeSort leS = LL := ⟨_, rfl⟩
  have hls : LL.length = (stepsR rs).length := by rw [← hLL]; exact (List.mergeSort_perm _ _).length_eq
  have hmem : ∀ x, x ∈ LL → x.1 < N := fun x hx => by
    rw [← hLL] at hx
    rw [← hN]; exact st_mem ((List.mergeSort_perm _ _).subset hx)
  have hgr : plcs N (LL.take n') = greedyTo rs n' := by
    rw [← hLL, ← hN]; exact greedy_steps (bents_true hb) (by omega)
  have hml := (most_le hg).2
  have hmk := run_makeInts N (by omega) w
  have hC0 := Cells.made w N 3
  have hbw : Below w.heap.size w (w.alloc (.cells (madeCells #[.int .i64 0] N) 3)) := (Below.refl _ w).alloc (Nat.le_refl _) _
  have hst := steps_any A c N rs (w.alloc (.cells (madeCells #[.int .i64 0] N) 3)) ((h.grow hbw).toAll) g1 hN (by omega)
  rw [hLL] at hst
  obtain ⟨P, hP⟩ : ∃ P, w.heap.size = P := ⟨_, rfl⟩
  obtain ⟨M, hM⟩ : ∃ M, (stepsR rs).length = M := ⟨_, rfl⟩
  rw [hM] at hst hls hlen
  have HST := Lib.hid hst; have HC0 := Lib.hid hC0; have HBW := Lib.hid hbw; have HGR := Lib.hid hgr; have HLS := Lib.hid hls; have HMEM := Lib.hid hmem; have HP := Lib.hid hP
  have hnM : n' ≤ M := by omega
  have hM48 : M ≤ 48 := by omega
  have hN4 : N ≤ 4 := by omega
  rw [hP] at hmk
  clear hst hC0 hbw hgr hls hmem hP h hg hb hk hlen hLL hml hM g1 g2 g3 hN
  go_enter Try.func27, Try.ntmps27
  go_wp2_with fail
  refine HST.out.mono ?_
  rintro e w2 ⟨A2, c2, rfl, ⟨hc2, hc3⟩, hho, hb2⟩
  have hsz2 : P + 1 ≤ w2.heap.size := by have := hb2.size; rw [World.size_alloc, HP.out] at this; exact this
  have hCw : Cells w2 P 0 (plcs N (LL.take 0)) := by
    have e : plcs N (LL.take 0) = List.replicate N 0 := by
      refine List.ext_getElem (by simp [plcs]) fun j h1 h2 => ?_
      simp [plcs, cntR]
    rw [e]
    have := HC0.out
    rw [HP.out] at this
    exact this.grow hb2 (by rw [World.size_alloc, HP.out]; omega)
  have HCW := Lib.hid hCw; have HB2 := Lib.hid (below_then HBW.out (Nat.le_refl _) hb2); have HSZ := Lib.hid hsz2
  have nc : (n' : Int) ≤ (c2 : Int) := by omega
  have n0 : (0 : Int) ≤ (n' : Int) := by omega
  have tn : ((n' : Int)).toNat = n' := by omega
  by_cases hM0 : 0 < M
  · obtain ⟨b, rfl, hb3, hb4, hb5⟩ := hho hM0
    have HHO := Lib.hid hb5; have HB4 := Lib.hid hb4
    have hbP : P < b := by rw [World.size_alloc, HP.out] at hb3; omega
    clear hho hb2 hCw hb3 hb4 hb5 hsz2
    go_wp2
    go_loopw [16] (fun v W => ∃ k : Nat, k ≤ n' ∧ v = .int .i64 (k : Int) ∧ Cells W P 0 (plcs N (LL.take k)) ∧ HoldsK encS 2 W b 0 LL.toArray ∧ Below w.heap.size w W ∧ (P + 1 ≤ W.heap.size ∧ b < W.heap.size)) (fun v _ => n' - (intOf v).toNat)
    case atStart => exact ⟨0, Nat.zero_le _, rfl, HCW.out, HHO.out, HB2.out, HSZ.out, HB4.out⟩
    case round =>
      clear HCW HHO HB2 HSZ HB4
      obtain ⟨W, hW⟩ : ∃ W, W = wr := ⟨_, rfl⟩
      subst hW
      obtain ⟨k, hk, rfl, hC, hO, hB, hs1, hs2⟩ := hrel
      by_cases hkn : k < n'
      · have hkn' : (k : Int) < (n' : Int) := by omega
        have k0 : (0 : Int) ≤ (k : Int) := by omega
        have hkl : k < LL.length := by have := HLS.out; omega
        obtain ⟨ca, cb⟩ := holdsK_at hO hkl
        have hrm := HMEM.out _ (List.getElem_mem hkl)
        have hsn : plcs N (LL.take (k + 1)) = (plcs N (LL.take k)).set LL[k].1 ((plcs N (LL.take k)).getD LL[k].1 0 + 1) := by
          rw [List.take_add_one, List.getElem?_eq_getElem hkl]
          exact plcs_snoc _ hrm
        have hpv := plcs_getD (LL.take k) hrm
        have hcn : cntR (LL.take k) LL[k].1 ≤ 48 := by
          unfold cntR
          have h1 := List.length_filter_le (fun x => decide (x.1 = LL[k].1)) (LL.take k)
          rw [List.length_take] at h1
          have := HLS.out; omega
        obtain ⟨r, hr⟩ : ∃ r, LL[k].1 = r := ⟨_, rfl⟩
        obtain ⟨s, hs⟩ : ∃ s, LL[k].2 = s := ⟨_, rfl⟩
        rw [hr] at ca hrm hsn hpv hcn
        rw [hs] at cb
        have hrl : r < (plcs N (LL.take k)).length := by rw [plcs_len]; exact hrm
        obtain ⟨x, hx⟩ : ∃ x, (plcs N (LL.take k)).getD r 0 = x := ⟨_, rfl⟩
        rw [hx] at hsn hpv
        have hal : Below W.heap.size W (W.alloc (.cells #[.int .i64 (r : Int), .int .i64 s] 61)) := (Below.refl _ W).alloc (Nat.le_refl _) _
        have hC2 : Cells (W.alloc (.cells #[.int .i64 (r : Int), .int .i64 s] 61)) P 0 (plcs N (LL.take k)) := hC.grow hal (by omega)
        obtain ⟨cp, fp⟩ := hC2 r hrl
        rw [← getD_at hrl, hx, Nat.zero_add] at cp
        rw [Nat.zero_add] at fp
        have hnw := World.alloc_heap_new W (.cells #[.int .i64 (r : Int), .int .i64 s] 61)
        have cn := cell_of_row _ W.heap.size 0 _ _ _ hnw
        have cn' : (W.alloc (.cells #[.int .i64 (r : Int), .int .i64 s] 61)).cell? ⟨W.heap.size, 0, none⟩ = some (.int .i64 (r : Int)) := cn
        have HCN : Hid (Cells ((W.alloc (.cells #[.int .i64 (r : Int), .int .i64 s] 61)).setCell ⟨P, r, none⟩ (.int .i64 (x + 1))) P 0 (plcs N (LL.take (k + 1)))) := by
          show Cells _ _ _ _
          rw [hsn]
          have := hC2.set_ r hrl (x + 1)
          rwa [Nat.zero_add] at this
        have HON : Hid (HoldsK encS 2 ((W.alloc (.cells #[.int .i64 (r : Int), .int .i64 s] 61)).setCell ⟨P, r, none⟩ (.int .i64 (x + 1))) b 0 LL.toArray) := holdsK_block hO ((heap_setCell_other _ ⟨P, r, none⟩ b _ (by show b ≠ P; omega)).trans (Below.heap_alloc _ _ _ hs2))
        have HBN : Hid (Below w.heap.size w ((W.alloc (.cells #[.int .i64 (r : Int), .int .i64 s] 61)).setCell ⟨P, r, none⟩ (.int .i64 (x + 1)))) := (hB.trans (hal.mono hB.size)).setCell (p := ⟨P, r, none⟩) (by show w.heap.size ≤ P; rw [HP.out]; exact Nat.le_refl _) _
        have HSN : Hid (P + 1 ≤ ((W.alloc (.cells #[.int .i64 (r : Int), .int .i64 s] 61)).setCell ⟨P, r, none⟩ (.int .i64 (x + 1))).heap.size ∧ b < ((W.alloc (.cells #[.int .i64 (r : Int), .int .i64 s] 61)).setCell ⟨P, r, none⟩ (.int .i64 (x + 1))).heap.size) := by
          show _ ∧ _
          simp [World.setCell]; omega
        have r0 : (0 : Int) ≤ (r : Int) := by omega
        have rN : (r : Int) < (N : Int) := by omega
        have s1 : IntKind.i64.wrap (x + 1) = x + 1 := IntWalk.i64_in _ (by omega)
        clear hC hO hB hs1 hs2 hsn hpv hcn hr hs hx hC2 hnw cn hal hrm
        go_wp2
        go_roundw
        case rel => exact ⟨k + 1, by omega, by go_num, HCN.out, HON.out, HBN.out, HSN.out.1, HSN.out.2⟩
        case measure => simp [intOf]; omega
      · obtain rfl : k = n' := by omega
        have hkn' : ¬ (k : Int) < (k : Int) := by omega
        rw [HGR.out] at hC
        have hgl : (greedyTo rs k).length = N := by rw [← HGR.out, plcs_len]
        have HGL := Lib.hid hgl
        have HIW := Lib.hid (hC.iw (lo := w.heap.size) (hi := W.heap.size) hgl (by rw [HP.out]; exact Nat.le_refl _) (by omega) (Nat.le_refl _) (by omega) (fun z hz => by
          rw [← HGR.out] at hz
          obtain ⟨j, -, rfl⟩ := List.mem_map.1 hz
          have h1 := List.length_filter_le (fun x => decide (x.1 = j)) (LL.take k)
          rw [List.length_take] at h1
          have := HLS.out
          unfold cntR
          exact ⟨by omega, by omega⟩))
        have HB := Lib.hid hB
        clear hC hO hB hs1 hs2 hgl
        go_wp2
        go_ret
        exact ⟨_, N, by rw [HGL.out]; rfl, HIW.out, HB.out⟩
  · obtain rfl : M = 0 := by omega
    obtain rfl : n' = 0 := by omega
    have hgr := HGR.out
    have hCW := HCW.out
    rw [hgr] at hCW
    have hgl : (greedyTo rs 0).length = N := by rw [← hgr, plcs_len]
    have HGL := Lib.hid hgl
    have HIW := Lib.hid (hCW.iw (lo := w.heap.size) (hi := w2.heap.size) hgl (by rw [HP.out]; exact Nat.le_refl _) (by have := HSZ.out; omega) (Nat.le_refl _) (by omega) (fun z hz => by
      rw [← hgr] at hz
      obtain ⟨j, -, rfl⟩ := List.mem_map.1 hz
      exact ⟨by simp [cntR], by simp [cntR]⟩))
    clear hho hb2 hCw hsz2 hgr hCW hgl
    have n00 : ¬ (0 : Int) < ((0 : Nat) : Int) := by decide
    cases A2 with
    | none =>
      go_wp2
      refine wp_loop_rounds 1 ?_
      rw [rounds_succ]
      go_wp2
      go_ret
      exact ⟨_, N, by rw [HGL.out]; rfl, HIW.out, HB2.out⟩
    | some a2 =>
      go_wp2
      refine wp_loop_rounds 1 ?_
      rw [rounds_succ]
      go_wp2
      go_ret
      exact ⟨_, N, by rw [HGL.out]; rfl, HIW.out, HB2.out⟩

set_option maxRecDepth 100000 in
set_option maxHeartbeats 1000000 in
theorem areBent_any (A : Option Addr) (c : Nat) (rs : List (List Int)) (w : World) (h : IRR w 0 w.heap.size A rs) (hr : ∀ r, r ∈ rs → rowB r = true) :
    Calls Try.prog 26 #[.slice A rs.length c] w fun e w' => e = .returned (.bool (bentsB rs)) ∧ Below w.heap.size w w' := by
  have HC := Lib.hid (all_isBent A c rs w h (fun k hk => hr _ (List.getElem_mem hk)))
  have HE : Hid (rs.all bentB = bentsB rs) := rfl
  rw [HE.out] at HC
  clear h hr
  go_enter Try.func26, Try.ntmps26
  go_wp2_with fail
  refine HC.out.mono ?_
  rintro e w1 ⟨rfl, hb⟩
  have HB := Lib.hid hb
  clear hb
  go_wp2
  go_ret
  exact ⟨rfl, HB.out⟩

set_option maxRecDepth 100000 in
set_option maxHeartbeats 1000000 in
theorem implShareGreedy_any (A : Option Addr) (c : Nat) (rs : List (List Int)) (n : Int) (w : World) (h : IRR w 0 w.heap.size A rs) :
    Calls Try.prog 8 #[.slice A rs.length c, .int .i64 n] w (RetSB w (greedyM rs n)) := by
  have H := Lib.hid h
  clear h
  obtain ⟨q, hq⟩ : ∃ q, shareOk rs n = q := ⟨_, rfl⟩
  have HQ := Lib.hid hq
  clear hq
  go_enter Try.func8, Try.ntmps8
  go_wp2_with fail
  refine (canShare_of H.out HQ.out rfl).mono ?_
  rintro e w1 ⟨rfl, hb⟩
  have HB := Lib.hid hb
  have H1 := Lib.hid (H.out.grow hb)
  clear hb
  cases q with
  | false =>
    have HM := Lib.hid (greedy_not (rs := rs) (n := n) (by rw [HQ.out]; rfl))
    go_wp2
    go_ret2
    rw [HM.out]
    exact retSB_none HB.out
  | true =>
    obtain ⟨g1, -, -, g4, g5⟩ := share_true HQ.out
    have HBA := Lib.hid (areBent_any A c rs w1 H1.out.toAll g1)
    obtain ⟨p, hp⟩ : ∃ p, bentsB rs = p := ⟨_, rfl⟩
    have HP := Lib.hid hp
    rw [hp] at HBA
    obtain ⟨n', rfl⟩ : ∃ k : Nat, n = (k : Int) := ⟨n.toNat, by omega⟩
    have hgv : givenB rs = true := by
      have := HQ.out
      unfold shareOk at this
      rw [Bool.and_eq_true] at this
      exact this.1
    have HGV := Lib.hid hgv; have HG5 := Lib.hid g5
    clear hp g1 g4 g5 hgv
    cases p with
    | false =>
      have HM := Lib.hid (greedy_not (rs := rs) (n := (n' : Int)) (by rw [HP.out, Bool.and_false]))
      go_wp2_with fail
      refine HBA.out.mono ?_
      rintro e w2 ⟨rfl, hb⟩
      have HB2 := Lib.hid (below_then HB.out (Nat.le_refl _) hb)
      clear hb
      go_wp2
      go_ret2
      rw [HM.out]
      exact retSB_none HB2.out
    | true =>
      have HM := Lib.hid (greedy_yes HQ.out HP.out)
      go_wp2_with fail
      refine HBA.out.mono ?_
      rintro e w2 ⟨rfl, hb⟩
      have HB2 := Lib.hid (below_then HB.out (Nat.le_refl _) hb)
      have HR2 := Lib.hid ((H1.out.grow hb).toAll)
      clear hb
      have HGS := Lib.hid (greedyS_any A c rs.length n' rs w2 HR2.out HGV.out HP.out HG5.out rfl)
      go_wp2_with fail
      refine HGS.out.mono ?_
      rintro e w3 ⟨A3, c3, rfl, hi3, hb3⟩
      have HI3 := Lib.hid (hi3.wide HB2.out.size (Nat.le_refl _) (Nat.le_refl _)); have HB3 := Lib.hid (below_then HB2.out (Nat.le_refl _) hb3)
      clear hi3 hb3
      go_wp2
      go_ret2
      rw [HM.out]
      exact retSB_some rfl HI3.out HB3.out
end Go.Proofs.Ytanoojpmokbiaab
