/-
  The greedy sharing of the program: greedy and ShareGreedy. Conditions: the rows' cells are there.
-/
import Derived.Test.YtanoojpmokbiaabGrD
import Derived.Test.YtanoojpmokbiaabGrA
namespace Go.Proofs.Ytanoojpmokbiaab
open Go.RowKit Go.Shelf Go.Lib Go.Sort

theorem holdsK_at {W : World} {b : Nat} {L : List (Nat × Int)} (h : HoldsK encS 2 W b 0 L.toArray) {k : Nat} (hk : k < L.length) : W.cell? ⟨b, k * 2, none⟩ = some (.int .i64 (L[k].1 : Int)) ∧ W.cell? ⟨b, k * 2 + 1, none⟩ = some (.int .i64 L[k].2) := by
  have hs : (flatK encS 2 L.toArray).size = L.length * 2 := by rw [size_flatK, List.size_toArray]
  have h1 := (h (k * 2) (by rw [hs]; omega)).1
  have h2 := (h (k * 2 + 1) (by rw [hs]; omega)).1
  rw [get_flatK _ _ _ _ (by rw [List.size_toArray]; omega)] at h1 h2
  have e1 : k * 2 / 2 = k := by omega
  have e2 : k * 2 % 2 = 0 := by omega
  have e3 : (k * 2 + 1) / 2 = k := by omega
  have e4 : (k * 2 + 1) % 2 = 1 := by omega
  have e5 : L.toArray[k]! = L[k] := by rw [getElem!_pos _ _ (by simpa using hk)]; simp
  rw [e1, e2, e5, Nat.zero_add] at h1
  rw [e3, e4, e5, Nat.zero_add] at h2
  exact ⟨h1, h2⟩

set_option maxRecDepth 100000 in
set_option maxHeartbeats 4000000 in
theorem greedyS_any (A : Option Addr) (c N n' : Nat) (rs : List (List Int)) (w : World) (h : IRR w 0 w.heap.size A rs) (hg : givenB rs = true) (hb : bentsB rs = true) (hk : (n' : Int) ≤ mostL rs) (hN : rs.length = N) :
    Calls Try.prog 27 #[.slice A N c, .int .i64 (n' : Int)] w (RetS w (greedyTo rs n')) := by
  obtain ⟨g1, g2, g3⟩ := given_true.1 hg
  have hlen : ((stepsR rs).length : Int) = mostL rs := steps_len fun r hr => row_pos (g1 r hr)
  obtain ⟨LL, hLL⟩ : ∃ LL, (stepsR rs).mergeSort leS = LL := ⟨_, rfl⟩
  have hls : LL.length = (stepsR rs).length := by rw [← hLL]; exact (List.mergeSort_perm _ _).length_eq
  have hmem : ∀ x, x ∈ LL → x.1 < N := fun x hx => by
    rw [← hLL] at hx
    rw [← hN]; exact st_mem ((List.mergeSort_perm _ _).subset hx)
  have hgr : plcs N (LL.take n') = greedyTo rs n' := by
    rw [← hLL, ← hN]; exact greedy_steps (bents_true hb) (by omega)
  have hml := (most_le hg).2
  have hmk := run_makeInts N (by omega) w
  have hC0 := Cells.made w N 3
  have hbw : Below w.heap.size w (w.alloc (.cells (madeCells #[.int .i64 0] N) 3)) := (Below.refl _ w).alloc (Nat.le_refl _) _
  have hst := steps_any A c N rs (w.alloc (.cells (madeCells #[.int .i64 0] N) 3)) ((h.grow hbw).toAll) g1 hN (by omega)
  rw [hLL] at hst
  obtain ⟨P, hP⟩ : ∃ P, w.heap.size = P := ⟨_, rfl⟩
  obtain ⟨M, hM⟩ : ∃ M, (stepsR rs).length = M := ⟨_, rfl⟩
  rw [hM] at hst hls hlen
  have HST := Lib.hid hst; have HC0 := Lib.hid hC0; have HBW := Lib.hid hbw; have HGR := Lib.hid hgr; have HLS := Lib.hid hls; have HMEM := Lib.hid hmem; have HP := Lib.hid hP
  have hnM : n' ≤ M := by omega
  have hM48 : M ≤ 48 := by omega
  have hN4 : N ≤ 4 := by omega
  rw [hP] at hmk
  clear hst hC0 hbw hgr hls hmem hP h hg hb hk hlen hLL hml hM g1 g2 g3 hN
  go_enter Try.func27, Try.ntmps27
  go_wp2_with fail
  refine HST.out.mono ?_
  rintro e w2 ⟨A2, c2, rfl, ⟨hc2, hc3⟩, hho, hb2⟩
  have hsz2 : P + 1 ≤ w2.heap.size := by have := hb2.size; rw [World.size_alloc, HP.out] at this; exact this
  have hCw : Cells w2 P 0 (plcs N (LL.take 0)) := by
    have e : plcs N (LL.take 0) = List.replicate N 0 := by
      refine List.ext_getElem (by simp [plcs]) fun j h1 h2 => ?_
      simp [plcs, cntR]
    rw [e]
    have := HC0.out
    rw [HP.out] at this
    exact this.grow hb2 (by rw [World.size_alloc, HP.out]; omega)
  have HCW := Lib.hid hCw; have HB2 := Lib.hid (below_then HBW.out (Nat.le_refl _) hb2); have HSZ := Lib.hid hsz2
  have nc : (n' : Int) ≤ (c2 : Int) := by omega
  have n0 : (0 : Int) ≤ (n' : Int) := by omega
  have tn : ((n' : Int)).toNat = n' := by omega
  by_cases hM0 : 0 < M
  · obtain ⟨b, rfl, hb3, hb4, hb5⟩ := hho hM0
    have HHO := Lib.hid hb5; have HB4 := Lib.hid hb4
    have hbP : P < b := by rw [World.size_alloc, HP.out] at hb3; omega
    clear hho hb2 hCw hb3 hb4 hb5 hsz2
    go_wp2
    go_loopw [16] (fun v W => ∃ k : Nat, k ≤ n' ∧ v = .int .i64 (k : Int) ∧ Cells W P 0 (plcs N (LL.take k)) ∧ HoldsK encS 2 W b 0 LL.toArray ∧ Below w.heap.size w W ∧ (P + 1 ≤ W.heap.size ∧ b < W.heap.size)) (fun v _ => n' - (intOf v).toNat)
    case atStart => exact ⟨0, Nat.zero_le _, rfl, HCW.out, HHO.out, HB2.out, HSZ.out, HB4.out⟩
    case round =>
      clear HCW HHO HB2 HSZ HB4
      obtain ⟨W, hW⟩ : ∃ W, W = wr := ⟨_, rfl⟩
      subst hW
      obtain ⟨k, hk, rfl, hC, hO, hB, hs1, hs2⟩ := hrel
      by_cases hkn : k < n'
      · have hkn' : (k : Int) < (n' : Int) := by omega
        have k0 : (0 : Int) ≤ (k : Int) := by omega
        have hkl : k < LL.length := by have := HLS.out; omega
        obtain ⟨ca, cb⟩ := holdsK_at hO hkl
        have hrm := HMEM.out _ (List.getElem_mem hkl)
        have hsn : plcs N (LL.take (k + 1)) = (plcs N (LL.take k)).set LL[k].1 ((plcs N (LL.take k)).getD LL[k].1 0 + 1) := by
          rw [List.take_add_one, List.getElem?_eq_getElem hkl]
          exact plcs_snoc _ hrm
        have hpv := plcs_getD (LL.take k) hrm
        have hcn : cntR (LL.take k) LL[k].1 ≤ 48 := by
          unfold cntR
          have h1 := List.length_filter_le (fun x => decide (x.1 = LL[k].1)) (LL.take k)
          rw [List.length_take] at h1
          have := HLS.out; omega
        obtain ⟨r, hr⟩ : ∃ r, LL[k].1 = r := ⟨_, rfl⟩
        obtain ⟨s, hs⟩ : ∃ s, LL[k].2 = s := ⟨_, rfl⟩
        rw [hr] at ca hrm hsn hpv hcn
        rw [hs] at cb
        have hrl : r < (plcs N (LL.take k)).length := by rw [plcs_len]; exact hrm
        obtain ⟨x, hx⟩ : ∃ x, (plcs N (LL.take k)).getD r 0 = x := ⟨_, rfl⟩
        rw [hx] at hsn hpv
        have hal : Below W.heap.size W (W.alloc (.cells #[.int .i64 (r : Int), .int .i64 s] 61)) := (Below.refl _ W).alloc (Nat.le_refl _) _
        have hC2 : Cells (W.alloc (.cells #[.int .i64 (r : Int), .int .i64 s] 61)) P 0 (plcs N (LL.take k)) := hC.grow hal (by omega)
        obtain ⟨cp, fp⟩ := hC2 r hrl
        rw [← getD_at hrl, hx, Nat.zero_add] at cp
        rw [Nat.zero_add] at fp
        have hnw := World.alloc_heap_new W (.cells #[.int .i64 (r : Int), .int .i64 s] 61)
        have cn := cell_of_row _ W.heap.size 0 _ _ _ hnw
        have cn' : (W.alloc (.cells #[.int .i64 (r : Int), .int .i64 s] 61)).cell? ⟨W.heap.size, 0, none⟩ = some (.int .i64 (r : Int)) := cn
        have HCN : Hid (Cells ((W.alloc (.cells #[.int .i64 (r : Int), .int .i64 s] 61)).setCell ⟨P, r, none⟩ (.int .i64 (x + 1))) P 0 (plcs N (LL.take (k + 1)))) := by
          show Cells _ _ _ _
          rw [hsn]
          have := hC2.set_ r hrl (x + 1)
          rwa [Nat.zero_add] at this
        have HON : Hid (HoldsK encS 2 ((W.alloc (.cells #[.int .i64 (r : Int), .int .i64 s] 61)).setCell ⟨P, r, none⟩ (.int .i64 (x + 1))) b 0 LL.toArray) := holdsK_block hO ((heap_setCell_other _ ⟨P, r, none⟩ b _ (by show b ≠ P; omega)).trans (Below.heap_alloc _ _ _ hs2))
        have HBN : Hid (Below w.heap.size w ((W.alloc (.cells #[.int .i64 (r : Int), .int .i64 s] 61)).setCell ⟨P, r, none⟩ (.int .i64 (x + 1)))) := (hB.trans (hal.mono hB.size)).setCell (p := ⟨P, r, none⟩) (by show w.heap.size ≤ P; rw [HP.out]; exact Nat.le_refl _) _
        have HSN : Hid (P + 1 ≤ ((W.alloc (.cells #[.int .i64 (r : Int), .int .i64 s] 61)).setCell ⟨P, r, none⟩ (.int .i64 (x + 1))).heap.size ∧ b < ((W.alloc (.cells #[.int .i64 (r : Int), .int .i64 s] 61)).setCell ⟨P, r, none⟩ (.int .i64 (x + 1))).heap.size) := by
          show _ ∧ _
          simp [World.setCell]; omega
        have r0 : (0 : Int) ≤ (r : Int) := by omega
        have rN : (r : Int) < (N : Int) := by omega
        have s1 : IntKind.i64.wrap (x + 1) = x + 1 := IntWalk.i64_in _ (by omega)
        clear hC hO hB hs1 hs2 hsn hpv hcn hr hs hx hC2 hnw cn hal hrm
        go_wp2
        go_roundw
        case rel => exact ⟨k + 1, by omega, by go_num, HCN.out, HON.out, HBN.out, HSN.out.1, HSN.out.2⟩
        case measure => simp [intOf]; omega
      · obtain rfl : k = n' := by omega
        have hkn' : ¬ (k : Int) < (k : Int) := by omega
        rw [HGR.out] at hC
        have hgl : (greedyTo rs k).length = N := by rw [← HGR.out, plcs_len]
        have HGL := Lib.hid hgl
        have HIW := Lib.hid (hC.iw (lo := w.heap.size) (hi := W.heap.size) hgl (by rw [HP.out]; exact Nat.le_refl _) (by omega) (Nat.le_refl _) (by omega) (fun z hz => by
          rw [← HGR.out] at hz
          obtain ⟨j, -, rfl⟩ := List.mem_map.1 hz
          have h1 := List.length_filter_le (fun x => decide (x.1 = j)) (LL.take k)
          rw [List.length_take] at h1
          have := HLS.out
          unfold cntR
          exact ⟨by omega, by omega⟩))
        have HB := Lib.hid hB
        clear hC hO hB hs1 hs2 hgl
        go_wp2
        go_ret
        exact ⟨_, N, by rw [HGL.out]; rfl, HIW.out, HB.out⟩
  · obtain rfl : M = 0 := by omega
    obtain rfl : n' = 0 := by omega
    have hgr := HGR.out
    have hCW := HCW.out
    rw [hgr] at hCW
    have hgl : (greedyTo rs 0).length = N := by rw [← hgr, plcs_len]
    have HGL := Lib.hid hgl
    have HIW := Lib.hid (hCW.iw (lo := w.heap.size) (hi := w2.heap.size) hgl (by rw [HP.out]; exact Nat.le_refl _) (by have := HSZ.out; omega) (Nat.le_refl _) (by omega) (fun z hz => by
      rw [← hgr] at hz
      obtain ⟨j, -, rfl⟩ := List.mem_map.1 hz
      exact ⟨by simp [cntR], by simp [cntR]⟩))
    clear hho hb2 hCw hsz2 hgr hCW hgl
    have n00 : ¬ (0 : Int) < ((0 : Nat) : Int) := by decide
    cases A2 with
    | none =>
      go_wp2
      refine wp_loop_rounds 1 ?_
      rw [rounds_succ]
      go_wp2
      go_ret
      exact ⟨_, N, by rw [HGL.out]; rfl, HIW.out, HB2.out⟩
    | some a2 =>
      go_wp2
      refine wp_loop_rounds 1 ?_
      rw [rounds_succ]
      go_wp2
      go_ret
      exact ⟨_, N, by rw [HGL.out]; rfl, HIW.out, HB2.out⟩

set_option maxRecDepth 100000 in
set_option maxHeartbeats 1000000 in
theorem areBent_any (A : Option Addr) (c : Nat) (rs : List (List Int)) (w : World) (h : IRR w 0 w.heap.size A rs) (hr : ∀ r, r ∈ rs → rowB r = true) :
    Calls Try.prog 26 #[.slice A rs.length c] w fun e w' => e = .returned (.bool (bentsB rs)) ∧ Below w.heap.size w w' := by
  have HC := Lib.hid (all_isBent A c rs w h (fun k hk => hr _ (List.getElem_mem hk)))
  have HE : Hid (rs.all bentB = bentsB rs) := rfl
  rw [HE.out] at HC
  clear h hr
  go_enter Try.func26, Try.ntmps26
  go_wp2_with fail
  refine HC.out.mono ?_
  rintro e w1 ⟨rfl, hb⟩
  have HB := Lib.hid hb
  clear hb
  go_wp2
  go_ret
  exact ⟨rfl, HB.out⟩

set_option maxRecDepth 100000 in
set_option maxHeartbeats 1000000 in
theorem implShareGreedy_any (A : Option Addr) (c : Nat) (rs : List (List Int)) (n : Int) (w : World) (h : IRR w 0 w.heap.size A rs) :
    Calls Try.prog 8 #[.slice A rs.length c, .int .i64 n] w (RetSB w (greedyM rs n)) := by
  have H := Lib.hid h
  clear h
  obtain ⟨q, hq⟩ : ∃ q, shareOk rs n = q := ⟨_, rfl⟩
  have HQ := Lib.hid hq
  clear hq
  go_enter Try.func8, Try.ntmps8
  go_wp2_with fail
  refine (canShare_of H.out HQ.out rfl).mono ?_
  rintro e w1 ⟨rfl, hb⟩
  have HB := Lib.hid hb
  have H1 := Lib.hid (H.out.grow hb)
  clear hb
  cases q with
  | false =>
    have HM := Lib.hid (greedy_not (rs := rs) (n := n) (by rw [HQ.out]; rfl))
    go_wp2
    go_ret2
    rw [HM.out]
    exact retSB_none HB.out
  | true =>
    obtain ⟨g1, -, -, g4, g5⟩ := share_true HQ.out
    have HBA := Lib.hid (areBent_any A c rs w1 H1.out.toAll g1)
    obtain ⟨p, hp⟩ : ∃ p, bentsB rs = p := ⟨_, rfl⟩
    have HP := Lib.hid hp
    rw [hp] at HBA
    obtain ⟨n', rfl⟩ : ∃ k : Nat, n = (k : Int) := ⟨n.toNat, by omega⟩
    have hgv : givenB rs = true := by
      have := HQ.out
      unfold shareOk at this
      rw [Bool.and_eq_true] at this
      exact this.1
    have HGV := Lib.hid hgv; have HG5 := Lib.hid g5
    clear hp g1 g4 g5 hgv
    cases p with
    | false =>
      have HM := Lib.hid (greedy_not (rs := rs) (n := (n' : Int)) (by rw [HP.out, Bool.and_false]))
      go_wp2_with fail
      refine HBA.out.mono ?_
      rintro e w2 ⟨rfl, hb⟩
      have HB2 := Lib.hid (below_then HB.out (Nat.le_refl _) hb)
      clear hb
      go_wp2
      go_ret2
      rw [HM.out]
      exact retSB_none HB2.out
    | true =>
      have HM := Lib.hid (greedy_yes HQ.out HP.out)
      go_wp2_with fail
      refine HBA.out.mono ?_
      rintro e w2 ⟨rfl, hb⟩
      have HB2 := Lib.hid (below_then HB.out (Nat.le_refl _) hb)
      have HR2 := Lib.hid ((H1.out.grow hb).toAll)
      clear hb
      have HGS := Lib.hid (greedyS_any A c rs.length n' rs w2 HR2.out HGV.out HP.out HG5.out rfl)
      go_wp2_with fail
      refine HGS.out.mono ?_
      rintro e w3 ⟨A3, c3, rfl, hi3, hb3⟩
      have HI3 := Lib.hid (hi3.wide HB2.out.size (Nat.le_refl _) (Nat.le_refl _)); have HB3 := Lib.hid (below_then HB2.out (Nat.le_refl _) hb3)
      clear hi3 hb3
      go_wp2
      go_ret2
      rw [HM.out]
      exact retSB_some rfl HI3.out HB3.out
end Go.Proofs.Ytanoojpmokbiaab
