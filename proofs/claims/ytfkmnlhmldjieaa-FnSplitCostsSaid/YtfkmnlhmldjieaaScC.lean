/-
  Chapter 8 of the program: splits, their costs and places; SplitCost and SplitMany. Conditions: the row's cells are there.
-/
import Derived.Test.YtfkmnlhmldjieaaScB
import Derived.Test.YtfkmnlhmldjieaaScM
import Derived.Test.YtfkmnlhmldjieaaImp2
namespace Go.Proofs.Ytfkmnlhmldjieaa
open Go.RowKit

theorem eltWide : EltK 54 56 := ⟨Try.underlying54, by kernel_rfl⟩
theorem eltSquare : EltK 59 61 := ⟨Try.underlying59, by kernel_rfl⟩
theorem eltSum : EltK 81 83 := ⟨Try.underlying81, by kernel_rfl⟩
theorem sumT8_bd {l : List Int} (h : ∀ x, x ∈ l → 0 ≤ x ∧ x ≤ 144000000) : ∀ k : Nat, 0 ≤ sumL (l.take k) ∧ sumL (l.take k) ≤ 144000000 * (k : Int)
  | 0 => ⟨Int.le_refl _, Int.le_refl _⟩
  | k + 1 => by
    have ih := sumT8_bd h k
    by_cases c : k < l.length
    · have g := h _ (List.getElem_mem c)
      rw [take_next l c, getD_in c]; omega
    · rw [List.take_of_length_le (by omega)]
      rw [List.take_of_length_le (by omega)] at ih; omega
theorem subs_at {b o cp : Nat} {ps : List (Int × Int)} {w : World} {lo : Nat} {A : Option Addr} (h : RV w lo A (subsV b o cp ps)) {k : Nat} (hk : k < ps.length) : ∃ g p, A = some ⟨g, p, none⟩ ∧ w.cell? ⟨g, p + k, none⟩ = some (subV b o cp ps[k]) := by
  obtain ⟨g, p, e, _, _, hc⟩ := h (by rw [subs_len]; omega)
  refine ⟨g, p, e, ?_⟩
  have := hc k (by rw [subs_len]; exact hk)
  simpa [subsV] using this

set_option maxRecDepth 100000 in
set_option maxHeartbeats 1000000 in
theorem costOfWide_any (zs : List Int) (hr : rowB zs = true) (b o cp : Nat) (ps : List (Int × Int)) (hps : ∀ q, q ∈ ps → InRow zs.length q) (hl : ps.length ≤ 12) (A : Option Addr) (lo c n : Nat) (w : World) (h : RowAt w b o zs) (hv : RV w lo A (subsV b o cp ps)) (hn : n = ps.length) :
    Calls Try.prog 40 #[.slice A n c] w fun e w' => e = .returned (.int .i64 (sumL (ps.map fun q => partV zs false q.1 q.2))) ∧ w' = w := by
  subst hn
  have H := Lib.hid h; have HR := Lib.hid hr; have HV := Lib.hid hv; have HPS := Lib.hid hps
  have HM : Hid (∀ x, x ∈ ps.map (fun q => partV zs false q.1 q.2) → 0 ≤ x ∧ x ≤ 144000000) := Lib.hid fun x hx => by
    obtain ⟨q, hq, rfl⟩ := List.mem_map.1 hx
    obtain ⟨h0, h1, h2⟩ := hps q hq
    exact part_bd hr h0 h1 h2
  have HC : Hid (∀ q, InRow zs.length q → Calls Try.prog 103 #[subV b o cp q] w fun e w' => e = .returned (.int .i64 (partV zs false q.1 q.2)) ∧ w' = w) := Lib.hid fun q hq => wideSub_any zs hr b o cp q w h hq
  obtain ⟨M, hM⟩ : ∃ M, ps.map (fun q => partV zs false q.1 q.2) = M := ⟨_, rfl⟩
  have hMl : M.length = ps.length := by rw [← hM, List.length_map]
  have HMg : Hid (∀ (k : Nat) (hk : k < ps.length), M.getD k 0 = partV zs false ps[k].1 ps[k].2) := Lib.hid fun k hk => by
    rw [getD_in (by omega)]; simp [← hM]
  rw [hM] at HM
  rw [hM]
  have HML := Lib.hid hMl
  clear h hr hv hps hM hMl
  go_enter Try.func40, Try.ntmps40
  go_wp2
  go_loop [3, 5, 8] (fun m _ x => ∃ k : Nat, k ≤ ps.length ∧ x = .int .i64 (k : Int) ∧ m = .int .i64 (sumL (M.take k))) (fun _ _ x => ps.length - (intOf x).toNat)
  case atStart => exact ⟨0, Nat.zero_le _, rfl, rfl⟩
  case round =>
    obtain ⟨k, hk2, rfl, rfl⟩ := hrel
    by_cases hlt : k < ps.length
    · obtain ⟨g, p, rfl, hc⟩ := subs_at HV.out hlt
      have hlt' : (k : Int) < (ps.length : Int) := by omega
      have hb := sumT8_bd HM.out k
      have hb1 := HM.out _ (List.getElem_mem (show k < M.length by rw [HML.out]; exact hlt))
      have HT : Hid (sumL (M.take (k + 1)) = sumL (M.take k) + M.getD k 0) := Lib.hid (take_next M (by rw [HML.out]; exact hlt))
      rw [← getD_in] at hb1
      have HCC := Lib.hid (HC.out _ (HPS.out _ (List.getElem_mem hlt)))
      rw [← HMg.out k hlt] at HCC
      generalize subV b o cp ps[k] = u at hc HCC
      generalize M.getD k 0 = y at HT HCC hb1
      generalize sumL (M.take k) = m at HT hb
      have s1 : IntKind.i64.wrap (m + y) = m + y := IntWalk.i64_in _ (by omega)
      clear hb hb1
      go_wp2_with fail
      refine HCC.out.mono ?_; rintro e w' ⟨rfl, rfl⟩
      go_wp2
      go_round
      case rel => exact ⟨k + 1, by omega, by go_num, by rw [HT.out]⟩
      case measure => simp [intOf]; omega
    · obtain rfl : k = ps.length := by omega
      have hlt' : ¬ (ps.length : Int) < (ps.length : Int) := by omega
      rw [List.take_of_length_le (by rw [HML.out]; exact Nat.le_refl _)]
      go_wp2
      go_ret
      exact ⟨rfl, rfl⟩

set_option maxRecDepth 100000 in
set_option maxHeartbeats 1000000 in
theorem costOfSquare_any (zs : List Int) (hr : rowB zs = true) (b o cp : Nat) (ps : List (Int × Int)) (hps : ∀ q, q ∈ ps → InRow zs.length q) (hl : ps.length ≤ 12) (A : Option Addr) (lo c n : Nat) (w : World) (h : RowAt w b o zs) (hv : RV w lo A (subsV b o cp ps)) (hn : n = ps.length) :
    Calls Try.prog 42 #[.slice A n c] w fun e w' => e = .returned (.int .i64 (sumL (ps.map fun q => partV zs true q.1 q.2))) ∧ w' = w := by
  subst hn
  have H := Lib.hid h; have HR := Lib.hid hr; have HV := Lib.hid hv; have HPS := Lib.hid hps
  have HM : Hid (∀ x, x ∈ ps.map (fun q => partV zs true q.1 q.2) → 0 ≤ x ∧ x ≤ 144000000) := Lib.hid fun x hx => by
    obtain ⟨q, hq, rfl⟩ := List.mem_map.1 hx
    obtain ⟨h0, h1, h2⟩ := hps q hq
    exact part_bd hr h0 h1 h2
  have HC : Hid (∀ q, InRow zs.length q → Calls Try.prog 107 #[subV b o cp q] w fun e w' => e = .returned (.int .i64 (partV zs true q.1 q.2)) ∧ w' = w) := Lib.hid fun q hq => squareSub_any zs hr b o cp q w h hq
  obtain ⟨M, hM⟩ : ∃ M, ps.map (fun q => partV zs true q.1 q.2) = M := ⟨_, rfl⟩
  have hMl : M.length = ps.length := by rw [← hM, List.length_map]
  have HMg : Hid (∀ (k : Nat) (hk : k < ps.length), M.getD k 0 = partV zs true ps[k].1 ps[k].2) := Lib.hid fun k hk => by
    rw [getD_in (by omega)]; simp [← hM]
  rw [hM] at HM
  rw [hM]
  have HML := Lib.hid hMl
  clear h hr hv hps hM hMl
  go_enter Try.func42, Try.ntmps42
  go_wp2
  go_loop [3, 5, 8] (fun m _ x => ∃ k : Nat, k ≤ ps.length ∧ x = .int .i64 (k : Int) ∧ m = .int .i64 (sumL (M.take k))) (fun _ _ x => ps.length - (intOf x).toNat)
  case atStart => exact ⟨0, Nat.zero_le _, rfl, rfl⟩
  case round =>
    obtain ⟨k, hk2, rfl, rfl⟩ := hrel
    by_cases hlt : k < ps.length
    · obtain ⟨g, p, rfl, hc⟩ := subs_at HV.out hlt
      have hlt' : (k : Int) < (ps.length : Int) := by omega
      have hb := sumT8_bd HM.out k
      have hb1 := HM.out _ (List.getElem_mem (show k < M.length by rw [HML.out]; exact hlt))
      have HT : Hid (sumL (M.take (k + 1)) = sumL (M.take k) + M.getD k 0) := Lib.hid (take_next M (by rw [HML.out]; exact hlt))
      rw [← getD_in] at hb1
      have HCC := Lib.hid (HC.out _ (HPS.out _ (List.getElem_mem hlt)))
      rw [← HMg.out k hlt] at HCC
      generalize subV b o cp ps[k] = u at hc HCC
      generalize M.getD k 0 = y at HT HCC hb1
      generalize sumL (M.take k) = m at HT hb
      have s1 : IntKind.i64.wrap (m + y) = m + y := IntWalk.i64_in _ (by omega)
      clear hb hb1
      go_wp2_with fail
      refine HCC.out.mono ?_; rintro e w' ⟨rfl, rfl⟩
      go_wp2
      go_round
      case rel => exact ⟨k + 1, by omega, by go_num, by rw [HT.out]⟩
      case measure => simp [intOf]; omega
    · obtain rfl : k = ps.length := by omega
      have hlt' : ¬ (ps.length : Int) < (ps.length : Int) := by omega
      rw [List.take_of_length_le (by rw [HML.out]; exact Nat.le_refl _)]
      go_wp2
      go_ret
      exact ⟨rfl, rfl⟩

theorem max_take (W : Int × Int → Int) (u : Int) (ps : List (Int × Int)) {k : Nat} (h : k < ps.length) : (ps.take (k + 1)).foldl (fun m q => max m (W q)) u = max ((ps.take k).foldl (fun m q => max m (W q)) u) (W ps[k]) := by
  rw [List.take_succ_eq_append_getElem h, List.foldl_append]; rfl
theorem max_take_bd {W : Int × Int → Int} {ps : List (Int × Int)} (h : ∀ q, q ∈ ps → -12000 ≤ W q ∧ W q ≤ 12000) {u : Int} (hu : -12000 ≤ u ∧ u ≤ 12000) : -12000 ≤ ps.foldl (fun m q => max m (W q)) u ∧ ps.foldl (fun m q => max m (W q)) u ≤ 12000 := by
  induction ps generalizing u with
  | nil => exact hu
  | cons q ps ih =>
    have g := h q (by simp)
    exact ih (fun q hq => h q (by simp [hq])) (u := max u (W q)) (by omega)
theorem sumW_bd {zs : List Int} (hr : rowB zs = true) {q : Int × Int} (hq : InRow zs.length q) : -12000 ≤ sumW zs q.1 q.2 ∧ sumW zs q.1 q.2 ≤ 12000 := by
  obtain ⟨h0, h1, h2⟩ := hq
  have h12 := (rowB_true.1 hr).2.2
  unfold sumW
  rw [smTo_smN]
  exact smN_i64 (rowB_true.1 hr).1 (by omega)
set_option maxRecDepth 100000 in
set_option maxHeartbeats 1000000 in
theorem greatSum_any (zs : List Int) (hr : rowB zs = true) (b o cp : Nat) (q0 : Int × Int) (ps : List (Int × Int)) (hq0 : InRow zs.length q0) (hps : ∀ q, q ∈ ps → InRow zs.length q) (hl : ps.length < 12) (A : Option Addr) (lo c n : Nat) (w : World) (h : RowAt w b o zs) (hv : RV w lo A (subsV b o cp (q0 :: ps))) (hn : n = ps.length + 1) (hc : n ≤ c ∧ c ≤ maxLen) :
    Calls Try.prog 65 #[.slice A n c] w fun e w' => e = .returned (.int .i64 (maxTo (sumW zs) q0 ps)) ∧ w' = w := by
  have HV := Lib.hid hv; have HPS := Lib.hid hps
  unfold maxLen at hc
  have HC : Hid (∀ q, InRow zs.length q → Calls Try.prog 108 #[subV b o cp q] w fun e w' => e = .returned (.int .i64 (sumW zs q.1 q.2)) ∧ w' = w) := Lib.hid fun q hq => sumSub_any zs hr b o cp q w h hq
  have HWB : Hid (∀ q, InRow zs.length q → -12000 ≤ sumW zs q.1 q.2 ∧ sumW zs q.1 q.2 ≤ 12000) := Lib.hid fun q hq => sumW_bd hr hq
  obtain ⟨g, p, rfl, hc0⟩ := subs_at hv (k := 0) (by simp)
  rw [Nat.add_zero] at hc0
  have HC0 := Lib.hid (HC.out q0 hq0)
  have HAT : Hid (∀ (k : Nat) (hk : k < ps.length), w.cell? ⟨g, p + 1 + k, none⟩ = some (subV b o cp ps[k])) := Lib.hid fun k hk => by
    obtain ⟨g', p', e, hck⟩ := subs_at HV.out (k := k + 1) (by simp; omega)
    injection e with e; injection e with e1 e2 _; subst e1; subst e2
    rw [show p + 1 + k = p + (k + 1) by omega]; simpa using hck
  obtain ⟨W, hW⟩ : ∃ W : Int × Int → Int, (fun q => sumW zs q.1 q.2) = W := ⟨_, rfl⟩
  have HMX : Hid (maxTo (sumW zs) q0 ps = ps.foldl (fun m q => max m (W q)) (W q0)) := Lib.hid (by rw [← hW]; rfl)
  have HWW : Hid (∀ q : Int × Int, sumW zs q.1 q.2 = W q) := Lib.hid fun q => by rw [← hW]
  have hb0 := HWB.out q0 hq0
  rw [HWW.out] at hb0 HC0
  have n1 : (0 : Int) < (n : Int) := by omega
  have n2 : (1 : Int) ≤ (n : Int) := by omega
  have n3 : (n : Int) ≤ (c : Int) := by omega
  simp only [List.getElem_cons_zero] at hc0
  generalize subV b o cp q0 = u0 at hc0 HC0
  obtain ⟨x0, hx0⟩ : ∃ x0, W q0 = x0 := ⟨_, rfl⟩
  rw [hx0] at HC0 HMX hb0
  clear h hr hv hps hW hx0 hq0
  by_cases hc1 : c = 1
  · have hps0 : ps = [] := List.eq_nil_of_length_eq_zero (by omega)
    subst hps0
    obtain rfl : n = 1 := by omega
    subst hc1
    clear hn hc hl n1 n2 n3 hb0 HC HWB HAT HWW HV HPS
    go_enter Try.func65, Try.ntmps65
    go_wp2_with fail
    refine HC0.out.mono ?_; rintro e w' ⟨rfl, rfl⟩
    go_wp2
    go_loop [3, 5, 14] (fun m _ x => x = .int .i64 0 ∧ m = .int .i64 x0) (fun _ _ _ => 0)
    case atStart => exact ⟨rfl, rfl⟩
    case round =>
      obtain ⟨rfl, rfl⟩ := hrel
      go_wp2
      go_ret
      refine ⟨?_, rfl⟩
      rw [HMX.out]; rfl
  · have hc1' : ¬ (c : Int) = 1 := by omega
    go_enter Try.func65, Try.ntmps65
    go_wp2_with fail
    refine HC0.out.mono ?_; rintro e w' ⟨rfl, rfl⟩
    go_wp2
    go_loop [3, 5, 14] (fun m _ x => ∃ k : Nat, k ≤ ps.length ∧ x = .int .i64 (k : Int) ∧ m = .int .i64 ((ps.take k).foldl (fun m q => max m (W q)) x0)) (fun _ _ x => ps.length - (intOf x).toNat)
    case atStart => exact ⟨0, Nat.zero_le _, rfl, rfl⟩
    case round =>
      obtain ⟨k, hk2, rfl, rfl⟩ := hrel
      by_cases hlt : k < ps.length
      · have hck := HAT.out k hlt
        have hlt' : (k : Int) < (n : Int) - 1 := by omega
        have hlt2 : k < n - 1 := by omega
        have hb := max_take_bd (W := W) (ps := ps.take k) (fun q hq => by rw [← HWW.out]; exact HWB.out q (HPS.out q (List.mem_of_mem_take hq))) hb0
        have hq := HPS.out _ (List.getElem_mem hlt)
        have HCC := Lib.hid (HC.out _ hq)
        have hbk := HWB.out _ hq
        have HT : Hid ((ps.take (k + 1)).foldl (fun m q => max m (W q)) x0 = max ((ps.take k).foldl (fun m q => max m (W q)) x0) (W ps[k])) := Lib.hid (max_take W x0 ps hlt)
        rw [HWW.out] at HCC hbk
        have HLT := Lib.hid hlt
        generalize subV b o cp ps[k] = u at hck HCC
        generalize W ps[k] = y at HT HCC hbk
        generalize (ps.take k).foldl (fun m q => max m (W q)) x0 = m at HT hb
        have s2 : IntKind.i64.wrap ((k : Int) + 1) = (k : Int) + 1 := IntWalk.i64_in _ (by omega)
        clear hq hlt
        by_cases c1 : m < y
        · have HL2 := Lib.hid (show max m y = y by omega)
          go_wp2_with fail
          refine HCC.out.mono ?_; rintro e w' ⟨rfl, rfl⟩
          go_wp2
          go_round
          case rel => exact ⟨k + 1, HLT.out, by go_num, by rw [HT.out, HL2.out]⟩
          case measure => have := HLT.out; simp [intOf]; omega
        · have HL2 := Lib.hid (show max m y = m by omega)
          go_wp2_with fail
          refine HCC.out.mono ?_; rintro e w' ⟨rfl, rfl⟩
          go_wp2
          go_round
          case rel => exact ⟨k + 1, HLT.out, by go_num, by rw [HT.out, HL2.out]⟩
          case measure => have := HLT.out; simp [intOf]; omega
      · obtain rfl : k = ps.length := by omega
        have hlt' : ¬ (ps.length : Int) < (n : Int) - 1 := by omega
        have hlt2 : ¬ ps.length < n - 1 := by omega
        rw [List.take_length]
        go_wp2
        go_ret
        refine ⟨?_, rfl⟩
        rw [HMX.out]; rfl

/-- The call returns a list of these values that lies in its own memory. -/
def RetSub (w : World) (n : Nat) (us : List Value) (e : Ending) (w' : World) : Prop := ∃ A c, e = .returned (.slice A n c) ∧ RV w' w.heap.size A us ∧ (n ≤ c ∧ c ≤ maxLen) ∧ Below w.heap.size w w'
/-- Where a part begins. -/
def frA (f : Int) (l : List Int) (k : Nat) : Int := if k = 0 then f else l.getD (k - 1) 0 + 1
theorem pairs_at : ∀ (l : List Int) (f : Int) (k : Nat) (hk : k < (pairs f l).length), (pairs f l)[k] = (frA f l k, l.getD k 0)
  | [], f, k, hk => by simp [pairs] at hk
  | x :: l, f, 0, hk => by simp [pairs, frA]
  | x :: l, f, k + 1, hk => by
    have ih := pairs_at l (x + 1) k (by simpa [pairs] using hk)
    simp only [pairs, List.getElem_cons_succ]
    rw [ih]
    unfold frA
    cases k with
    | zero => simp
    | succ k => simp
theorem seg_at {l : List Int} {n : Int} (h : Seg 0 l n) {k : Nat} (hk : k < l.length) : 0 ≤ frA 0 l k ∧ frA 0 l k ≤ l.getD k 0 ∧ l.getD k 0 < n := by
  have hm := pairs_in h _ (List.getElem_mem (show k < (pairs 0 l).length by rw [pairs_len]; exact hk))
  rw [pairs_at] at hm
  exact hm

set_option maxRecDepth 100000 in
set_option maxHeartbeats 1000000 in
theorem placesOfWide_any (N : Nat) (hN : N ≤ 12) (b o cp : Nat) (l : List Int) (hs : Seg 0 l (N : Int)) (A : Option Addr) (lo c n : Nat) (w : World) (hv : RV w lo A (subsV b o cp (pairs 0 l))) (hn : n = l.length) :
    Calls Try.prog 51 #[.slice A n c] w (RetS w l) := by
  have HSG := Lib.hid hs; have HV := Lib.hid hv
  have hle := hs.le
  have hll : n ≤ 12 := by omega
  have HN := Lib.hid hn
  clear hs hv hle hn
  have hmk : (Instr.makeSlice 23 (.int .i64 (n : Int)) (.int .i64 (n : Int))).run Try.prog w = .ok (.slice (some ⟨w.heap.size, 0, none⟩) n n) (w.alloc (.cells (madeCells #[.int .i64 0] n) 3)) := run_makeInts n (by omega) w
  have hc0 : Cells (w.alloc (.cells (madeCells #[.int .i64 0] n) 3)) w.heap.size 0 (fillTo l 0) := by rw [fillTo_zero, ← HN.out]; exact Cells.made w n 3
  have HC0 := Lib.hid hc0; clear hc0
  have HB0 := Lib.hid ((Below.refl w.heap.size w).alloc (Nat.le_refl _) (.cells (madeCells #[.int .i64 0] n) 3))
  have HV1 := Lib.hid (HV.out.grow HB0.out)
  have HS0 : Hid ((w.alloc (.cells (madeCells #[.int .i64 0] n) 3)).heap.size = w.heap.size + 1) := Lib.hid (by simp)
  go_enter Try.func51, Try.ntmps51
  go_wp2
  clear hmk
  generalize w.alloc (.cells (madeCells #[.int .i64 0] n) 3) = W1 at HC0 HB0 HV1 HS0
  go_loopw [4, 5, 6, 12] (fun la _ _ x wr => ∃ k : Nat, k ≤ n ∧ x = .int .i64 (k : Int) ∧ la = .int .i64 (if k = 0 then -1 else l.getD (k - 1) 0) ∧ Cells wr w.heap.size 0 (fillTo l k) ∧ Below w.heap.size w wr ∧ wr.heap.size = w.heap.size + 1) (fun _ _ _ x _ => n - (intOf x).toNat)
  case atStart => exact ⟨0, Nat.zero_le _, rfl, rfl, HC0.out, HB0.out, HS0.out⟩
  case round =>
    obtain ⟨k, hk2, rfl, rfl, hcc, hbl, hsz⟩ := hrel
    have HCC := Lib.hid hcc; have HBL := Lib.hid hbl; have HSZ := Lib.hid hsz
    clear hcc hbl hsz
    by_cases hlt : k < n
    · have hkl : k < l.length := by have := HN.out; omega
      obtain ⟨g, p, rfl, hc⟩ := subs_at (HV.out.grow HBL.out) (k := k) (by rw [pairs_len]; exact hkl)
      rw [pairs_at] at hc
      obtain ⟨f0, f1, f2⟩ := seg_at HSG.out hkl
      have hlt' : (k : Int) < (n : Int) := by omega
      have hfr : (if k = 0 then (-1 : Int) else l.getD (k - 1) 0) = frA 0 l k - 1 := by unfold frA; split <;> omega
      rw [hfr]
      have HX : Hid (l.getD k 0 = if k + 1 = 0 then -1 else l.getD (k + 1 - 1) 0) := Lib.hid (by rw [if_neg (by omega), Nat.add_sub_cancel])
      have hfl : k < (fillTo l k).length := by rw [fillTo_len _ _ (by omega)]; exact hkl
      obtain ⟨ha1, ha2⟩ := HCC.out k hfl
      rw [Nat.zero_add] at ha1 ha2
      have hfi := HCC.out.fill hkl
      rw [Nat.zero_add, ← getD_in hkl] at hfi
      have HFI := Lib.hid hfi
      unfold subV at hc
      dsimp only at hc
      obtain ⟨x, hx⟩ : ∃ x, l.getD k 0 = x := ⟨_, rfl⟩
      obtain ⟨fr, hfr2⟩ : ∃ fr, frA 0 l k = fr := ⟨_, rfl⟩
      rw [hx] at f1 f2 HX HFI hc
      rw [hfr2] at f0 f1 hc
      rw [hfr2]
      generalize (fillTo l k)[k] = z at ha1
      have s1 : IntKind.i64.wrap (fr - 1 + (((x - fr).toNat + 1 : Nat) : Int)) = x := by rw [IntWalk.i64_in _ (by omega)]; omega
      have s2 : IntKind.i64.wrap ((k : Int) + 1) = (k : Int) + 1 := IntWalk.i64_in _ (by omega)
      have HLT := Lib.hid hlt
      generalize (x - fr).toNat + 1 = d at hc s1
      clear hfr hfl hfi hx hfr2 hkl
      go_wp2
      go_roundw
      case rel => exact ⟨k + 1, HLT.out, by go_num, by rw [← HX.out], HFI.out, HBL.out.setCell (p := ⟨w.heap.size, k, none⟩) (Nat.le_refl _) _, by have := HSZ.out; simpa [World.setCell] using this⟩
      case measure => have := HLT.out; simp [intOf]; omega
    · obtain rfl : k = n := by omega
      have hlt' : ¬ (k : Int) < (k : Int) := by omega
      have hci := HCC.out
      rw [show fillTo l k = l by rw [HN.out]; exact fillTo_all l] at hci
      have HI := Lib.hid (hci.iw (n := k) (lo := w.heap.size) (hi := wr.heap.size) HN.out.symm (Nat.le_refl _) (by have := HSZ.out; omega) (Nat.le_refl _) (by have := HN.out; omega) (fun z hz => by
        obtain ⟨j, hj, rfl⟩ := List.getElem_of_mem hz
        have := seg_at HSG.out hj
        rw [getD_in hj] at this
        exact ⟨by omega, by omega⟩))
      generalize (if k = 0 then (-1 : Int) else l.getD (k - 1) 0) = z
      clear hci
      go_wp2
      go_ret
      refine ⟨some ⟨w.heap.size, 0, none⟩, k, ?_, HI.out, HBL.out⟩
      rw [← HN.out]; rfl

set_option maxRecDepth 100000 in
set_option maxHeartbeats 1000000 in
theorem splitAtWide_any (N : Nat) (hN : N ≤ 12) (b o cp : Nat) (l : List Int) (hs : Seg 0 l (N : Int)) (hcp : N ≤ cp ∧ cp ≤ maxLen) (B : Option Addr) (cb n : Nat) (w : World) (hv : IR w 0 w.heap.size B l) (hn : n = l.length) :
    Calls Try.prog 39 #[.slice (some ⟨b, o, none⟩) N cp, .slice B n cb] w (RetSub w n (subsV b o cp (pairs 0 l))) := by
  have HSG := Lib.hid hs; have HV := Lib.hid hv
  have hle := hs.le
  unfold maxLen at hcp
  have hll : n ≤ 12 := by omega
  have HN := Lib.hid hn
  clear hs hv hle hn
  go_enter Try.func39, Try.ntmps39
  go_wp2
  go_loopw [5, 6, 8, 11] (fun v fr _ x wr => ∃ k : Nat, k ≤ n ∧ x = .int .i64 (k : Int) ∧ fr = .int .i64 (frA 0 l k) ∧ OwnV 56 wr w.heap.size v (subsV b o cp ((pairs 0 l).take k)) ∧ Below w.heap.size w wr) (fun _ _ _ x _ => n - (intOf x).toNat)
  case atStart => exact ⟨0, Nat.zero_le _, rfl, rfl, OwnV.nil _ _ _ (Nat.le_refl _), Below.refl _ _⟩
  case round =>
    obtain ⟨k, hk2, rfl, rfl, ho, hbl⟩ := hrel
    have HO := Lib.hid ho; have HBL := Lib.hid hbl
    clear ho hbl
    by_cases hlt : k < n
    · have hkl : k < l.length := by have := HN.out; omega
      have HVW := Lib.hid (HV.out.grow HBL.out)
      obtain ⟨g, p, rfl, _, _, hc⟩ := HVW.out.at_ hkl
      rw [← getD_in] at hc
      obtain ⟨f0, f1, f2⟩ := seg_at HSG.out hkl
      have hlt' : (k : Int) < (n : Int) := by omega
      have HX : Hid (l.getD k 0 + 1 = frA 0 l (k + 1)) := Lib.hid (by unfold frA; rw [if_neg (by omega), Nat.add_sub_cancel])
      have HTK : Hid (subsV b o cp ((pairs 0 l).take (k + 1)) = subsV b o cp ((pairs 0 l).take k) ++ [subV b o cp (frA 0 l k, l.getD k 0)]) := Lib.hid (by
        rw [List.take_succ_eq_append_getElem (show k < (pairs 0 l).length by rw [pairs_len]; exact hkl), pairs_at]; simp [subsV])
      have HLN : Hid ((subsV b o cp ((pairs 0 l).take k)).length + 1 ≤ 1000000) := Lib.hid (by
        have := HN.out; rw [subs_len, List.length_take]; omega)
      obtain ⟨t, ht⟩ : ∃ t : Nat, l.getD k 0 = (t : Int) := ⟨(l.getD k 0).toNat, by omega⟩
      obtain ⟨f, hf⟩ : ∃ f : Nat, frA 0 l k = (f : Int) := ⟨(frA 0 l k).toNat, by omega⟩
      rw [ht] at hc f1 f2 HX HTK
      rw [hf] at f1 HTK
      rw [hf]
      have HSV : Hid (subV b o cp ((f : Int), (t : Int)) = .slice (some ⟨b, o + f, none⟩) (t + 1 - f) (cp - f)) := Lib.hid (by
        unfold subV; dsimp only
        rw [Int.toNat_natCast, show ((t : Int) - (f : Int)).toNat + 1 = t + 1 - f by omega])
      rw [HSV.out] at HTK
      have e1 : (0 : Int) ≤ (f : Int) := by omega
      have e2 : (f : Int) ≤ (t : Int) + 1 := by omega
      have e3 : (t : Int) + 1 ≤ (cp : Int) := by omega
      have e4 : ¬ cp = f := by omega
      have e5 : (f : Int).toNat = f := by omega
      have e6 : ((t : Int) + 1).toNat = t + 1 := by omega
      have s1 : IntKind.i64.wrap ((t : Int) + 1) = (t : Int) + 1 := IntWalk.i64_in _ (by omega)
      have s2 : IntKind.i64.wrap ((k : Int) + 1) = (k : Int) + 1 := IntWalk.i64_in _ (by omega)
      have HLT := Lib.hid hlt
      clear ht hf f0 f1 f2 hkl hlt
      go_wp2_with (at_builtin; refine wpList_pushV eltWide rfl _ _ rfl w.heap.size _ (subsV b o cp ((pairs 0 l).take k)) rfl rfl HO.out rfl HLN.out ?_; intro v4 w4 ho4 hb4; have HO4 := Lib.hid ho4; have HB4 := Lib.hid hb4; clear ho4 hb4)
      go_roundw
      case rel => exact ⟨k + 1, HLT.out, by go_num, by rw [← HX.out], by rw [HTK.out]; exact HO4.out, HBL.out.trans HB4.out⟩
      case measure => have := HLT.out; simp [intOf]; omega
    · obtain rfl : k = n := by omega
      have hlt' : ¬ (k : Int) < (k : Int) := by omega
      have ho := HO.out
      rw [List.take_of_length_le (by rw [pairs_len, HN.out]; exact Nat.le_refl _)] at ho
      obtain ⟨A, c, rfl, hrv, hc1, hc2⟩ := ho.rv
      have HRV := Lib.hid hrv
      rw [subs_len, pairs_len, ← HN.out] at hc1
      rw [subs_len, pairs_len, ← HN.out]
      clear ho hrv
      go_wp2
      go_ret
      exact ⟨A, c, rfl, HRV.out, ⟨hc1, hc2⟩, HBL.out⟩

set_option maxRecDepth 100000 in
set_option maxHeartbeats 1000000 in
theorem placesOfSquare_any (N : Nat) (hN : N ≤ 12) (b o cp : Nat) (l : List Int) (hs : Seg 0 l (N : Int)) (A : Option Addr) (lo c n : Nat) (w : World) (hv : RV w lo A (subsV b o cp (pairs 0 l))) (hn : n = l.length) :
    Calls Try.prog 53 #[.slice A n c] w (RetS w l) := by
  have HSG := Lib.hid hs; have HV := Lib.hid hv
  have hle := hs.le
  have hll : n ≤ 12 := by omega
  have HN := Lib.hid hn
  clear hs hv hle hn
  have hmk : (Instr.makeSlice 23 (.int .i64 (n : Int)) (.int .i64 (n : Int))).run Try.prog w = .ok (.slice (some ⟨w.heap.size, 0, none⟩) n n) (w.alloc (.cells (madeCells #[.int .i64 0] n) 3)) := run_makeInts n (by omega) w
  have hc0 : Cells (w.alloc (.cells (madeCells #[.int .i64 0] n) 3)) w.heap.size 0 (fillTo l 0) := by rw [fillTo_zero, ← HN.out]; exact Cells.made w n 3
  have HC0 := Lib.hid hc0; clear hc0
  have HB0 := Lib.hid ((Below.refl w.heap.size w).alloc (Nat.le_refl _) (.cells (madeCells #[.int .i64 0] n) 3))
  have HV1 := Lib.hid (HV.out.grow HB0.out)
  have HS0 : Hid ((w.alloc (.cells (madeCells #[.int .i64 0] n) 3)).heap.size = w.heap.size + 1) := Lib.hid (by simp)
  go_enter Try.func53, Try.ntmps53
  go_wp2
  clear hmk
  generalize w.alloc (.cells (madeCells #[.int .i64 0] n) 3) = W1 at HC0 HB0 HV1 HS0
  go_loopw [4, 5, 6, 12] (fun la _ _ x wr => ∃ k : Nat, k ≤ n ∧ x = .int .i64 (k : Int) ∧ la = .int .i64 (if k = 0 then -1 else l.getD (k - 1) 0) ∧ Cells wr w.heap.size 0 (fillTo l k) ∧ Below w.heap.size w wr ∧ wr.heap.size = w.heap.size + 1) (fun _ _ _ x _ => n - (intOf x).toNat)
  case atStart => exact ⟨0, Nat.zero_le _, rfl, rfl, HC0.out, HB0.out, HS0.out⟩
  case round =>
    obtain ⟨k, hk2, rfl, rfl, hcc, hbl, hsz⟩ := hrel
    have HCC := Lib.hid hcc; have HBL := Lib.hid hbl; have HSZ := Lib.hid hsz
    clear hcc hbl hsz
    by_cases hlt : k < n
    · have hkl : k < l.length := by have := HN.out; omega
      obtain ⟨g, p, rfl, hc⟩ := subs_at (HV.out.grow HBL.out) (k := k) (by rw [pairs_len]; exact hkl)
      rw [pairs_at] at hc
      obtain ⟨f0, f1, f2⟩ := seg_at HSG.out hkl
      have hlt' : (k : Int) < (n : Int) := by omega
      have hfr : (if k = 0 then (-1 : Int) else l.getD (k - 1) 0) = frA 0 l k - 1 := by unfold frA; split <;> omega
      rw [hfr]
      have HX : Hid (l.getD k 0 = if k + 1 = 0 then -1 else l.getD (k + 1 - 1) 0) := Lib.hid (by rw [if_neg (by omega), Nat.add_sub_cancel])
      have hfl : k < (fillTo l k).length := by rw [fillTo_len _ _ (by omega)]; exact hkl
      obtain ⟨ha1, ha2⟩ := HCC.out k hfl
      rw [Nat.zero_add] at ha1 ha2
      have hfi := HCC.out.fill hkl
      rw [Nat.zero_add, ← getD_in hkl] at hfi
      have HFI := Lib.hid hfi
      unfold subV at hc
      dsimp only at hc
      obtain ⟨x, hx⟩ : ∃ x, l.getD k 0 = x := ⟨_, rfl⟩
      obtain ⟨fr, hfr2⟩ : ∃ fr, frA 0 l k = fr := ⟨_, rfl⟩
      rw [hx] at f1 f2 HX HFI hc
      rw [hfr2] at f0 f1 hc
      rw [hfr2]
      generalize (fillTo l k)[k] = z at ha1
      have s1 : IntKind.i64.wrap (fr - 1 + (((x - fr).toNat + 1 : Nat) : Int)) = x := by rw [IntWalk.i64_in _ (by omega)]; omega
      have s2 : IntKind.i64.wrap ((k : Int) + 1) = (k : Int) + 1 := IntWalk.i64_in _ (by omega)
      have HLT := Lib.hid hlt
      generalize (x - fr).toNat + 1 = d at hc s1
      clear hfr hfl hfi hx hfr2 hkl
      go_wp2
      go_roundw
      case rel => exact ⟨k + 1, HLT.out, by go_num, by rw [← HX.out], HFI.out, HBL.out.setCell (p := ⟨w.heap.size, k, none⟩) (Nat.le_refl _) _, by have := HSZ.out; simpa [World.setCell] using this⟩
      case measure => have := HLT.out; simp [intOf]; omega
    · obtain rfl : k = n := by omega
      have hlt' : ¬ (k : Int) < (k : Int) := by omega
      have hci := HCC.out
      rw [show fillTo l k = l by rw [HN.out]; exact fillTo_all l] at hci
      have HI := Lib.hid (hci.iw (n := k) (lo := w.heap.size) (hi := wr.heap.size) HN.out.symm (Nat.le_refl _) (by have := HSZ.out; omega) (Nat.le_refl _) (by have := HN.out; omega) (fun z hz => by
        obtain ⟨j, hj, rfl⟩ := List.getElem_of_mem hz
        have := seg_at HSG.out hj
        rw [getD_in hj] at this
        exact ⟨by omega, by omega⟩))
      generalize (if k = 0 then (-1 : Int) else l.getD (k - 1) 0) = z
      clear hci
      go_wp2
      go_ret
      refine ⟨some ⟨w.heap.size, 0, none⟩, k, ?_, HI.out, HBL.out⟩
      rw [← HN.out]; rfl

set_option maxRecDepth 100000 in
set_option maxHeartbeats 1000000 in
theorem splitAtSquare_any (N : Nat) (hN : N ≤ 12) (b o cp : Nat) (l : List Int) (hs : Seg 0 l (N : Int)) (hcp : N ≤ cp ∧ cp ≤ maxLen) (B : Option Addr) (cb n : Nat) (w : World) (hv : IR w 0 w.heap.size B l) (hn : n = l.length) :
    Calls Try.prog 41 #[.slice (some ⟨b, o, none⟩) N cp, .slice B n cb] w (RetSub w n (subsV b o cp (pairs 0 l))) := by
  have HSG := Lib.hid hs; have HV := Lib.hid hv
  have hle := hs.le
  unfold maxLen at hcp
  have hll : n ≤ 12 := by omega
  have HN := Lib.hid hn
  clear hs hv hle hn
  go_enter Try.func41, Try.ntmps41
  go_wp2
  go_loopw [5, 6, 8, 11] (fun v fr _ x wr => ∃ k : Nat, k ≤ n ∧ x = .int .i64 (k : Int) ∧ fr = .int .i64 (frA 0 l k) ∧ OwnV 61 wr w.heap.size v (subsV b o cp ((pairs 0 l).take k)) ∧ Below w.heap.size w wr) (fun _ _ _ x _ => n - (intOf x).toNat)
  case atStart => exact ⟨0, Nat.zero_le _, rfl, rfl, OwnV.nil _ _ _ (Nat.le_refl _), Below.refl _ _⟩
  case round =>
    obtain ⟨k, hk2, rfl, rfl, ho, hbl⟩ := hrel
    have HO := Lib.hid ho; have HBL := Lib.hid hbl
    clear ho hbl
    by_cases hlt : k < n
    · have hkl : k < l.length := by have := HN.out; omega
      have HVW := Lib.hid (HV.out.grow HBL.out)
      obtain ⟨g, p, rfl, _, _, hc⟩ := HVW.out.at_ hkl
      rw [← getD_in] at hc
      obtain ⟨f0, f1, f2⟩ := seg_at HSG.out hkl
      have hlt' : (k : Int) < (n : Int) := by omega
      have HX : Hid (l.getD k 0 + 1 = frA 0 l (k + 1)) := Lib.hid (by unfold frA; rw [if_neg (by omega), Nat.add_sub_cancel])
      have HTK : Hid (subsV b o cp ((pairs 0 l).take (k + 1)) = subsV b o cp ((pairs 0 l).take k) ++ [subV b o cp (frA 0 l k, l.getD k 0)]) := Lib.hid (by
        rw [List.take_succ_eq_append_getElem (show k < (pairs 0 l).length by rw [pairs_len]; exact hkl), pairs_at]; simp [subsV])
      have HLN : Hid ((subsV b o cp ((pairs 0 l).take k)).length + 1 ≤ 1000000) := Lib.hid (by
        have := HN.out; rw [subs_len, List.length_take]; omega)
      obtain ⟨t, ht⟩ : ∃ t : Nat, l.getD k 0 = (t : Int) := ⟨(l.getD k 0).toNat, by omega⟩
      obtain ⟨f, hf⟩ : ∃ f : Nat, frA 0 l k = (f : Int) := ⟨(frA 0 l k).toNat, by omega⟩
      rw [ht] at hc f1 f2 HX HTK
      rw [hf] at f1 HTK
      rw [hf]
      have HSV : Hid (subV b o cp ((f : Int), (t : Int)) = .slice (some ⟨b, o + f, none⟩) (t + 1 - f) (cp - f)) := Lib.hid (by
        unfold subV; dsimp only
        rw [Int.toNat_natCast, show ((t : Int) - (f : Int)).toNat + 1 = t + 1 - f by omega])
      rw [HSV.out] at HTK
      have e1 : (0 : Int) ≤ (f : Int) := by omega
      have e2 : (f : Int) ≤ (t : Int) + 1 := by omega
      have e3 : (t : Int) + 1 ≤ (cp : Int) := by omega
      have e4 : ¬ cp = f := by omega
      have e5 : (f : Int).toNat = f := by omega
      have e6 : ((t : Int) + 1).toNat = t + 1 := by omega
      have s1 : IntKind.i64.wrap ((t : Int) + 1) = (t : Int) + 1 := IntWalk.i64_in _ (by omega)
      have s2 : IntKind.i64.wrap ((k : Int) + 1) = (k : Int) + 1 := IntWalk.i64_in _ (by omega)
      have HLT := Lib.hid hlt
      clear ht hf f0 f1 f2 hkl hlt
      go_wp2_with (at_builtin; refine wpList_pushV eltSquare rfl _ _ rfl w.heap.size _ (subsV b o cp ((pairs 0 l).take k)) rfl rfl HO.out rfl HLN.out ?_; intro v4 w4 ho4 hb4; have HO4 := Lib.hid ho4; have HB4 := Lib.hid hb4; clear ho4 hb4)
      go_roundw
      case rel => exact ⟨k + 1, HLT.out, by go_num, by rw [← HX.out], by rw [HTK.out]; exact HO4.out, HBL.out.trans HB4.out⟩
      case measure => have := HLT.out; simp [intOf]; omega
    · obtain rfl : k = n := by omega
      have hlt' : ¬ (k : Int) < (k : Int) := by omega
      have ho := HO.out
      rw [List.take_of_length_le (by rw [pairs_len, HN.out]; exact Nat.le_refl _)] at ho
      obtain ⟨A, c, rfl, hrv, hc1, hc2⟩ := ho.rv
      have HRV := Lib.hid hrv
      rw [subs_len, pairs_len, ← HN.out] at hc1
      rw [subs_len, pairs_len, ← HN.out]
      clear ho hrv
      go_wp2
      go_ret
      exact ⟨A, c, rfl, HRV.out, ⟨hc1, hc2⟩, HBL.out⟩
set_option maxHeartbeats 1000000 in
theorem isSplit_any (A : Option Addr) (c : Nat) (zs : List Int) (B : Option Addr) (cb : Nat) (ys : List Int) (w : World) (h : IR w 0 w.heap.size A zs) (hy : IR w 0 w.heap.size B ys) :
    Calls Try.prog 38 #[.slice A zs.length c, .slice B ys.length cb] w fun e w' => e = .returned (.bool (rowB zs && segOk 0 ys (zs.length : Int))) ∧ Below w.heap.size w w' := by
  have H := Lib.hid h; have HY := Lib.hid hy; clear h hy
  have hyl := HY.out.1
  have hzl := H.out.1
  go_enter Try.func38, Try.ntmps38
  go_wp2
  go_loop [5, 7, 10] (fun ah _ i => ∃ (k : Nat) (cc : Int), k ≤ ys.length ∧ i = .int .i64 (k : Int) ∧ ah = .int .i64 (cc - 1) ∧ Hid (Seg 0 (ys.take k) cc)) (fun _ _ i => ys.length - (intOf i).toNat)
  case atStart => exact ⟨0, 0, Nat.zero_le _, rfl, rfl, Lib.hid rfl⟩
  case round =>
    obtain ⟨k, cc, hk, rfl, rfl, hseg⟩ := hrel
    by_cases hlt : k < ys.length
    · obtain ⟨g, p, rfl, _, _, hc⟩ := HY.out.at_ hlt
      rw [← getD_in] at hc
      have hlt' : (k : Int) < (ys.length : Int) := by omega
      have s2 : IntKind.i64.wrap ((k : Int) + 1) = (k : Int) + 1 := IntWalk.i64_in _ (by omega)
      have HLT := Lib.hid hlt
      by_cases c1 : ys.getD k 0 ≤ cc - 1
      · have HM : Hid ((rowB zs && segOk 0 ys (zs.length : Int)) = false) := Lib.hid (by
          rw [segOk_no hlt hseg.out (fun e => by omega), Bool.and_false])
        generalize ys.getD k 0 = x at hc c1
        go_wp2
        go_ret
        exact ⟨ret_bool HM.out.symm, Below.refl _ _⟩
      · have HS2 : Hid (Seg 0 (ys.take (k + 1)) (ys.getD k 0 + 1)) := Lib.hid (by
          rw [take_more ys hlt]; exact hseg.out.snoc_ (by omega))
        generalize ys.getD k 0 = x at hc c1 HS2
        have HX : Hid (x + 1 - 1 = x) := Lib.hid (by omega)
        clear hseg hlt
        go_wp2
        go_round
        case rel => exact ⟨k + 1, x + 1, HLT.out, by go_num, by rw [HX.out], HS2⟩
        case measure => have := HLT.out; simp [intOf]; omega
    · obtain rfl : k = ys.length := by omega
      have hlt' : ¬ (ys.length : Int) < (ys.length : Int) := by omega
      have hs := hseg.out
      rw [List.take_length] at hs
      have HM : Hid (segOk 0 ys (zs.length : Int) = (cc - 1 == (zs.length : Int) - 1)) := Lib.hid (by
        cases e : segOk 0 ys (zs.length : Int) with
        | true => have := hs.uniq (segOk_true.1 e); rw [this]; simp
        | false =>
          symm; rw [beq_eq_false_iff_ne]
          intro e2
          have : cc = (zs.length : Int) := by omega
          rw [this] at hs
          rw [segOk_true.2 hs] at e; cases e)
      have s1 : IntKind.i64.wrap ((zs.length : Int) - 1) = (zs.length : Int) - 1 := IntWalk.i64_in _ (by omega)
      clear hs hseg
      generalize cc - 1 = u at HM
      cases hr : rowB zs with
      | false =>
        have HR := Lib.hid hr; clear hr
        go_wp2_with fail
        refine (isRow_false _ _ _ _ zs _ H.out HR.out).mono ?_; rintro e w1 ⟨rfl, b1⟩
        go_wp2
        go_ret
        exact ⟨ret_bool (by rw [HR.out]; rfl), b1⟩
      | true =>
        have HR := Lib.hid hr; clear hr
        go_wp2_with fail
        refine (isRow_true _ _ _ _ zs _ H.out HR.out).mono ?_; rintro e w1 ⟨rfl, b1⟩
        go_wp2
        go_ret
        exact ⟨ret_bool (by rw [HM.out, HR.out]; rfl), b1⟩
theorem isSplit_of {b : Bool} (A : Option Addr) (c : Nat) (zs : List Int) (B : Option Addr) (cb : Nat) (ys : List Int) (w : World) (h : IR w 0 w.heap.size A zs) (hy : IR w 0 w.heap.size B ys) (hb : (rowB zs && segOk 0 ys (zs.length : Int)) = b) :
    Calls Try.prog 38 #[.slice A zs.length c, .slice B ys.length cb] w fun e w' => e = .returned (.bool b) ∧ Below w.heap.size w w' := by
  have := isSplit_any A c zs B cb ys w h hy; rwa [hb] at this

theorem canSplit_any (A : Option Addr) (c : Nat) (zs : List Int) (x : Int) (w : World) (h : IR w 0 w.heap.size A zs) :
    Calls Try.prog 49 #[.slice A zs.length c, .int .i64 x] w fun e w' => e = .returned (.bool (manyOkB zs x)) ∧ Below w.heap.size w w' := by
  have H := Lib.hid h; clear h
  cases hr : rowB zs with
  | false =>
    have HM : Hid (manyOkB zs x = false) := Lib.hid (by unfold manyOkB; rw [hr]; rfl)
    have HR := Lib.hid hr; clear hr
    go_enter Try.func49, Try.ntmps49
    go_wp2_with fail
    refine (isRow_false _ _ _ _ zs _ H.out HR.out).mono ?_; rintro e w1 ⟨rfl, b1⟩
    go_wp2
    go_ret
    exact ⟨ret_bool HM.out.symm, b1⟩
  | true =>
    have HM : Hid (manyOkB zs x = (decide (1 ≤ x) && decide (x ≤ (zs.length : Int)))) := Lib.hid (by unfold manyOkB inB; rw [hr]; rfl)
    have HR := Lib.hid hr; clear hr
    by_cases c1 : 1 ≤ x
    · by_cases c2 : x ≤ (zs.length : Int)
      · have HM2 := Lib.hid (show manyOkB zs x = true by rw [HM.out]; simp [c1, c2])
        go_enter Try.func49, Try.ntmps49
        go_wp2_with fail
        refine (isRow_true _ _ _ _ zs _ H.out HR.out).mono ?_; rintro e w1 ⟨rfl, b1⟩
        go_wp2
        go_ret
        exact ⟨ret_bool HM2.out.symm, b1⟩
      · have HM2 := Lib.hid (show manyOkB zs x = false by rw [HM.out]; simp [c2])
        have c2d : decide (x ≤ (zs.length : Int)) = false := decide_eq_false c2
        go_enter Try.func49, Try.ntmps49
        go_wp2_with fail
        refine (isRow_true _ _ _ _ zs _ H.out HR.out).mono ?_; rintro e w1 ⟨rfl, b1⟩
        go_wp2
        go_ret
        exact ⟨ret_bool HM2.out.symm, b1⟩
    · have HM2 := Lib.hid (show manyOkB zs x = false by rw [HM.out]; simp [c1])
      go_enter Try.func49, Try.ntmps49
      go_wp2_with fail
      refine (isRow_true _ _ _ _ zs _ H.out HR.out).mono ?_; rintro e w1 ⟨rfl, b1⟩
      go_wp2
      go_ret
      exact ⟨ret_bool HM2.out.symm, b1⟩
theorem canSplit_of {b : Bool} (A : Option Addr) (c : Nat) (zs : List Int) (x : Int) (w : World) (h : IR w 0 w.heap.size A zs) (hb : manyOkB zs x = b) :
    Calls Try.prog 49 #[.slice A zs.length c, .int .i64 x] w fun e w' => e = .returned (.bool b) ∧ Below w.heap.size w w' := by
  have := canSplit_any A c zs x w h; rwa [hb] at this

theorem implSplitMany_any (A : Option Addr) (c : Nat) (zs : List Int) (x : Int) (_hx : I64 x) (w : World) (h : IR w 0 w.heap.size A zs) :
    Calls Try.prog 28 #[.slice A zs.length c, .int .i64 x] w fun e w' => e = .returned (splitManyV zs x) ∧ Below w.heap.size w w' := by
  have H := Lib.hid h; clear h
  cases hr : manyOkB zs x with
  | false =>
    have HM : Hid (splitManyV zs x = .tuple #[.int .i64 0, .bool false]) := by show _ = _; unfold splitManyV; rw [hr]; rfl
    have HR := Lib.hid hr; clear hr
    go_enter Try.func28, Try.ntmps28
    go_wp2_with fail
    refine (canSplit_of _ _ zs _ _ H.out HR.out).mono ?_; rintro e w1 ⟨rfl, b1⟩
    go_wp2
    go_ret2
    exact ⟨by rw [HM.out]; rfl, b1⟩
  | true =>
    have hb := hr
    unfold manyOkB at hb
    obtain ⟨hrow, hin⟩ := Bool.and_eq_true_iff.1 hb
    have hl := (rowB_true.1 hrow).2
    have hx1 := inB_true.1 hin
    have HM : Hid (splitManyV zs x = .tuple #[.int .i64 (chooseN (zs.length - 1) (x.toNat - 1) : Int), .bool true]) := by
      show _ = _; unfold splitManyV; rw [hr]; rfl
    have HC := Lib.hid (fun w' => binomial_any (zs.length - 1) (x.toNat - 1) (by omega) (by omega) w')
    have E1 := Lib.hid (show ((zs.length - 1 : Nat) : Int) = (zs.length : Int) - 1 by omega)
    have E2 := Lib.hid (show ((x.toNat - 1 : Nat) : Int) = x - 1 by omega)
    rw [E1.out, E2.out] at HC
    have e1 : IntKind.i64.wrap (x - 1) = x - 1 := IntWalk.i64_in _ (by omega)
    have e2 : IntKind.i64.wrap ((zs.length : Int) - 1) = (zs.length : Int) - 1 := IntWalk.i64_in _ (by omega)
    generalize chooseN (zs.length - 1) (x.toNat - 1) = N at HM HC
    have HR := Lib.hid hr; clear hr hb hrow hin hx1
    go_enter Try.func28, Try.ntmps28
    go_wp2_with fail
    refine (canSplit_of _ _ zs _ _ H.out HR.out).mono ?_; rintro e w1 ⟨rfl, b1⟩
    go_wp2_with fail
    refine (HC.out _).mono ?_; rintro e w' ⟨rfl, rfl⟩
    go_wp2
    go_ret2
    exact ⟨by rw [HM.out]; rfl, b1⟩

set_option maxRecDepth 100000 in
set_option maxHeartbeats 1000000 in
theorem implSplitCost_any (A : Option Addr) (c : Nat) (zs : List Int) (s : ByteArray) (B : Option Addr) (cb : Nat) (ys : List Int) (w : World) (h : IR w 0 w.heap.size A zs) (hy : IR w 0 w.heap.size B ys) (hcp : zs.length ≤ c ∧ c ≤ maxLen) :
    Calls Try.prog 11 #[.slice A zs.length c, .string s, .slice B ys.length cb] w fun e w' => e = .returned (splitCostV zs s ys) ∧ Below w.heap.size w w' := by
  have H := Lib.hid h; have HY := Lib.hid hy; clear h hy
  cases hsp : (rowB zs && segOk 0 ys (zs.length : Int)) with
  | false =>
    have HM : Hid (splitCostV zs s ys = .tuple #[.int .i64 0, .bool false]) := Lib.hid (by
      unfold splitCostV splitOkB givenS
      rw [Bool.and_assoc, Bool.and_comm (letB s), ← Bool.and_assoc, hsp]; rfl)
    have HS := Lib.hid hsp; clear hsp
    go_enter Try.func11, Try.ntmps11
    go_wp2_with fail
    refine (isSplit_of _ _ zs _ _ ys _ H.out HY.out HS.out).mono ?_; rintro e w1 ⟨rfl, b1⟩
    go_wp2
    go_ret2
    exact ⟨by rw [HM.out]; rfl, b1⟩
  | true =>
    obtain ⟨hrow, hseg⟩ := Bool.and_eq_true_iff.1 hsp
    have hl := (rowB_true.1 hrow).2
    have hsg := segOk_true.1 hseg
    have hyl := hsg.le
    have hy12 : ys.length ≤ 12 := by omega
    have HV : Hid (splitCostV zs s ys = if letB s then .tuple #[.int .i64 (segC (partV zs (sqB s)) 0 ys), .bool true] else .tuple #[.int .i64 0, .bool false]) := Lib.hid (by
      unfold splitCostV splitOkB givenS splitCost
      rw [Bool.and_assoc, Bool.and_comm (letB s), ← Bool.and_assoc, hsp, Bool.true_and])
    obtain ⟨b, o, rfl, _, _, _⟩ := H.out.at_ (k := 0) (by omega)
    have HRA := Lib.hid (H.out.rowAt (by omega))
    have HR := Lib.hid hrow
    have HSG := Lib.hid hsg
    have HPI := Lib.hid (inRow_pairs (n := zs.length) (Int.le_refl 0) hsg)
    have HPL := Lib.hid (pairs_len ys 0)
    have HCP := Lib.hid hcp
    have HS := Lib.hid hsp; clear hsp hrow hseg hsg
    have h12 := hl.2
    by_cases e1 : s.toList = [119]
    · have HM : Hid (splitCostV zs s ys = .tuple #[.int .i64 (segC (partV zs false) 0 ys), .bool true]) := Lib.hid (by
        rw [HV.out]; unfold letB sqB; rw [e1]; rfl)
      have HSUM : Hid (segC (partV zs false) 0 ys = sumL ((pairs 0 ys).map fun q => partV zs false q.1 q.2)) := Lib.hid (segC_sum _ _ _)
      rw [HSUM.out] at HM
      go_enter Try.func11, Try.ntmps11
      go_wp2_with fail
      refine (isSplit_of _ _ zs _ _ ys _ H.out HY.out HS.out).mono ?_; rintro e w1 ⟨rfl, b1⟩
      have B1 := Lib.hid b1; have HY1 := Lib.hid (HY.out.grow b1); have HRA1 := Lib.hid (HRA.out.grow b1); clear b1
      go_wp2_with fail
      refine (splitAtWide_any zs.length h12 b o c ys HSG.out HCP.out B cb _ _ HY1.out.toAll rfl).mono ?_; rintro e w2 ⟨A2, c2, rfl, hv2, -, b2⟩
      have B2 := Lib.hid (below_then B1.out (Nat.le_refl _) b2); have HV2 := Lib.hid hv2; have HRA2 := Lib.hid (HRA1.out.grow b2); clear b2 hv2
      go_wp2_with fail
      refine (costOfWide_any zs HR.out b o c (pairs 0 ys) HPI.out (by rw [HPL.out]; exact hy12) A2 _ c2 _ _ HRA2.out HV2.out HPL.out.symm).mono ?_; rintro e w3 ⟨rfl, rfl⟩
      go_wp2
      go_ret2
      exact ⟨by rw [HM.out]; rfl, B2.out⟩
    · by_cases e2 : s.toList = [115]
      · have HM : Hid (splitCostV zs s ys = .tuple #[.int .i64 (segC (partV zs true) 0 ys), .bool true]) := Lib.hid (by
          rw [HV.out]; unfold letB sqB; rw [e2]; rfl)
        have HSUM : Hid (segC (partV zs true) 0 ys = sumL ((pairs 0 ys).map fun q => partV zs true q.1 q.2)) := Lib.hid (segC_sum _ _ _)
        rw [HSUM.out] at HM
        have e1b : (s.toList == [119]) = false := by rw [e2]; rfl
        clear e1
        go_enter Try.func11, Try.ntmps11
        go_wp2_with fail
        refine (isSplit_of _ _ zs _ _ ys _ H.out HY.out HS.out).mono ?_; rintro e w1 ⟨rfl, b1⟩
        have B1 := Lib.hid b1; have HY1 := Lib.hid (HY.out.grow b1); have HRA1 := Lib.hid (HRA.out.grow b1); clear b1
        go_wp2_with fail
        refine (splitAtSquare_any zs.length h12 b o c ys HSG.out HCP.out B cb _ _ HY1.out.toAll rfl).mono ?_; rintro e w2 ⟨A2, c2, rfl, hv2, -, b2⟩
        have B2 := Lib.hid (below_then B1.out (Nat.le_refl _) b2); have HV2 := Lib.hid hv2; have HRA2 := Lib.hid (HRA1.out.grow b2); clear b2 hv2
        go_wp2_with fail
        refine (costOfSquare_any zs HR.out b o c (pairs 0 ys) HPI.out (by rw [HPL.out]; exact hy12) A2 _ c2 _ _ HRA2.out HV2.out HPL.out.symm).mono ?_; rintro e w3 ⟨rfl, rfl⟩
        go_wp2
        go_ret2
        exact ⟨by rw [HM.out]; rfl, B2.out⟩
      · have e1b : (s.toList == [119]) = false := by simpa using e1
        have e2b : (s.toList == [115]) = false := by simpa using e2
        have HM : Hid (splitCostV zs s ys = .tuple #[.int .i64 0, .bool false]) := Lib.hid (by
          rw [HV.out]; unfold letB; rw [e1b, e2b]; rfl)
        go_enter Try.func11, Try.ntmps11
        go_wp2_with fail
        refine (isSplit_of _ _ zs _ _ ys _ H.out HY.out HS.out).mono ?_; rintro e w1 ⟨rfl, b1⟩
        go_wp2
        go_ret2
        exact ⟨by rw [HM.out]; rfl, b1⟩
end Go.Proofs.Ytfkmnlhmldjieaa
