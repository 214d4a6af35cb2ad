/-
  Chapter 8 of the program: what parts cost. Conditions: the row's cells are there.
-/
import Derived.Test.YtfkmnlhmldjieaaScA
import Derived.Test.YtfkmnlhmldjieaaPtV
import Derived.Test.YtfkmnlhmldjieaaImpl
namespace Go.Proofs.Ytfkmnlhmldjieaa
open Go.RowKit

/-- The row lies at this place. -/
def RowAt (w : World) (b o : Nat) (zs : List Int) : Prop := b < w.heap.size ∧ ∀ j, j < zs.length → w.cell? ⟨b, o + j, none⟩ = some (.int .i64 (zs.getD j 0))
theorem RowAt.grow {w w' : World} {b o : Nat} {zs : List Int} (h : RowAt w b o zs) (hb : Below w.heap.size w w') : RowAt w' b o zs :=
  ⟨Nat.lt_of_lt_of_le h.1 hb.size, fun j hj => (World.cell?_of_block (a := ⟨b, o + j, none⟩) (hb.block b h.1)).trans (h.2 j hj)⟩
theorem IR.rowAt {w : World} {lo hi b o : Nat} {zs : List Int} (h : IR w lo hi (some ⟨b, o, none⟩) zs) (h0 : 0 < zs.length) : RowAt w b o zs := by
  obtain ⟨b', o', e, _, hb, _⟩ := h.at_ h0
  injection e with e; injection e with e1 e2 _; subst e1; subst e2
  refine ⟨hb, fun j hj => ?_⟩
  obtain ⟨b', o', e, _, _, hc⟩ := h.at_ hj
  injection e with e; injection e with e1 e2 _; subst e1; subst e2
  rw [getD_in hj]; exact hc

set_option maxHeartbeats 1000000 in
theorem maxWide_any (zs : List Int) (b o i d c : Nat) (w : World) (h : RowAt w b o zs) (hd : i + d < zs.length) (hn : d < 1000) :
    Calls Try.prog 104 #[.slice (some ⟨b, o + i, none⟩) (d + 1) c] w fun e w' => e = .returned (.int .i64 (hiTo zs i d)) ∧ w' = w := by
  have H := Lib.hid h.2
  have hc0 := h.2 i (by omega)
  rw [show zs.getD i 0 = hiTo zs i 0 from rfl] at hc0
  have hn1 : ¬ ((d + 1 : Nat) : Int) < 1 := by omega
  have hn2 : (0 : Int) < ((d + 1 : Nat) : Int) := by omega
  clear h
  obtain ⟨n, hnn⟩ : ∃ n, d + 1 = n := ⟨_, rfl⟩
  rw [hnn] at hn1 hn2
  rw [hnn]
  go_enter Try.func104, Try.ntmps104
  go_wp2
  clear hc0
  go_loop [3, 4] (fun m x => ∃ k : Nat, 1 ≤ k ∧ k ≤ n ∧ x = .int .i64 (k : Int) ∧ m = .int .i64 (hiTo zs i (k - 1))) (fun _ x => n - (intOf x).toNat)
  case atStart => exact ⟨1, Nat.le_refl _, by omega, rfl, rfl⟩
  case round =>
    obtain ⟨k, hk1, hk2, rfl, rfl⟩ := hrel
    by_cases hlt : k < n
    · have hc := H.out (i + k) (by omega)
      rw [show o + (i + k) = o + i + k by omega] at hc
      have hlt' : (k : Int) < (n : Int) := by omega
      have s1 : IntKind.i64.wrap ((k : Int) + 1) = (k : Int) + 1 := IntWalk.i64_in _ (by omega)
      have HL : Hid (hiTo zs i k = max (hiTo zs i (k - 1)) (zs.getD (i + k) 0)) := by
        show _ = _
        obtain ⟨j, rfl⟩ : ∃ j, k = j + 1 := ⟨k - 1, by omega⟩
        simp only [hiTo, Nat.add_sub_cancel]; rw [show i + (j + 1) = i + j + 1 by omega]
      have HKN := Lib.hid hlt
      generalize zs.getD (i + k) 0 = y at hc HL
      generalize hiTo zs i (k - 1) = m at HL
      clear hnn
      by_cases c1 : m < y
      · have HL2 : Hid (hiTo zs i k = y) := by have := HL.out; show _ = _; omega
        go_wp2
        go_round
        case rel => exact ⟨k + 1, by omega, HKN.out, by go_num, by rw [Nat.add_sub_cancel, HL2.out]⟩
        case measure => have := HKN.out; simp [intOf]; omega
      · have HL2 : Hid (hiTo zs i k = m) := by have := HL.out; show _ = _; omega
        go_wp2
        go_round
        case rel => exact ⟨k + 1, by omega, HKN.out, by go_num, by rw [Nat.add_sub_cancel, HL2.out]⟩
        case measure => have := HKN.out; simp [intOf]; omega
    · obtain rfl : k = n := by omega
      have hlt' : ¬ (k : Int) < (k : Int) := by omega
      rw [show k - 1 = d by omega]
      go_wp2
      go_ret
      exact ⟨rfl, rfl⟩

set_option maxHeartbeats 1000000 in
theorem minWide_any (zs : List Int) (b o i d c : Nat) (w : World) (h : RowAt w b o zs) (hd : i + d < zs.length) (hn : d < 1000) :
    Calls Try.prog 105 #[.slice (some ⟨b, o + i, none⟩) (d + 1) c] w fun e w' => e = .returned (.int .i64 (loTo zs i d)) ∧ w' = w := by
  have H := Lib.hid h.2
  have hc0 := h.2 i (by omega)
  rw [show zs.getD i 0 = loTo zs i 0 from rfl] at hc0
  have hn1 : ¬ ((d + 1 : Nat) : Int) < 1 := by omega
  have hn2 : (0 : Int) < ((d + 1 : Nat) : Int) := by omega
  clear h
  obtain ⟨n, hnn⟩ : ∃ n, d + 1 = n := ⟨_, rfl⟩
  rw [hnn] at hn1 hn2
  rw [hnn]
  go_enter Try.func105, Try.ntmps105
  go_wp2
  clear hc0
  go_loop [3, 4] (fun m x => ∃ k : Nat, 1 ≤ k ∧ k ≤ n ∧ x = .int .i64 (k : Int) ∧ m = .int .i64 (loTo zs i (k - 1))) (fun _ x => n - (intOf x).toNat)
  case atStart => exact ⟨1, Nat.le_refl _, by omega, rfl, rfl⟩
  case round =>
    obtain ⟨k, hk1, hk2, rfl, rfl⟩ := hrel
    by_cases hlt : k < n
    · have hc := H.out (i + k) (by omega)
      rw [show o + (i + k) = o + i + k by omega] at hc
      have hlt' : (k : Int) < (n : Int) := by omega
      have s1 : IntKind.i64.wrap ((k : Int) + 1) = (k : Int) + 1 := IntWalk.i64_in _ (by omega)
      have HL : Hid (loTo zs i k = min (loTo zs i (k - 1)) (zs.getD (i + k) 0)) := by
        show _ = _
        obtain ⟨j, rfl⟩ : ∃ j, k = j + 1 := ⟨k - 1, by omega⟩
        simp only [loTo, Nat.add_sub_cancel]; rw [show i + (j + 1) = i + j + 1 by omega]
      have HKN := Lib.hid hlt
      generalize zs.getD (i + k) 0 = y at hc HL
      generalize loTo zs i (k - 1) = m at HL
      clear hnn
      have HL2 : Hid (loTo zs i k = if y < m then y else m) := by have := HL.out; show _ = _; split <;> omega
      go_wp2
      go_round
      case rel => exact ⟨k + 1, by omega, HKN.out, by go_num, by rw [Nat.add_sub_cancel, HL2.out]⟩
      case measure => have := HKN.out; simp [intOf]; omega
    · obtain rfl : k = n := by omega
      have hlt' : ¬ (k : Int) < (k : Int) := by omega
      rw [show k - 1 = d by omega]
      go_wp2
      go_ret
      exact ⟨rfl, rfl⟩

set_option maxHeartbeats 1000000 in
theorem minInts_any (zs : List Int) (b o i d c : Nat) (w : World) (h : RowAt w b o zs) (hd : i + d < zs.length) (hn : d < 1000) :
    Calls Try.prog 63 #[.slice (some ⟨b, o + i, none⟩) (d + 1) c] w fun e w' => e = .returned (.int .i64 (loTo zs i d)) ∧ w' = w := by
  have H := Lib.hid h.2
  have hc0 := h.2 i (by omega)
  rw [show zs.getD i 0 = loTo zs i 0 from rfl] at hc0
  have hn1 : ¬ ((d + 1 : Nat) : Int) < 1 := by omega
  have hn2 : (0 : Int) < ((d + 1 : Nat) : Int) := by omega
  clear h
  obtain ⟨n, hnn⟩ : ∃ n, d + 1 = n := ⟨_, rfl⟩
  rw [hnn] at hn1 hn2
  rw [hnn]
  go_enter Try.func63, Try.ntmps63
  go_wp2
  clear hc0
  go_loop [3, 4] (fun m x => ∃ k : Nat, 1 ≤ k ∧ k ≤ n ∧ x = .int .i64 (k : Int) ∧ m = .int .i64 (loTo zs i (k - 1))) (fun _ x => n - (intOf x).toNat)
  case atStart => exact ⟨1, Nat.le_refl _, by omega, rfl, rfl⟩
  case round =>
    obtain ⟨k, hk1, hk2, rfl, rfl⟩ := hrel
    by_cases hlt : k < n
    · have hc := H.out (i + k) (by omega)
      rw [show o + (i + k) = o + i + k by omega] at hc
      have hlt' : (k : Int) < (n : Int) := by omega
      have s1 : IntKind.i64.wrap ((k : Int) + 1) = (k : Int) + 1 := IntWalk.i64_in _ (by omega)
      have HL : Hid (loTo zs i k = min (loTo zs i (k - 1)) (zs.getD (i + k) 0)) := by
        show _ = _
        obtain ⟨j, rfl⟩ : ∃ j, k = j + 1 := ⟨k - 1, by omega⟩
        simp only [loTo, Nat.add_sub_cancel]; rw [show i + (j + 1) = i + j + 1 by omega]
      have HKN := Lib.hid hlt
      generalize zs.getD (i + k) 0 = y at hc HL
      generalize loTo zs i (k - 1) = m at HL
      clear hnn
      have HL2 : Hid (loTo zs i k = if y < m then y else m) := by have := HL.out; show _ = _; split <;> omega
      go_wp2
      go_round
      case rel => exact ⟨k + 1, by omega, HKN.out, by go_num, by rw [Nat.add_sub_cancel, HL2.out]⟩
      case measure => have := HKN.out; simp [intOf]; omega
    · obtain rfl : k = n := by omega
      have hlt' : ¬ (k : Int) < (k : Int) := by omega
      rw [show k - 1 = d by omega]
      go_wp2
      go_ret
      exact ⟨rfl, rfl⟩

theorem smN_i64 {zs : List Int} (hz : ∀ z, z ∈ zs → -1000 ≤ z ∧ z ≤ 1000) {i d : Nat} (hd : d ≤ 12) : -12000 ≤ smN zs i d ∧ smN zs i d ≤ 12000 := by
  have := smN_bd hz i d
  omega
set_option maxHeartbeats 1000000 in
theorem sumCost_any (zs : List Int) (hr : rowB zs = true) (b o i n c : Nat) (w : World) (h : RowAt w b o zs) (hd : i + n ≤ zs.length) :
    Calls Try.prog 108 #[.slice (some ⟨b, o + i, none⟩) n c] w fun e w' => e = .returned (.int .i64 (smN zs i n)) ∧ w' = w := by
  have H := Lib.hid h.2
  have hz := (rowB_true.1 hr).1
  have h12 := (rowB_true.1 hr).2.2
  have HZ := Lib.hid hz
  clear h hr hz
  go_enter Try.func108, Try.ntmps108
  go_wp2
  go_loop [3, 5, 8] (fun m _ x => ∃ k : Nat, k ≤ n ∧ x = .int .i64 (k : Int) ∧ m = .int .i64 (smN zs i k)) (fun _ _ x => n - (intOf x).toNat)
  case atStart => exact ⟨0, Nat.zero_le _, rfl, rfl⟩
  case round =>
    obtain ⟨k, hk2, rfl, rfl⟩ := hrel
    by_cases hlt : k < n
    · have hc := H.out (i + k) (by omega)
      rw [show o + (i + k) = o + i + k by omega] at hc
      have hlt' : (k : Int) < (n : Int) := by omega
      have hb := smN_i64 HZ.out (i := i) (d := k) (by omega)
      have hb2 := smN_i64 HZ.out (i := i) (d := k + 1) (by omega)
      have HL : Hid (smN zs i (k + 1) = smN zs i k + zs.getD (i + k) 0) := Lib.hid rfl
      have e := HL.out
      generalize zs.getD (i + k) 0 = y at hc HL e
      generalize smN zs i k = m at HL hb e
      have s1 : IntKind.i64.wrap (m + y) = m + y := IntWalk.i64_in _ (by omega)
      clear e hb2
      go_wp2
      go_round
      case rel => exact ⟨k + 1, by omega, by go_num, by rw [HL.out]⟩
      case measure => simp [intOf]; omega
    · obtain rfl : k = n := by omega
      have hlt' : ¬ (k : Int) < (k : Int) := by omega
      go_wp2
      go_ret
      exact ⟨rfl, rfl⟩
theorem wideCost_any (zs : List Int) (hr : rowB zs = true) (b o i d c : Nat) (w : World) (h : RowAt w b o zs) (hd : i + d < zs.length) :
    Calls Try.prog 103 #[.slice (some ⟨b, o + i, none⟩) (d + 1) c] w fun e w' => e = .returned (.int .i64 (hiTo zs i d - loTo zs i d)) ∧ w' = w := by
  have h12 := (rowB_true.1 hr).2.2
  have hb := part_bd (sq := false) hr (show (0 : Int) ≤ (i : Int) by omega) (show (i : Int) ≤ ((i + d : Nat) : Int) by omega) (show ((i + d : Nat) : Int) < (zs.length : Int) by omega)
  unfold partV at hb
  simp only [Bool.false_eq_true, if_false, Int.toNat_natCast, show (((i + d : Nat) : Int) - (i : Int)).toNat = d by omega] at hb
  have s1 : IntKind.i64.wrap (hiTo zs i d - loTo zs i d) = hiTo zs i d - loTo zs i d := IntWalk.i64_in _ (by omega)
  have H1 := Lib.hid (maxWide_any zs b o i d c w h hd (by omega))
  have H2 := Lib.hid (minWide_any zs b o i d c w h hd (by omega))
  obtain ⟨n, hn⟩ : ∃ n, d + 1 = n := ⟨_, rfl⟩
  rw [hn] at H1 H2
  rw [hn]
  generalize hiTo zs i d = u at s1 H1
  generalize loTo zs i d = v at s1 H2
  clear hb hn h hd h12
  go_enter Try.func103, Try.ntmps103
  go_wp2_with fail
  refine H1.out.mono ?_; rintro e w' ⟨rfl, rfl⟩
  go_wp2_with fail
  refine H2.out.mono ?_; rintro e w' ⟨rfl, rfl⟩
  go_wp2
  go_ret
  exact ⟨rfl, rfl⟩
theorem squareCost_any (zs : List Int) (hr : rowB zs = true) (b o i n c : Nat) (w : World) (h : RowAt w b o zs) (hd : i + n ≤ zs.length) :
    Calls Try.prog 107 #[.slice (some ⟨b, o + i, none⟩) n c] w fun e w' => e = .returned (.int .i64 (smN zs i n * smN zs i n)) ∧ w' = w := by
  have h12 := (rowB_true.1 hr).2.2
  have hb := smN_i64 (rowB_true.1 hr).1 (i := i) (d := n) (by omega)
  have hb2 := sqr_bd hb.1 hb.2
  have hb3 := sqr_nonneg (smN zs i n)
  have s1 : IntKind.i64.wrap (smN zs i n * smN zs i n) = smN zs i n * smN zs i n := IntWalk.i64_in _ (by omega)
  have H1 := Lib.hid (sumCost_any zs hr b o i n c w h hd)
  generalize smN zs i n = u at s1 H1
  clear hb hb2 hb3 h hd h12
  go_enter Try.func107, Try.ntmps107
  go_wp2_with fail
  refine H1.out.mono ?_; rintro e w' ⟨rfl, rfl⟩
  go_wp2
  go_ret
  exact ⟨rfl, rfl⟩
/-- What a part of the program is: a slice of the row. -/
def subV (b o cp : Nat) (q : Int × Int) : Value := .slice (some ⟨b, o + q.1.toNat, none⟩) ((q.2 - q.1).toNat + 1) (cp - q.1.toNat)
def subsV (b o cp : Nat) (ps : List (Int × Int)) : List Value := ps.map (subV b o cp)
theorem subs_cell (b o cp : Nat) (ps : List (Int × Int)) : ∀ u, u ∈ subsV b o cp ps → u.oneCell' = true := fun u hu => by
  obtain ⟨q, -, rfl⟩ := List.mem_map.1 hu; rfl
theorem subs_len (b o cp : Nat) (ps : List (Int × Int)) : (subsV b o cp ps).length = ps.length := by simp [subsV]
def InRow (n : Nat) (q : Int × Int) : Prop := 0 ≤ q.1 ∧ q.1 ≤ q.2 ∧ q.2 < (n : Int)
theorem inRow_pairs {l : List Int} {f : Int} {n : Nat} (h0 : 0 ≤ f) (h : Seg f l (n : Int)) : ∀ q, q ∈ pairs f l → InRow n q := fun q hq => by
  have := pairs_in h q hq
  exact ⟨by omega, this.2.1, this.2.2⟩
theorem wideSub_any (zs : List Int) (hr : rowB zs = true) (b o cp : Nat) (q : Int × Int) (w : World) (h : RowAt w b o zs) (hq : InRow zs.length q) :
    Calls Try.prog 103 #[subV b o cp q] w fun e w' => e = .returned (.int .i64 (partV zs false q.1 q.2)) ∧ w' = w := by
  obtain ⟨h0, h1, h2⟩ := hq
  have := wideCost_any zs hr b o q.1.toNat (q.2 - q.1).toNat (cp - q.1.toNat) w h (by omega)
  unfold subV partV
  simpa using this
theorem squareSub_any (zs : List Int) (hr : rowB zs = true) (b o cp : Nat) (q : Int × Int) (w : World) (h : RowAt w b o zs) (hq : InRow zs.length q) :
    Calls Try.prog 107 #[subV b o cp q] w fun e w' => e = .returned (.int .i64 (partV zs true q.1 q.2)) ∧ w' = w := by
  obtain ⟨h0, h1, h2⟩ := hq
  have := squareCost_any zs hr b o q.1.toNat ((q.2 - q.1).toNat + 1) (cp - q.1.toNat) w h (by omega)
  unfold subV partV
  rw [← smTo_smN] at this
  simpa using this
theorem sumSub_any (zs : List Int) (hr : rowB zs = true) (b o cp : Nat) (q : Int × Int) (w : World) (h : RowAt w b o zs) (hq : InRow zs.length q) :
    Calls Try.prog 108 #[subV b o cp q] w fun e w' => e = .returned (.int .i64 (sumW zs q.1 q.2)) ∧ w' = w := by
  obtain ⟨h0, h1, h2⟩ := hq
  have := sumCost_any zs hr b o q.1.toNat ((q.2 - q.1).toNat + 1) (cp - q.1.toNat) w h (by omega)
  unfold subV sumW
  rw [← smTo_smN] at this
  exact this
end Go.Proofs.Ytfkmnlhmldjieaa
