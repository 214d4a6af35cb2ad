/-
  The reader that the laws draw with: its block, what a call of pick does to it, and the number that it gives. Conditions: the reader has been asked at most 1,000,000,000 times.
-/
import Derived.Test.YtanoojpmokbiaabPush
import Derived.Laws.BitsAllLaws
namespace Go.Proofs.Ytanoojpmokbiaab
open Go.RowKit

/-- From w to w', of the blocks below C only block R has been written. -/
structure But (C R : Nat) (w w' : World) : Prop where
  os : w'.os = w.os
  tape : w'.tape = w.tape
  output : w'.output = w.output
  size : w.heap.size ≤ w'.heap.size
  block : ∀ k, k < C → k ≠ R → w'.heap[k]? = w.heap[k]?

theorem But.refl (C R : Nat) (w : World) : But C R w w := ⟨rfl, rfl, rfl, Nat.le_refl _, fun _ _ _ => rfl⟩
theorem But.mono {C D R : Nat} {w w' : World} (h : But D R w w') (hC : C ≤ D) : But C R w w' := ⟨h.os, h.tape, h.output, h.size, fun k hk hR => h.block k (by omega) hR⟩
theorem But.trans {C R : Nat} {a b c : World} (h : But C R a b) (k : But C R b c) : But C R a c :=
  ⟨k.os.trans h.os, k.tape.trans h.tape, k.output.trans h.output, Nat.le_trans h.size k.size, fun i hi hR => (k.block i hi hR).trans (h.block i hi hR)⟩
theorem But.then_ {C R : Nat} {a b c : World} (h : But C R a b) (hC : C ≤ a.heap.size) (k : But b.heap.size R b c) : But C R a c :=
  h.trans (k.mono (Nat.le_trans hC h.size))
theorem But.of {C R : Nat} {w w' : World} (h : Below C w w') : But C R w w' := ⟨h.os, h.tape, h.output, h.size, fun k hk _ => h.block k hk⟩
theorem But.toBelow {B C R : Nat} {w w' : World} (h : But C R w w') (hB : B ≤ C) (hR : B ≤ R) : Below B w w' :=
  ⟨h.os, h.tape, h.output, h.size, fun k hk => h.block k (by omega) (by omega)⟩
theorem But.set_ {C R : Nat} {a w : World} (h : But C R a w) (off : Nat) (u : Value) : But C R a (w.setCell ⟨R, off, none⟩ u) where
  os := h.os
  tape := h.tape
  output := h.output
  size := by simpa [World.setCell] using h.size
  block k hk hR := by
    rw [Below.heap_setCell w ⟨R, off, none⟩ u k hR]
    exact h.block k hk hR
theorem But.drewN {C R : Nat} {a w : World} (h : But C R a w) (n : Nat) : But C R a (w.drewN n) := ⟨h.os, h.tape, h.output, h.size, h.block⟩

/-- The slice's cells read as the list of bytes; they lie in blocks below hi. -/
def BR (w : World) (hi : Nat) (A : Option Addr) (bs : List Int) : Prop :=
  bs.length ≤ 140737488355328 ∧ (∀ z, z ∈ bs → 0 ≤ z ∧ z ≤ 255) ∧ hi ≤ w.heap.size ∧ (0 < bs.length → ∃ b off, A = some ⟨b, off, none⟩ ∧ b < hi ∧ ∀ (j : Nat) (h : j < bs.length), w.cell? ⟨b, off + j, none⟩ = some (.int .u8 bs[j]))
theorem BR.but {w w' : World} {hi C R : Nat} {A : Option Addr} {bs : List Int} (h : BR w hi A bs) (hb : But C R w w') (hC : hi ≤ C) (hR : hi ≤ R) : BR w' hi A bs :=
  ⟨h.1, h.2.1, Nat.le_trans h.2.2.1 hb.size, fun hn => by
    obtain ⟨b, off, e, h2, h3⟩ := h.2.2.2 hn
    exact ⟨b, off, e, h2, fun j hj => (World.cell?_of_block (hb.block b (by omega) (by omega))).trans (h3 j hj)⟩⟩

/-- The reader lies in block R, has been asked p times, and reads bytes that lie in blocks below R. -/
def Rd (w : World) (R p : Nat) : Prop := ∃ A c bs, R < w.heap.size ∧ w.cell? ⟨R, 0, none⟩ = some (.slice A bs.length c) ∧ w.cell? ⟨R, 1, none⟩ = some (.int .i64 (p : Int)) ∧ w.frozen? ⟨R, 1, none⟩ = false ∧ BR w R A bs

theorem Rd.below {w w' : World} {R p C : Nat} (h : Rd w R p) (hb : Below C w w') (hC : R < C) : Rd w' R p := by
  obtain ⟨A, c, bs, h1, h2, h3, h4, h5⟩ := h
  exact ⟨A, c, bs, Nat.lt_of_lt_of_le h1 hb.size, (hb.cell (p := ⟨R, 0, none⟩) hC).trans h2, (hb.cell (p := ⟨R, 1, none⟩) hC).trans h3,
    (World.frozen?_of_block (hb.block R hC)).trans h4, h5.but (R := R) (But.of hb) (by omega) (Nat.le_refl _)⟩
theorem Rd.lt {w : World} {R p : Nat} (h : Rd w R p) : R < w.heap.size := by obtain ⟨_, _, _, h1, _⟩ := h; exact h1
theorem Rd.drewN {w : World} {R p : Nat} (h : Rd w R p) (n : Nat) : Rd (w.drewN n) R p := h
theorem Rd.step {w : World} {R p : Nat} (h : Rd w R p) : Rd (w.setCell ⟨R, 1, none⟩ (.int .i64 ((p : Int) + 1))) R (p + 1) := by
  obtain ⟨A, c, bs, h1, h2, h3, h4, h5⟩ := h
  refine ⟨A, c, bs, by simpa [World.setCell] using h1, ?_, ?_, (World.frozen?_setCell _ _ _ _).trans h4, h5.but ((But.refl R R w).set_ 1 _) (Nat.le_refl _) (Nat.le_refl _)⟩
  · rw [World.cell?_setCell_other _ _ _ _ (by simp)]; exact h2
  · rw [World.cell?_setCell_same' _ _ _ (by rw [h3]; rfl)]; simp

/-- What a call of pick leaves: a number from 0 to n - 1 (0 if there is none), and the reader asked once more. -/
def PickPost (w : World) (R p : Nat) (n : Int) (e : Ending) (w' : World) : Prop :=
  ∃ v : Int, e = .returned (.int .i64 v) ∧ 0 ≤ v ∧ (1 ≤ n → v < n) ∧ (n < 1 → v = 0) ∧ But w.heap.size R w w' ∧ w'.heap.size = w.heap.size ∧ Rd w' R (p + 1)

theorem pickPost_of {w : World} {R p m : Nat} {n v : Int} (h : Rd w R p) (h0 : 0 ≤ v) (h1 : 1 ≤ n → v < n) (h2 : n < 1 → v = 0) : PickPost w R p n (.returned (.int .i64 v)) ((w.setCell ⟨R, 1, none⟩ (.int .i64 ((p : Int) + 1))).drewN m) :=
  ⟨v, rfl, h0, h1, h2, ((But.refl _ _ _).set_ 1 _).drewN m, by simp [World.setCell, World.drewN], h.step.drewN m⟩

theorem pickPost_of0 {w : World} {R p : Nat} {n v : Int} (h : Rd w R p) (h0 : 0 ≤ v) (h1 : 1 ≤ n → v < n) (h2 : n < 1 → v = 0) : PickPost w R p n (.returned (.int .i64 v)) (w.setCell ⟨R, 1, none⟩ (.int .i64 ((p : Int) + 1))) :=
  ⟨v, rfl, h0, h1, h2, (But.refl _ _ _).set_ 1 _, by simp [World.setCell], h.step⟩

set_option maxHeartbeats 1000000 in
theorem pick_none (R p : Nat) (n : Int) (w : World) (h : Rd w R p) (hp : p ≤ 1000000000) (hn : n < 1) :
    Calls Try.prog 40 #[.pointer (some ⟨R, 0, none⟩), .int .i64 n] w (PickPost w R p n) := by
  have H := Lib.hid h
  obtain ⟨A, c, bs, h1, h2, h3, h4, h5⟩ := h
  clear h2 h5
  go_enter Try.func40, Try.ntmps40
  go_wp2
  go_ret
  exact pickPost_of0 H.out (Int.le_refl _) (by omega) (fun _ => rfl)

set_option maxHeartbeats 1000000 in
theorem pick_empty (R p : Nat) (n : Int) (A : Option Addr) (c : Nat) (w : World) (h : Rd w R p) (hp : p ≤ 1000000000) (hn : 1 ≤ n) (h2 : w.cell? ⟨R, 0, none⟩ = some (.slice A 0 c)) (h3 : w.cell? ⟨R, 1, none⟩ = some (.int .i64 (p : Int))) (h4 : w.frozen? ⟨R, 1, none⟩ = false) :
    Calls Try.prog 40 #[.pointer (some ⟨R, 0, none⟩), .int .i64 n] w (PickPost w R p n) := by
  have H := Lib.hid h
  clear h
  have hn' : ¬ n < 1 := by omega
  go_enter Try.func40, Try.ntmps40
  go_wp2
  go_ret
  exact pickPost_of0 H.out (Int.le_refl _) (by omega) (fun _ => rfl)

set_option maxHeartbeats 1000000 in
theorem pick_in (R p : Nat) (n : Int) (b off len c : Nat) (y : Int) (w : World) (h : Rd w R p) (hp : p ≤ 1000000000) (hn : 1 ≤ n) (hni : n ≤ 9223372036854775807) (hl : len ≤ 140737488355328) (h2 : w.cell? ⟨R, 0, none⟩ = some (.slice (some ⟨b, off, none⟩) len c)) (h3 : w.cell? ⟨R, 1, none⟩ = some (.int .i64 (p : Int))) (h4 : w.frozen? ⟨R, 1, none⟩ = false)
    (hb : b ≠ R) (hk : p < len) (hy : w.cell? ⟨b, off + p, none⟩ = some (.int .u8 y)) (hy0 : 0 ≤ y) (hy1 : y ≤ 255) :
    Calls Try.prog 40 #[.pointer (some ⟨R, 0, none⟩), .int .i64 n] w (PickPost w R p n) := by
  have H := Lib.hid h
  clear h
  have hn' : ¬ n < 1 := by omega
  have hn0 : ¬ n = 0 := by omega
  have hl0 : ¬ (len : Int) = 0 := by omega
  have hk' : (p : Int) < (len : Int) := by omega
  have hp0 : (0 : Int) ≤ (p : Int) := by omega
  have hp1 : (p : Int) + 1 - 1 = (p : Int) := by omega
  have hy' : (w.setCell ⟨R, 1, none⟩ (.int .i64 ((p : Int) + 1))).cell? ⟨b, off + p, none⟩ = some (.int .u8 y) := by
    rw [World.cell?_setCell_other _ _ _ _ (by simp)]; exact hy
  go_enter Try.func40, Try.ntmps40
  go_wp2
  go_ret
  exact pickPost_of0 H.out (Int.emod_nonneg _ (by omega)) (fun _ => Int.emod_lt_of_pos _ (by omega)) (by omega)

theorem xor_nat (a b : Nat) (ha : a < 4611686018427387904) (hb : b < 4611686018427387904) : ∃ c : Nat, c < 4611686018427387904 ∧ bits .xor .i64 (a : Int) (b : Int) = (c : Int) := by
  have hx : a ^^^ b < 2 ^ 62 := Nat.xor_lt_two_pow (by omega) (by omega)
  refine ⟨a ^^^ b, hx, ?_⟩
  show IntKind.i64.wrap ((BitVec.ofInt 64 (a : Int) ^^^ BitVec.ofInt 64 (b : Int)).toNat : Int) = _
  rw [BitVec.toNat_xor, ofInt_u64 a (by omega), ofInt_u64 b (by omega), IntWalk.i64_in]
  omega

theorem mix_range (X n : Int) (h0 : 0 ≤ X) (h1 : X < 4611686018427387904) (hn : 1 ≤ n) : 0 ≤ (bits .xor .i64 X (X / 64)).tmod n ∧ (bits .xor .i64 X (X / 64)).tmod n < n := by
  obtain ⟨a, rfl⟩ := Int.eq_ofNat_of_zero_le h0
  obtain ⟨c, _, e⟩ := xor_nat a (a / 64) (by omega) (by omega)
  have e' : bits .xor .i64 (a : Int) ((a : Int) / 64) = (c : Int) := by rw [← e]; rfl
  rw [e', IntWalk.rem_in _ _ (by omega)]
  exact ⟨Int.emod_nonneg _ (by omega), Int.emod_lt_of_pos _ (by omega)⟩

set_option maxHeartbeats 4000000 in
theorem pick_past (R p : Nat) (n : Int) (b off len c m1 m2 q : Nat) (y1 y2 : Int) (w : World) (h : Rd w R p) (hp : p ≤ 1000000000) (hn : 1 ≤ n) (hni : n ≤ 9223372036854775807) (hl : len ≤ 140737488355328) (h2 : w.cell? ⟨R, 0, none⟩ = some (.slice (some ⟨b, off, none⟩) len c)) (h3 : w.cell? ⟨R, 1, none⟩ = some (.int .i64 (p : Int))) (h4 : w.frozen? ⟨R, 1, none⟩ = false)
    (hb : b ≠ R) (hk : len ≤ p) (hl1 : 1 ≤ len)
    (em1 : p % len = m1) (em2 : (p * 7 + 3) % len = m2) (eq : p / len = q) (lm1 : m1 < len) (lm2 : m2 < len) (lq : q ≤ p)
    (hy1 : w.cell? ⟨b, off + m1, none⟩ = some (.int .u8 y1)) (hy10 : 0 ≤ y1) (hy11 : y1 ≤ 255) (hy2 : w.cell? ⟨b, off + m2, none⟩ = some (.int .u8 y2)) (hy20 : 0 ≤ y2) (hy21 : y2 ≤ 255) :
    Calls Try.prog 40 #[.pointer (some ⟨R, 0, none⟩), .int .i64 n] w (PickPost w R p n) := by
  have H := Lib.hid h
  clear h
  have hn' : ¬ n < 1 := by omega
  have hn0 : ¬ n = 0 := by omega
  have hl0 : ¬ (len : Int) = 0 := by omega
  have hk' : ¬ (p : Int) < (len : Int) := by omega
  have hp0 : (0 : Int) ≤ (p : Int) := by omega
  have hp1 : (p : Int) + 1 - 1 = (p : Int) := by omega
  have hm10 : (0 : Int) ≤ (m1 : Int) := by omega
  have hm20 : (0 : Int) ≤ (m2 : Int) := by omega
  have hm11 : (m1 : Int) < (len : Int) := by omega
  have hm21 : (m2 : Int) < (len : Int) := by omega
  have s1 : IntKind.i64.wrap ((p : Int) * 7) = (p : Int) * 7 := IntWalk.i64_in _ (by omega)
  have s2 : IntKind.i64.wrap ((p : Int) * 7 + 3) = (p : Int) * 7 + 3 := IntWalk.i64_in _ (by omega)
  have r1 : (p : Int).tmod (len : Int) = (m1 : Int) := by rw [IntWalk.rem_in _ _ hp0, ← em1]; rfl
  have r2 : ((p : Int) * 7 + 3).tmod (len : Int) = (m2 : Int) := by rw [IntWalk.rem_in _ _ (by omega), ← em2]; rfl
  have r3 : (p : Int).tdiv (len : Int) = (q : Int) := by rw [Int.tdiv_eq_ediv_of_nonneg hp0, ← eq]; rfl
  have t1 : (m1 : Int).toNat = m1 := by omega
  have t2 : (m2 : Int).toNat = m2 := by omega
  have hy1' : (w.setCell ⟨R, 1, none⟩ (.int .i64 ((p : Int) + 1))).cell? ⟨b, off + m1, none⟩ = some (.int .u8 y1) := by
    rw [World.cell?_setCell_other _ _ _ _ (by simp)]; exact hy1
  have hy2' : (w.setCell ⟨R, 1, none⟩ (.int .i64 ((p : Int) + 1))).cell? ⟨b, off + m2, none⟩ = some (.int .u8 y2) := by
    rw [World.cell?_setCell_other _ _ _ _ (by simp)]; exact hy2
  clear em1 em2 eq
  go_enter Try.func40, Try.ntmps40
  go_wp2
  go_quiet (fail)
  go_wp2
  go_ret
  exact pickPost_of H.out (mix_range (y1 * 131 + y2 * 1117 + (p : Int) * 29 + (q : Int) * 53) n (by omega) (by omega) hn).1 (fun _ => (mix_range (y1 * 131 + y2 * 1117 + (p : Int) * 29 + (q : Int) * 53) n (by omega) (by omega) hn).2) (fun hl => absurd hn (by omega))

theorem pick_any (R p : Nat) (n : Int) (w : World) (h : Rd w R p) (hp : p ≤ 1000000000) (hni : n ≤ 9223372036854775807) :
    Calls Try.prog 40 #[.pointer (some ⟨R, 0, none⟩), .int .i64 n] w (PickPost w R p n) := by
  by_cases hn : n < 1
  · exact pick_none R p n w h hp hn
  · have hn1 : 1 ≤ n := by omega
    obtain ⟨A, c, bs, h1, h2, h3, h4, hl, hz, hR, hB⟩ := id h
    rcases Nat.eq_zero_or_pos bs.length with h0 | h0
    · rw [h0] at h2
      exact pick_empty R p n A c w h hp hn1 h2 h3 h4
    · obtain ⟨b, off, rfl, hbR, hc⟩ := hB h0
      by_cases hk : p < bs.length
      · have hy := hz _ (List.getElem_mem hk)
        exact pick_in R p n b off bs.length c _ w h hp hn1 hni hl h2 h3 h4 (by omega) hk (hc p hk) hy.1 hy.2
      · have l1 := Nat.mod_lt p h0
        have l2 := Nat.mod_lt (p * 7 + 3) h0
        have y1 := hz _ (List.getElem_mem l1)
        have y2 := hz _ (List.getElem_mem l2)
        exact pick_past R p n b off bs.length c _ _ _ _ _ w h hp hn1 hni hl h2 h3 h4 (by omega) (by omega) h0 rfl rfl rfl l1 l2 (Nat.div_le_self _ _) (hc _ l1) y1.1 y1.2 (hc _ l2) y2.1 y2.2
end Go.Proofs.Ytanoojpmokbiaab
