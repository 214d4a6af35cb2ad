/-
  What the laws draw, first part: the reader is opened, rows are drawn entry by entry, lists are sorted and added up: each call returns a list of its own. Conditions: the reader has been asked at most 1,000,000,000 times.
-/
import Derived.Test.YtanoojpmokbiaabPick
import Derived.Test.YtanoojpmokbiaabFrom
namespace Go.Proofs.Ytanoojpmokbiaab
open Go.RowKit

theorem OwnI.but {w w' : World} {base C R : Nat} {v : Value} {zs : List Int} (h : OwnI w base v zs) (hb : But C R w w') (hC : w.heap.size ≤ C) (hR : R < base) : OwnI w' base v zs := by
  obtain ⟨ho, hz, hs⟩ := h
  refine ⟨⟨ho.1, ?_⟩, hz, Nat.le_trans hs hb.size⟩
  rcases ho.2 with h0 | ⟨g, cap, cur, e, hg, hh, r⟩
  · exact .inl h0
  · exact .inr ⟨g, cap, cur, e, hg, (hb.block g (Nat.lt_of_lt_of_le (Array.getElem?_eq_some_iff.1 hh).1 hC) (by omega)).trans hh, r⟩
theorem IW.but {w w' : World} {lo hi C R : Nat} {A : Option Addr} {zs : List Int} (h : IW w lo hi A zs) (hb : But C R w w') (hC : hi ≤ C) (hR : R < lo ∨ hi ≤ R) : IW w' lo hi A zs :=
  h.keep hb.size fun k _ h2 => hb.block k (by omega) (by omega)
theorem IR.but {w w' : World} {lo hi C R : Nat} {A : Option Addr} {zs : List Int} (h : IR w lo hi A zs) (hb : But C R w w') (hC : hi ≤ C) (hR : R < lo ∨ hi ≤ R) : IR w' lo hi A zs :=
  h.keep hb.size fun p _ h2 => World.cell?_of_block (hb.block p.block (by omega) (by omega))

theorem Rd.made (w : World) (A : Option Addr) (n c : Nat) (bs : List Int) (t : TypeId) (h : BR w w.heap.size A bs) (hn : n = bs.length) : Rd (w.alloc (.cells #[.slice A n c, .int .i64 0] t)) w.heap.size 0 := by
  subst hn
  exact ⟨A, c, bs, by simp, by rw [World.cell?_alloc_at _ _ _ _ rfl]; rfl, by rw [World.cell?_alloc_at _ _ _ _ rfl]; rfl, World.frozen?_alloc_at _ _ _ _ rfl,
    h.but (R := w.heap.size) (But.of ((Below.refl w.heap.size w).alloc (Nat.le_refl _) _)) (Nat.le_refl _) (Nat.le_refl _)⟩
theorem BR.take {w : World} {hi : Nat} {A : Option Addr} {bs : List Int} (h : BR w hi A bs) (n : Nat) : BR w hi A (bs.take n) := by
  refine ⟨by have := h.1; simp; omega, fun z hz => h.2.1 z (List.mem_of_mem_take hz), h.2.2.1, fun hn => ?_⟩
  obtain ⟨b, off, e, h2, h3⟩ := h.2.2.2 (by simp at hn; omega)
  refine ⟨b, off, e, h2, fun j hj => ?_⟩
  have hj2 : j < bs.length := by simp at hj; omega
  rw [h3 j hj2]; simp

set_option maxHeartbeats 1000000 in
theorem l6Open_any (A : Option Addr) (c : Nat) (bs : List Int) (w : World) (h : BR w w.heap.size A bs) (hc : bs.length ≤ c) (hc2 : c ≤ 9000000000000000000) :
    Calls Try.prog 38 #[.slice A bs.length c] w fun e w' => e = .returned (.pointer (some ⟨w.heap.size, 0, none⟩)) ∧ Rd w' w.heap.size 0 ∧ Below w.heap.size w w' := by
  have H := Lib.hid h
  have hl := h.1
  clear h
  by_cases hb : 2000 < bs.length
  · have hb' : (2000 : Int) < (bs.length : Int) := by omega
    have e3 : (2000 : Int) ≤ (c : Int) := by omega
    obtain ⟨b, off, rfl, hbh, hcell⟩ := H.out.2.2.2 (by omega)
    have HC := Lib.hid hcell; clear hcell
    go_enter Try.func38, Try.ntmps38
    go_wp2
    go_ret
    exact ⟨rfl, Rd.made w _ 2000 _ (bs.take 2000) _ (H.out.take 2000) (by simp; omega), (Below.refl _ _).alloc (Nat.le_refl _) _⟩
  · have hb' : ¬ (2000 : Int) < (bs.length : Int) := by omega
    go_enter Try.func38, Try.ntmps38
    go_wp2
    go_ret
    exact ⟨rfl, Rd.made w _ _ _ bs _ H.out rfl, (Below.refl _ _).alloc (Nat.le_refl _) _⟩

/-- The capacity c holds n entries, and is an int. -/
def CapOk (n c : Nat) : Prop := n ≤ c ∧ c ≤ 9223372036854775807
theorem OwnI.iwc {w : World} {base n : Nat} {v : Value} {zs : List Int} (h : OwnI w base v zs) (hn : zs.length = n) (hl : n ≤ 17592186044416) : ∃ A c, v = .slice A n c ∧ IW w base w.heap.size A zs ∧ CapOk n c := by
  obtain ⟨A, c, e, hi⟩ := h.iwn hn hl
  refine ⟨A, c, e, hi, ?_⟩
  rcases h.1.2 with ⟨e2, h0⟩ | ⟨g, cap, cur, e2, hg, hh, hn2, hcap, r⟩
  · rw [e] at e2; injection e2 with _ e3 e4
    subst e3; subst e4
    exact ⟨Nat.le_refl _, by omega⟩
  · rw [e] at e2; injection e2 with _ e3 e4
    subst e4
    exact ⟨by omega, by unfold maxLen at hcap; omega⟩

/-- The call draws a list of n integers of its own; the reader is asked at most k times. -/
def DrawPost (w : World) (R p n k : Nat) (e : Ending) (w' : World) : Prop :=
  ∃ A c zs p', e = .returned (.slice A n c) ∧ zs.length = n ∧ IW w' w.heap.size w'.heap.size A zs ∧ But w.heap.size R w w' ∧ Rd w' R p' ∧ p' ≤ p + k ∧ CapOk n c

theorem drawPost_of {w w' : World} {R p n m k c p' lo : Nat} {A : Option Addr} {zs : List Int} (hz : zs.length = n) (hi : IW w' lo w'.heap.size A zs) (hlo : w.heap.size ≤ lo) (hb : But w.heap.size R w w') (hr : Rd w' R p') (hp : p' ≤ p + k) (hm : m = n) (hcap : CapOk m c) : DrawPost w R p n k (.returned (.slice A m c)) w' := by
  subst hm; exact ⟨A, c, zs, p', rfl, hz, hi.wide hlo (Nat.le_refl _) (Nat.le_refl _), hb, hr, hp, hcap⟩

set_option maxRecDepth 100000 in
set_option maxHeartbeats 4000000 in
theorem l91Row_any (R p n : Nat) (w : World) (h : Rd w R p) (hp : p ≤ 900000000) (hn : n ≤ 1000) :
    Calls Try.prog 55 #[.pointer (some ⟨R, 0, none⟩), .int .i64 (n : Int)] w (DrawPost w R p n (2 * n + 1)) := by
  have H := Lib.hid h
  have hR := h.lt
  clear h
  go_enter Try.func55, Try.ntmps55
  go_wp2_with fail
  refine (pick_any R p _ _ (H.out.below ((Below.refl w.heap.size w).alloc (Nat.le_refl _) _) hR) (by omega) (by omega)).mono ?_
  rintro e w1 ⟨K, rfl, k0, k1, -, hb, hs, hr⟩
  have k2 := k1 (by omega)
  have hs1 : w.heap.size < w1.heap.size := by rw [hs]; simp
  have O1 := Lib.hid ((OwnI.made w).but hb (Nat.le_refl _) hR)
  have B1 := Lib.hid ((But.of (R := R) ((Below.refl w.heap.size w).alloc (Nat.le_refl _) (.cells #[] 3))).trans (hb.mono (by simp)))
  have R1 := Lib.hid hr
  clear hb hs hr k1
  go_wp2
  go_loopw [5, 7] (fun v i wr => ∃ (k p' : Nat) (zs : List Int), k ≤ n ∧ i = .int .i64 k ∧ zs.length = k ∧ OwnI wr w.heap.size v zs ∧ But w.heap.size R w wr ∧ Rd wr R p' ∧ p' ≤ p + (2 * k + 1)) (fun _ i _ => n - (intOf i).toNat)
  case atStart => exact ⟨0, p + 1, [], Nat.zero_le _, rfl, rfl, O1.out, B1.out, R1.out, by omega⟩
  case round =>
    obtain ⟨k, p', zs, hk, rfl, hz, ho, hb, hr, hp'⟩ := hrel
    have HO := Lib.hid ho; have HB := Lib.hid hb; have HR := Lib.hid hr
    clear ho hb hr
    by_cases hlt : k < n
    · have hlt' : (k : Int) < (n : Int) := by omega
      have HLL := Lib.hid (show zs.length < 17592186044416 by omega)
      by_cases hK0 : K = 0
      · subst hK0
        go_wp2_with fail
        refine (pick_any R p' _ _ HR.out (by omega) (by omega)).mono ?_
        rintro e w2 ⟨x, rfl, x0, x1, -, hb, hs, hr⟩
        have x2 := x1 (by omega)
        replace HO := Lib.hid (HO.out.but hb (Nat.le_refl _) hR)
        replace HB := Lib.hid (HB.out.then_ (Nat.le_refl _) hb)
        replace HR := Lib.hid hr
        have HY : Hid (I64 (x - 4)) := ⟨by omega, by omega⟩
        clear hb hs hr x1
        go_wp2_with (at_builtin; refine wpList_push rfl _ _ rfl w.heap.size _ _ rfl rfl HO.out HLL.out HY.out ?_; intro v1 w3 ho1 hb1; have HO1 := Lib.hid ho1; have HB1 := Lib.hid hb1; clear ho1 hb1)
        go_roundw
        case rel => exact ⟨k + 1, p' + 1, _, by omega, by go_num, by simp [hz], HO1.out, HB.out.trans (But.of HB1.out), HR.out.below HB1.out hR, by omega⟩
        case measure => simp [intOf]; omega
      · by_cases hK1 : K = 1
        · subst hK1
          go_wp2_with fail
          refine (pick_any R p' _ _ HR.out (by omega) (by omega)).mono ?_
          rintro e w2 ⟨x, rfl, x0, x1, -, hb, hs, hr⟩
          have x2 := x1 (by omega)
          replace HO := Lib.hid (HO.out.but hb (Nat.le_refl _) hR)
          replace HB := Lib.hid (HB.out.then_ (Nat.le_refl _) hb)
          replace HR := Lib.hid hr
          have HY : Hid (I64 (x - 20)) := ⟨by omega, by omega⟩
          clear hb hs hr x1
          go_wp2_with (at_builtin; refine wpList_push rfl _ _ rfl w.heap.size _ _ rfl rfl HO.out HLL.out HY.out ?_; intro v1 w3 ho1 hb1; have HO1 := Lib.hid ho1; have HB1 := Lib.hid hb1; clear ho1 hb1)
          go_roundw
          case rel => exact ⟨k + 1, p' + 1, _, by omega, by go_num, by simp [hz], HO1.out, HB.out.trans (But.of HB1.out), HR.out.below HB1.out hR, by omega⟩
          case measure => simp [intOf]; omega
        · skip
          have hK0' : ¬ K = 0 := by omega
          have hK1' : ¬ K = 1 := by omega
          go_wp2_with fail
          refine (pick_any R p' _ _ HR.out (by omega) (by omega)).mono ?_
          rintro e w2 ⟨x, rfl, x0, x1, -, hb, hs, hr⟩
          have x2 := x1 (by omega)
          replace HO := Lib.hid (HO.out.but hb (Nat.le_refl _) hR)
          replace HB := Lib.hid (HB.out.then_ (Nat.le_refl _) hb)
          replace HR := Lib.hid hr
          clear hb hs hr x1
          go_wp2_with fail
          refine (pick_any R (p' + 1) _ _ HR.out (by omega) (by omega)).mono ?_
          rintro e w4 ⟨y, rfl, y0, y1, -, hb, hs, hr⟩
          have y2 := y1 (by omega)
          replace HO := Lib.hid (HO.out.but hb (Nat.le_refl _) hR)
          replace HB := Lib.hid (HB.out.then_ (Nat.le_refl _) hb)
          replace HR := Lib.hid hr
          have HY : Hid (I64 (x + y / 5 * 9)) := ⟨by omega, by omega⟩
          clear hb hs hr y1
          go_wp2_with (at_builtin; refine wpList_push rfl _ _ rfl w.heap.size _ _ rfl rfl HO.out HLL.out HY.out ?_; intro v1 w3 ho1 hb1; have HO1 := Lib.hid ho1; have HB1 := Lib.hid hb1; clear ho1 hb1)
          go_roundw
          case rel => exact ⟨k + 1, p' + 1 + 1, _, by omega, by go_num, by simp [hz], HO1.out, HB.out.trans (But.of HB1.out), HR.out.below HB1.out hR, by omega⟩
          case measure => simp [intOf]; omega
    · obtain rfl : k = n := by omega
      obtain ⟨A', c', rfl, hiw, hcap⟩ := HO.out.iwc hz (by omega)
      have HI := Lib.hid hiw; have HC := Lib.hid hcap
      clear hcap
      clear hiw HO
      have hlt' : ¬ (k : Int) < (k : Int) := by omega
      go_wp2
      go_ret
      exact ⟨A', c', zs, p', rfl, hz, HI.out, HB.out, HR.out, hp', HC.out⟩
end Go.Proofs.Ytanoojpmokbiaab
