/-
  The functions of chapter 5 of the model. Conditions: the lists' cells are there.
-/
import Derived.Test.YtanoojpmokbiaaaTabA
import Derived.Test.YtanoojpmokbiaaaSpec
import Derived.Test.YtanoojpmokbiaaaTmA
import Derived.Test.YtanoojpmokbiaaaPush
import Derived.Test.YtanoojpmokbiaaaFrom
import Derived.Deep.RegionHeldLaw
import Derived.StillTailTactics
import Derived.Test.YtanoojpmokbiaaaDraw2
import Derived.Test.YtanoojpmokbiaaaPart
/-
  l5Table, l5Crossed and TableCrossed of the model. Conditions: the tables' cells are there.
-/
namespace Go.Proofs.Ytanoojpmokbiaaa
open Go.RowKit

theorem rowOk_get {t : List (List Int)} {k : Nat} (hk : k < t.length) (h0 : 0 < t.length) : rowOkB t k = (inB 1 6 (t[k].length : Int) && decide (t[k].length = t[0].length) && t[k].all fun x => inB (-1000) 1000 x) := by
  unfold rowOkB
  rw [show t.getD k [] = t[k] by simp [List.getD, hk], show t.getD 0 [] = t[0] by simp [List.getD, h0]]
  have e1 : decide (1 ≤ t[k].length ∧ t[k].length ≤ 6) = inB 1 6 (t[k].length : Int) := by
    rw [Bool.eq_iff_iff, decide_eq_true_eq, inB_true]; omega
  have e2 : (fun x : Int => decide (-1000 ≤ x ∧ x ≤ 1000)) = fun x => inB (-1000) 1000 x := funext fun x => by
    rw [Bool.eq_iff_iff, decide_eq_true_eq, inB_true]
  rw [e1, e2]
theorem all_to {zs : List Int} {f : Int → Bool} (h : ∀ (j : Nat) (hj : j < zs.length), f zs[j] = true) : zs.all f = true := List.all_eq_true.2 fun x hx => by
  obtain ⟨i, hi, rfl⟩ := List.getElem_of_mem hx; exact h i hi

/-- Only draws. -/
def Dr (w w' : World) : Prop := ∃ m, w' = w.drewN m
theorem Dr.refl (w : World) : Dr w w := ⟨0, rfl⟩
theorem Dr.more {w w' : World} (h : Dr w w') (n : Nat) : Dr w (w'.drewN n) := by
  obtain ⟨m, rfl⟩ := h; exact ⟨m + n, by simp [World.drewN]; omega⟩
theorem Dr.trans {a b c : World} (h : Dr a b) (k : Dr b c) : Dr a c := by
  obtain ⟨m, rfl⟩ := k; exact h.more m
theorem Dr.irr {w w' : World} {lo hi : Nat} {A : Option Addr} {t : List (List Int)} (h : IRR w lo hi A t) (k : Dr w w') : IRR w' lo hi A t := by
  obtain ⟨m, rfl⟩ := k; exact h.drewN m
theorem Dr.ir {w w' : World} {lo hi : Nat} {A : Option Addr} {t : List Int} (h : IR w lo hi A t) (k : Dr w w') : IR w' lo hi A t := by
  obtain ⟨m, rfl⟩ := k; exact h.drewN m
theorem Dr.below {w w' : World} (k : Dr w w') : Below w.heap.size w w' := by
  obtain ⟨m, rfl⟩ := k; exact below_drawN (Below.refl _ _) m
theorem l6In_of {x lo hi : Int} {p : Bool} (h : inB lo hi x = p) (W : World) : Calls Try.prog 47 #[.int .i64 x, .int .i64 lo, .int .i64 hi] W fun e w' => e = .returned (.bool p) ∧ w' = W := by
  subst h; exact (l6In_any x lo hi W).mono fun _ _ ⟨a, b⟩ => ⟨a, b.symm⟩

set_option maxRecDepth 100000 in
set_option maxHeartbeats 2000000 in
theorem l5Table_any (A : Option Addr) (c lo hi : Nat) (t : List (List Int)) (w : World) (h : IRR w lo hi A t) :
    Calls Try.prog 27 #[.slice A t.length c] w fun e w' => e = .returned (.bool (tableB t)) ∧ Dr w w' := by
  have hl := h.1
  have H := Lib.hid h
  clear h
  go_enter Try.func27, Try.ntmps27
  go_wp2
  go_loopw [3] (fun i wr => ∃ k : Nat, k ≤ t.length ∧ i = .int .i64 k ∧ Dr w wr ∧ Hid (∀ j, j < k → rowOkB t j = true)) (fun i _ => t.length - (intOf i).toNat)
  case atStart => exact ⟨0, Nat.zero_le _, rfl, Dr.refl _, fun j hj => absurd hj (by omega)⟩
  case round =>
    obtain ⟨k, hk, rfl, hdr, hok⟩ := hrel
    have HD := Lib.hid hdr
    have HW := Lib.hid (hdr.irr H.out)
    clear hdr
    by_cases hlt : k < t.length
    · have h0 : 0 < t.length := by omega
      obtain ⟨b, off, Ak, ck, rfl, _, hc, _, hrow⟩ := HW.out.at_ hlt
      obtain ⟨_, _, A0, c0, e, _, hc0, _, hrow0⟩ := HW.out.at_ h0
      injection e with e; injection e with e3 e4 _; subst e3; subst e4
      rw [Nat.add_zero] at hc0
      have hrk := rowOk_get hlt h0
      have hn0 := hrow0.1
      have hn1 := hrow.1
      obtain ⟨zs, hzs⟩ : ∃ zs, t[k] = zs := ⟨_, rfl⟩
      rw [hzs] at hc hrow hrk hn1
      obtain ⟨n, hn⟩ : ∃ n, zs.length = n := ⟨_, rfl⟩
      obtain ⟨n0, hn0'⟩ : ∃ n0, t[0].length = n0 := ⟨_, rfl⟩
      rw [hn] at hc hrk hn1
      rw [hn0'] at hc0 hrk hn0
      have HRK := Lib.hid hrk; have HZS := Lib.hid hzs; have HN := Lib.hid hn; have HOK := hok
      clear hrk hrow hrow0 hn hn0' hzs hok
      have hlt' : (k : Int) < (t.length : Int) := by omega
      have q0 : (0 : Int) < (t.length : Int) := by omega
      obtain ⟨p, hp⟩ : ∃ p, inB 1 6 (n : Int) = p := ⟨_, rfl⟩
      have HJ : Hid (∀ W : World, Calls Try.prog 47 #[.int .i64 (n : Int), .int .i64 1, .int .i64 6] W fun e w' => e = .returned (.bool p) ∧ w' = W) := l6In_of (by rw [hp])
      have HP := Lib.hid hp
      clear hp
      have bad : rowOkB t k = false → Hid (tableB t = false) := fun e => table_bad hlt e
      cases p with
      | false =>
        have HT := bad (by rw [HRK.out, HP.out]; rfl)
        clear bad
        go_wp2
        go_quiet ((go_at_call 47; exact Calls.quiet_of_same (HJ.out _)))
        go_wp2
        go_ret
        exact ⟨by rw [HT.out]; rfl, HD.out.more _⟩
      | true =>
        by_cases hnn : n = n0
        · subst hnn
          clear bad
          go_wp2
          go_quiet ((go_at_call 47; exact Calls.quiet_of_same (HJ.out _)))
          go_wp2
          have HBAD : Hid (zs.all (fun x => inB (-1000) 1000 x) = false → tableB t = false) := fun e => table_bad hlt (by rw [HRK.out, e]; simp)
          have HGOOD : Hid (zs.all (fun x => inB (-1000) 1000 x) = true → rowOkB t k = true) := fun e => by rw [HRK.out, HP.out, e]; simp
          go_loopw [4] (fun i wr => ∃ j : Nat, j ≤ n ∧ i = .int .i64 j ∧ Dr w wr ∧ Hid (∀ i (hi : i < zs.length), i < j → inB (-1000) 1000 zs[i] = true)) (fun i _ => n - (intOf i).toNat)
          case atStart => exact ⟨0, Nat.zero_le _, rfl, HD.out.more _, fun j _ hj => absurd hj (by omega)⟩
          case round =>
            clear HD HW
            obtain ⟨j, hj, rfl, hdr, hin⟩ := hrel
            have HD := Lib.hid hdr
            have HWr := Lib.hid (hdr.irr H.out)
            clear hdr
            obtain ⟨b1, off1, Ak1, ck1, e1, _, hck, _, hrowk⟩ := HWr.out.at_ hlt
            injection e1 with e1; injection e1 with e3 e4 _; subst e3; subst e4
            rw [HZS.out] at hck hrowk
            rw [HN.out] at hck
            by_cases hjn : j < n
            · have hj1 : j < zs.length := by rw [HN.out]; exact hjn
              obtain ⟨b', off', rfl, _, _, hcj⟩ := hrowk.at_ hj1
              clear hrowk
              have hjn' : (j : Int) < (n : Int) := by omega
              obtain ⟨x, hx⟩ : ∃ x, zs[j] = x := ⟨_, rfl⟩
              rw [hx] at hcj
              have HX := Lib.hid hx; have HIN := hin
              clear hx hin
              obtain ⟨q, hq⟩ : ∃ q, inB (-1000) 1000 x = q := ⟨_, rfl⟩
              cases q with
              | false =>
                have HT : Hid (tableB t = false) := HBAD.out (List.all_eq_false.2 ⟨x, by rw [← HX.out]; exact List.getElem_mem hj1, by rw [hq]; simp⟩)
                go_wp2_with fail
                refine (l6In_of hq _).mono ?_
                rintro e w' ⟨rfl, rfl⟩
                go_wp2
                go_ret
                exact ⟨by rw [HT.out]; rfl, HD.out⟩
              | true =>
                go_wp2_with fail
                refine (l6In_of hq _).mono ?_
                rintro e w' ⟨rfl, rfl⟩
                have HQ := Lib.hid hq
                clear hq
                go_wp2
                go_roundw
                case rel =>
                  refine ⟨j + 1, by omega, by go_num, HD.out, fun i hi hij => ?_⟩
                  by_cases e : i = j
                  · subst e; rw [HX.out]; exact HQ.out
                  · exact HIN.out i hi (by omega)
                case measure => simp [intOf]; omega
            · obtain rfl : j = n := by omega
              have HOK2 := HGOOD.out (all_to fun i hi => hin.out i hi (by rw [← HN.out]; exact hi))
              have hjn' : ¬ (j : Int) < (j : Int) := by omega
              go_wp2
              go_roundw
              case rel =>
                refine ⟨k + 1, by omega, by go_num, HD.out, fun i hi => ?_⟩
                by_cases e : i = k
                · subst e; exact HOK2
                · exact HOK.out i (by omega)
              case measure => simp [intOf]; omega
        · have HT := bad (by rw [HRK.out, decide_eq_false hnn]; simp)
          clear bad
          have hnn' : ¬ (n : Int) = (n0 : Int) := by omega
          go_wp2
          go_quiet ((go_at_call 47; exact Calls.quiet_of_same (HJ.out _)))
          go_wp2
          go_ret
          exact ⟨by rw [HT.out]; rfl, HD.out.more _⟩
    · obtain rfl : k = t.length := by omega
      have hlt' : ¬ (t.length : Int) < (t.length : Int) := by omega
      have HT : Hid (inB 1 6 (t.length : Int) = tableB t) := by
        show _ = _
        rw [Bool.eq_iff_iff, tableB_true, inB_true]
        exact ⟨fun g => ⟨fun i hi => hok i hi, by omega, by omega⟩, fun g => by have := g.2; omega⟩
      go_wp2_with fail
      refine (l6In_any (t.length : Int) 1 6 _).mono ?_
      rintro e w' ⟨rfl, rfl⟩
      rw [HT.out]
      go_wp2
      go_ret
      exact ⟨rfl, HD.out⟩

theorem table_row {t : List (List Int)} (h : tableB t = true) {k : Nat} (hk : k < t.length) : t[k].length = colsN t := by
  have := (table_sh h).1.row hk
  rwa [show t.getD k [] = t[k] by simp [List.getD, hk]] at this
theorem ent_get {t : List (List Int)} {i k : Nat} (hi : i < t.length) (hk : k < t[i].length) : ent t i k = t[i][k] := by
  unfold ent
  rw [show t.getD i [] = t[i] by simp [List.getD, hi], getD_in hk]
/-- A table's entry in memory. -/
theorem IRR.entry {w : World} {lo hi : Nat} {A : Option Addr} {t : List (List Int)} (h : IRR w lo hi A t) (ht : tableB t = true) {i : Nat} (hi' : i < t.length) :
    ∃ b off b' o' c, A = some ⟨b, off, none⟩ ∧ w.cell? ⟨b, off + i, none⟩ = some (.slice (some ⟨b', o', none⟩) (colsN t) c) ∧ ∀ k, k < colsN t → w.cell? ⟨b', o' + k, none⟩ = some (.int .i64 (ent t i k)) := by
  obtain ⟨b, off, Ak, ck, e, _, hc, _, hrow⟩ := h.at_ hi'
  have hl := table_row ht hi'
  have hp := (table_sh ht).2.2.1.1
  obtain ⟨b', o', e', _, _, hcs⟩ := hrow.2.2.2 (by rw [hl]; omega)
  rw [hl, e'] at hc
  refine ⟨b, off, b', o', ck, e, hc, fun k hk => ?_⟩
  rw [ent_get hi' (by rw [hl]; exact hk)]
  exact hcs k (by rw [hl]; exact hk)

end Go.Proofs.Ytanoojpmokbiaaa

/-
  l5First and TableLeast of the model: the first column of the least entry of each row. Conditions: the tables' cells are there.
-/
namespace Go.Proofs.Ytanoojpmokbiaaa
open Go.RowKit

/-- The first of the least of f over a, .., q - 1 (or a). -/
def bstTo (f : Nat → Int) (a q : Nat) : Nat := fstTo f a (q - 1 - a)
theorem bst_start (f : Nat → Int) (a : Nat) : bstTo f a a = a := by unfold bstTo; rw [show a - 1 - a = 0 by omega]; rfl
theorem bst_yes {f : Nat → Int} {a q : Nat} (h : a ≤ q) (c : f q < f (bstTo f a q)) : bstTo f a (q + 1) = q := by
  by_cases e : q = a
  · subst e; rw [bst_start] at c; exact absurd c (Int.lt_irrefl _)
  · unfold bstTo at c ⊢
    rw [show q + 1 - 1 - a = (q - 1 - a) + 1 by omega]
    unfold fstTo
    rw [show a + (q - 1 - a) + 1 = q by omega, if_pos c]
theorem bst_no {f : Nat → Int} {a q : Nat} (h : a ≤ q) (c : ¬ f q < f (bstTo f a q)) : bstTo f a (q + 1) = bstTo f a q := by
  by_cases e : q = a
  · subst e; unfold bstTo; rw [show q + 1 - 1 - q = 0 by omega, show q - 1 - q = 0 by omega]
  · unfold bstTo at c ⊢
    rw [show q + 1 - 1 - a = (q - 1 - a) + 1 by omega]
    conv => lhs; unfold fstTo
    rw [show a + (q - 1 - a) + 1 = q by omega, if_neg c]
theorem bst_le (f : Nat → Int) {a q b : Nat} (h : a ≤ b) (hq : q ≤ b + 1) : bstTo f a q ≤ b := by
  have := (fstTo_is f a (q - 1 - a)).2.1
  unfold bstTo
  omega

set_option maxHeartbeats 1000000 in
theorem l5First_any (A : Option Addr) (c lo hi n a b : Nat) (zs : List Int) (w : World) (h : IR w lo hi A zs) (hn : zs.length = n) (hab : a ≤ b) (hb : b < n) :
    Calls Try.prog 33 #[.slice A n c, .int .i64 (a : Int), .int .i64 (b : Int)] w fun e w' => e = .returned (.int .i64 ((fstTo (fun k => zs.getD k 0) a (b - a) : Nat) : Int)) ∧ Dr w w' := by
  obtain ⟨f, hf⟩ : ∃ f : Nat → Int, f = fun k => zs.getD k 0 := ⟨_, rfl⟩
  rw [← hf]
  obtain ⟨bb, off, rfl, _, _, hcs⟩ := h.2.2.2 (by omega)
  have hl := h.1
  have HC : Hid (∀ k, k < n → w.cell? ⟨bb, off + k, none⟩ = some (.int .i64 (f k))) := fun k hk => by
    have := hcs k (by omega)
    rw [this, hf]
    simp only [getD_in (show k < zs.length by omega)]
  clear hcs hf h
  have hnl : n ≤ 17592186044416 := by omega
  clear hn hl
  have hq0 : (0 : Int) ≤ (a : Int) := by omega
  go_enter Try.func33, Try.ntmps33
  go_wp2
  go_loopw [7, 8] (fun v k wr => ∃ q : Nat, a ≤ q ∧ q ≤ b + 1 ∧ k = .int .i64 (q : Int) ∧ v = .int .i64 ((bstTo f a q : Nat) : Int) ∧ Dr w wr) (fun _ k _ => b + 1 - (intOf k).toNat)
  case atStart => exact ⟨a, Nat.le_refl _, by omega, rfl, by rw [bst_start], Dr.refl _⟩
  case round =>
    obtain ⟨q, haq, hqb, rfl, rfl, hdr⟩ := hrel
    have hble := bst_le f hab hqb
    have HY := Lib.hid (bst_yes (f := f) haq)
    have HNo := Lib.hid (bst_no (f := f) haq)
    have c1 := HC.out (bstTo f a q) (by omega)
    obtain ⟨B, hB⟩ : ∃ B, bstTo f a q = B := ⟨_, rfl⟩
    rw [hB] at hble HY HNo c1
    rw [hB]
    have HB := Lib.hid hB
    clear hB
    obtain ⟨m, rfl⟩ := hdr
    by_cases hlt : q ≤ b
    · have c2 := HC.out q (by omega)
      have hlt' : (q : Int) ≤ (b : Int) := by omega
      have q0 : (0 : Int) ≤ (q : Int) := by omega
      have q1 : q < n := by omega
      have q2 : B < n := by omega
      have q3 : (0 : Int) ≤ (B : Int) := by omega
      obtain ⟨x, hx⟩ : ∃ x, f q = x := ⟨_, rfl⟩
      obtain ⟨y, hy⟩ : ∃ x, f B = x := ⟨_, rfl⟩
      rw [hx] at c2 HY HNo
      rw [hy] at c1 HY HNo
      clear hx hy
      by_cases hxy : x < y
      · have HG := Lib.hid (HY.out hxy)
        clear HY HNo
        go_wp2
        go_quiet (fail)
        go_wp2
        go_roundw
        case rel => exact ⟨q + 1, by omega, by omega, by go_num, by rw [HG.out], ⟨_, rfl⟩⟩
        case measure => simp [intOf]; omega
      · have HG := Lib.hid (HNo.out hxy)
        clear HY HNo
        go_wp2
        go_quiet (fail)
        go_wp2
        go_roundw
        case rel => exact ⟨q + 1, by omega, by omega, by go_num, by rw [HG.out], ⟨_, rfl⟩⟩
        case measure => simp [intOf]; omega
    · obtain rfl : q = b + 1 := by omega
      have hlt' : ¬ ((b + 1 : Nat) : Int) ≤ (b : Int) := by omega
      go_wp2
      go_ret
      exact ⟨by rw [← HB.out]; unfold bstTo; rw [show b + 1 - 1 - a = b - a by omega]; rfl, ⟨m, rfl⟩⟩

theorem Dr.cell {w w' : World} {p : Addr} {v : Value} (h : w.cell? p = some v) (k : Dr w w') : w'.cell? p = some v := by
  obtain ⟨m, rfl⟩ := k; exact h
theorem Dr.own {w w' : World} {base : Nat} {v : Value} {zs : List Int} (h : OwnI w base v zs) (k : Dr w w') : OwnI w' base v zs := by
  obtain ⟨m, rfl⟩ := k; exact h.drewN m
theorem Dr.grow {w w1 w2 : World} (h : Below w.heap.size w w1) (k : Dr w1 w2) : Below w.heap.size w w2 := h.trans (k.below.mono h.size)
theorem leastC_take (t : List (List Int)) (k : Nat) (h : k < t.length) : (t.map fun r => (firstOf r : Int)).take k ++ [((fstTo (fun i => t[k].getD i 0) 0 (t[k].length - 1) : Nat) : Int)] = (t.map fun r => (firstOf r : Int)).take (k + 1) := by
  rw [← take_snoc _ k (by simpa using h)]
  simp [firstOf]

/-- append, in a region that draws its order, behind a call (the draw lies before it). -/
theorem step_push2 {ops : Array Oper} {o : Oper} {a : Act} {W : World} {y : Int} {K : Act → World → Prop} {Q : Exit → Act → World → Prop} {E : Prop} (hgd : o.guard = none) (s x : Operand)
    (ho : o.op = .call { callee := .builtin .append, args := #[s, x], argTypes := #[31, 31] })
    (base : Nat) (v : Value) (zs : List Int) (hs : a.eval s = v) (hx : a.eval x = .slice (some ⟨W.heap.size, 0, none⟩) 1 1) (hown : OwnI W base v zs)
    (hl : zs.length < 17592186044416) (hy : I64 y)
    (h : ∀ v' w', OwnI w' base v' (zs ++ [y]) → Below base W w' → K (a.put o.dst v') w') :
    if Region.wanted o (yielded ops a.tmps) = true then Oper.wp Try.prog o a (W.alloc (.cells #[.int .i64 y] 3)) K Q else E := by
  rw [if_pos (show Region.wanted o (yielded ops a.tmps) = true by simp [Region.wanted, hgd])]
  exact wp_push s x ho base v zs y W.heap.size hs hx hown.alloc (by rw [World.cell?_alloc_at _ _ _ _ rfl]; rfl) hl hy fun v' w' h2 h3 => h v' w' h2 (OwnI.push_of hown.2.2 h3)

set_option maxRecDepth 100000 in
set_option maxHeartbeats 2000000 in
theorem specTableLeast_any (A : Option Addr) (c lo hi : Nat) (t : List (List Int)) (w : World) (h : IRR w lo hi A t) :
    Calls Try.prog 17 #[.slice A t.length c] w (RetRB w (leastCM t)) := by
  have H := Lib.hid h
  clear h
  have HB0 : Hid (Below w.heap.size w (w.alloc (.cells #[] 3))) := (Below.refl _ w).alloc (Nat.le_refl _) _
  have H1 := Lib.hid (H.out.grow HB0.out)
  go_enter Try.func17, Try.ntmps17
  go_wp2_with fail
  refine (l5Table_any A c lo hi t _ H1.out).mono ?_
  rintro e w1 ⟨rfl, hd⟩
  cases ht : tableB t with
  | false =>
    have HB := Lib.hid (hd.grow HB0.out)
    have HM : Hid (leastCM t = none) := by show _ = _; unfold leastCM; rw [ht]; rfl
    have HS : Hid (IR w1 0 w1.heap.size (some ⟨w.heap.size, 0, none⟩) []) := ⟨by simp, by simp, Nat.le_refl _, fun h => absurd h (by simp)⟩
    clear hd ht
    go_wp2
    go_ret2
    rw [HM.out]
    exact ⟨_, _, rfl, HS.out, HB.out⟩
  | true =>
    have HM : Hid (leastCM t = some (t.map fun r => (firstOf r : Int))) := by show _ = _; unfold leastCM; rw [ht]; rfl
    obtain ⟨_, hn, hm, _⟩ := table_sh ht
    have HT := Lib.hid ht
    have HO0 : Hid (OwnI w1 w.heap.size (.slice (some ⟨w.heap.size, 0, none⟩) 0 0) []) := by
      obtain ⟨m, rfl⟩ := hd; exact (OwnI.made w).drewN m
    have HB := Lib.hid (hd.grow HB0.out)
    clear hd ht
    obtain ⟨n, hnn⟩ : ∃ n, t.length = n := ⟨_, rfl⟩
    have HN := Lib.hid hnn
    rw [hnn] at hn
    rw [hnn]
    clear hnn
    go_wp2
    go_loopw [4, 5] (fun v i wr => ∃ k : Nat, k ≤ n ∧ i = .int .i64 (k : Int) ∧ OwnI wr w.heap.size v ((t.map fun r => (firstOf r : Int)).take k) ∧ Below w.heap.size w wr) (fun _ i _ => n - (intOf i).toNat)
    case atStart => exact ⟨0, Nat.zero_le _, rfl, HO0.out, HB.out⟩
    case round =>
      clear HO0 HB
      obtain ⟨k, hk, rfl, ho, hb⟩ := hrel
      have HO := Lib.hid ho; have HB := Lib.hid hb
      clear ho hb
      by_cases hlt : k < n
      · have hkt : k < t.length := by rw [HN.out]; exact hlt
        obtain ⟨b, off, Ak, ck, rfl, _, hbw0, hc, _, hrow⟩ := (H.out.grow HB.out).2.2 k hkt
        have hbw : b < w.heap.size := Nat.lt_of_lt_of_le hbw0 H.out.2.1
        have hl := table_row HT.out hkt
        have htk := leastC_take t k hkt
        obtain ⟨zs, hzs⟩ : ∃ zs, t[k] = zs := ⟨_, rfl⟩
        rw [hzs] at hc hrow hl htk
        obtain ⟨m, hmm⟩ : ∃ m, colsN t = m := ⟨_, rfl⟩
        rw [hmm] at hl hm
        rw [hl] at hc htk
        have HR := Lib.hid hrow; have HL := Lib.hid hl; have HTK := Lib.hid htk
        clear hrow hl htk hzs hmm
        obtain ⟨x, hx⟩ : ∃ x : Nat, fstTo (fun i => zs.getD i 0) 0 (m - 1) = x := ⟨_, rfl⟩
        rw [hx] at HTK
        have hxm : x ≤ m - 1 := by have := (fstTo_is (fun i => zs.getD i 0) 0 (m - 1)).2.1; omega
        have HX := Lib.hid hx
        clear hx
        have hlt' : (k : Int) < (n : Int) := by omega
        have q0 : (0 : Int) ≤ (k : Int) := by omega
        have s1 : IntKind.i64.wrap ((m : Int) - 1) = ((m - 1 : Nat) : Int) := by rw [show (m : Int) - 1 = ((m - 1 : Nat) : Int) by omega]; exact IntWalk.i64_in _ (by omega)
        have HY : Hid (I64 (x : Int)) := ⟨by omega, by omega⟩
        have HLn : Hid (((t.map fun r => (firstOf r : Int)).take k).length < 17592186044416) := by show _ < _; rw [List.length_take, List.length_map, HN.out]; omega
        go_wp2
        go_region_held_law (fun w' => w'.cell? ⟨b, off + k, none⟩ = some (.slice Ak m ck)) (first | exact hc | exact hc2 | exact (hb1.cell (p := ⟨b, off + k, none⟩) hbw).trans hc2 | go_keep)
          (first
            | (refine step_push2 (by rfl) (.tmp 17) (.tmp 29) (by rfl) w.heap.size _ _ (by rfl) (by rfl) HO2.out HLn.out HY.out ?_; intro v1 w3 ho1 hb1)
            | (go_at_call 33; refine (l5First_any Ak ck _ _ m 0 (m - 1) zs _ (HR.out.drewN 1) HL.out (by omega) (by omega)).mono ?_; rintro e w2 ⟨rfl, hd⟩; rw [Nat.sub_zero, HX.out]; have HO2 := Lib.hid (hd.own (HO.out.drewN 1)); have HB2 := Lib.hid (hd.grow (below_drawN HB.out 1)); have hc2 := hd.cell (show wr.drew.cell? ⟨b, off + k, none⟩ = some (.slice Ak m ck) from hc); clear hd))
        rw [HTK.out] at ho1
        have HO1 := Lib.hid ho1; have HB1 := Lib.hid hb1
        clear ho1 hb1
        go_wp2
        go_roundw
        case rel => exact ⟨k + 1, by omega, by go_num, HO1.out, HB2.out.trans HB1.out⟩
        case measure => simp [intOf]; omega
      · obtain rfl : k = n := by omega
        have ho := HO.out
        have hlen : (t.map fun r => (firstOf r : Int)).length = k := by rw [List.length_map]; exact HN.out
        rw [List.take_of_length_le (by rw [hlen]; exact Nat.le_refl _)] at ho
        obtain ⟨A', c', rfl, hiw⟩ := ho.iwn hlen (by omega)
        have HIW := Lib.hid hiw; have HLEN := Lib.hid hlen
        clear hiw ho HO hlen
        have hlt' : ¬ (k : Int) < (k : Int) := by omega
        go_wp2
        go_ret2
        rw [HM.out]
        refine ⟨A', c', ?_, HIW.out.toAll, HB.out⟩
        rw [show (some (t.map fun r => (firstOf r : Int))).getD [] = t.map fun r => (firstOf r : Int) from rfl, HLEN.out]
        rfl
end Go.Proofs.Ytanoojpmokbiaaa

/-
  l5Quick and TableQuick of the model: the middle row first. Conditions: the table's cells are there.
-/
namespace Go.Proofs.Ytanoojpmokbiaaa
open Go.RowKit

/-- xs with the first columns put at the rows from a on, len of them. -/
def putR (t : List (List Int)) (xs : List Int) (a len : Nat) : List Int := (List.range xs.length).map fun i => if a ≤ i ∧ i < a + len then (firstOf (t.getD i []) : Int) else xs.getD i 0
theorem putR_len (t : List (List Int)) (xs : List Int) (a len : Nat) : (putR t xs a len).length = xs.length := by simp [putR]
theorem putR_get (t : List (List Int)) (xs : List Int) (a len i : Nat) (h : i < (putR t xs a len).length) : (putR t xs a len)[i] = if a ≤ i ∧ i < a + len then (firstOf (t.getD i []) : Int) else xs.getD i 0 := by simp [putR]
theorem putR_zero (t : List (List Int)) (xs : List Int) (a : Nat) : putR t xs a 0 = xs := by
  apply List.ext_getElem
  · exact putR_len _ _ _ _
  · intro i h1 h2
    rw [putR_get, if_neg (by omega), getD_in h2]
theorem putR_getD (t : List (List Int)) (xs : List Int) (a len i : Nat) (h : i < xs.length) : (putR t xs a len).getD i 0 = if a ≤ i ∧ i < a + len then (firstOf (t.getD i []) : Int) else xs.getD i 0 := by
  rw [getD_in (show i < (putR t xs a len).length by rw [putR_len]; exact h), putR_get]
theorem set_at (xs : List Int) (k i : Nat) (v : Int) (h : i < xs.length) : (xs.set k v).getD i 0 = if i = k then v else xs.getD i 0 := by
  rw [getD_in (by simpa using h), List.getElem_set]
  by_cases e : k = i
  · subst e; rw [if_pos rfl, if_pos rfl]
  · rw [if_neg e, if_neg (Ne.symm e), getD_in h]
/-- The middle one, those ahead of it, those behind it. -/
theorem putR_step (t : List (List Int)) (xs : List Int) (a h d : Nat) :
    putR t (putR t (xs.set (a + h) (firstOf (t.getD (a + h) []) : Int)) a h) (a + h + 1) d = putR t xs a (h + 1 + d) := by
  apply List.ext_getElem
  · simp [putR_len]
  · intro i h1 h2
    rw [putR_get, putR_get]
    have hi : i < xs.length := by rw [putR_len] at h2; exact h2
    rw [putR_getD _ _ _ _ _ (by simpa using hi), set_at _ _ _ _ hi]
    by_cases c1 : a + h + 1 ≤ i ∧ i < a + h + 1 + d
    · rw [if_pos c1, if_pos (by omega)]
    · rw [if_neg c1]
      by_cases c2 : a ≤ i ∧ i < a + h
      · rw [if_pos c2, if_pos (by omega)]
      · rw [if_neg c2]
        by_cases c3 : i = a + h
        · rw [if_pos c3, if_pos (by omega), c3]
        · rw [if_neg c3, if_neg (by omega)]
theorem Dr.only {B : Nat} {a b c : World} (h : Only B (B + 1) a b) (k : Dr b c) : Only B (B + 1) a c := by
  obtain ⟨m, rfl⟩ := k; exact ⟨h.os, h.tape, h.output, h.size, h.block⟩
theorem Dr.cells {w w' : World} {b off : Nat} {xs : List Int} (h : Cells w b off xs) (k : Dr w w') : Cells w' b off xs := by
  obtain ⟨m, rfl⟩ := k; exact h

theorem Only.trans3 {lo hi : Nat} {a b c : World} (h : Only lo hi a b) (k : Only lo hi b c) : Only lo hi a c :=
  ⟨k.os.trans h.os, k.tape.trans h.tape, k.output.trans h.output, k.size.trans h.size, fun i hi => (k.block i hi).trans (h.block i hi)⟩
theorem first_fst {t : List (List Int)} (ht : tableB t = true) {i : Nat} (hi : i < t.length) : Fst (ent t i) 0 (colsN t - 1) (firstOf (t.getD i [])) := by
  have h := fstTo_is (ent t i) 0 ((t.getD i []).length - 1)
  rw [(table_sh ht).1.row hi, Nat.zero_add] at h
  unfold firstOf
  rw [(table_sh ht).1.row hi]
  exact h
theorem first_part {zs : List Int} {m l r : Nat} (hl : zs.length = m) (h1 : l ≤ firstOf zs) (h2 : firstOf zs ≤ r) (hr : r < m) : fstTo (fun k => zs.getD k 0) l (r - l) = firstOf zs := by
  have h := fstTo_is (fun k => zs.getD k 0) 0 (m - 1)
  have e : fstTo (fun k => zs.getD k 0) 0 (m - 1) = firstOf zs := by unfold firstOf; rw [hl]
  rw [e, Nat.zero_add] at h
  have g := fstTo_is (fun k => zs.getD k 0) l (r - l)
  rw [show l + (r - l) = r by omega] at g
  exact g.uniq (h.part (Nat.zero_le _) (by omega) h1 h2)
theorem first_mono {t : List (List Int)} (ht : tableB t = true) (hcr : Cr (ent t) t.length (colsN t)) {i j : Nat} (hij : i ≤ j) (hj : j < t.length) : firstOf (t.getD i []) ≤ firstOf (t.getD j []) :=
  cr_fst hcr hij hj (by have := (table_sh ht).2.2.1; omega) (first_fst ht (by omega)) (first_fst ht hj)

end Go.Proofs.Ytanoojpmokbiaaa

/-
  TableQuick and TableOf of the model. Conditions: the cells are there.
-/
namespace Go.Proofs.Ytanoojpmokbiaaa
open Go.RowKit

end Go.Proofs.Ytanoojpmokbiaaa

/-
  TableOf of the model: the table of a row. Conditions: the row's cells are there.
-/
namespace Go.Proofs.Ytanoojpmokbiaaa
open Go.RowKit

theorem IWW.nil' (w : World) (lo hi : Nat) (A : Option Addr) (h : hi ≤ w.heap.size) : IWW w lo hi A [] :=
  ⟨by simp, h, 0, 0, fun _ => none, fun _ => 0, fun h => absurd h (by simp), fun k hk => absurd hk (by simp), fun j k _ hk => absurd hk (by simp)⟩
theorem retTB_none {w w' : World} {A : Option Addr} {c : Nat} (hb : Below w.heap.size w w') : RetTB w none (.returned (.tuple #[.slice A 0 c, .bool false])) w' :=
  ⟨A, c, rfl, Nat.zero_le _, IWW.nil' _ _ _ _ (Nat.le_refl _), hb⟩
theorem ofM_no {n m : Int} {a : List Int} (h : (inB 1 6 n && inB 1 6 m && rowB a && decide ((a.length : Int) = n + m - 1)) = false) : ofM n m a = none := by
  unfold ofM
  rw [if_neg]
  rintro ⟨h1, h2, h3, h4⟩
  rw [inB_true.2 h1, inB_true.2 h2, h3, decide_eq_true h4] at h
  cases h
theorem ofM_yes {n m : Nat} {a : List Int} (h1 : 1 ≤ n ∧ n ≤ 6) (h2 : 1 ≤ m ∧ m ≤ 6) (h3 : rowB a = true) (h4 : a.length + 1 = n + m) : ofM n m a = some (tabL n m (ofRow a n)) := by
  unfold ofM
  rw [if_pos ⟨by omega, by omega, h3, by omega⟩]
  rfl
theorem takeR_snoc (l : List (List Int)) (k : Nat) (h : k < l.length) : l.take k ++ [l[k]] = l.take (k + 1) := by
  rw [List.take_add_one, List.getElem?_eq_getElem h]; rfl
theorem ofRow_row (a : List Int) {n m k : Nat} (hk : k < n) (hl : a.length + 1 = n + m) : (List.range m).map (fun j => ofRow a n k j) = (a.drop (n - 1 - k)).take m := by
  apply List.ext_getElem
  · simp; omega
  · intro j h1 h2
    simp at h1 h2
    simp only [List.getElem_map, List.getElem_range, List.getElem_take, List.getElem_drop, ofRow]
    exact getD_in (by omega)

end Go.Proofs.Ytanoojpmokbiaaa

/-
  TableMerge of the model: least sums. Conditions: the tables' cells are there.
-/
namespace Go.Proofs.Ytanoojpmokbiaaa
open Go.RowKit

theorem mergeTM_no {t u : List (List Int)} (h : (tableB t && tableB u && decide (colsN t = u.length)) = false) : mergeTM t u = none := by
  unfold mergeTM; rw [h]; rfl
theorem mergeTM_yes {t u : List (List Int)} (h1 : tableB t = true) (h2 : tableB u = true) (h3 : colsN t = u.length) : mergeTM t u = if tableB (mergeTL t u) then some (mergeTL t u) else none := by
  unfold mergeTM; rw [h1, h2, decide_eq_true h3]; rfl
theorem Dr.ownT {w w' : World} {base hi : Nat} {v : Value} {zss : List (List Int)} (h : OwnT w base hi v zss) (k : Dr w w') : OwnT w' base hi v zss := by
  obtain ⟨m, rfl⟩ := k; exact h.drewN m

end Go.Proofs.Ytanoojpmokbiaaa

/-
  l5Cost and TableCost of the model. Conditions: the tables' cells are there.
-/
namespace Go.Proofs.Ytanoojpmokbiaaa
open Go.RowKit

theorem sumN_abs {g : Nat → Int} {B : Int} : ∀ n, (∀ k, k < n → -B ≤ g k ∧ g k ≤ B) → -(B * (n : Int)) ≤ sumN g n ∧ sumN g n ≤ B * (n : Int) := by
  intro n
  induction n with
  | zero => intro _; simp [sumN]
  | succ n ih =>
    intro h
    have h1 := ih fun k hk => h k (by omega)
    have h2 := h n (by omega)
    have e : B * ((n + 1 : Nat) : Int) = B * (n : Int) + B := by rw [Int.natCast_add, Int.mul_add]; simp
    rw [e]
    unfold sumN
    omega
theorem mul_abs {x y : Int} (hx : -1000 ≤ x ∧ x ≤ 1000) (hy : -1000 ≤ y ∧ y ≤ 1000) : -1000000 ≤ x * y ∧ x * y ≤ 1000000 := by
  have h1 : (x + 1000) * (1000 - y) ≥ 0 := Int.mul_nonneg (by omega) (by omega)
  have h2 : (1000 - x) * (y + 1000) ≥ 0 := Int.mul_nonneg (by omega) (by omega)
  have h3 : (x + 1000) * (y + 1000) ≥ 0 := Int.mul_nonneg (by omega) (by omega)
  have h4 : (1000 - x) * (1000 - y) ≥ 0 := Int.mul_nonneg (by omega) (by omega)
  simp only [Int.add_mul, Int.mul_add, Int.sub_mul, Int.mul_sub] at h1 h2 h3 h4
  omega

theorem costTM_no {t l : List (List Int)} (h : (tableB t && tableB l && decide (l.length = t.length) && decide (colsN l = colsN t) && l.all fun r => r.all fun x => decide (0 ≤ x ∧ x ≤ 9)) = false) : costTM t l = none := by
  unfold costTM; rw [h]; rfl
/-- The rows of l below the i-th one are amounts. -/
def AmTo (l : List (List Int)) (m i q : Nat) : Prop := ∀ p k, k < m → (p < i ∨ p = i ∧ k < q) → inB 0 9 (ent l p k) = true
theorem amTo_all {l : List (List Int)} (hl : tableB l = true) (h : AmTo l (colsN l) l.length 0) : (l.all fun r => r.all fun x => decide (0 ≤ x ∧ x ≤ 9)) = true := by
  rw [List.all_eq_true]
  intro r hr
  obtain ⟨i, hi, rfl⟩ := List.getElem_of_mem hr
  rw [List.all_eq_true]
  intro x hx
  obtain ⟨k, hk, rfl⟩ := List.getElem_of_mem hx
  have hk2 : k < colsN l := by rw [← table_row hl hi]; exact hk
  have := h i k hk2 (.inl hi)
  rw [ent_get hi hk] at this
  rw [decide_eq_true_eq]
  exact inB_true.1 this
theorem am_bad {l : List (List Int)} (hl : tableB l = true) {i k : Nat} (hi : i < l.length) (hk : k < colsN l) (h : inB 0 9 (ent l i k) = false) : (l.all fun r => r.all fun x => decide (0 ≤ x ∧ x ≤ 9)) = false := by
  have hk2 : k < l[i].length := by rw [table_row hl hi]; exact hk
  rw [ent_get hi hk2] at h
  rw [List.all_eq_false]
  refine ⟨l[i], List.getElem_mem hi, ?_⟩
  rw [Bool.not_eq_true, List.all_eq_false]
  exact ⟨l[i][k], List.getElem_mem hk2, by rw [decide_eq_true_eq]; exact inB_false h⟩

end Go.Proofs.Ytanoojpmokbiaaa

/-
  TableCost of the model. Conditions: the tables' cells are there.
-/
namespace Go.Proofs.Ytanoojpmokbiaaa
open Go.RowKit

end Go.Proofs.Ytanoojpmokbiaaa

/-
  l5Amounts of the model. Conditions: the cells are there.
-/
namespace Go.Proofs.Ytanoojpmokbiaaa
open Go.RowKit

def am9 (a : List Int) : Bool := a.all fun x => decide (0 ≤ x ∧ x ≤ 9)
theorem am9_no {a : List Int} {i : Nat} (h : i < a.length) (hx : inB 0 9 a[i] = false) : am9 a = false := by
  unfold am9
  rw [List.all_eq_false]
  exact ⟨a[i], List.getElem_mem h, by rw [decide_eq_true_eq]; exact inB_false hx⟩
theorem am9_yes {a : List Int} (h : ∀ (i : Nat) (hi : i < a.length), inB 0 9 a[i] = true) : am9 a = true := by
  unfold am9
  rw [List.all_eq_true]
  intro x hx
  obtain ⟨i, hi, rfl⟩ := List.getElem_of_mem hx
  rw [decide_eq_true_eq]
  exact inB_true.1 (h i hi)
theorem amountsB_of (t : List (List Int)) (a b : List Int) : amountsB t a b = (tableB t && decide (a.length = t.length) && decide (b.length = colsN t) && am9 a && am9 b && decide (a.sum = b.sum)) := rfl
theorem sumTo_succ (a : List Int) (i : Nat) (h : i < a.length) : sumTo a (i + 1) = sumTo a i + a[i] := by
  unfold sumTo
  rw [sumN, getD_in h]
theorem sumTo_all (a : List Int) : sumTo a a.length = a.sum := sumN_list a

set_option maxRecDepth 100000 in
set_option maxHeartbeats 2000000 in
theorem l5Amounts_any (A : Option Addr) (c lo hi : Nat) (t : List (List Int)) (A1 : Option Addr) (c1 lo1 hi1 : Nat) (a : List Int) (A2 : Option Addr) (c2 lo2 hi2 : Nat) (b : List Int) (w : World) (h : IRR w lo hi A t) (h1 : IR w lo1 hi1 A1 a) (h2 : IR w lo2 hi2 A2 b) :
    Calls Try.prog 34 #[.slice A t.length c, .slice A1 a.length c1, .slice A2 b.length c2] w fun e w' => e = .returned (.bool (amountsB t a b)) ∧ Dr w w' := by
  have H := Lib.hid h; have Ha := Lib.hid h1; have Hb := Lib.hid h2
  have hla := h1.1; have hlb := h2.1
  have HE := Lib.hid (amountsB_of t a b)
  clear h h1 h2
  go_enter Try.func34, Try.ntmps34
  go_wp2_with fail
  refine (l5Table_any A c _ _ t _ H.out).mono ?_
  rintro e w1 ⟨rfl, hd⟩
  have HD := Lib.hid hd
  have HT := Lib.hid (hd.irr H.out)
  clear hd
  cases p1 : tableB t with
  | false =>
    have HM : Hid (amountsB t a b = false) := by show _ = _; rw [HE.out, p1]; rfl
    clear p1
    go_wp2
    go_ret
    exact ⟨by rw [HM.out]; rfl, HD.out⟩
  | true =>
    have HP1 := Lib.hid p1
    clear p1
    obtain ⟨_, bn, bm, _⟩ := table_sh HP1.out
    obtain ⟨bb, off, b0, o0, c0, rfl, hc0, _⟩ := HT.out.entry HP1.out (i := 0) (by omega)
    rw [Nat.add_zero] at hc0
    obtain ⟨n, hn⟩ : ∃ n, t.length = n := ⟨_, rfl⟩
    obtain ⟨m, hm⟩ : ∃ m, colsN t = m := ⟨_, rfl⟩
    obtain ⟨na, hna⟩ : ∃ n, a.length = n := ⟨_, rfl⟩
    obtain ⟨nb, hnb⟩ : ∃ n, b.length = n := ⟨_, rfl⟩
    have HNA := Lib.hid hna; have HNB := Lib.hid hnb
    have HE2 : Hid (amountsB t a b = (true && decide (na = n) && decide (nb = m) && am9 a && am9 b && decide (a.sum = b.sum))) := by show _ = _; rw [HE.out, HP1.out, hn, hm, hna, hnb]
    rw [hn] at bn
    rw [hm] at bm hc0
    rw [hn, hna, hnb]
    rw [hna] at hla
    rw [hnb] at hlb
    have h0 : 0 < n := by omega
    clear HE hn hm hna hnb
    by_cases c1' : na = n
    · by_cases c2' : nb = m
      · subst c1'; subst c2'
        have HNO1 : Hid (am9 a = false → amountsB t a b = false) := fun e => by rw [HE2.out, e]; simp
        have HNO2 : Hid (am9 b = false → amountsB t a b = false) := fun e => by rw [HE2.out, e]; simp
        have HYES : Hid (am9 a = true → am9 b = true → amountsB t a b = decide (a.sum - b.sum = 0)) := fun e1 e2 => by
          rw [HE2.out, e1, e2, decide_eq_true rfl, decide_eq_true rfl]
          simp only [Bool.true_and, Bool.and_true]
          by_cases e : a.sum = b.sum
          · rw [decide_eq_true e, decide_eq_true (by omega)]
          · rw [decide_eq_false e, decide_eq_false (by omega)]
        clear HE2
        go_wp2
        clear hc0
        go_loopw [7, 8] (fun v x wr => ∃ i : Nat, i ≤ na ∧ x = .int .i64 (i : Int) ∧ v = .int .i64 (sumTo a i) ∧ Dr w wr ∧ (0 ≤ sumTo a i ∧ sumTo a i ≤ 9 * (i : Int)) ∧ Hid (∀ (j : Nat) (hj : j < a.length), j < i → inB 0 9 a[j] = true)) (fun _ x _ => na - (intOf x).toNat)
        case atStart => exact ⟨0, Nat.zero_le _, rfl, rfl, HD.out, by simp [sumTo, sumN], fun j _ h => by omega⟩
        case round =>
          clear HD HT
          obtain ⟨i, hi, rfl, rfl, hdr, hsb, hok⟩ := hrel
          have HD := Lib.hid hdr; have HOK := hok
          have HA := Lib.hid (hdr.ir Ha.out)
          clear hdr hok
          by_cases hlt : i < na
          · have hlt' : (i : Int) < (na : Int) := by omega
            have i0 : (0 : Int) ≤ (i : Int) := by omega
            have hia : i < a.length := by rw [HNA.out]; exact hlt
            obtain ⟨b1, o1, hA1, _, _, hci⟩ := HA.out.at_ hia
            have hss := sumTo_succ a i hia
            have HBD := Lib.hid (am9_no hia)
            obtain ⟨z, hz⟩ : ∃ z, a[i] = z := ⟨_, rfl⟩
            rw [hz] at hci hss HBD
            obtain ⟨S, hS⟩ : ∃ S, sumTo a i = S := ⟨_, rfl⟩
            rw [hS] at hsb hss
            rw [hS]
            have HSS := Lib.hid hss; have HZ := Lib.hid hz
            obtain ⟨p, hp⟩ : ∃ p, inB 0 9 z = p := ⟨_, rfl⟩
            have HP := Lib.hid hp
            clear hp hz hss hS
            subst hA1
            go_wp2_with fail
            refine (l6In_of HP.out _).mono ?_
            rintro e w' ⟨rfl, rfl⟩
            cases p with
            | false =>
              have HM := Lib.hid (HNO1.out (HBD.out HP.out))
              go_wp2
              go_ret
              exact ⟨by rw [HM.out]; rfl, HD.out⟩
            | true =>
              have hzb := inB_true.1 HP.out
              have s1 : IntKind.i64.wrap (S + z) = S + z := IntWalk.i64_in _ (by omega)
              go_wp2
              go_roundw
              case rel =>
                refine ⟨i + 1, by omega, by go_num, by rw [HSS.out], HD.out, by rw [HSS.out]; push_cast; omega, fun j hj h => ?_⟩
                by_cases e : j = i
                · subst e; rw [HZ.out]; exact HP.out
                · exact HOK.out j hj (by omega)
              case measure => simp [intOf]; omega
          · obtain rfl : i = na := by omega
            have hlt' : ¬ (i : Int) < (i : Int) := by omega
            have HA9 := Lib.hid (am9_yes fun j hj => HOK.out j hj (by rw [← HNA.out]; exact hj))
            have HSA : Hid (sumTo a i = a.sum) := by show _ = _; rw [← sumTo_all, HNA.out]
            obtain ⟨S, hS⟩ : ∃ S, sumTo a i = S := ⟨_, rfl⟩
            rw [hS] at hsb HSA
            rw [hS]
            clear hS
            go_wp2
            go_loopw [7, 9] (fun v x wr => ∃ k : Nat, k ≤ nb ∧ x = .int .i64 (k : Int) ∧ v = .int .i64 (S - sumTo b k) ∧ Dr w wr ∧ (0 ≤ sumTo b k ∧ sumTo b k ≤ 9 * (k : Int)) ∧ Hid (∀ (j : Nat) (hj : j < b.length), j < k → inB 0 9 b[j] = true)) (fun _ x _ => nb - (intOf x).toNat)
            case atStart => exact ⟨0, Nat.zero_le _, rfl, by simp [sumTo, sumN], HD.out, by simp [sumTo, sumN], fun j _ h => by omega⟩
            case round =>
              clear HD HA
              obtain ⟨k, hk, rfl, rfl, hdr, hsb2, hok⟩ := hrel
              have HD := Lib.hid hdr; have HOK2 := hok
              have HB := Lib.hid (hdr.ir Hb.out)
              clear hdr hok
              by_cases hlt : k < nb
              · have hltk : (k : Int) < (nb : Int) := by omega
                have k0 : (0 : Int) ≤ (k : Int) := by omega
                have hib : k < b.length := by rw [HNB.out]; exact hlt
                obtain ⟨b1, o1, hA1, _, _, hci⟩ := HB.out.at_ hib
                have hss := sumTo_succ b k hib
                have HBD := Lib.hid (am9_no hib)
                obtain ⟨z, hz⟩ : ∃ z, b[k] = z := ⟨_, rfl⟩
                rw [hz] at hci hss HBD
                obtain ⟨T, hT⟩ : ∃ S, sumTo b k = S := ⟨_, rfl⟩
                rw [hT] at hsb2 hss
                rw [hT]
                have HSS := Lib.hid hss; have HZ := Lib.hid hz
                obtain ⟨p, hp⟩ : ∃ p, inB 0 9 z = p := ⟨_, rfl⟩
                have HP := Lib.hid hp
                clear hp hz hss hT
                subst hA1
                go_wp2_with fail
                refine (l6In_of HP.out _).mono ?_
                rintro e w' ⟨rfl, rfl⟩
                cases p with
                | false =>
                  have HM := Lib.hid (HNO2.out (HBD.out HP.out))
                  go_wp2
                  go_ret
                  exact ⟨by rw [HM.out]; rfl, HD.out⟩
                | true =>
                  have hzb := inB_true.1 HP.out
                  have s1 : IntKind.i64.wrap (S - T - z) = S - (T + z) := by rw [show S - T - z = S - (T + z) by omega]; exact IntWalk.i64_in _ (by omega)
                  go_wp2
                  go_roundw
                  case rel =>
                    refine ⟨k + 1, by omega, by go_num, by rw [HSS.out], HD.out, by rw [HSS.out]; push_cast; omega, fun j hj h => ?_⟩
                    by_cases e : j = k
                    · subst e; rw [HZ.out]; exact HP.out
                    · exact HOK2.out j hj (by omega)
                  case measure => simp [intOf]; omega
              · obtain rfl : k = nb := by omega
                have hltk : ¬ (k : Int) < (k : Int) := by omega
                have HB9 := Lib.hid (am9_yes fun j hj => HOK2.out j hj (by rw [← HNB.out]; exact hj))
                have HSB : Hid (sumTo b k = b.sum) := by show _ = _; rw [← sumTo_all, HNB.out]
                have HM := Lib.hid (HYES.out HA9.out HB9.out)
                rw [← HSA.out, ← HSB.out] at HM
                obtain ⟨D, hD⟩ : ∃ D, S - sumTo b k = D := ⟨_, rfl⟩
                rw [hD] at HM
                rw [hD]
                clear hD HYES HNO1 HNO2
                by_cases hz : D = 0
                · have HM2 : Hid (amountsB t a b = true) := by show _ = _; rw [HM.out, decide_eq_true hz]
                  go_wp2
                  go_ret
                  exact ⟨by rw [HM2.out]; rfl, HD.out⟩
                · have HM2 : Hid (amountsB t a b = false) := by show _ = _; rw [HM.out, decide_eq_false hz]
                  have hz' : (D == 0) = false := beq_eq_false_iff_ne.2 hz
                  go_wp2
                  go_ret
                  exact ⟨by rw [HM2.out]; rfl, HD.out⟩
      · have HM : Hid (amountsB t a b = false) := by show _ = _; rw [HE2.out, decide_eq_false c2']; simp
        have c2'' : ¬ (nb : Int) = (m : Int) := by omega
        subst c1'
        clear HE2
        go_wp2
        go_ret
        exact ⟨by rw [HM.out]; rfl, HD.out⟩
    · have HM : Hid (amountsB t a b = false) := by show _ = _; rw [HE2.out, decide_eq_false c1']; simp
      have c1'' : ¬ (na : Int) = (n : Int) := by omega
      clear HE2
      go_wp2
      go_ret
      exact ⟨by rw [HM.out]; rfl, HD.out⟩
end Go.Proofs.Ytanoojpmokbiaaa
