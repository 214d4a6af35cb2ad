/-
  Sharing in the program, all functions of chapter 6 but ShareGreedy. Conditions: the cells are there.
-/
import Derived.Test.YtanmjaljcnihlaaSsA
import Derived.Test.YtanmjaljcnihlaaPart2
import Derived.Test.YtanmjaljcnihlaaBent2
import Derived.Test.YtanmjaljcnihlaaTbS
import Derived.Test.YtanmjaljcnihlaaHeldE
import Derived.Test.YtanmjaljcnihlaaChg
namespace Go.Proofs.Ytanmjaljcnihlaa
open Go.RowKit

theorem all_not {rs : List (List Int)} {f : List Int → Bool} {k : Nat} (hk : k < rs.length) (h : f rs[k] = false) : rs.all f = false := List.all_eq_false.2 ⟨rs[k], List.getElem_mem hk, by rw [h]; simp⟩
theorem all_yes {rs : List (List Int)} {f : List Int → Bool} (h : ∀ (k : Nat) (hk : k < rs.length), f rs[k] = true) : rs.all f = true := List.all_eq_true.2 fun x hx => by
  obtain ⟨j, hj, rfl⟩ := List.getElem_of_mem hx
  exact h j hj

set_option maxRecDepth 100000 in
set_option maxHeartbeats 1000000 in
theorem all1_isRow (A : Option Addr) (c B : Nat) (zs : List Int) (w : World) (h : IR w 0 w.heap.size A zs) (_hr : True) (hB : Boxed w B 81 (.func (.func 41) #[] #[])) :
    Calls Try.prog 81 #[.slice A zs.length c, .pointer (some ⟨B, 0, none⟩)] w fun e w' => e = .returned (.bool (!rowB zs)) ∧ Below w.heap.size w w' := by
  have H := Lib.hid h
  have hc := hB.cell
  have HC := Lib.hid (isRow_any A c zs w h)
  clear h hB
  go_enter Try.func81, Try.ntmps81
  go_wp2_with fail
  refine HC.out.mono ?_
  rintro e w1 ⟨rfl, hb⟩
  have HB := Lib.hid hb
  clear hb
  go_wp2
  go_ret
  exact ⟨rfl, HB.out⟩

set_option maxRecDepth 100000 in
set_option maxHeartbeats 1000000 in
theorem index_isRow (A : Option Addr) (c B : Nat) (rs : List (List Int)) (w : World) (h : IRR w 0 w.heap.size A rs) (hr : ∀ (k : Nat) (_hk : k < rs.length), True) (hB : Boxed w B 81 (.func (.func 41) #[] #[])) (hBw : B < w.heap.size) :
    Calls Try.prog 88 #[.slice A rs.length c, .func (.func 81) #[] #[.pointer (some ⟨B, 0, none⟩)]] w fun e w' => ∃ k : Int, e = .returned (.int .i64 k) ∧ decide (0 ≤ k) = !rs.all rowB ∧ Below w.heap.size w w' := by
  have hl := h.1
  have H := Lib.hid h; have HB := Lib.hid hB; have HR := Lib.hid hr
  clear h hB hr
  go_enter Try.func88, Try.ntmps88
  go_wp2
  go_loopw [8] (fun i wr => ∃ k : Nat, k ≤ rs.length ∧ i = .int .i64 (k : Int) ∧ Below w.heap.size w wr ∧ Hid (∀ (j : Nat) (hj : j < rs.length), j < k → rowB rs[j] = true)) (fun i _ => rs.length - (intOf i).toNat)
  case atStart => exact ⟨0, Nat.zero_le _, rfl, Below.refl _ _, fun j _ hj => absurd hj (by omega)⟩
  case round =>
    obtain ⟨k, hk, rfl, hb, hok⟩ := hrel
    have HBl := Lib.hid hb
    by_cases hlt : k < rs.length
    · have HW := Lib.hid ((H.out.grow hb).toAll)
      have hBx : Boxed wr B 81 (.func (.func 41) #[] #[]) := (hb.block B hBw).trans HB.out
      obtain ⟨b, off, Ak, ck, rfl, _, hc, _, hrow⟩ := HW.out.at_ hlt
      have HC := Lib.hid (all1_isRow Ak ck B rs[k] wr hrow trivial hBx)
      have hlt' : (k : Int) < (rs.length : Int) := by omega
      have k0 : (0 : Int) ≤ (k : Int) := by omega
      have HNO := Lib.hid (fun h => all_not (f := rowB) hlt h)
      obtain ⟨q, hq⟩ : ∃ q, rowB rs[k] = q := ⟨_, rfl⟩
      have HQ := Lib.hid hq
      rw [hq] at HC HNO
      clear hb hBx hrow hq
      cases q with
      | false =>
        go_wp2_with fail
        refine HC.out.mono ?_
        rintro e w1 ⟨rfl, hb⟩
        have HB1 := Lib.hid hb
        clear hb
        go_wp2
        go_ret
        exact ⟨(k : Int), rfl, by rw [HNO.out (by trivial)]; simp, HBl.out.trans (HB1.out.mono HBl.out.size)⟩
      | true =>
        clear HNO
        go_wp2_with fail
        refine HC.out.mono ?_
        rintro e w1 ⟨rfl, hb⟩
        have HB1 := Lib.hid hb
        clear hb
        go_wp2
        go_roundw
        case rel =>
          refine ⟨k + 1, by omega, by go_num, HBl.out.trans (HB1.out.mono HBl.out.size), fun j hj h1 => ?_⟩
          by_cases e : j = k
          · subst e; exact HQ.out
          · exact hok.out j hj (by omega)
        case measure => simp [intOf]; omega
    · obtain rfl : k = rs.length := by omega
      have HA : Hid (rs.all rowB = true) := all_yes fun j hj => hok.out j hj hj
      have hlt' : ¬ (rs.length : Int) < (rs.length : Int) := by omega
      clear hok hb
      go_wp2
      go_ret
      exact ⟨-1, rfl, by rw [HA.out]; rfl, HBl.out⟩

set_option maxRecDepth 100000 in
set_option maxHeartbeats 1000000 in
theorem all_isRow (A : Option Addr) (c : Nat) (rs : List (List Int)) (w : World) (h : IRR w 0 w.heap.size A rs) (hr : ∀ (k : Nat) (_hk : k < rs.length), True) :
    Calls Try.prog 70 #[.slice A rs.length c, .func (.func 41) #[] #[]] w fun e w' => e = .returned (.bool (rs.all rowB)) ∧ Below w.heap.size w w' := by
  have B0 : Below w.heap.size w (w.alloc (.cells #[.func (.func 41) #[] #[]] 81)) := (Below.refl _ _).alloc (Nat.le_refl _) _
  have hI := index_isRow A c w.heap.size rs (w.alloc (.cells #[.func (.func 41) #[] #[]] 81)) ((h.grow B0).toAll) hr (Boxed.new _ _ _) (by simp)
  have HI := Lib.hid hI; have HB := Lib.hid B0
  clear h hr B0 hI
  have HCF : Hid (Calls Try.prog 80 #[.slice A rs.length c, .func (.func 81) #[] #[.pointer (some ⟨w.heap.size, 0, none⟩)]] (w.alloc (.cells #[.func (.func 41) #[] #[]] 81)) fun e w' => e = .returned (.bool (!rs.all rowB)) ∧ Below (w.heap.size + 1) (w.alloc (.cells #[.func (.func 41) #[] #[]] 81)) w') := by
    show Calls _ _ _ _ _
    obtain ⟨W, hW⟩ : ∃ W, w.alloc (.cells #[.func (.func 41) #[] #[]] 81) = W := ⟨_, rfl⟩
    have hs : W.heap.size = w.heap.size + 1 := by rw [← hW]; simp
    rw [hW] at HI
    rw [hW, ← hs]
    clear hW hs
    go_enter Try.func80, Try.ntmps80
    go_wp2_with fail
    refine HI.out.mono ?_
    rintro e w1 ⟨k, rfl, hk, hb⟩
    have HB1 := Lib.hid hb; have HK := Lib.hid hk
    clear hb
    by_cases k0 : 0 ≤ k
    · have hk' : (!rs.all rowB) = true := by rw [← hk]; simp [k0]
      have HK' := Lib.hid hk'
      clear hk hk'
      go_wp2
      go_ret
      first | exact ⟨ret_bool HK'.out.symm, HB1.out⟩ | exact ⟨ret_bool HK.out, HB1.out⟩
    · have hk' : (!rs.all rowB) = false := by rw [← hk]; simp [k0]
      have HK' := Lib.hid hk'
      clear hk hk'
      go_wp2
      go_ret
      first | exact ⟨ret_bool HK'.out.symm, HB1.out⟩ | exact ⟨ret_bool HK.out, HB1.out⟩
  clear HI
  go_enter Try.func70, Try.ntmps70
  go_wp2_with fail
  refine HCF.out.mono ?_
  rintro e w1 ⟨rfl, hb⟩
  have HB1 := Lib.hid hb
  clear hb
  go_wp2
  go_ret
  exact ⟨ret_bool (by simp), HB.out.trans (HB1.out.mono (by simp))⟩

set_option maxRecDepth 100000 in
set_option maxHeartbeats 1000000 in
theorem all1_isBent (A : Option Addr) (c B : Nat) (zs : List Int) (w : World) (h : IR w 0 w.heap.size A zs) (hr : rowB zs = true) (hB : Boxed w B 81 (.func (.func 42) #[] #[])) :
    Calls Try.prog 81 #[.slice A zs.length c, .pointer (some ⟨B, 0, none⟩)] w fun e w' => e = .returned (.bool (!bentB zs)) ∧ Below w.heap.size w w' := by
  have H := Lib.hid h
  have hc := hB.cell
  have HC := Lib.hid (isBent_any A c zs w h hr)
  clear h hB
  go_enter Try.func81, Try.ntmps81
  go_wp2_with fail
  refine HC.out.mono ?_
  rintro e w1 ⟨rfl, hb⟩
  have HB := Lib.hid hb
  clear hb
  go_wp2
  go_ret
  exact ⟨rfl, HB.out⟩

set_option maxRecDepth 100000 in
set_option maxHeartbeats 1000000 in
theorem index_isBent (A : Option Addr) (c B : Nat) (rs : List (List Int)) (w : World) (h : IRR w 0 w.heap.size A rs) (hr : ∀ (k : Nat) (_hk : k < rs.length), rowB rs[k] = true) (hB : Boxed w B 81 (.func (.func 42) #[] #[])) (hBw : B < w.heap.size) :
    Calls Try.prog 88 #[.slice A rs.length c, .func (.func 81) #[] #[.pointer (some ⟨B, 0, none⟩)]] w fun e w' => ∃ k : Int, e = .returned (.int .i64 k) ∧ decide (0 ≤ k) = !rs.all bentB ∧ Below w.heap.size w w' := by
  have hl := h.1
  have H := Lib.hid h; have HB := Lib.hid hB; have HR := Lib.hid hr
  clear h hB hr
  go_enter Try.func88, Try.ntmps88
  go_wp2
  go_loopw [8] (fun i wr => ∃ k : Nat, k ≤ rs.length ∧ i = .int .i64 (k : Int) ∧ Below w.heap.size w wr ∧ Hid (∀ (j : Nat) (hj : j < rs.length), j < k → bentB rs[j] = true)) (fun i _ => rs.length - (intOf i).toNat)
  case atStart => exact ⟨0, Nat.zero_le _, rfl, Below.refl _ _, fun j _ hj => absurd hj (by omega)⟩
  case round =>
    obtain ⟨k, hk, rfl, hb, hok⟩ := hrel
    have HBl := Lib.hid hb
    by_cases hlt : k < rs.length
    · have HW := Lib.hid ((H.out.grow hb).toAll)
      have hBx : Boxed wr B 81 (.func (.func 42) #[] #[]) := (hb.block B hBw).trans HB.out
      obtain ⟨b, off, Ak, ck, rfl, _, hc, _, hrow⟩ := HW.out.at_ hlt
      have HC := Lib.hid (all1_isBent Ak ck B rs[k] wr hrow (HR.out k hlt) hBx)
      have hlt' : (k : Int) < (rs.length : Int) := by omega
      have k0 : (0 : Int) ≤ (k : Int) := by omega
      have HNO := Lib.hid (fun h => all_not (f := bentB) hlt h)
      obtain ⟨q, hq⟩ : ∃ q, bentB rs[k] = q := ⟨_, rfl⟩
      have HQ := Lib.hid hq
      rw [hq] at HC HNO
      clear hb hBx hrow hq
      cases q with
      | false =>
        go_wp2_with fail
        refine HC.out.mono ?_
        rintro e w1 ⟨rfl, hb⟩
        have HB1 := Lib.hid hb
        clear hb
        go_wp2
        go_ret
        exact ⟨(k : Int), rfl, by rw [HNO.out (by trivial)]; simp, HBl.out.trans (HB1.out.mono HBl.out.size)⟩
      | true =>
        clear HNO
        go_wp2_with fail
        refine HC.out.mono ?_
        rintro e w1 ⟨rfl, hb⟩
        have HB1 := Lib.hid hb
        clear hb
        go_wp2
        go_roundw
        case rel =>
          refine ⟨k + 1, by omega, by go_num, HBl.out.trans (HB1.out.mono HBl.out.size), fun j hj h1 => ?_⟩
          by_cases e : j = k
          · subst e; exact HQ.out
          · exact hok.out j hj (by omega)
        case measure => simp [intOf]; omega
    · obtain rfl : k = rs.length := by omega
      have HA : Hid (rs.all bentB = true) := all_yes fun j hj => hok.out j hj hj
      have hlt' : ¬ (rs.length : Int) < (rs.length : Int) := by omega
      clear hok hb
      go_wp2
      go_ret
      exact ⟨-1, rfl, by rw [HA.out]; rfl, HBl.out⟩

set_option maxRecDepth 100000 in
set_option maxHeartbeats 1000000 in
theorem all_isBent (A : Option Addr) (c : Nat) (rs : List (List Int)) (w : World) (h : IRR w 0 w.heap.size A rs) (hr : ∀ (k : Nat) (_hk : k < rs.length), rowB rs[k] = true) :
    Calls Try.prog 70 #[.slice A rs.length c, .func (.func 42) #[] #[]] w fun e w' => e = .returned (.bool (rs.all bentB)) ∧ Below w.heap.size w w' := by
  have B0 : Below w.heap.size w (w.alloc (.cells #[.func (.func 42) #[] #[]] 81)) := (Below.refl _ _).alloc (Nat.le_refl _) _
  have hI := index_isBent A c w.heap.size rs (w.alloc (.cells #[.func (.func 42) #[] #[]] 81)) ((h.grow B0).toAll) hr (Boxed.new _ _ _) (by simp)
  have HI := Lib.hid hI; have HB := Lib.hid B0
  clear h hr B0 hI
  have HCF : Hid (Calls Try.prog 80 #[.slice A rs.length c, .func (.func 81) #[] #[.pointer (some ⟨w.heap.size, 0, none⟩)]] (w.alloc (.cells #[.func (.func 42) #[] #[]] 81)) fun e w' => e = .returned (.bool (!rs.all bentB)) ∧ Below (w.heap.size + 1) (w.alloc (.cells #[.func (.func 42) #[] #[]] 81)) w') := by
    show Calls _ _ _ _ _
    obtain ⟨W, hW⟩ : ∃ W, w.alloc (.cells #[.func (.func 42) #[] #[]] 81) = W := ⟨_, rfl⟩
    have hs : W.heap.size = w.heap.size + 1 := by rw [← hW]; simp
    rw [hW] at HI
    rw [hW, ← hs]
    clear hW hs
    go_enter Try.func80, Try.ntmps80
    go_wp2_with fail
    refine HI.out.mono ?_
    rintro e w1 ⟨k, rfl, hk, hb⟩
    have HB1 := Lib.hid hb; have HK := Lib.hid hk
    clear hb
    by_cases k0 : 0 ≤ k
    · have hk' : (!rs.all bentB) = true := by rw [← hk]; simp [k0]
      have HK' := Lib.hid hk'
      clear hk hk'
      go_wp2
      go_ret
      first | exact ⟨ret_bool HK'.out.symm, HB1.out⟩ | exact ⟨ret_bool HK.out, HB1.out⟩
    · have hk' : (!rs.all bentB) = false := by rw [← hk]; simp [k0]
      have HK' := Lib.hid hk'
      clear hk hk'
      go_wp2
      go_ret
      first | exact ⟨ret_bool HK'.out.symm, HB1.out⟩ | exact ⟨ret_bool HK.out, HB1.out⟩
  clear HI
  go_enter Try.func70, Try.ntmps70
  go_wp2_with fail
  refine HCF.out.mono ?_
  rintro e w1 ⟨rfl, hb⟩
  have HB1 := Lib.hid hb
  clear hb
  go_wp2
  go_ret
  exact ⟨ret_bool (by simp), HB.out.trans (HB1.out.mono (by simp))⟩

set_option maxRecDepth 100000 in
set_option maxHeartbeats 1000000 in
theorem areRows_any (A : Option Addr) (c : Nat) (rs : List (List Int)) (w : World) (h : IRR w 0 w.heap.size A rs) :
    Calls Try.prog 54 #[.slice A rs.length c] w fun e w' => e = .returned (.bool (givenB rs)) ∧ Below w.heap.size w w' := by
  have HA := Lib.hid (all_isRow A c rs w h fun _ _ => trivial)
  by_cases h1 : 1 ≤ (rs.length : Int)
  · by_cases h2 : (rs.length : Int) ≤ 4
    · have HG : Hid (rs.all rowB = givenB rs) := by show _ = _; unfold givenB; rw [inB_true.2 ⟨h1, h2⟩, Bool.and_true]
      clear h
      go_enter Try.func54, Try.ntmps54
      go_wp2_with fail
      refine HA.out.mono ?_
      rintro e w1 ⟨rfl, hb⟩
      have HB := Lib.hid hb
      clear hb
      rw [HG.out]
      go_wp2
      go_ret
      exact ⟨rfl, HB.out⟩
    · have HG : Hid (givenB rs = false) := by show _ = _; unfold givenB; rw [show inB 1 4 (rs.length : Int) = false by simp [inB, h2], Bool.and_false]
      clear h HA
      go_enter Try.func54, Try.ntmps54
      go_wp2
      go_ret
      exact ⟨ret_bool HG.out.symm, Below.refl _ _⟩
  · have HG : Hid (givenB rs = false) := by show _ = _; unfold givenB; rw [show inB 1 4 (rs.length : Int) = false by simp [inB, h1], Bool.and_false]
    clear h HA
    go_enter Try.func54, Try.ntmps54
    go_wp2
    go_ret
    exact ⟨ret_bool HG.out.symm, Below.refl _ _⟩
theorem areRows_of {b : Bool} {A : Option Addr} {c n lo hi : Nat} {rs : List (List Int)} {w : World} (h : IRR w lo hi A rs) (hb : givenB rs = b) (hn : n = rs.length) :
    Calls Try.prog 54 #[.slice A n c] w fun e w' => e = .returned (.bool b) ∧ Below w.heap.size w w' := by
  subst hb; subst hn; exact areRows_any A c rs w h.toAll

set_option maxRecDepth 100000 in
set_option maxHeartbeats 1000000 in
theorem isSharing_any (A : Option Addr) (c : Nat) (rs : List (List Int)) (A1 : Option Addr) (c1 : Nat) (l : List Int) (w : World) (h : IRR w 0 w.heap.size A rs) (h1 : IR w 0 w.heap.size A1 l) :
    Calls Try.prog 43 #[.slice A rs.length c, .slice A1 l.length c1] w fun e w' => e = .returned (.bool (placesB rs l)) ∧ Below w.heap.size w w' := by
  have hl := h.1
  have hl1 := h1.1
  have H := Lib.hid h; have H1 := Lib.hid h1
  clear h h1
  go_enter Try.func43, Try.ntmps43
  cases hg : givenB rs with
  | false =>
    have HM : Hid (placesB rs l = false) := by show _ = _; unfold placesB; rw [hg]; rfl
    have HG := Lib.hid hg
    clear hg
    go_wp2_with fail
    refine (areRows_of H.out HG.out rfl).mono ?_
    rintro e w1 ⟨rfl, hb⟩
    have HB := Lib.hid hb
    clear hb
    go_wp2
    go_ret
    exact ⟨ret_bool HM.out.symm, HB.out⟩
  | true =>
    have HG := Lib.hid hg
    clear hg
    go_wp2_with fail
    refine (areRows_of H.out HG.out rfl).mono ?_
    rintro e w1 ⟨rfl, hb⟩
    have HB := Lib.hid hb
    have H2 := Lib.hid (H.out.grow hb); have H3 := Lib.hid (H1.out.grow hb)
    clear hb
    by_cases hll : l.length = rs.length
    · have HLL := Lib.hid hll
      have hq : (l.length : Int) = (rs.length : Int) := by omega
      obtain ⟨n, hn⟩ : ∃ n, l.length = n := ⟨_, rfl⟩
      have HN := Lib.hid hn
      have hrn : rs.length = n := by omega
      have HRN := Lib.hid hrn
      rw [hn] at hl1 hll
      rw [hn, hrn]
      clear hll hq hn hrn hl
      go_wp2
      go_loop [19] (fun i => ∃ k : Nat, k ≤ n ∧ i = .int .i64 (k : Int) ∧ Hid (∀ j, j < k → inB 0 (((rowAt rs j).length : Int) - 1) (l.getD j 0) = true)) (fun i => n - (intOf i).toNat)
      case atStart => exact ⟨0, Nat.zero_le _, rfl, fun j hj => absurd hj (by omega)⟩
      case round =>
        obtain ⟨k, hk, rfl, hok⟩ := hrel
        by_cases hlt : k < n
        · have hkr : k < rs.length := by rw [HRN.out]; exact hlt
          have hkl : k < l.length := by rw [HN.out]; exact hlt
          obtain ⟨b, off, Ak, ck, rfl, _, hc, _, hrow⟩ := H2.out.at_ hkr
          obtain ⟨b1, off1, rfl, _, _, hc1⟩ := H3.out.at_ hkl
          have hrl := hrow.1
          obtain ⟨x, hx⟩ : ∃ x, l[k] = x := ⟨_, rfl⟩
          obtain ⟨m, hm⟩ : ∃ m, rs[k].length = m := ⟨_, rfl⟩
          have hgx : l.getD k 0 = x := by rw [getD_at hkl, hx]
          have hrm : (rowAt rs k).length = m := by rw [rowAt_get hkr, hm]
          rw [hx] at hc1
          rw [hm] at hc hrl
          have hlt' : (k : Int) < (n : Int) := by omega
          have k0 : (0 : Int) ≤ (k : Int) := by omega
          obtain ⟨p, hp⟩ : ∃ p, inB 0 ((m : Int) - 1) x = p := ⟨_, rfl⟩
          have HP : Hid (inB 0 (((rowAt rs k).length : Int) - 1) (l.getD k 0) = p) := by show _ = _; rw [hgx, hrm]; exact hp
          have HJ := Lib.hid (fun W => isPlace_b p Ak m ck x W hp)
          clear hp hgx hrm hx hm hrow
          cases p with
          | false =>
            have HM := Lib.hid (places_bad hkl HP.out)
            go_wp2_with fail
            refine (HJ.out _).mono ?_
            rintro e w2 ⟨rfl, rfl⟩
            go_wp2
            go_ret
            exact ⟨ret_bool HM.out.symm, HB.out⟩
          | true =>
            go_wp2_with fail
            refine (HJ.out _).mono ?_
            rintro e w2 ⟨rfl, rfl⟩
            go_wp2
            go_round
            case rel =>
              refine ⟨k + 1, by omega, by go_num, fun j hj => ?_⟩
              by_cases e : j = k
              · subst e; exact HP.out
              · exact hok.out j (by omega)
            case measure => simp [intOf]; omega
        · obtain rfl : k = n := by omega
          have HM : Hid (placesB rs l = true) := places_all HG.out HLL.out fun j hj => hok.out j (by rw [← HN.out]; exact hj)
          have hlt' : ¬ (k : Int) < (k : Int) := by omega
          clear hok
          go_wp2
          go_ret
          exact ⟨ret_bool HM.out.symm, HB.out⟩
    · have HM : Hid (placesB rs l = false) := by show _ = _; unfold placesB; rw [decide_eq_false hll]; simp
      have hq : ¬ (l.length : Int) = (rs.length : Int) := by omega
      go_wp2
      go_ret
      exact ⟨ret_bool HM.out.symm, HB.out⟩
theorem isSharing_of {b : Bool} {A : Option Addr} {c lo hi : Nat} {rs : List (List Int)} {A1 : Option Addr} {c1 lo1 hi1 : Nat} {l : List Int} {n m : Nat} {w : World} (h : IRR w lo hi A rs) (h1 : IR w lo1 hi1 A1 l) (hb : placesB rs l = b) (hn : n = rs.length) (hm : m = l.length) :
    Calls Try.prog 43 #[.slice A n c, .slice A1 m c1] w fun e w' => e = .returned (.bool b) ∧ Below w.heap.size w w' := by
  subst hb; subst hn; subst hm; exact isSharing_any A c rs A1 c1 l w h.toAll h1.toAll

set_option maxRecDepth 100000 in
set_option maxHeartbeats 1000000 in
theorem implShareCost_any (A : Option Addr) (c : Nat) (rs : List (List Int)) (A1 : Option Addr) (c1 : Nat) (l : List Int) (w : World) (h : IRR w 0 w.heap.size A rs) (h1 : IR w 0 w.heap.size A1 l) :
    Calls Try.prog 15 #[.slice A rs.length c, .slice A1 l.length c1] w (RetIB w (placesB rs l) (shareCostL rs l)) := by
  have H := Lib.hid h; have H1 := Lib.hid h1
  clear h h1
  go_enter Try.func15, Try.ntmps15
  cases hp : placesB rs l with
  | false =>
    have HM : Hid (shareCostL rs l = 0) := by show _ = _; unfold shareCostL; rw [hp]; rfl
    have HP := Lib.hid hp
    clear hp
    go_wp2_with fail
    refine (isSharing_of H.out H1.out HP.out rfl rfl).mono ?_
    rintro e w1 ⟨rfl, hd⟩
    have HD := Lib.hid hd
    clear hd
    go_wp2
    go_ret2
    rw [HM.out]
    exact ⟨rfl, HD.out⟩
  | true =>
    have HM : Hid (shareCostL rs l = costS rs l) := by show _ = _; unfold shareCostL; rw [hp]; rfl
    have hln := (places_facts hp).1
    have hn4 := (places_facts hp).2.1
    have HP := Lib.hid hp
    obtain ⟨n, hn⟩ : ∃ n, l.length = n := ⟨_, rfl⟩
    have hrn : rs.length = n := by omega
    rw [hn, hrn]
    rw [hrn] at hn4
    have HN := Lib.hid hn; have HRN := Lib.hid hrn
    clear hp hln hn hrn
    go_wp2_with fail
    refine (isSharing_of H.out H1.out HP.out HRN.out.symm HN.out.symm).mono ?_
    rintro e w1 ⟨rfl, hd⟩
    have HB := Lib.hid hd
    have H2 := Lib.hid (H.out.grow hd); have H3 := Lib.hid (H1.out.grow hd)
    clear hd
    go_wp2
    go_loop [6, 15] (fun v i => ∃ k : Nat, k ≤ n ∧ i = .int .i64 (k : Int) ∧ v = .int .i64 (costTo rs l k)) (fun _ i => n - (intOf i).toNat)
    case atStart => exact ⟨0, Nat.zero_le _, rfl, rfl⟩
    case round =>
      obtain ⟨k, hk, rfl, rfl⟩ := hrel
      by_cases hlt : k < n
      · have hkr : k < rs.length := by rw [HRN.out]; exact hlt
        obtain ⟨b, off, bk, ok, ck, b1, off1, m, rfl, rfl, hc, hc1, ⟨hm1, hm2, hm3⟩, hcs, hbd⟩ := place_cells H2.out H3.out HP.out hkr
        have hcp := hcs _ hm1
        have hbp := hbd (plAt l k)
        have hct := costTo_bd HP.out (show k ≤ rs.length by omega)
        have hsc := costTo_succ rs l k
        obtain ⟨x, hx⟩ : ∃ x, (rowAt rs k).getD (plAt l k) 0 = x := ⟨_, rfl⟩
        obtain ⟨p, hpp⟩ : ∃ p, plAt l k = p := ⟨_, rfl⟩
        obtain ⟨s, hs⟩ : ∃ s, costTo rs l k = s := ⟨_, rfl⟩
        rw [hx] at hcp hbp hsc
        rw [hpp] at hc1 hm1 hcp
        rw [hs] at hct hsc
        rw [hs]
        have HSC := Lib.hid hsc
        have s1 : IntKind.i64.wrap (s + x) = s + x := IntWalk.i64_in _ (by omega)
        have hlt' : (k : Int) < (n : Int) := by omega
        have k0 : (0 : Int) ≤ (k : Int) := by omega
        have p0 : (0 : Int) ≤ (p : Int) := by omega
        have pm : (p : Int) < (m : Int) := by omega
        clear hcs hbd hct hsc hx hpp hs hm3 hbp
        go_wp2
        go_round
        case rel => exact ⟨k + 1, by omega, by go_num, by rw [HSC.out]⟩
        case measure => simp [intOf]; omega
      · obtain rfl : k = n := by omega
        have HC : Hid (costTo rs l k = costS rs l) := by show _ = _; rw [← costTo_all HP.out, HRN.out]
        have hlt' : ¬ (k : Int) < (k : Int) := by omega
        go_wp2
        go_ret2
        rw [HM.out, ← HC.out]
        exact ⟨rfl, HB.out⟩

set_option maxRecDepth 100000 in
set_option maxHeartbeats 1000000 in
/-- No slope leads to the first place, nor to one behind the last. -/
theorem slpTo_no (A : Option Addr) (m c x : Nat) (w : World) (_hm : m ≤ 12) (hx : x ≤ 13) (h : x = 0 ∨ m ≤ x) :
    Calls Try.prog 69 #[.slice A m c, .int .i64 (x : Int)] w fun e w' => e = .returned (.tuple #[.int .i64 0, .bool false]) ∧ Dr w w' := by
  have s1 : IntKind.i64.wrap ((x : Int) - 1) = (x : Int) - 1 := IntWalk.i64_in _ (by omega)
  by_cases h1 : 1 ≤ x ∧ x ≤ m
  · have hp1 : inB 0 ((m : Int) - 1) ((x : Int) - 1) = true := inB_true.2 (by omega)
    have hp2 : inB 0 ((m : Int) - 1) (x : Int) = false := by simp [inB]; omega
    have J1 := Lib.hid (fun W => isPlace_b true A m c ((x : Int) - 1) W hp1)
    have J2 := Lib.hid (fun W => isPlace_b false A m c (x : Int) W hp2)
    clear hp1 hp2 h h1
    go_enter Try.func69, Try.ntmps69
    go_wp2_with fail
    refine (J1.out _).mono ?_
    rintro e w1 ⟨rfl, rfl⟩
    go_wp2_with fail
    refine (J2.out _).mono ?_
    rintro e w1 ⟨rfl, rfl⟩
    go_wp2
    go_ret2
    exact ⟨rfl, Dr.refl _⟩
  · have hp1 : inB 0 ((m : Int) - 1) ((x : Int) - 1) = false := by simp [inB]; omega
    have J1 := Lib.hid (fun W => isPlace_b false A m c ((x : Int) - 1) W hp1)
    clear hp1 h h1
    go_enter Try.func69, Try.ntmps69
    go_wp2_with fail
    refine (J1.out _).mono ?_
    rintro e w1 ⟨rfl, rfl⟩
    go_wp2
    go_ret2
    exact ⟨rfl, Dr.refl _⟩

set_option maxRecDepth 100000 in
set_option maxHeartbeats 1000000 in
/-- The slope that leads from place j to the next one. -/
theorem slpTo_yes (b o m c j : Nat) (x y : Int) (w : World) (hm : m ≤ 12) (h : j + 1 < m) (hx : w.cell? ⟨b, o + j, none⟩ = some (.int .i64 x)) (hy : w.cell? ⟨b, o + (j + 1), none⟩ = some (.int .i64 y)) (bx : -1000 ≤ x ∧ x ≤ 1000) (byy : -1000 ≤ y ∧ y ≤ 1000) :
    Calls Try.prog 69 #[.slice (some ⟨b, o, none⟩) m c, .int .i64 ((j : Int) + 1)] w fun e w' => e = .returned (.tuple #[.int .i64 (y - x), .bool true]) ∧ Dr w w' := by
  have s1 : IntKind.i64.wrap ((j : Int) + 1 - 1) = (j : Int) := by rw [IntWalk.i64_in _ (by omega)]; omega
  have s2 : IntKind.i64.wrap (j : Int) = (j : Int) := IntWalk.i64_in _ (by omega)
  have s3 : IntKind.i64.wrap (y - x) = y - x := IntWalk.i64_in _ (by omega)
  have hp1 : inB 0 ((m : Int) - 1) (j : Int) = true := inB_true.2 (by omega)
  have hp2 : inB 0 ((m : Int) - 1) ((j : Int) + 1) = true := inB_true.2 (by omega)
  have J1 := Lib.hid (fun W => isPlace_b true (some ⟨b, o, none⟩) m c (j : Int) W hp1)
  have J2 := Lib.hid (fun W => isPlace_b true (some ⟨b, o, none⟩) m c ((j : Int) + 1) W hp2)
  have j0 : (0 : Int) ≤ (j : Int) := by omega
  have j1 : (0 : Int) ≤ (j : Int) + 1 := by omega
  have jm : (j : Int) < (m : Int) := by omega
  have jm1 : (j : Int) + 1 < (m : Int) := by omega
  have t1 : ((j : Int) + 1).toNat = j + 1 := by omega
  clear hp1 hp2 h bx byy
  go_enter Try.func69, Try.ntmps69
  go_wp2_with fail
  refine (J1.out _).mono ?_
  rintro e w1 ⟨rfl, rfl⟩
  go_wp2_with fail
  refine (J2.out _).mono ?_
  rintro e w1 ⟨rfl, rfl⟩
  go_wp2
  go_quiet (fail)
  go_wp2
  go_ret2
  exact ⟨rfl, _, rfl⟩

/-- What slopeTo tells of the place that leads to place i of a sharing, and of the one that leads from there. -/
theorem slpTo_at {W : World} {bk ok m c p : Nat} {r : List Int} (hm : m ≤ 12) (hp : p < m) (hcs : ∀ j, j < m → W.cell? ⟨bk, ok + j, none⟩ = some (.int .i64 (r.getD j 0))) (hbd : ∀ j, -1000 ≤ r.getD j 0 ∧ r.getD j 0 ≤ 1000) :
    (Calls Try.prog 69 #[.slice (some ⟨bk, ok, none⟩) m c, .int .i64 (p : Int)] W fun e w' => e = .returned (.tuple #[.int .i64 (if 0 < p then r.getD p 0 - r.getD (p - 1) 0 else 0), .bool (decide (0 < p))]) ∧ Dr W w') ∧
    (Calls Try.prog 69 #[.slice (some ⟨bk, ok, none⟩) m c, .int .i64 ((p : Int) + 1)] W fun e w' => e = .returned (.tuple #[.int .i64 (if p + 1 < m then r.getD (p + 1) 0 - r.getD p 0 else 0), .bool (decide (p + 1 < m))]) ∧ Dr W w') := by
  constructor
  · by_cases h : 0 < p
    · obtain ⟨j, rfl⟩ : ∃ j, p = j + 1 := ⟨p - 1, by omega⟩
      have := slpTo_yes bk ok m c j _ _ W hm hp (hcs j (by omega)) (hcs (j + 1) hp) (hbd _) (hbd _)
      rw [show ((j + 1 : Nat) : Int) = (j : Int) + 1 by omega, if_pos h, decide_eq_true h]
      exact this
    · rw [if_neg h, decide_eq_false h]
      exact slpTo_no _ m c p W hm (by omega) (.inl (by omega))
  · by_cases h : p + 1 < m
    · rw [if_pos h, decide_eq_true h]
      exact slpTo_yes bk ok m c p _ _ W hm h (hcs p hp) (hcs (p + 1) h) (hbd _) (hbd _)
    · rw [if_neg h, decide_eq_false h]
      have := slpTo_no (some ⟨bk, ok, none⟩) m c (p + 1) W hm (by omega) (.inr (by omega))
      rwa [show ((p + 1 : Nat) : Int) = (p : Int) + 1 by omega] at this

set_option maxRecDepth 100000 in
set_option maxHeartbeats 2000000 in
theorem prices_any (A : Option Addr) (c n lo hi lo1 hi1 : Nat) (rs : List (List Int)) (A1 : Option Addr) (c1 : Nat) (l : List Int) (w : World) (h : IRR w lo hi A rs) (h1 : IR w lo1 hi1 A1 l) (hp : placesB rs l = true) (hn : l.length = n) :
    Calls Try.prog 44 #[.slice A n c, .slice A1 n c1] w fun e w' => e = .returned (.tuple #[.int .i64 (lowL rs l), .int .i64 (highL rs l)]) ∧ Dr w w' := by
  have hn4 : n ≤ 4 := by have := places_facts hp; omega
  have hrn : rs.length = n := by have := places_facts hp; omega
  have H := Lib.hid h; have H1 := Lib.hid h1; have HP := Lib.hid hp; have HRN := Lib.hid hrn
  clear h h1 hp hn hrn
  go_enter Try.func44, Try.ntmps44
  go_wp2
  go_loopw [4, 5, 14] (fun v u i wr => ∃ k : Nat, k ≤ n ∧ i = .int .i64 (k : Int) ∧ v = .int .i64 (lowTo rs l k) ∧ u = .int .i64 (highTo rs l k) ∧ Dr w wr) (fun _ _ i _ => n - (intOf i).toNat)
  case atStart => exact ⟨0, Nat.zero_le _, rfl, rfl, rfl, Dr.refl _⟩
  case round =>
    obtain ⟨k, hk, rfl, rfl, rfl, hdr⟩ := hrel
    have HD := Lib.hid hdr
    by_cases hlt : k < n
    · have hkr : k < rs.length := by rw [HRN.out]; exact hlt
      obtain ⟨b, off, bk, ok, ck, b1, off1, m, rfl, rfl, hc, hc1, ⟨hm1, hm2, hm3⟩, hcs, hbd⟩ := place_cells (hdr.irr H.out) (hdr.ir H1.out) HP.out hkr
      have hs1 : lowTo rs l (k + 1) = if 0 < plAt l k then max (lowTo rs l k) (toS rs l k) else lowTo rs l k := rfl
      have hs2 : highTo rs l (k + 1) = if plAt l k + 1 < m then min (highTo rs l k) (frS rs l k) else highTo rs l k := by rw [← hm3]; rfl
      have hto : toS rs l k = (rowAt rs k).getD (plAt l k) 0 - (rowAt rs k).getD (plAt l k - 1) 0 := rfl
      have hfr : frS rs l k = (rowAt rs k).getD (plAt l k + 1) 0 - (rowAt rs k).getD (plAt l k) 0 := rfl
      have HSA := Lib.hid (fun W (hd : Dr wr W) => slpTo_at (W := W) (c := ck) hm2 hm1 (fun j hj => hd.cell (hcs j hj)) hbd)
      rw [← hto, ← hfr] at HSA
      obtain ⟨p, hpp⟩ : ∃ p, plAt l k = p := ⟨_, rfl⟩
      rw [hpp] at hc1 hm1 hs1 hs2 HSA
      obtain ⟨x1, hx1⟩ : ∃ x, toS rs l k = x := ⟨_, rfl⟩
      obtain ⟨x2, hx2⟩ : ∃ x, frS rs l k = x := ⟨_, rfl⟩
      obtain ⟨q1, hq1⟩ : ∃ s, lowTo rs l k = s := ⟨_, rfl⟩
      obtain ⟨q2, hq2⟩ : ∃ s, highTo rs l k = s := ⟨_, rfl⟩
      rw [hx1] at hs1 HSA
      rw [hx2] at hs2 HSA
      rw [hq1] at hs1
      rw [hq2] at hs2
      rw [hq1, hq2]
      have HS1 := Lib.hid hs1; have HS2 := Lib.hid hs2
      have hlt' : (k : Int) < (n : Int) := by omega
      have k0 : (0 : Int) ≤ (k : Int) := by omega
      have t3 : IntKind.i64.wrap ((p : Int) + 1) = (p : Int) + 1 := IntWalk.i64_in _ (by omega)
      have key : ∀ r1 r2, lowTo rs l (k + 1) = r1 → highTo rs l (k + 1) = r2 → Hid (lowTo rs l (k + 1) = r1 ∧ highTo rs l (k + 1) = r2) := fun _ _ h1 h2 => ⟨h1, h2⟩
      have HC := Lib.hid hc; have HC1 := Lib.hid hc1
      clear hcs hbd hs1 hs2 hto hfr hx1 hx2 hq1 hq2 hm3 hpp hdr
      obtain ⟨v1, hv1⟩ : ∃ v, (if 0 < p then x1 else 0) = v := ⟨_, rfl⟩
      obtain ⟨v2, hv2⟩ : ∃ v, (if p + 1 < m then x2 else 0) = v := ⟨_, rfl⟩
      obtain ⟨b1', hb1⟩ : ∃ v, decide (0 < p) = v := ⟨_, rfl⟩
      obtain ⟨b2', hb2⟩ : ∃ v, decide (p + 1 < m) = v := ⟨_, rfl⟩
      rw [hv1, hv2, hb1, hb2] at HSA
      have e1 : lowTo rs l (k + 1) = if b1' = true then max q1 v1 else q1 := by
        rw [HS1.out, ← hb1]
        by_cases h : 0 < p
        · rw [if_pos h] at hv1; simp [h, hv1]
        · simp [h]
      have e2 : highTo rs l (k + 1) = if b2' = true then min q2 v2 else q2 := by
        rw [HS2.out, ← hb2]
        by_cases h : p + 1 < m
        · rw [if_pos h] at hv2; simp [h, hv2]
        · simp [h]
      have HE := Lib.hid (key _ _ e1 e2).out
      clear key HS1 HS2 e1 e2 hb1 hb2 hv1 hv2 hm1
      go_wp2_with fail
      refine ((HSA.out _ (Dr.refl _)).1).mono ?_
      rintro e w1 ⟨rfl, hd1⟩
      have HD1 := Lib.hid hd1
      have hc' := hd1.cell HC.out; have hc1' := hd1.cell HC1.out
      clear hd1 hc hc1
      cases b1' with
      | false =>
        go_wp2_with fail
        refine ((HSA.out _ HD1.out).2).mono ?_
        rintro e w2 ⟨rfl, hd2⟩
        have HD2 := Lib.hid (HD.out.trans (HD1.out.trans hd2))
        clear hd2 hc' hc1' HSA
        cases b2' with
        | false =>
          go_wp2
          go_roundw
          case rel => exact ⟨k + 1, by omega, by go_num, by rw [HE.out.1]; rfl, by rw [HE.out.2]; rfl, HD2.out⟩
          case measure => simp [intOf]; omega
        | true =>
          go_wp2
          go_roundw
          case rel => exact ⟨k + 1, by omega, by go_num, by rw [HE.out.1]; rfl, by rw [HE.out.2]; simp; split <;> omega, HD2.out⟩
          case measure => simp [intOf]; omega
      | true =>
        by_cases g1 : q1 < v1
        all_goals
          go_wp2_with fail
          refine ((HSA.out _ HD1.out).2).mono ?_
          rintro e w2 ⟨rfl, hd2⟩
          have HD2 := Lib.hid (HD.out.trans (HD1.out.trans hd2))
          clear hd2 hc' hc1' HSA
          cases b2' with
          | false =>
            go_wp2
            go_roundw
            case rel => exact ⟨k + 1, by omega, by go_num, by rw [HE.out.1]; simp; omega, by rw [HE.out.2]; rfl, HD2.out⟩
            case measure => simp [intOf]; omega
          | true =>
            go_wp2
            go_roundw
            case rel => exact ⟨k + 1, by omega, by go_num, by rw [HE.out.1]; simp; omega, by rw [HE.out.2]; simp; split <;> omega, HD2.out⟩
            case measure => simp [intOf]; omega
    · obtain rfl : k = n := by omega
      have hlt' : ¬ (k : Int) < (k : Int) := by omega
      have HL : Hid (lowTo rs l k = lowL rs l ∧ highTo rs l k = highL rs l) := by show _ ∧ _; unfold lowL highL; rw [HRN.out]; exact ⟨rfl, rfl⟩
      go_wp2
      go_ret2
      rw [← HL.out.1, ← HL.out.2]
      exact ⟨rfl, HD.out⟩

set_option maxRecDepth 100000 in
set_option maxHeartbeats 1000000 in
theorem implSharePrice_any (A : Option Addr) (c : Nat) (rs : List (List Int)) (A1 : Option Addr) (c1 : Nat) (l : List Int) (w : World) (h : IRR w 0 w.heap.size A rs) (h1 : IR w 0 w.heap.size A1 l) :
    Calls Try.prog 16 #[.slice A rs.length c, .slice A1 l.length c1] w (RetP w rs l) := by
  have H := Lib.hid h; have H1 := Lib.hid h1
  clear h h1
  go_enter Try.func16, Try.ntmps16
  cases hp : placesB rs l with
  | false =>
    have HM : Hid (RetP w rs l = fun e w' => e = .returned (.tuple #[.int .i64 0, .int .i64 0, .bool false]) ∧ Below w.heap.size w w') := by
      show _ = _
      funext e w'
      have : pricesB rs l = false := by unfold pricesB; rw [hp]; rfl
      unfold RetP priceLo priceHi
      rw [this]
      simp
    have HP := Lib.hid hp
    clear hp
    rw [HM.out]
    go_wp2_with fail
    refine (isSharing_of H.out H1.out HP.out rfl rfl).mono ?_
    rintro e w1 ⟨rfl, hd⟩
    have HD := Lib.hid hd
    clear hd
    go_wp2
    go_ret3
    exact ⟨rfl, HD.out⟩
  | true =>
    have hln := (places_facts hp).1
    have HP := Lib.hid hp
    obtain ⟨n, hn⟩ : ∃ n, l.length = n := ⟨_, rfl⟩
    have hrn : rs.length = n := by omega
    rw [hn, hrn]
    have HN := Lib.hid hn; have HRN := Lib.hid hrn
    clear hp hln hn hrn
    go_wp2_with fail
    refine (isSharing_of H.out H1.out HP.out HRN.out.symm HN.out.symm).mono ?_
    rintro e w1 ⟨rfl, hd⟩
    have HB := Lib.hid hd
    have H2 := Lib.hid (H.out.grow hd); have H3 := Lib.hid (H1.out.grow hd)
    clear hd
    go_wp2_with fail
    refine (prices_any _ _ n _ _ _ _ rs _ _ l _ H2.out H3.out HP.out HN.out).mono ?_
    rintro e w2 ⟨rfl, hd⟩
    have HD := Lib.hid (below_then HB.out (Nat.le_refl _) hd.below)
    clear hd
    obtain ⟨q1, hq1⟩ : ∃ s, lowL rs l = s := ⟨_, rfl⟩
    obtain ⟨q2, hq2⟩ : ∃ s, highL rs l = s := ⟨_, rfl⟩
    have hpb : pricesB rs l = decide (q1 ≤ q2) := by unfold pricesB; rw [HP.out, hq1, hq2, Bool.true_and]
    by_cases hle : q1 ≤ q2
    · have HM : Hid (RetP w rs l = fun e w' => e = .returned (.tuple #[.int .i64 q1, .int .i64 q2, .bool true]) ∧ Below w.heap.size w w') := by
        show _ = _
        funext e w'
        have : pricesB rs l = true := by rw [hpb, decide_eq_true hle]
        unfold RetP priceLo priceHi
        rw [this, if_pos rfl, if_pos rfl, hq1, hq2]
      rw [hq1, hq2]
      have hgt : ¬ q2 < q1 := by omega
      clear hpb hq1 hq2
      go_wp2
      go_ret3
      rw [HM.out]
      exact ⟨rfl, HD.out⟩
    · have HM : Hid (RetP w rs l = fun e w' => e = .returned (.tuple #[.int .i64 0, .int .i64 0, .bool false]) ∧ Below w.heap.size w w') := by
        show _ = _
        funext e w'
        have : pricesB rs l = false := by rw [hpb, decide_eq_false hle]
        unfold RetP priceLo priceHi
        rw [this]
        simp
      rw [hq1, hq2]
      have hgt : q2 < q1 := by omega
      clear hpb hq1 hq2
      go_wp2
      go_ret3
      rw [HM.out]
      exact ⟨rfl, HD.out⟩

def betB (rs : List (List Int)) (l : List Int) (i k : Nat) : Bool := decide (i ≠ k) && (decide (0 < plAt l i) && (decide (plAt l k + 1 < (rowAt rs k).length) && decide (frS rs l k < toS rs l i)))
theorem betB_n (rs : List (List Int)) (l : List Int) (i k : Nat) : betN rs l i k = if betB rs l i k = true then 1 else 0 := by
  have hmv : moveD rs l i k = frS rs l k - toS rs l i := rfl
  have h : (moveD rs l i k < 0) = (frS rs l k < toS rs l i) := by rw [hmv]; exact propext ⟨fun h => by omega, fun h => by omega⟩
  unfold betN betB
  simp only [h, Bool.and_eq_true, decide_eq_true_eq]

set_option maxRecDepth 100000 in
set_option maxHeartbeats 2000000 in
theorem moveHelps_any (A : Option Addr) (c n lo hi lo1 hi1 i k : Nat) (rs : List (List Int)) (A1 : Option Addr) (c1 : Nat) (l : List Int) (w : World) (h : IRR w lo hi A rs) (h1 : IR w lo1 hi1 A1 l) (hp : placesB rs l = true) (hn : l.length = n) (hi : i < n) (hk : k < n) :
    Calls Try.prog 45 #[.slice A n c, .slice A1 n c1, .int .i64 (i : Int), .int .i64 (k : Int)] w fun e w' => e = .returned (.bool (betB rs l i k)) ∧ Dr w w' := by
  have hrn : rs.length = n := by have := places_facts hp; omega
  have hn4 : n ≤ 4 := by have := places_facts hp; omega
  obtain ⟨b, off, bi, oi, ci, b1, off1, m, rfl, rfl, hci, hci1, ⟨hm1, hm2, hm3⟩, hcsi, hbdi⟩ := place_cells h h1 hp (show i < rs.length by omega)
  obtain ⟨_, _, bk, ok, ck, _, _, m', e1, e2, hck, hck1, ⟨hm1', hm2', hm3'⟩, hcsk, hbdk⟩ := place_cells h h1 hp (show k < rs.length by omega)
  injection e1 with e1; injection e1 with e3 e4 _; subst e3; subst e4
  injection e2 with e2; injection e2 with e3 e4 _; subst e3; subst e4
  have hto : toS rs l i = (rowAt rs i).getD (plAt l i) 0 - (rowAt rs i).getD (plAt l i - 1) 0 := rfl
  have hfr : frS rs l k = (rowAt rs k).getD (plAt l k + 1) 0 - (rowAt rs k).getD (plAt l k) 0 := rfl
  have J1 := Lib.hid (fun W (hd : Dr w W) => (slpTo_at (W := W) (c := ci) hm2 hm1 (fun j hj => hd.cell (hcsi j hj)) hbdi).1)
  have J2 := Lib.hid (fun W (hd : Dr w W) => (slpTo_at (W := W) (c := ck) hm2' hm1' (fun j hj => hd.cell (hcsk j hj)) hbdk).2)
  rw [← hto] at J1
  rw [← hfr] at J2
  have hbt : betB rs l i k = (decide (i ≠ k) && (decide (0 < plAt l i) && (decide (plAt l k + 1 < m') && decide (frS rs l k < toS rs l i)))) := by unfold betB; rw [hm3']
  obtain ⟨p, hpp⟩ : ∃ p, plAt l i = p := ⟨_, rfl⟩
  obtain ⟨q, hqq⟩ : ∃ q, plAt l k = q := ⟨_, rfl⟩
  obtain ⟨x1, hx1⟩ : ∃ x, toS rs l i = x := ⟨_, rfl⟩
  obtain ⟨x2, hx2⟩ : ∃ x, frS rs l k = x := ⟨_, rfl⟩
  rw [hpp] at hci1 J1 hbt hm1
  rw [hqq] at hck1 J2 hbt hm1'
  rw [hx1] at J1 hbt
  rw [hx2] at J2 hbt
  obtain ⟨v1, hv1⟩ : ∃ v, (if 0 < p then x1 else 0) = v := ⟨_, rfl⟩
  obtain ⟨v2, hv2⟩ : ∃ v, (if q + 1 < m' then x2 else 0) = v := ⟨_, rfl⟩
  obtain ⟨o1, ho1⟩ : ∃ v, decide (0 < p) = v := ⟨_, rfl⟩
  obtain ⟨o2, ho2⟩ : ∃ v, decide (q + 1 < m') = v := ⟨_, rfl⟩
  rw [hv1, ho1] at J1
  rw [hv2, ho2] at J2
  have HBT : Hid (betB rs l i k = (decide (i ≠ k) && (o1 && (o2 && decide (v2 < v1))))) := by
    show _ = _
    rw [hbt, ho1, ho2]
    cases o1 with
    | false => simp
    | true =>
      cases o2 with
      | false => simp
      | true =>
        rw [decide_eq_true_eq] at ho1 ho2
        rw [if_pos ho1] at hv1
        rw [if_pos ho2] at hv2
        rw [hv1, hv2]
  have i0 : (0 : Int) ≤ (i : Int) := by omega
  have k0 : (0 : Int) ≤ (k : Int) := by omega
  have hi' : (i : Int) < (n : Int) := by omega
  have hk' : (k : Int) < (n : Int) := by omega
  have t3 : IntKind.i64.wrap ((q : Int) + 1) = (q : Int) + 1 := IntWalk.i64_in _ (by omega)
  clear h h1 hp hn hi hk hcsi hcsk hbdi hbdk hto hfr hbt hpp hqq hx1 hx2 hv1 hv2 ho1 ho2 hm1 hm1' hm3 hm3' hrn hm2 hm2'
  go_enter Try.func45, Try.ntmps45
  go_wp2
  go_quiet ((go_at_call 69; exact Calls.quiet_of (J1.out _ ⟨_, rfl⟩)))
  go_wp2
  obtain ⟨W, hW⟩ : ∃ W, w.drewN nq = W := ⟨_, rfl⟩
  have HDW : Hid (Dr w W) := ⟨nq, hW.symm⟩
  rw [hW]
  replace hck := HDW.out.cell hck
  replace hck1 := HDW.out.cell hck1
  clear hW hci hci1 J1
  go_quiet ((go_at_call 69; exact Calls.quiet_of (J2.out _ (HDW.out.more _))))
  clear J2 hck hck1
  have HD2 := Lib.hid (HDW.out.more nq)
  by_cases hik : i = k
  · have hik' : (i : Int) = (k : Int) := by omega
    subst hik
    go_wp2
    go_ret
    exact ⟨ret_bool (by rw [HBT.out]; simp), HD2.out⟩
  · have hik1 : ¬ (i : Int) = (k : Int) := by omega
    have hik2 : ((i : Int) == (k : Int)) = false := by rw [beq_eq_false_iff_ne]; exact hik1
    cases o1 with
    | false =>
      go_wp2
      go_ret
      exact ⟨ret_bool (by rw [HBT.out]; simp), HD2.out⟩
    | true =>
      cases o2 with
      | false =>
        go_wp2
        go_ret
        exact ⟨ret_bool (by rw [HBT.out]; simp), HD2.out⟩
      | true =>
        by_cases hlt : v2 < v1
        · have hlt' : decide (v2 < v1) = true := decide_eq_true hlt
          go_wp2
          go_ret
          exact ⟨ret_bool (by rw [HBT.out]; simp [hik, hik1, hlt]), HD2.out⟩
        · have hlt' : decide (v2 < v1) = false := decide_eq_false hlt
          go_wp2
          go_ret
          exact ⟨ret_bool (by rw [HBT.out]; simp [hlt]), HD2.out⟩

set_option maxRecDepth 100000 in
set_option maxHeartbeats 2000000 in
theorem implShareMoves_any (A : Option Addr) (c : Nat) (rs : List (List Int)) (A1 : Option Addr) (c1 : Nat) (l : List Int) (w : World) (h : IRR w 0 w.heap.size A rs) (h1 : IR w 0 w.heap.size A1 l) :
    Calls Try.prog 17 #[.slice A rs.length c, .slice A1 l.length c1] w (RetIB w (placesB rs l) (shareMovesL rs l)) := by
  have H := Lib.hid h; have H1 := Lib.hid h1
  clear h h1
  go_enter Try.func17, Try.ntmps17
  cases hp : placesB rs l with
  | false =>
    have HM : Hid (shareMovesL rs l = 0) := by show _ = _; unfold shareMovesL; rw [hp]; rfl
    have HP := Lib.hid hp
    clear hp
    go_wp2_with fail
    refine (isSharing_of H.out H1.out HP.out rfl rfl).mono ?_
    rintro e w1 ⟨rfl, hd⟩
    have HD := Lib.hid hd
    clear hd
    go_wp2
    go_ret2
    rw [HM.out]
    exact ⟨rfl, HD.out⟩
  | true =>
    have HM : Hid (shareMovesL rs l = movesL rs l) := by show _ = _; unfold shareMovesL; rw [hp]; rfl
    have hln := (places_facts hp).1
    have hn4 := (places_facts hp).2.1
    have HP := Lib.hid hp
    obtain ⟨n, hn⟩ : ∃ n, l.length = n := ⟨_, rfl⟩
    have hrn : rs.length = n := by omega
    rw [hn, hrn]
    rw [hrn] at hn4
    have HN := Lib.hid hn; have HRN := Lib.hid hrn
    clear hp hln hn hrn
    go_wp2_with fail
    refine (isSharing_of H.out H1.out HP.out HRN.out.symm HN.out.symm).mono ?_
    rintro e w1 ⟨rfl, hd⟩
    have HB := Lib.hid hd
    have H2 := Lib.hid (H.out.grow hd); have H3 := Lib.hid (H1.out.grow hd)
    clear hd H H1
    go_wp2
    go_loopw [7, 17] (fun v x wr => ∃ i : Nat, i ≤ n ∧ x = .int .i64 (i : Int) ∧ v = .int .i64 (movesTo rs l n i) ∧ Dr w1 wr) (fun _ x _ => n - (intOf x).toNat)
    case atStart => exact ⟨0, Nat.zero_le _, rfl, rfl, Dr.refl _⟩
    case round =>
      obtain ⟨W0, hW0⟩ : ∃ W, W = wr := ⟨_, rfl⟩
      subst hW0
      obtain ⟨i, hi, rfl, rfl, hdr⟩ := hrel
      have HD := Lib.hid hdr
      clear hdr
      by_cases hin : i < n
      · have hin' : (i : Int) < (n : Int) := by omega
        have i0 : (0 : Int) ≤ (i : Int) := by omega
        go_wp2
        go_loopw [7, 22] (fun v x wr => ∃ k : Nat, k ≤ n ∧ x = .int .i64 (k : Int) ∧ v = .int .i64 (movesTo rs l n i + sumN (betN rs l i) k) ∧ Dr w1 wr) (fun _ x _ => n - (intOf x).toNat)
        case atStart => exact ⟨0, Nat.zero_le _, rfl, by show _ = Value.int .i64 (movesTo rs l n i + 0); rw [Int.add_zero], HD.out⟩
        case round =>
          clear HD
          obtain ⟨k, hk, rfl, rfl, hdr⟩ := hrel
          have HD := Lib.hid hdr
          by_cases hkn : k < n
          · have hkn' : (k : Int) < (n : Int) := by omega
            have k0 : (0 : Int) ≤ (k : Int) := by omega
            have hbd := movesTo_bd rs l (n := n) (i := i) (k := k) hn4 (by omega) (by omega)
            have hsn : sumN (betN rs l i) (k + 1) = sumN (betN rs l i) k + betN rs l i k := rfl
            have hbn := betB_n rs l i k
            have HJ := Lib.hid (moveHelps_any A c n _ _ _ _ i k rs A1 c1 l wr (hdr.irr H2.out) (hdr.ir H3.out) HP.out HN.out hin hkn)
            obtain ⟨q, hq⟩ : ∃ q, betB rs l i k = q := ⟨_, rfl⟩
            rw [hq] at HJ hbn
            obtain ⟨M, hM⟩ : ∃ M, movesTo rs l n i + sumN (betN rs l i) k = M := ⟨_, rfl⟩
            rw [hM] at hbd
            rw [hM]
            have HSN : Hid (movesTo rs l n i + sumN (betN rs l i) (k + 1) = M + if q = true then 1 else 0) := by show _ = _; rw [hsn, ← hM, hbn]; omega
            have sM : IntKind.i64.wrap (M + 1) = M + 1 := IntWalk.i64_in _ (by omega)
            clear hdr hsn hbn hq hM hbd
            go_wp2_with fail
            refine HJ.out.mono ?_
            rintro e w3 ⟨rfl, hd⟩
            have HD3 := Lib.hid (HD.out.trans hd)
            clear hd HJ
            cases q with
            | false =>
              go_wp2
              go_roundw
              case rel => exact ⟨k + 1, by omega, by go_num, by rw [HSN.out]; simp, HD3.out⟩
              case measure => simp [intOf]; omega
            | true =>
              go_wp2
              go_roundw
              case rel => exact ⟨k + 1, by omega, by go_num, by rw [HSN.out]; simp, HD3.out⟩
              case measure => simp [intOf]; omega
          · obtain rfl : k = n := by omega
            have hkn' : ¬ (k : Int) < (k : Int) := by omega
            clear hdr
            go_wp2
            go_roundw
            case rel => exact ⟨i + 1, by omega, by go_num, rfl, HD.out⟩
            case measure => simp [intOf]; omega
      · obtain rfl : i = n := by omega
        have hin' : ¬ (i : Int) < (i : Int) := by omega
        have HC : Hid (movesTo rs l i i = movesL rs l) := by show _ = _; rw [← moves_all, HRN.out]
        go_wp2
        go_ret2
        rw [HM.out, ← HC.out]
        exact ⟨rfl, below_then HB.out (Nat.le_refl _) HD.out.below⟩
end Go.Proofs.Ytanmjaljcnihlaa

namespace Go.Proofs.Ytanmjaljcnihlaa
open Go.RowKit Go.Shelf
attribute [local go_sem] Oper.semAt_some

/-- The cheapest of what has been seen, as a value of three cells. -/
def cheapV (c : Int) (A : Option Addr) (n k : Nat) (q : Int) : Array Value := #[.int .i64 c, .slice A n k, .int .i64 q]
theorem cheapV_size (c : Int) (A : Option Addr) (n k : Nat) (q : Int) : (cheapV c A n k q).size = 3 := rfl
theorem cheapV_one (c : Int) (A : Option Addr) (n k : Nat) (q : Int) : (cheapV c A n k q).all (·.oneCell') = true := by simp [cheapV, Value.oneCell']
set_option maxRecDepth 100000 in
theorem rowT_cheap : RowT Try.prog 47 3 := ⟨⟨_, Try.underlying47, rfl⟩, rfl⟩
set_option maxRecDepth 100000 in
theorem zeroT_cheap : ZeroT Try.prog 47 (cheapV 0 none 0 0 0) := by show _ = _; kernel_rfl
/-- Block F holds the cheapest of what has been seen; its list lies behind base. -/
def Fnd (W : World) (F base : Nat) (st : Res) : Prop := ∃ A c, BX W F 47 (cheapV st.1 A st.2.1.length c st.2.2) ∧ IW W base W.heap.size A st.2.1

/-- Only the blocks P and F lie otherwise, and new blocks have been laid. -/
structure Only2 (P F : Nat) (w w' : World) : Prop where
  os : w'.os = w.os
  tape : w'.tape = w.tape
  output : w'.output = w.output
  size : w.heap.size ≤ w'.heap.size
  block : ∀ k, k < w.heap.size → k ≠ P → k ≠ F → w'.heap[k]? = w.heap[k]?
section
variable {P F : Nat} {a b c w : World}
theorem Only2.refl (P F : Nat) (w : World) : Only2 P F w w := ⟨rfl, rfl, rfl, Nat.le_refl _, fun _ _ _ _ => rfl⟩
theorem Only2.trans (h : Only2 P F a b) (k : Only2 P F b c) : Only2 P F a c :=
  ⟨k.os.trans h.os, k.tape.trans h.tape, k.output.trans h.output, Nat.le_trans h.size k.size, fun i hi h1 h2 => (k.block i (Nat.lt_of_lt_of_le hi h.size) h1 h2).trans (h.block i hi h1 h2)⟩
theorem Only2.of {P F : Nat} (h : Below a.heap.size a b) : Only2 P F a b := ⟨h.os, h.tape, h.output, h.size, fun k hk _ _ => h.block k hk⟩
theorem Only2.set_ (h : Only2 P F a b) {q : Addr} (hq : q.block = P ∨ q.block = F) (v : Value) : Only2 P F a (b.setCell q v) :=
  h.trans ⟨rfl, rfl, rfl, by simp [World.setCell], fun k _ h1 h2 => heap_setCell_other b q k v (fun e => by rcases hq with h | h <;> omega)⟩
theorem Only2.row (h : Only2 P F a b) (cs : Array Value) : Only2 P F a (b.setRow F cs) :=
  h.trans ⟨rfl, rfl, rfl, by simp [World.setRow], fun k _ _ h2 => setRow_other b F k cs h2⟩
theorem Only2.below {C : Nat} (h : Only2 P F a b) (hb : Below C w a) (hP : C ≤ P) (hF : C ≤ F) (hs : C ≤ a.heap.size) : Below C w b :=
  ⟨h.os.trans hb.os, h.tape.trans hb.tape, h.output.trans hb.output, Nat.le_trans hb.size h.size, fun k hk => (h.block k (by omega) (by omega) (by omega)).trans (hb.block k hk)⟩
theorem Only2.keeps (h : Only2 P F a b) (hP : ∃ o : Obj, a.heap[P]? = some o ∧ o.isCells = true) (hF : ∃ o : Obj, a.heap[F]? = some o ∧ o.isCells = true) : KeepsOthers a b :=
  ⟨h.size, fun k o hk ho => by
    refine (h.block k (Array.getElem?_eq_some_iff.1 hk).1 (fun e => ?_) (fun e => ?_)).trans hk
    · obtain ⟨o', h1, h2⟩ := hP
      rw [← e, hk] at h1
      injection h1 with h1
      rw [h1, h2] at ho
      cases ho
    · obtain ⟨o', h1, h2⟩ := hF
      rw [← e, hk] at h1
      injection h1 with h1
      rw [h1, h2] at ho
      cases ho⟩
theorem only2_own {β : Type} {B : Nat} (hB : w.heap.size ≤ B) : OwnFrom B (fun (_ : β) W => Only2 P F w W) := fun _ X Y row hs hg hr =>
  ⟨hg.os.trans hs.os, hg.tape.trans hs.tape, hg.output.trans hs.output, Nat.le_trans hs.size hg.size, fun k hk h1 h2 => (hg.block k (Nat.lt_of_lt_of_le hk hs.size) (fun e => by have := (hr k e.symm).1; omega)).trans (hs.block k hk h1 h2)⟩
end

theorem fnd_cells {W : World} {F base : Nat} {st : Res} (h : Fnd W F base st) : W.cell? ⟨F, 0, none⟩ = some (.int .i64 st.1) ∧ W.cell? ⟨F, 2, none⟩ = some (.int .i64 st.2.2) ∧ W.frozen? ⟨F, 2, none⟩ = false := by
  obtain ⟨A, c, hb, _⟩ := h
  exact ⟨hb.cell 0, hb.cell 2, hb.frozen 2⟩
theorem Fnd.lt {W : World} {F base : Nat} {st : Res} (h : Fnd W F base st) : F < W.heap.size := by
  obtain ⟨A, c, hb, _⟩ := h
  exact hb.lt
theorem Fnd.below {W W' : World} {F base : Nat} {st : Res} (h : Fnd W F base st) (hb : Below W.heap.size W W') : Fnd W' F base st := by
  obtain ⟨A, c, h1, h2⟩ := h
  exact ⟨A, c, h1.grow hb, (h2.below hb (Nat.le_refl _)).wide (Nat.le_refl _) hb.size (Nat.le_refl _)⟩

theorem built3 (c : Int) (A : Option Addr) (n k : Nat) (q : Int) : Try.prog.built 47 [(0, .int .i64 c), (1, .slice A n k), (2, .int .i64 q)] = some (cheapV c A n k q) := by kernel_rfl
set_option maxRecDepth 100000 in
theorem wpList_bu3 {ops : Array Oper} {rest : List Oper} {o : Oper} {a : Act} {w : World} {Q : Exit → Act → World → Prop} (hg : o.guard = none) (x y z : Operand) (ho : o.op = .build 47 #[(0, x), (1, y), (2, z)]) {c q : Int} {A : Option Addr} {n k : Nat} (hx : a.eval x = .int .i64 c) (hy : a.eval y = .slice A n k) (hz : a.eval z = .int .i64 q)
    (h : wpList Try.prog ops Q rest (a.put o.dst (.agg (cheapV c A n k q))) w) : wpList Try.prog ops Q (o :: rest) a w :=
  wpList_op hg (by unfold execOp; simp only [ho, Sem.run_bind, List.map_toArray, List.map_cons, List.map_nil, hx, hy, hz, run_build w _ _ _ (built3 c A n k q), Result.andThen_ok, Sem.run_pure]) h

set_option maxRecDepth 100000 in
set_option maxHeartbeats 2000000 in
theorem see_any (P F base n cp : Nat) (cost : Int) (st : Res) (xs : List Int) (w : World) (hF : F < base) (_hPF : P ≠ F) (hbs : base ≤ w.heap.size) (_hcost : -10000 ≤ cost ∧ cost ≤ 10000) (hcnt : 0 ≤ st.2.2 ∧ st.2.2 ≤ 100000) (hn : xs.length = n) (hn0 : 0 < n) (hn4 : n ≤ 4) (hxs : ∀ x, x ∈ xs → I64 x) (hPw : P < w.heap.size) (hx : Cells w P 0 xs) (h : Fnd w F base st) :
    Calls Try.prog 61 #[.pointer (some ⟨F, 0, none⟩), .slice (some ⟨P, 0, none⟩) n cp, .int .i64 cost] w fun e w' => (∃ v, e = .returned v) ∧ Fnd w' F base (comb st (cost, xs, 1)) ∧ Only2 F F w w' := by
  obtain ⟨c0, c2, f2⟩ := fnd_cells h
  obtain ⟨s1, s2, s3⟩ := st
  dsimp only at hcnt c0 c2
  have HF := Lib.hid h
  have hiw : IW w 0 w.heap.size (some ⟨P, 0, none⟩) xs := hx.iw hn (Nat.zero_le _) hPw (Nat.le_refl _) (by omega) hxs
  have hcl := fun W (hb : Below w.heap.size w W) => cloneInts_any (some ⟨P, 0, none⟩) cp _ _ xs W (by omega) (hiw.toIR.grow hb)
  rw [hn] at hcl
  have HCL := Lib.hid hcl
  have t1 : IntKind.i64.wrap (s3 + 1) = s3 + 1 := IntWalk.i64_in _ (by omega)
  have HBS := Lib.hid hbs; have HN := Lib.hid hn
  clear h hcl hiw hx hxs hbs hn
  by_cases z0 : s3 = 0
  · have HC : Hid (comb (s1, s2, s3) (cost, xs, 1) = (cost, xs, 1)) := by show _ = _; simp [comb, z0]
    rw [HC.out]
    go_enter Try.func61, Try.ntmps61
    go_wp2_with fail
    refine (HCL.out _ (Below.refl _ _)).mono ?_
    rintro e w1 ⟨A1, c1, rfl, hcap, hi1, hb1⟩
    rw [HN.out]
    obtain ⟨A0, c0', hbx, _⟩ := HF.out
    have hbx1 := hbx.grow hb1
    have HB := Lib.hid hb1; have HI := Lib.hid hi1; have HX := Lib.hid hbx1
    clear hb1 hi1 hbx hcap
    go_wp2_with (first | (refine wpList_bu3 rfl _ _ _ rfl rfl rfl rfl ?_) | (refine wpList_stX rfl _ _ rfl rfl rfl hbx1 rowT_cheap (cheapV_size _ _ _ _ _) (cheapV_size _ _ _ _ _) (cheapV_one _ _ _ _ _) ?_))
    go_end0
    have hs1 := HB.out.size
    have hbs := HBS.out
    refine ⟨⟨_, rfl⟩, ⟨A1, c1, by rw [HN.out]; exact HX.out.put _, ?_⟩, (Only2.of HB.out).row _⟩
    have hi := HI.out
    refine IW.keep (w := w1) (hi.wide hbs (by simp [World.setRow]) (by simp [World.setRow])) (by simp [World.setRow]) fun k h1 _ => setRow_other w1 F k _ (by omega)
  · have z0' : (s3 == 0) = false := by rw [beq_eq_false_iff_ne]; exact z0
    by_cases z1 : cost < s1
    · have HC : Hid (comb (s1, s2, s3) (cost, xs, 1) = (cost, xs, 1)) := by show _ = _; simp [comb, z1]
      rw [HC.out]
      go_enter Try.func61, Try.ntmps61
      go_wp2_with fail
      refine (HCL.out _ (Below.refl _ _)).mono ?_
      rintro e w1 ⟨A1, c1, rfl, hcap, hi1, hb1⟩
      rw [HN.out]
      obtain ⟨A0, c0', hbx, _⟩ := HF.out
      have hbx1 := hbx.grow hb1
      have HB := Lib.hid hb1; have HI := Lib.hid hi1; have HX := Lib.hid hbx1
      clear hb1 hi1 hbx hcap
      go_wp2_with (first | (refine wpList_bu3 rfl _ _ _ rfl rfl rfl rfl ?_) | (refine wpList_stX rfl _ _ rfl rfl rfl hbx1 rowT_cheap (cheapV_size _ _ _ _ _) (cheapV_size _ _ _ _ _) (cheapV_one _ _ _ _ _) ?_))
      go_end0
      have hs1 := HB.out.size
      have hbs := HBS.out
      refine ⟨⟨_, rfl⟩, ⟨A1, c1, by rw [HN.out]; exact HX.out.put _, ?_⟩, (Only2.of HB.out).row _⟩
      have hi := HI.out
      refine IW.keep (w := w1) (hi.wide hbs (by simp [World.setRow]) (by simp [World.setRow])) (by simp [World.setRow]) fun k h1 _ => setRow_other w1 F k _ (by omega)
    · have z1' : decide (cost < s1) = false := decide_eq_false z1
      by_cases z2 : cost = s1
      · have HC : Hid (comb (s1, s2, s3) (cost, xs, 1) = (s1, s2, s3 + 1)) := by show _ = _; simp [comb, z0, z2]
        have z2' : (cost == s1) = true := by rw [beq_iff_eq]; exact z2
        rw [HC.out]
        go_enter Try.func61, Try.ntmps61
        go_wp2
        go_end0
        obtain ⟨A0, c0', hbx, hi0⟩ := HF.out
        refine ⟨⟨_, rfl⟩, ⟨A0, c0', hbx.set_ 2 _, ?_⟩, (Only2.refl F F w).set_ (.inr rfl) _⟩
        exact IW.keep (w := w) (hi0.wide (Nat.le_refl _) (by simp [World.setCell]) (by simp [World.setCell])) (by simp [World.setCell]) fun k h1 _ => heap_setCell_other w _ k _ (by show k ≠ F; omega)
      · have HC : Hid (comb (s1, s2, s3) (cost, xs, 1) = (s1, s2, s3)) := by show _ = _; simp [comb, z0, z1, z2]
        have z2' : (cost == s1) = false := by rw [beq_eq_false_iff_ne]; exact z2
        rw [HC.out]
        go_enter Try.func61, Try.ntmps61
        go_wp2
        go_end0
        exact ⟨⟨_, rfl⟩, HF.out, Only2.refl _ _ _⟩

/-- What has been seen behind some places of a row. -/
def seeL (us : List (List Int)) (r : List Int) (left cost : Int) (pre0 : List Int) (st : Res) (pre : List (Fin r.length)) : Res := pre.foldl (fun (s : Res) (x : Fin r.length) => comb s (shiftT (cost + r[x]) (pre0 ++ [((x : Nat) : Int)]) (tryL us (left - ((x : Nat) : Int))))) st
theorem seeL_snoc (us : List (List Int)) (r : List Int) (left cost : Int) (pre0 : List Int) (st : Res) (pre : List (Fin r.length)) (x : Fin r.length) : seeL us r left cost pre0 st (pre ++ [x]) = comb (seeL us r left cost pre0 st pre) (shiftT (cost + r[x]) (pre0 ++ [((x : Nat) : Int)]) (tryL us (left - ((x : Nat) : Int)))) := by simp [seeL]
theorem seeL_take {us : List (List Int)} {r : List Int} {left cost : Int} {pre0 : List Int} {st : Res} (hs : 0 ≤ st.2.2) (hf : Fit us) (hr : ∀ z, z ∈ r → -1000 ≤ z ∧ z ≤ 1000) : ∀ k, k ≤ r.length → seeL us r left cost pre0 st ((List.finRange r.length).take k) = comb st (shiftT cost pre0 (tryTo (tryL us) r left k))
  | 0, _ => by
    rw [List.take_zero]
    exact (comb_none (show (shiftT cost pre0 (0, [], 0)).2.2 = 0 from rfl)).symm
  | k + 1, hk => by
    rw [← finRange_succ hk, seeL_snoc, seeL_take hs hf hr k (by omega), ← comb_next hs hf hr, getD_at hk]
    rfl
theorem seeL_all {us : List (List Int)} {r : List Int} {left cost : Int} {pre0 : List Int} {st : Res} (hs : 0 ≤ st.2.2) (hf : Fit us) (hr : ∀ z, z ∈ r → -1000 ≤ z ∧ z ≤ 1000) : seeL us r left cost pre0 st (List.finRange r.length) = comb st (shiftT cost pre0 (tryL (r :: us) left)) := by
  have h := seeL_take (left := left) (cost := cost) (pre0 := pre0) hs hf hr r.length (Nat.le_refl _)
  rw [List.take_of_length_le (by simp)] at h
  rw [h, tryTo_all]
theorem seeL_cnt {us : List (List Int)} {r : List Int} {left cost : Int} {pre0 : List Int} {st : Res} (hs : 0 ≤ st.2.2) (hf : Fit us) : ∀ pre : List (Fin r.length), 0 ≤ (seeL us r left cost pre0 st pre.reverse).2.2 ∧ (seeL us r left cost pre0 st pre.reverse).2.2 ≤ st.2.2 + (pre.length : Int) * pow12 us.length
  | [] => ⟨hs, by simp [seeL]⟩
  | x :: pre => by
    rw [List.reverse_cons, seeL_snoc]
    have ih := seeL_cnt (left := left) (cost := cost) (pre0 := pre0) hs hf pre
    have h := comb_cnt ih (show 0 ≤ (shiftT (cost + r[x]) (pre0 ++ [((x : Nat) : Int)]) (tryL us (left - ((x : Nat) : Int)))).2.2 ∧ _ ≤ pow12 us.length from (try_small hf _).1)
    rw [List.length_cons, Int.natCast_succ, Int.add_mul, Int.one_mul]
    omega
theorem seeL_cnt' {us : List (List Int)} {r : List Int} {left cost : Int} {pre0 : List Int} {st : Res} (hs : 0 ≤ st.2.2) (hf : Fit us) (pre : List (Fin r.length)) : 0 ≤ (seeL us r left cost pre0 st pre).2.2 ∧ (seeL us r left cost pre0 st pre).2.2 ≤ st.2.2 + (pre.length : Int) * pow12 us.length := by
  have h := seeL_cnt (left := left) (cost := cost) (pre0 := pre0) hs hf pre.reverse
  rwa [List.reverse_reverse, List.length_reverse] at h

/-- The variables that the closure shares. -/
structure Env (W : World) (n : Nat) (A : Option Addr) (c bs bf bp bh P : Nat) : Prop where
  s : Boxed W bs 44 (.slice A n c)
  p : Boxed W bp 26 (.slice (some ⟨P, 0, none⟩) n n)
  h : Boxed W bh 70 (.func (.func 60) #[] #[.pointer (some ⟨bs, 0, none⟩), .pointer (some ⟨bf, 0, none⟩), .pointer (some ⟨bp, 0, none⟩), .pointer (some ⟨bh, 0, none⟩)])
/-- The places, the first ones told. -/
def PlX (W : World) (P n i : Nat) (pre : List Int) : Prop := ∃ xs : List Int, xs.length = n ∧ xs.take i = pre ∧ (∀ x, x ∈ xs → I64 x) ∧ Cells W P 0 xs
theorem kept_block {X Y : World} {row : Option Nat} (hg : X.grownBy Y row) (hr : ∀ r, row = some r → ∃ o : Obj, X.heap[r]? = some o ∧ o.isCells = false) {g : Nat} {cs : Array Value} {t : TypeId} (h : X.heap[g]? = some (.cells cs t (0, 0))) : Y.heap[g]? = some (.cells cs t (0, 0)) := by
  refine (hg.block g (Array.getElem?_eq_some_iff.1 h).1 fun e => ?_).trans h
  obtain ⟨o, ho, hc⟩ := hr g e.symm
  rw [h] at ho; cases ho; cases hc
theorem iw_kept {X Y : World} {row : Option Nat} (hg : X.grownBy Y row) (hr : ∀ r, row = some r → ∃ o : Obj, X.heap[r]? = some o ∧ o.isCells = false) {lo : Nat} {A : Option Addr} {zs : List Int} (h : IW X lo X.heap.size A zs) : IW Y lo Y.heap.size A zs :=
  ⟨h.1, h.2.1, Nat.le_refl _, fun h0 => by
    obtain ⟨b, off, e, h1, h2, h3⟩ := h.2.2.2 h0
    exact ⟨b, off, e, h1, Nat.lt_of_lt_of_le h2 hg.size, fun j hj => ⟨cell_kept (h3 j hj).1 hg hr, (frozen_kept (h3 j hj).1 hg hr).trans (h3 j hj).2⟩⟩⟩
theorem plx_kept {X Y : World} {row : Option Nat} (hg : X.grownBy Y row) (hr : ∀ r, row = some r → ∃ o : Obj, X.heap[r]? = some o ∧ o.isCells = false) {P n i : Nat} {pre : List Int} (h : PlX X P n i pre) : PlX Y P n i pre := by
  obtain ⟨xs, h1, h2, h3, h4⟩ := h
  exact ⟨xs, h1, h2, h3, fun j hj => ⟨cell_kept (h4 j hj).1 hg hr, (frozen_kept (h4 j hj).1 hg hr).trans (h4 j hj).2⟩⟩
theorem fnd_kept {X Y : World} {row : Option Nat} (hg : X.grownBy Y row) (hr : ∀ r, row = some r → ∃ o : Obj, X.heap[r]? = some o ∧ o.isCells = false) {F base : Nat} {st : Res} (h : Fnd X F base st) : Fnd Y F base st := by
  obtain ⟨A, c, h1, h2⟩ := h
  exact ⟨A, c, kept_block hg hr h1, iw_kept hg hr h2⟩
theorem env_kept {X Y : World} {row : Option Nat} (hg : X.grownBy Y row) (hr : ∀ r, row = some r → ∃ o : Obj, X.heap[r]? = some o ∧ o.isCells = false) {n : Nat} {A : Option Addr} {c bs bf bp bh P : Nat} (h : Env X n A c bs bf bp bh P) : Env Y n A c bs bf bp bh P :=
  ⟨kept_block hg hr h.s, kept_block hg hr h.p, kept_block hg hr h.h⟩
theorem Env.only {X Y : World} {n : Nat} {A : Option Addr} {c bs bf bp bh P : Nat} (h : Env X n A c bs bf bp bh P) (ho : Only2 P bf X Y) (h1 : bs ≠ P ∧ bs ≠ bf) (h2 : bp ≠ P ∧ bp ≠ bf) (h3 : bh ≠ P ∧ bh ≠ bf) : Env Y n A c bs bf bp bh P :=
  ⟨(ho.block bs h.s.lt h1.1 h1.2).trans h.s, (ho.block bp h.p.lt h2.1 h2.2).trans h.p, (ho.block bh h.h.lt h3.1 h3.2).trans h.h⟩
/-- What holds while the places of a row are tried. -/
structure Lvl (n i nn : Nat) (A : Option Addr) (c bs bf bp bh P base m0 : Nat) (left cost : Int) (pre0 : List Int) (w W0 : World) (st : Res) (W : World) : Prop where
  env : Env W n A c bs bf bp bh P
  b0 : Boxed W m0 3 (.int .i64 (i : Int))
  b1 : Boxed W (m0 + 1) 3 (.int .i64 left)
  b2 : Boxed W (m0 + 2) 3 (.int .i64 cost)
  pl : PlX W P n i pre0
  fnd : Fnd W bf base st
  only : Only2 P bf W0 W
  below : Below nn w W
  size : m0 + 3 ≤ W.heap.size
theorem lvl_own {β : Type} {n i nn : Nat} {A : Option Addr} {c bs bf bp bh P base m0 : Nat} {left cost : Int} {pre0 : List Int} {w W0 : World} {B : Nat} (h0 : W0.heap.size ≤ B) (h1 : nn ≤ B) (h2 : nn ≤ w.heap.size) (f : β → Res) : OwnFrom B (fun s W => Lvl n i nn A c bs bf bp bh P base m0 left cost pre0 w W0 (f s) W) := fun s X Y row h hg hrow => by
  have hr : ∀ r, row = some r → ∃ o : Obj, X.heap[r]? = some o ∧ o.isCells = false := fun r e => (hrow r e).2
  exact ⟨env_kept hg hr h.env, kept_block hg hr h.b0, kept_block hg hr h.b1, kept_block hg hr h.b2, plx_kept hg hr h.pl, fnd_kept hg hr h.fnd, only2_own (β := β) h0 s X Y row h.only hg hrow, ownFrom_below (β := β) h2 h1 s X Y row h.below hg hrow, Nat.le_trans h.size hg.size⟩

theorem Only2.weak {P F : Nat} {a b : World} (h : Only2 F F a b) : Only2 P F a b := ⟨h.os, h.tape, h.output, h.size, fun k hk _ h2 => h.block k hk h2 h2⟩
theorem PlX.block {W W' : World} {P n i : Nat} {pre : List Int} (h : PlX W P n i pre) (hb : W'.heap[P]? = W.heap[P]?) : PlX W' P n i pre := by
  obtain ⟨xs, h1, h2, h3, h4⟩ := h
  exact ⟨xs, h1, h2, h3, fun j hj => ⟨(World.cell?_of_block (w := W) (a := ⟨P, 0 + j, none⟩) hb).trans (h4 j hj).1, (World.frozen?_of_block (w := W) (a := ⟨P, 0 + j, none⟩) hb).trans (h4 j hj).2⟩⟩
theorem PlX.lt {W : World} {P n i : Nat} {pre : List Int} (h : PlX W P n i pre) (h0 : 0 < n) : P < W.heap.size ∧ ∃ o : Obj, W.heap[P]? = some o ∧ o.isCells = true := by
  obtain ⟨xs, h1, h2, h3, h4⟩ := h
  obtain ⟨o, ho, hc⟩ := cells_of_cell (h4 0 (by omega)).1
  exact ⟨(Array.getElem?_eq_some_iff.1 ho).1, o, ho, hc⟩
theorem PlX.put {W : World} {P n i : Nat} {pre : List Int} (h : PlX W P n i pre) (hi : i < n) {x : Int} (hx : I64 x) : PlX (W.setCell ⟨P, i, none⟩ (.int .i64 x)) P n (i + 1) (pre ++ [x]) := by
  obtain ⟨xs, h1, h2, h3, h4⟩ := h
  have h5 := h4.set_ i (by omega) x
  rw [Nat.zero_add] at h5
  refine ⟨xs.set i x, by simpa using h1, ?_, setI64 h3 hx, h5⟩
  rw [List.take_add_one, List.take_set_of_le (Nat.le_refl _), h2]
  simp [show i < xs.length by omega]
theorem PlX.at_ {W : World} {P n i : Nat} {pre : List Int} (h : PlX W P n i pre) (hi : i < n) : ∃ u, W.cell? ⟨P, i, none⟩ = some u ∧ W.frozen? ⟨P, i, none⟩ = false := by
  obtain ⟨xs, h1, h2, h3, h4⟩ := h
  have h5 := h4 i (by omega)
  rw [Nat.zero_add] at h5
  exact ⟨_, h5.1, h5.2⟩
theorem PlX.less {W : World} {P n i : Nat} {pre : List Int} {x : Int} (h : PlX W P n (i + 1) (pre ++ [x])) (hp : pre.length = i) : PlX W P n i pre := by
  obtain ⟨xs, h1, h2, h3, h4⟩ := h
  refine ⟨xs, h1, ?_, h3, h4⟩
  have h5 : (xs.take (i + 1)).take i = (pre ++ [x]).take i := by rw [h2]
  rw [List.take_take, Nat.min_eq_left (by omega)] at h5
  rw [h5, ← hp, List.take_left]
theorem PlX.len {W : World} {P n i : Nat} {pre : List Int} (h : PlX W P n i pre) (hi : i ≤ n) : pre.length = i := by
  obtain ⟨xs, h1, h2, h3, h4⟩ := h
  rw [← h2, List.length_take]
  omega
theorem Fnd.other {W W' : World} {F base : Nat} {st : Res} (h : Fnd W F base st) (hF : W'.heap[F]? = W.heap[F]?) (hs : W.heap.size = W'.heap.size) (hb : ∀ k, base ≤ k → W'.heap[k]? = W.heap[k]?) : Fnd W' F base st := by
  obtain ⟨A, c, h1, h2⟩ := h
  refine ⟨A, c, h1.block hF, ?_⟩
  rw [← hs]
  exact h2.keep (by omega) fun k h3 _ => hb k h3

set_option maxRecDepth 100000 in
set_option maxHeartbeats 4000000 in
theorem share_any (n nn : Nat) (A : Option Addr) (c bs bf bp bh P base : Nat) (rs : List (List Int)) (w : World) (hf : Fit rs) (hn : rs.length = n) (hn0 : 0 < n) (hn4 : n ≤ 4) (hR : IRR w 0 nn A rs)
    (d1 : nn ≤ bs ∧ nn ≤ bf ∧ nn ≤ bp ∧ nn ≤ bh ∧ nn ≤ P) (d2 : bs < base ∧ bf < base ∧ bp < base ∧ bh < base ∧ P < base) (d3 : bs ≠ P ∧ bs ≠ bf) (d4 : bp ≠ P ∧ bp ≠ bf) (d5 : bh ≠ P ∧ bh ≠ bf) (d6 : P ≠ bf) :
    ∀ (d i : Nat) (left cost : Int) (pre0 : List Int) (st : Res) (W : World), i + d = n → (-(12 * (i : Int)) ≤ left ∧ left ≤ 1000) → (-(1000 * (i : Int)) ≤ cost ∧ cost ≤ 1000 * (i : Int)) → (0 ≤ st.2.2 ∧ st.2.2 + pow12 d ≤ 100000) → Below nn w W → base ≤ W.heap.size → Env W n A c bs bf bp bh P → PlX W P n i pre0 → Fnd W bf base st →
    Calls Try.prog 60 #[.int .i64 (i : Int), .int .i64 left, .int .i64 cost, .pointer (some ⟨bs, 0, none⟩), .pointer (some ⟨bf, 0, none⟩), .pointer (some ⟨bp, 0, none⟩), .pointer (some ⟨bh, 0, none⟩)] W fun e W' => (∃ v, e = .returned v) ∧ PlX W' P n i pre0 ∧ Fnd W' bf base (comb st (shiftT cost pre0 (tryL (rs.drop i) left))) ∧ Only2 P bf W W' := by
  have HF := Lib.hid hf; have HN := Lib.hid hn; have HR := Lib.hid hR
  have D1 := Lib.hid d1; have D2 := Lib.hid d2; have D3 := Lib.hid d3; have D4 := Lib.hid d4; have D5 := Lib.hid d5; have D6 := Lib.hid d6
  clear hf hn hR d1 d2 d3 d4 d5 d6
  intro d
  induction d with
  | zero =>
    intro i left cost pre0 st W hid hl hco hst hbw hbs henv hpl hfnd
    have hin : i = n := by omega
    subst hin
    have hd : rs.drop i = [] := List.drop_eq_nil_of_le (by rw [HN.out]; omega)
    rw [hd]
    have hb3 : Below W.heap.size W (((W.alloc (.cells #[.int .i64 (i : Int)] 3)).alloc (.cells #[.int .i64 left] 3)).alloc (.cells #[.int .i64 cost] 3)) := (((Below.refl _ W).alloc (Nat.le_refl _) _).alloc (by simp) _).alloc (by simp; omega) _
    have x0 := (Boxed.new W 3 (.int .i64 (i : Int))).alloc (.cells #[.int .i64 left] 3) |>.alloc (.cells #[.int .i64 cost] 3) |>.cell
    have x1 := (Boxed.new (W.alloc (.cells #[.int .i64 (i : Int)] 3)) 3 (.int .i64 left)).alloc (.cells #[.int .i64 cost] 3) |>.cell
    have x2 := (Boxed.new ((W.alloc (.cells #[.int .i64 (i : Int)] 3)).alloc (.cells #[.int .i64 left] 3)) 3 (.int .i64 cost)).cell
    rw [World.size_alloc, World.size_alloc] at x2
    rw [World.size_alloc] at x1
    have ys := Boxed.cell ((hb3.block bs henv.s.lt).trans henv.s)
    have yp := Boxed.cell ((hb3.block bp henv.p.lt).trans henv.p)
    have HPL := Lib.hid hpl; have HFD := Lib.hid hfnd
    rcases Decidable.em (left = 0) with rfl | hz
    · have HE : Hid (comb st (cost, pre0, 1) = comb st (shiftT cost pre0 (tryL [] 0))) := by
        show _ = _
        unfold tryL
        rw [if_pos rfl]
        simp [shiftT]
      have hlt := hpl.lt hn0
      have hsee := fun (W' : World) (hb : Below W.heap.size W W') => (show Calls Try.prog 61 #[.pointer (some ⟨bf, 0, none⟩), .slice (some ⟨P, 0, none⟩) i i, .int .i64 cost] W' fun e w' => (∃ v, e = .returned v) ∧ Fnd w' bf base (comb st (cost, pre0, 1)) ∧ Only2 bf bf W' w' from by
        have hp2 := hpl.block (hb.block P hlt.1)
        obtain ⟨xs, q1, q2, q3, q4⟩ := hp2
        rw [List.take_of_length_le (by omega)] at q2
        subst q2
        exact see_any P bf base i i cost st xs W' D2.out.2.1 D6.out (Nat.le_trans hbs hb.size) (by omega) (by have := pow12_pos 0; omega) q1 hn0 hn4 q3 (Nat.lt_of_lt_of_le hlt.1 hb.size) q4 (hfnd.below hb))
      have HSEE := Lib.hid (hsee _ hb3)
      have HB := Lib.hid hb3
      have HLT := Lib.hid hlt
      clear hsee hlt hb3 hpl hfnd henv hd
      rw [← HE.out]
      go_enter Try.func60, Try.ntmps60
      go_wp2_with fail
      refine HSEE.out.mono ?_
      rintro e w1 ⟨⟨v, rfl⟩, hf1, ho1⟩
      have HF1 := Lib.hid hf1; have HO1 := Lib.hid ho1
      clear hf1 ho1
      go_wp2
      refine bodyPost_ret (results_none rfl _ _ _) rfl ?_
      have hlt := HLT.out
      exact ⟨⟨_, rfl⟩, (HPL.out.block (HB.out.block P hlt.1)).block (HO1.out.block P (Nat.lt_of_lt_of_le hlt.1 HB.out.size) D6.out D6.out), HF1.out, (Only2.of HB.out).trans HO1.out.weak⟩
    · have hz' : (left == 0) = false := by rw [beq_eq_false_iff_ne]; exact hz
      have HE : Hid (st = comb st (shiftT cost pre0 (tryL [] left))) := by
        show _ = _
        unfold tryL
        rw [if_neg hz]
        exact (comb_none (show (shiftT cost pre0 (0, [], 0)).2.2 = 0 from rfl)).symm
      have HB := Lib.hid hb3
      have HLT := Lib.hid (hpl.lt hn0)
      clear hb3 hpl hfnd henv hd
      rw [← HE.out]
      go_enter Try.func60, Try.ntmps60
      go_wp2
      refine bodyPost_ret (results_none rfl _ _ _) rfl ?_
      exact ⟨⟨_, rfl⟩, HPL.out.block (HB.out.block P HLT.out.1), HFD.out.below HB.out, Only2.of HB.out⟩
  | succ d ih =>
    intro i left cost pre0 st W hid hl hco hst hbw hbs henv hpl hfnd
    have hir : i < rs.length := by rw [HN.out]; omega
    obtain ⟨r, hr⟩ : ∃ r, rs[i] = r := ⟨_, rfl⟩
    have hdc := drop_cons hir
    obtain ⟨us, hus⟩ : ∃ us, rs.drop (i + 1) = us := ⟨_, rfl⟩
    have hul : us.length = d := by rw [← hus, List.length_drop, HN.out]; omega
    have HUF : Hid (Fit us) := by rw [← hus]; exact HF.out.drop _
    have hrb := HF.out.at_ hir
    rw [hr] at hdc hrb
    rw [hus] at hdc
    have HDC := Lib.hid hdc; have HRB := Lib.hid hrb; have HIH := Lib.hid ih; have HUS := Lib.hid hus; have HUL := Lib.hid hul
    have hb3 : Below W.heap.size W (((W.alloc (.cells #[.int .i64 (i : Int)] 3)).alloc (.cells #[.int .i64 left] 3)).alloc (.cells #[.int .i64 cost] 3)) := (((Below.refl _ W).alloc (Nat.le_refl _) _).alloc (by simp) _).alloc (by simp; omega) _
    have x0 := (Boxed.new W 3 (.int .i64 (i : Int))).alloc (.cells #[.int .i64 left] 3) |>.alloc (.cells #[.int .i64 cost] 3)
    have x1 := (Boxed.new (W.alloc (.cells #[.int .i64 (i : Int)] 3)) 3 (.int .i64 left)).alloc (.cells #[.int .i64 cost] 3)
    have x2 := Boxed.new ((W.alloc (.cells #[.int .i64 (i : Int)] 3)).alloc (.cells #[.int .i64 left] 3)) 3 (.int .i64 cost)
    rw [World.size_alloc, World.size_alloc] at x2
    rw [World.size_alloc] at x1
    have hsz : (((W.alloc (.cells #[.int .i64 (i : Int)] 3)).alloc (.cells #[.int .i64 left] 3)).alloc (.cells #[.int .i64 cost] 3)).heap.size = W.heap.size + 3 := by simp
    obtain ⟨W3, hW3⟩ : ∃ W3, ((W.alloc (.cells #[.int .i64 (i : Int)] 3)).alloc (.cells #[.int .i64 left] 3)).alloc (.cells #[.int .i64 cost] 3) = W3 := ⟨_, rfl⟩
    rw [hW3] at hb3 x0 x1 x2 hsz
    have hnw : nn ≤ w.heap.size := HR.out.2.1
    have hbw3 : Below nn w W3 := hbw.trans (hb3.mono (Nat.le_trans hnw hbw.size))
    have ys := Boxed.cell ((hb3.block bs henv.s.lt).trans henv.s)
    have y0 := x0.cell
    obtain ⟨b, off, Ak, ck, hA, _, hc, _, hrow⟩ := (HR.out.below hbw3 (Nat.le_refl _)).at_ hir
    rw [hr] at hc hrow
    obtain ⟨m, hm⟩ : ∃ m, r.length = m := ⟨_, rfl⟩
    have HM := Lib.hid hm
    rw [hm] at hc
    have b4 : Below W3.heap.size W3 (W3.alloc (.cells #[.slice Ak m ck] 54)) := (Below.refl _ W3).alloc (Nat.le_refl _) _
    have bX := (Boxed.new W3 54 (.slice Ak m ck)).cell
    have henv3 : Env W3 n A c bs bf bp bh P := ⟨(hb3.block bs henv.s.lt).trans henv.s, (hb3.block bp henv.p.lt).trans henv.p, (hb3.block bh henv.h.lt).trans henv.h⟩
    have hlt := hpl.lt hn0
    have L4 : Lvl n i nn A c bs bf bp bh P base W.heap.size left cost pre0 w W st (W3.alloc (.cells #[.slice Ak m ck] 54)) :=
      ⟨⟨henv3.s.alloc _, henv3.p.alloc _, henv3.h.alloc _⟩, x0.alloc _, x1.alloc _, x2.alloc _, (hpl.block (hb3.block P hlt.1)).block (b4.block P (Nat.lt_of_lt_of_le hlt.1 hb3.size)), (hfnd.below hb3).below b4, (Only2.of hb3).trans (Only2.of b4), hbw3.trans (b4.mono (by have := hbw3.size; omega)), by simp; omega⟩
    have hrow4 : IR (W3.alloc (.cells #[.slice Ak m ck] 54)) 0 nn Ak r := hrow.grow (b4.mono (Nat.le_refl _))
    have HL4 := Lib.hid L4; have HROW4 := Lib.hid hrow4; have HPRE := Lib.hid (hpl.len (by omega))
    have HBS := Lib.hid hbs; have HST := Lib.hid hst; have HLE := Lib.hid hl; have HCO := Lib.hid hco; have HNW := Lib.hid hnw; have HSZ := Lib.hid hsz
    have hin : ¬ (i : Int) = (n : Int) := by omega
    have hinb : ((i : Int) == (n : Int)) = false := by rw [beq_eq_false_iff_ne]; exact hin
    have i0 : (0 : Int) ≤ (i : Int) := by omega
    have iN : (i : Int) < (n : Int) := by omega
    have iN' : i < n := by omega
    have HID := Lib.hid hid
    have W1' : Hid (nn ≤ W.heap.size) := Nat.le_trans hnw hbw.size
    subst hA
    clear hr hrb hdc hus hul ih hb3 x0 x1 x2 hbw3 hrow henv henv3 hpl hfnd L4 hrow4 hlt b4 hm hbw hid hnw hl hco hst hbs
    refine (callsIn_wide (n := 6)).1 ?_
    refine callsIn_of_wp_marks Try.func60 rfl trivial ?_ rfl
    simp only [Try.ntmps60, List.size_toArray, List.length_cons, List.length_nil, Nat.reduceAdd, Nat.reduceSub, Array.replicate_succ, Array.replicate_zero, List.push_toArray, List.append_toArray, List.nil_append, List.cons_append]
    rw [hsz] at bX
    gi_wp2_with (refine ⟨trivial, ?_⟩; gi_at_call 62; refine (entries_in _ _ trivial rfl _ _ _ _).mono ?_; rintro e w' ⟨rfl, rfl⟩)
    clear ys y0 hc hW3
    have hm := HM.out
    subst hm
    have hbl : nn ≤ (W3.alloc (.cells #[.slice Ak r.length ck] 54)).heap.size := by have := W1'.out; simp; omega
    have hsq := entries_stops Fence.wide (6 - 1) trivial rfl (by decide) (W.heap.size + 3) nn ck Ak r (W3.alloc (.cells #[.slice Ak r.length ck] 54)) (by simp; omega) hbl bX HROW4.out
    have hown := lvl_own (β := List (Fin r.length)) (n := n) (i := i) (nn := nn) (A := some ⟨b, off, none⟩) (c := c) (bs := bs) (bf := bf) (bp := bp) (bh := bh) (P := P) (base := base) (m0 := W.heap.size) (left := left) (cost := cost) (pre0 := pre0) (w := w) (W0 := W) (B := (W3.alloc (.cells #[.slice Ak r.length ck] 54)).heap.size) (by have := HSZ.out; simp; omega) hbl HNW.out (seeL us r left cost pre0 st)
    have HI0 : Lvl n i nn (some ⟨b, off, none⟩) c bs bf bp bh P base W.heap.size left cost pre0 w W (seeL us r left cost pre0 st []) (W3.alloc (.cells #[.slice Ak r.length ck] 54)) := HL4.out
    obtain ⟨I, hI⟩ : ∃ I : List (Fin r.length) → World → Prop, I = fun pre W' => Lvl n i nn (some ⟨b, off, none⟩) c bs bf bp bh P base W.heap.size left cost pre0 w W (seeL us r left cost pre0 st pre) W' := ⟨_, rfl⟩
    have hown' : OwnFrom (W3.alloc (.cells #[.slice Ak r.length ck] 54)).heap.size I := by rw [hI]; exact hown
    have HI0' : I [] (W3.alloc (.cells #[.slice Ak r.length ck] 54)) := by rw [hI]; exact HI0
    have HII : Hid (I = _) := hI
    clear hI hown HI0
    refine wpIn_rangeFunc_ownF (F := Fence.wide) ?h1 ?h2 (gf := 76) (lb := #[.pointer (some ⟨W.heap.size + 3, 0, none⟩)]) ?h3 ?h4 ?h5 hsq ?h6 ?h7 ?h8 ?h9 I (fun _ _ _ => False) hown' (fun _ _ _ _ _ hs _ _ => hs) HI0' ?a1 ?hassign ?hbody ?hdone ?hstop
    case h1 => rfl
    case h2 => decide
    case h3 => rfl
    case h4 => trivial
    case h5 => exact enters_of Try.func76 (by kernel_rfl) rfl
    case h6 => exact belowK_t
    case h7 => exact belowK_b hbl
    case h8 => exact Below.refl _ _
    case h9 => exact fun _ => rfl
    all_goals clear hsq hown' HI0' bX hbl
    case hassign =>
      intro l x W K hK
      go_simp
      repeat (first | gi_guarded | gi_step | gi_upon | gi_in | gi_back)
      exact hK
    case hbody =>
      rintro l pre x Wb L hlt
      rw [HII.out] at L
      have yp := L.env.p.cell; have yh := L.env.h.cell; have z0 := L.b0.cell; have z1 := L.b1.cell; have z2 := L.b2.cell
      obtain ⟨u, yu, yf⟩ := L.pl.at_ iN'
      obtain ⟨hPs, hPc⟩ := L.pl.lt hn0
      have hx12 := HRB.out.2
      have hxl : (x : Nat) < r.length := x.2
      have hent := HRB.out.1 r[x] (List.getElem_mem hxl)
      have hsn := seeL_snoc us r left cost pre0 st pre x
      have hcn := seeL_cnt' (left := left) (cost := cost) (pre0 := pre0) (r := r) HST.out.1 HUF.out pre
      have HL := Lib.hid L
      obtain ⟨e1, e2, e3, e4, e5⟩ := D1.out
      obtain ⟨g1, g2, g3, g4, g5⟩ := D2.out
      have hbs := HBS.out
      have h6 := D6.out
      obtain ⟨y, hy⟩ : ∃ y, r[x] = y := ⟨_, rfl⟩
      obtain ⟨k, hk⟩ : ∃ k, (x : Nat) = k := ⟨_, rfl⟩
      obtain ⟨S, hS⟩ : ∃ S, seeL us r left cost pre0 st pre = S := ⟨_, rfl⟩
      rw [hy, hk, hS] at hsn
      rw [hy] at hent
      rw [hk] at hxl
      rw [hS] at hcn HL
      have hle := HLE.out; have hco := HCO.out; have hid := HID.out
      have hpl2 := HL.out.pl.put iN' (x := (k : Int)) ⟨by omega, by omega⟩
      have hW2 : Wb.heap.size = (Wb.setCell ⟨P, i, none⟩ (.int .i64 (k : Int))).heap.size := by simp [World.setCell]
      have ho2 : Only2 P bf Wb (Wb.setCell ⟨P, i, none⟩ (.int .i64 (k : Int))) := (Only2.refl P bf Wb).set_ (.inl rfl) _
      have henv2 := HL.out.env.only ho2 D3.out D4.out D5.out
      have hfd2 : Fnd (Wb.setCell ⟨P, i, none⟩ (.int .i64 (k : Int))) bf base S := HL.out.fnd.other (heap_setCell_other Wb _ bf _ (by show bf ≠ P; omega)) hW2 fun q hq => heap_setCell_other Wb _ q _ (by show q ≠ P; omega)
      have hbw2 : Below nn w (Wb.setCell ⟨P, i, none⟩ (.int .i64 (k : Int))) := HL.out.below.setCell (p := ⟨P, i, none⟩) e5 _
      have hst := HST.out
      have hpw : pow12 (d + 1) = 12 * pow12 d := rfl
      have hpp := pow12_pos d
      have hpk : ((pre.length : Int) + 1) * pow12 d ≤ 12 * pow12 d := Int.mul_le_mul_of_nonneg_right (by omega) (by omega)
      rw [Int.add_mul, Int.one_mul] at hpk
      rw [HUL.out] at hcn
      have hcall := HIH.out (i + 1) (left - (k : Int)) (cost + y) (pre0 ++ [(k : Int)]) S (Wb.setCell ⟨P, i, none⟩ (.int .i64 (k : Int))) (by omega) (by omega) (by omega) ⟨hcn.1, by omega⟩ hbw2 (by rw [← hW2]; have := HL.out.size; omega) henv2 hpl2 hfd2
      rw [HUS.out, show ((i + 1 : Nat) : Int) = (i : Int) + 1 by omega] at hcall
      have HCALL := Lib.hid hcall; have HSN := Lib.hid hsn; have HO2 := Lib.hid ho2; have HPC := Lib.hid hPc; have HW2 := Lib.hid hW2
      have t1 : IntKind.i64.wrap ((i : Int) + 1) = (i : Int) + 1 := IntWalk.i64_in _ (by omega)
      have t2 : IntKind.i64.wrap (left - (k : Int)) = left - (k : Int) := IntWalk.i64_in _ (by omega)
      have t3 : IntKind.i64.wrap (cost + y) = cost + y := IntWalk.i64_in _ (by omega)
      have hWn : W.heap.size ≠ P ∧ W.heap.size + 1 ≠ P ∧ W.heap.size + 2 ≠ P ∧ W.heap.size ≠ bf ∧ W.heap.size + 1 ≠ bf ∧ W.heap.size + 2 ≠ bf := by omega
      have b0' : Boxed (Wb.setCell ⟨P, i, none⟩ (.int .i64 (k : Int))) W.heap.size 3 (.int .i64 (i : Int)) := (heap_setCell_other Wb _ W.heap.size _ hWn.1).trans HL.out.b0
      have b1' : Boxed (Wb.setCell ⟨P, i, none⟩ (.int .i64 (k : Int))) (W.heap.size + 1) 3 (.int .i64 left) := (heap_setCell_other Wb _ (W.heap.size + 1) _ hWn.2.1).trans HL.out.b1
      have b2' : Boxed (Wb.setCell ⟨P, i, none⟩ (.int .i64 (k : Int))) (W.heap.size + 2) 3 (.int .i64 cost) := (heap_setCell_other Wb _ (W.heap.size + 2) _ hWn.2.2.1).trans HL.out.b2
      have yh' := henv2.h.cell; have z0' := b0'.cell; have z1' := b1'.cell; have z2' := b2'.cell
      have HENV := Lib.hid henv2; have HB0 := Lib.hid b0'; have HB1 := Lib.hid b1'; have HB2 := Lib.hid b2'; have HWN := Lib.hid hWn; have HBW := Lib.hid hbw2
      clear yh z1 z2 b0' b1' b2' hWn hsn hcn hcall hfd2 hbw2 henv2 ho2 hpl2 hW2 hPc L hle hco hst hpw hpp hpk hS hlt hid
      rw [show r[(x : Nat)] = y from hy, hk]
      clear hy hk
      repeat (first | gi_guarded | gi_step | gi_upon | gi_in | gi_back)
      refine ⟨trivial, ?_⟩
      gi_at_call 60
      refine (CallsIn.inRound l (callsIn_wide.2 HCALL.out)).mono ?_
      rintro e w3 ⟨⟨v, rfl⟩, hp3, hf3, ho3⟩
      have HP3 := Lib.hid hp3; have HF3 := Lib.hid hf3; have HO3 := Lib.hid ho3
      clear hp3 hf3 ho3 HCALL HIH
      dsimp only
      repeat (first | gi_guarded | gi_step | gi_upon | gi_in | gi_back)
      have hWN := HWN.out
      have hlt := HL.out.pl.lt hn0
      have hno3 := HO2.out.trans HO3.out
      refine ⟨hno3.keeps hlt.2 ?_, ?_, ?_⟩
      · obtain ⟨A9, c9, h9, _⟩ := HL.out.fnd
        exact ⟨_, h9, rfl⟩
      · exact hno3.below (Below.refl nn Wb) e5 e2 (by have := HL.out.size; have := W1'.out; omega)
      · rw [HII.out]
        show Lvl n i nn (some ⟨b, off, none⟩) c bs bf bp bh P base W.heap.size left cost pre0 w W (seeL us r left cost pre0 st (pre ++ [x])) w3
        rw [HSN.out]
        exact ⟨HENV.out.only HO3.out D3.out D4.out D5.out, (HO3.out.block _ HB0.out.lt hWN.1 hWN.2.2.2.1).trans HB0.out, (HO3.out.block _ HB1.out.lt hWN.2.1 hWN.2.2.2.2.1).trans HB1.out, (HO3.out.block _ HB2.out.lt hWN.2.2.1 hWN.2.2.2.2.2).trans HB2.out, HP3.out.less HPRE.out, HF3.out, HL.out.only.trans hno3, HO3.out.below HBW.out e5 e2 (by have := HBW.out.size; have := HNW.out; omega), by have := HL.out.size; have := hno3.size; omega⟩
    case hdone =>
      rintro D ys W9 hD rfl L hK
      rw [HII.out] at L
      have HL := Lib.hid L; have HK := Lib.hid hK; have HDD := Lib.hid hD
      have hsa := seeL_all (left := left) (cost := cost) (pre0 := pre0) (r := r) HST.out.1 HUF.out HRB.out.1
      have HSA := Lib.hid hsa
      clear L hK hD hsa HIH HL4 HROW4
      gi_wp2
      refine ⟨by simp, .inl ⟨_, _, rfl, run_takeDeferred HK.out, ?_⟩⟩
      have hdd := HDD.out
      have hw1 := W1'.out
      have hsz3 := HSZ.out
      simp at hdd
      have L2 := lvl_own (β := Unit) (B := D) (w := w) (W0 := W) (by omega) (by omega) HNW.out (fun _ => seeL us r left cost pre0 st (List.finRange r.length)) () _ (W9.putObj D (.deferred none)) (some D) HL.out (grownBy_putObj' W9 D (.deferred none)) (fun q e => by cases e; exact ⟨Nat.le_refl _, _, HK.out, rfl⟩)
      refine ⟨_, results_none rfl _ _ _, ⟨_, rfl⟩, L2.pl, ?_, L2.only⟩
      rw [HDC.out, ← HSA.out]
      exact L2.fnd
    case hstop =>
      rintro D cd pre W hD hp h hK
      exact h.elim

theorem info_func3 : (Try.prog.info? 70).map (fun i => (i.zero, i.size)) = some (some .nilFunc, 1) := by kernel_rfl

set_option maxRecDepth 100000 in
set_option maxHeartbeats 4000000 in
theorem leastS_any (A : Option Addr) (c n : Nat) (left : Int) (rs : List (List Int)) (w : World) (h : IRR w 0 w.heap.size A rs) (hf : Fit rs) (hn : rs.length = n) (hn0 : 0 < n) (hn4 : n ≤ 4) (hl : 0 ≤ left ∧ left ≤ 1000) :
    Calls Try.prog 36 #[.slice A n c, .int .i64 left] w fun e w' => ∃ A' c', e = .returned (.agg (cheapV (comb (0, [], 0) (tryL rs left)).1 A' (comb (0, [], 0) (tryL rs left)).2.1.length c' (comb (0, [], 0) (tryL rs left)).2.2)) ∧ IW w' w.heap.size w'.heap.size A' (comb (0, [], 0) (tryL rs left)).2.1 ∧ Below w.heap.size w w' := by
  have H := Lib.hid h; have HF := Lib.hid hf; have HN := Lib.hid hn
  clear h hf hn
  have hmk := run_makeInts n (by omega)
  obtain ⟨W1, h1⟩ : ∃ W1, w.alloc (.cells #[.slice A n c] 44) = W1 := ⟨_, rfl⟩
  obtain ⟨W2, h2⟩ : ∃ W2, W1.alloc (.cells (cheapV 0 none 0 0 0) 47) = W2 := ⟨_, rfl⟩
  obtain ⟨W3, h3⟩ : ∃ W3, W2.alloc (.cells (cheapV 0 none 0 0 0) 47) = W3 := ⟨_, rfl⟩
  obtain ⟨W4, h4⟩ : ∃ W4, W3.alloc (.cells (madeCells #[.int .i64 0] n) 3) = W4 := ⟨_, rfl⟩
  obtain ⟨W5, h5⟩ : ∃ W5, W4.alloc (.cells #[.slice (some ⟨w.heap.size + 1 + 1 + 1, 0, none⟩) n n] 26) = W5 := ⟨_, rfl⟩
  obtain ⟨W6, h6⟩ : ∃ W6, W5.alloc (.cells #[.nilFunc] 70) = W6 := ⟨_, rfl⟩
  have s1 : W1.heap.size = w.heap.size + 1 := by rw [← h1]; simp
  have s2 : W2.heap.size = w.heap.size + 1 + 1 := by rw [← h2]; simp [s1]
  have s3 : W3.heap.size = w.heap.size + 1 + 1 + 1 := by rw [← h3]; simp [s2]
  have s4 : W4.heap.size = w.heap.size + 1 + 1 + 1 + 1 := by rw [← h4]; simp [s3]
  have s5 : W5.heap.size = w.heap.size + 1 + 1 + 1 + 1 + 1 := by rw [← h5]; simp [s4]
  have s6 : W6.heap.size = w.heap.size + 1 + 1 + 1 + 1 + 1 + 1 := by rw [← h6]; simp [s5]
  have g1 : Below w.heap.size w W1 := by rw [← h1]; exact (Below.refl _ _).alloc (Nat.le_refl _) _
  have g2 : Below W1.heap.size W1 W2 := by rw [← h2]; exact (Below.refl _ _).alloc (Nat.le_refl _) _
  have g3 : Below W2.heap.size W2 W3 := by rw [← h3]; exact (Below.refl _ _).alloc (Nat.le_refl _) _
  have g4 : Below W3.heap.size W3 W4 := by rw [← h4]; exact (Below.refl _ _).alloc (Nat.le_refl _) _
  have g5 : Below W4.heap.size W4 W5 := by rw [← h5]; exact (Below.refl _ _).alloc (Nat.le_refl _) _
  have g6 : Below W5.heap.size W5 W6 := by rw [← h6]; exact (Below.refl _ _).alloc (Nat.le_refl _) _
  have g56 := g5.trans (g6.mono (by omega))
  have g46 := g4.trans (g56.mono (by omega))
  have g36 := g3.trans (g46.mono (by omega))
  have g26 := g2.trans (g36.mono (by omega))
  have g16 := g1.trans (g26.mono (by omega))
  have es : Boxed W1 w.heap.size 44 (.slice A n c) := by rw [← h1]; exact Boxed.new _ _ _
  have er : BX W2 (w.heap.size + 1) 47 (cheapV 0 none 0 0 0) := by rw [← h2, ← s1]; exact BX.new _ _ _
  have ef : BX W3 (w.heap.size + 1 + 1) 47 (cheapV 0 none 0 0 0) := by rw [← h3, ← s2]; exact BX.new _ _ _
  have ec : Cells W4 (w.heap.size + 1 + 1 + 1) 0 (List.replicate n 0) := by rw [← h4, ← s3]; exact Cells.made _ _ _
  have ep : Boxed W5 (w.heap.size + 1 + 1 + 1 + 1) 26 (.slice (some ⟨w.heap.size + 1 + 1 + 1, 0, none⟩) n n) := by rw [← h5, ← s4]; exact Boxed.new _ _ _
  have eh : Boxed W6 (w.heap.size + 1 + 1 + 1 + 1 + 1) 70 .nilFunc := by rw [← h6, ← s5]; exact Boxed.new _ _ _
  have cs3 := Boxed.cell ((g3.block _ (by omega)).trans ((g2.block _ (by omega)).trans es))
  replace es : Boxed W6 w.heap.size 44 (.slice A n c) := (g26.block _ (by omega)).trans es
  replace er : BX W6 (w.heap.size + 1) 47 (cheapV 0 none 0 0 0) := (g36.block _ (by omega)).trans er
  replace ef : BX W6 (w.heap.size + 1 + 1) 47 (cheapV 0 none 0 0 0) := (g46.block _ (by omega)).trans ef
  have epl : PlX W6 (w.heap.size + 1 + 1 + 1) n 0 [] := PlX.block (W := W4) ⟨List.replicate n 0, by simp, by simp, fun x hx => by have := List.eq_of_mem_replicate hx; subst this; exact ⟨by omega, by omega⟩, ec⟩ (g56.block _ (by omega))
  replace ep : Boxed W6 (w.heap.size + 1 + 1 + 1 + 1) 26 (.slice (some ⟨w.heap.size + 1 + 1 + 1, 0, none⟩) n n) := (g6.block _ (by omega)).trans ep
  have ch := eh.cell; have fh := eh.frozen
  have cs := es.cell
  obtain ⟨W7, h7⟩ : ∃ W7, W6.setCell ⟨w.heap.size + 1 + 1 + 1 + 1 + 1, 0, none⟩ (Value.func (.func 60) #[] #[.pointer (some ⟨w.heap.size, 0, none⟩), .pointer (some ⟨w.heap.size + 1 + 1, 0, none⟩), .pointer (some ⟨w.heap.size + 1 + 1 + 1 + 1, 0, none⟩), .pointer (some ⟨w.heap.size + 1 + 1 + 1 + 1 + 1, 0, none⟩)]) = W7 := ⟨_, rfl⟩
  have hst : (store ⟨w.heap.size + 1 + 1 + 1 + 1 + 1, 0, none⟩ (Value.func (.func 60) #[] #[.pointer (some ⟨w.heap.size, 0, none⟩), .pointer (some ⟨w.heap.size + 1 + 1, 0, none⟩), .pointer (some ⟨w.heap.size + 1 + 1 + 1 + 1, 0, none⟩), .pointer (some ⟨w.heap.size + 1 + 1 + 1 + 1 + 1, 0, none⟩)])).run Try.prog W6 = .ok () W7 := by
    rw [run_store _ _ _ _ _ rfl, ← h7]
    simp [ch, fh]
  have hne : ∀ q, q ≠ w.heap.size + 1 + 1 + 1 + 1 + 1 → W7.heap[q]? = W6.heap[q]? := fun q hq => by rw [← h7]; exact heap_setCell_other W6 _ q _ hq
  have s7 : W7.heap.size = w.heap.size + 1 + 1 + 1 + 1 + 1 + 1 := by rw [← h7]; simp [World.setCell, s6]
  have eh7 : Boxed W7 (w.heap.size + 1 + 1 + 1 + 1 + 1) 70 (Value.func (.func 60) #[] #[.pointer (some ⟨w.heap.size, 0, none⟩), .pointer (some ⟨w.heap.size + 1 + 1, 0, none⟩), .pointer (some ⟨w.heap.size + 1 + 1 + 1 + 1, 0, none⟩), .pointer (some ⟨w.heap.size + 1 + 1 + 1 + 1 + 1, 0, none⟩)]) := by rw [← h7]; exact eh.set _
  have henv : Env W7 n A c w.heap.size (w.heap.size + 1 + 1) (w.heap.size + 1 + 1 + 1 + 1) (w.heap.size + 1 + 1 + 1 + 1 + 1) (w.heap.size + 1 + 1 + 1) :=
    ⟨(hne _ (by omega)).trans es, (hne _ (by omega)).trans ep, eh7⟩
  have hpl7 : PlX W7 (w.heap.size + 1 + 1 + 1) n 0 [] := epl.block (hne _ (by omega))
  have hfd7 : Fnd W7 (w.heap.size + 1 + 1) W7.heap.size (0, [], 0) := ⟨none, 0, (hne _ (by omega)).trans ef, IW.nil _ _⟩
  have er7 : BX W7 (w.heap.size + 1) 47 (cheapV 0 none 0 0 0) := (hne _ (by omega)).trans er
  have hbw7 : Below w.heap.size w W7 := by rw [← h7]; exact g16.setCell (p := ⟨w.heap.size + 1 + 1 + 1 + 1 + 1, 0, none⟩) (by show w.heap.size ≤ w.heap.size + 1 + 1 + 1 + 1 + 1; omega) _
  have hcall := share_any n w.heap.size A c w.heap.size (w.heap.size + 1 + 1) (w.heap.size + 1 + 1 + 1 + 1) (w.heap.size + 1 + 1 + 1 + 1 + 1) (w.heap.size + 1 + 1 + 1) W7.heap.size rs w HF.out HN.out hn0 hn4 H.out (by omega) (by omega) (by omega) (by omega) (by omega) (by omega) n 0 left 0 [] (0, [], 0) W7 (by omega) (by omega) (by omega) ⟨Int.le_refl _, by have := pow12_le hn4; dsimp only; omega⟩ hbw7 (Nat.le_refl _) henv hpl7 hfd7
  rw [List.drop_zero, shift_nil] at hcall
  have HCALL := Lib.hid hcall; have HR7 := Lib.hid er7; have HB7 := Lib.hid hbw7; have HS7 := Lib.hid s7
  have c7 := eh7.cell
  clear g1 g2 g3 g4 g5 g6 g56 g46 g36 g26 g16 es er ef ec ep eh epl hne eh7 henv hpl7 hfd7 er7 hbw7 hcall hl
  go_enter Try.func36, Try.ntmps36
  go_wp2_with (first | (refine wpList_alX rfl rfl zeroT_cheap ?_))
  refine HCALL.out.mono ?_
  rintro e w9 ⟨⟨v, rfl⟩, -, hf9, ho9⟩
  have hs7 := HS7.out
  have hr9 : BX w9 (w.heap.size + 1) 47 (cheapV 0 none 0 0 0) := (ho9.block _ (by omega) (by omega) (by omega)).trans HR7.out
  obtain ⟨A9, c9, hb9, hi9⟩ := hf9
  have HI9 := Lib.hid hi9; have HO9 := Lib.hid ho9
  have hr10 := hr9.put (cheapV (comb (0, [], 0) (tryL rs left)).1 A9 (comb (0, [], 0) (tryL rs left)).2.1.length c9 (comb (0, [], 0) (tryL rs left)).2.2)
  clear hst ch fh cs cs3 c7 h1 h2 h3 h4 h5 h6 h7 s1 s2 s3 s4 s5 s6 hi9 ho9 HCALL
  go_wp2_with (first | (refine wpList_ldX rfl _ rfl rfl hb9 rowT_cheap (cheapV_size _ _ _ _ _) ?_) | (refine wpList_stX rfl _ _ rfl rfl rfl hr9 rowT_cheap (cheapV_size _ _ _ _ _) (cheapV_size _ _ _ _ _) (cheapV_one _ _ _ _ _) ?_))
  refine bodyPost_ret (resX rfl _ _ rfl hr10 rowT_cheap (cheapV_size _ _ _ _ _)) rfl ?_
  have hs10 := HO9.out.size
  have hb10 := HO9.out.below HB7.out (by omega) (by omega) (by omega)
  refine ⟨A9, c9, rfl, ?_, below_setRow hb10 (by omega) _⟩
  refine (IW.keep (w := w9) HI9.out (by simp [World.setRow]) fun k h1 _ => setRow_other w9 _ k _ (by omega)).wide (by omega) (by simp [World.setRow]) (Nat.le_refl _)

theorem most_any (A : Option Addr) (c lo hi : Nat) (rs : List (List Int)) (w : World) (h : IRR w lo hi A rs) (hb : ∀ r, r ∈ rs → r.length ≤ 12) (h4 : rs.length ≤ 4) :
    Calls Try.prog 55 #[.slice A rs.length c] w fun e w' => e = .returned (.int .i64 (mostL rs)) ∧ w' = w := by
  have H := Lib.hid h; have HBD := Lib.hid hb
  clear h hb
  obtain ⟨n, hn⟩ : ∃ n, rs.length = n := ⟨_, rfl⟩
  have HN := Lib.hid hn
  rw [hn] at h4
  rw [hn]
  clear hn
  go_enter Try.func55, Try.ntmps55
  go_wp2
  go_loop [3, 8] (fun v i => ∃ k : Nat, k ≤ n ∧ i = .int .i64 (k : Int) ∧ v = .int .i64 (mostTo rs k)) (fun _ i => n - (intOf i).toNat)
  case atStart => exact ⟨0, Nat.zero_le _, rfl, rfl⟩
  case round =>
    obtain ⟨k, hk, rfl, rfl⟩ := hrel
    by_cases hlt : k < n
    · have hkr : k < rs.length := by rw [HN.out]; exact hlt
      obtain ⟨b, off, Ak, ck, rfl, _, hc, _, hrow⟩ := H.out.at_ hkr
      have hbd := mostTo_bd HBD.out k (by omega)
      have hsc : mostTo rs (k + 1) = mostTo rs k + (rs[k].length : Int) - 1 := by rw [← rowAt_get hkr]; rfl
      have hl := HBD.out rs[k] (List.getElem_mem hkr)
      obtain ⟨m, hm⟩ : ∃ m, rs[k].length = m := ⟨_, rfl⟩
      obtain ⟨s, hs⟩ : ∃ s, mostTo rs k = s := ⟨_, rfl⟩
      rw [hm] at hc hsc hl
      rw [hs] at hbd hsc
      rw [hs]
      have HSC := Lib.hid hsc
      have s1 : IntKind.i64.wrap ((m : Int) - 1) = (m : Int) - 1 := IntWalk.i64_in _ (by omega)
      have s2 : IntKind.i64.wrap (s + ((m : Int) - 1)) = s + (m : Int) - 1 := by rw [IntWalk.i64_in _ (by omega)]; omega
      have hlt' : (k : Int) < (n : Int) := by omega
      have k0 : (0 : Int) ≤ (k : Int) := by omega
      clear hrow hbd hsc hm hs hl
      go_wp2
      go_round
      case rel => exact ⟨k + 1, by omega, by go_num, by rw [HSC.out]⟩
      case measure => simp [intOf]; omega
    · obtain rfl : k = n := by omega
      have HC : Hid (mostTo rs k = mostL rs) := by show _ = _; rw [← mostTo_all, HN.out]
      have hlt' : ¬ (k : Int) < (k : Int) := by omega
      go_wp2
      go_ret
      rw [← HC.out]
      exact ⟨rfl, rfl⟩

set_option maxRecDepth 100000 in
set_option maxHeartbeats 1000000 in
theorem canShare_any (A : Option Addr) (c : Nat) (rs : List (List Int)) (n : Int) (w : World) (h : IRR w 0 w.heap.size A rs) :
    Calls Try.prog 35 #[.slice A rs.length c, .int .i64 n] w fun e w' => e = .returned (.bool (shareOk rs n)) ∧ Below w.heap.size w w' := by
  have H := Lib.hid h
  clear h
  go_enter Try.func35, Try.ntmps35
  cases hg : givenB rs with
  | false =>
    have HM : Hid (shareOk rs n = false) := by show _ = _; unfold shareOk; rw [hg]; rfl
    have HG := Lib.hid hg
    clear hg
    go_wp2_with fail
    refine (areRows_of H.out HG.out rfl).mono ?_
    rintro e w1 ⟨rfl, hb⟩
    have HB := Lib.hid hb
    clear hb
    go_wp2
    go_ret
    exact ⟨ret_bool HM.out.symm, HB.out⟩
  | true =>
    have HG := Lib.hid hg
    clear hg
    go_wp2_with fail
    refine (areRows_of H.out HG.out rfl).mono ?_
    rintro e w1 ⟨rfl, hb⟩
    have HB := Lib.hid hb
    have H2 := Lib.hid (H.out.grow hb)
    clear hb
    by_cases n0 : 0 ≤ n
    · have HOK : Hid (shareOk rs n = decide (n ≤ mostL rs)) := by show _ = _; unfold shareOk inB; rw [HG.out]; simp [n0]
      go_wp2_with fail
      refine (most_any _ _ _ _ rs _ H2.out (fun r hr => (given_fit HG.out r hr).2) (given_true.1 HG.out).2.2).mono ?_
      rintro e w2 ⟨rfl, rfl⟩
      by_cases n1 : n ≤ mostL rs
      · go_wp2
        go_ret
        exact ⟨ret_bool (by rw [HOK.out]; simp [n1]), HB.out⟩
      · have n1' : decide (n ≤ mostL rs) = false := decide_eq_false n1
        go_wp2
        go_ret
        exact ⟨ret_bool (by rw [HOK.out]; simp [n1]), HB.out⟩
    · have HM : Hid (shareOk rs n = false) := by show _ = _; unfold shareOk inB; simp [n0]
      go_wp2
      go_ret
      exact ⟨ret_bool HM.out.symm, HB.out⟩
theorem canShare_of {b : Bool} {A : Option Addr} {c m lo hi : Nat} {rs : List (List Int)} {n : Int} {w : World} (h : IRR w lo hi A rs) (hb : shareOk rs n = b) (hm : m = rs.length) :
    Calls Try.prog 35 #[.slice A m c, .int .i64 n] w fun e w' => e = .returned (.bool b) ∧ Below w.heap.size w w' := by
  subst hb; subst hm; exact canShare_any A c rs n w h.toAll
theorem share_found {rs : List (List Int)} {n : Int} (h : shareOk rs n = true) : comb (0, [], 0) (tryL rs n) = tryL rs n := by
  have h1 := (all_law h).2.2
  rw [comb_start, if_neg (by omega)]
theorem share_facts {rs : List (List Int)} {n : Int} (h : shareOk rs n = true) : Fit rs ∧ 0 < rs.length ∧ rs.length ≤ 4 ∧ (0 ≤ n ∧ n ≤ 1000) := by
  unfold shareOk at h
  rw [Bool.and_eq_true] at h
  have hg := given_true.1 h.1
  have h1 := inB_true.1 h.2
  have h2 := most_le h.1
  exact ⟨given_fit h.1, by omega, hg.2.2, by omega, by omega⟩
end Go.Proofs.Ytanmjaljcnihlaa

namespace Go.Proofs.Ytanmjaljcnihlaa
open Go.RowKit

set_option maxRecDepth 100000 in
theorem run_cheap (c q : Int) (A : Option Addr) (n k : Nat) (W : World) : (Instr.field 47 (.agg #[.int .i64 c, .slice A n k, .int .i64 q]) 2).run Try.prog W = .ok (.int .i64 q) W := by kernel_rfl
set_option maxRecDepth 100000 in
theorem run_cheap0 (c q : Int) (A : Option Addr) (n k : Nat) (W : World) : (Instr.field 47 (.agg #[.int .i64 c, .slice A n k, .int .i64 q]) 0).run Try.prog W = .ok (.int .i64 c) W := by kernel_rfl
set_option maxRecDepth 100000 in
set_option maxHeartbeats 1000000 in
theorem implShareAll_any (A : Option Addr) (c : Nat) (rs : List (List Int)) (n : Int) (w : World) (h : IRR w 0 w.heap.size A rs) :
    Calls Try.prog 32 #[.slice A rs.length c, .int .i64 n] w (RetIB w (shareOk rs n) (shareAllL rs n)) := by
  have H := Lib.hid h
  clear h
  go_enter Try.func32, Try.ntmps32
  cases hg : shareOk rs n with
  | false =>
    have HM := Lib.hid (share_not hg)
    have HG := Lib.hid hg
    clear hg
    go_wp2_with fail
    refine (canShare_of H.out HG.out rfl).mono ?_
    rintro e w1 ⟨rfl, hb⟩
    have HB := Lib.hid hb
    clear hb
    go_wp2
    go_ret2
    rw [HM.out.2.2]
    exact ⟨rfl, HB.out⟩
  | true =>
    have HM := Lib.hid (share_yes hg)
    have HG := Lib.hid hg
    obtain ⟨f1, f2, f3, f4⟩ := share_facts hg
    have HF := Lib.hid f1; have HFD := Lib.hid (share_found hg)
    clear hg f1
    go_wp2_with fail
    refine (canShare_of H.out HG.out rfl).mono ?_
    rintro e w1 ⟨rfl, hb⟩
    have HB := Lib.hid hb
    have HL := Lib.hid (leastS_any A c rs.length n rs w1 (H.out.grow hb).toAll HF.out rfl f2 f3 f4)
    rw [HFD.out] at HL
    clear hb
    go_wp2_with fail
    refine HL.out.mono ?_
    rintro e w2 ⟨A2, c2, rfl, hi2, hb2⟩
    have HB2 := Lib.hid hb2
    clear hb2 hi2
    unfold cheapV
    have hrc := run_cheap (tryL rs n).1 (tryL rs n).2.2 A2 (tryL rs n).2.1.length c2
    go_wp2
    go_ret2
    rw [HM.out.2.2]
    exact ⟨rfl, HB.out.trans (HB2.out.mono HB.out.size)⟩

set_option maxRecDepth 100000 in
set_option maxHeartbeats 1000000 in
theorem implShareTry_any (A : Option Addr) (c : Nat) (rs : List (List Int)) (n : Int) (w : World) (h : IRR w 0 w.heap.size A rs) :
    Calls Try.prog 11 #[.slice A rs.length c, .int .i64 n] w (RetCL w (shareC rs n) (shareM rs n)) := by
  have H := Lib.hid h
  clear h
  go_enter Try.func11, Try.ntmps11
  cases hg : shareOk rs n with
  | false =>
    have HM := Lib.hid (share_not hg)
    have HG := Lib.hid hg
    clear hg
    go_wp2_with fail
    refine (canShare_of H.out HG.out rfl).mono ?_
    rintro e w1 ⟨rfl, hb⟩
    have HB := Lib.hid hb
    clear hb
    go_wp2
    go_ret3
    rw [HM.out.1, HM.out.2.1]
    exact retCL_none HB.out
  | true =>
    have HM := Lib.hid (share_yes hg)
    have HG := Lib.hid hg
    obtain ⟨f1, f2, f3, f4⟩ := share_facts hg
    have HF := Lib.hid f1; have HFD := Lib.hid (share_found hg)
    clear hg f1
    go_wp2_with fail
    refine (canShare_of H.out HG.out rfl).mono ?_
    rintro e w1 ⟨rfl, hb⟩
    have HB := Lib.hid hb
    have HL := Lib.hid (leastS_any A c rs.length n rs w1 (H.out.grow hb).toAll HF.out rfl f2 f3 f4)
    rw [HFD.out] at HL
    clear hb
    go_wp2_with fail
    refine HL.out.mono ?_
    rintro e w2 ⟨A2, c2, rfl, hi2, hb2⟩
    have HI2 := Lib.hid hi2
    have bN := BX.new w2 47 (cheapV 0 none 0 0 0)
    have bP := bN.put (cheapV (tryL rs n).1 A2 (tryL rs n).2.1.length c2 (tryL rs n).2.2)
    have p0 := bP.cell 0; have p1 := bP.cell 1
    have HB2 := Lib.hid (below_setRow ((HB.out.trans (hb2.mono HB.out.size)).alloc (Nat.le_trans HB.out.size hb2.size) (.cells (cheapV 0 none 0 0 0) 47)) (Nat.le_trans HB.out.size hb2.size) (cheapV (tryL rs n).1 A2 (tryL rs n).2.1.length c2 (tryL rs n).2.2))
    have HI3 : Hid (IW ((w2.alloc (.cells (cheapV 0 none 0 0 0) 47)).setRow w2.heap.size (cheapV (tryL rs n).1 A2 (tryL rs n).2.1.length c2 (tryL rs n).2.2)) w.heap.size ((w2.alloc (.cells (cheapV 0 none 0 0 0) 47)).setRow w2.heap.size (cheapV (tryL rs n).1 A2 (tryL rs n).2.1.length c2 (tryL rs n).2.2)).heap.size A2 (tryL rs n).2.1) := by
      have hs := HB.out.size
      exact (IW.below (C := w2.heap.size) HI2.out (below_setRow ((Below.refl _ w2).alloc (Nat.le_refl _) _) (Nat.le_refl _) _) (Nat.le_refl _)).wide hs (by simp [World.setRow]) (Nat.le_refl _)
    obtain ⟨W3, hW3⟩ : ∃ W3, (w2.alloc (.cells (cheapV 0 none 0 0 0) 47)).setRow w2.heap.size (cheapV (tryL rs n).1 A2 (tryL rs n).2.1.length c2 (tryL rs n).2.2) = W3 := ⟨_, rfl⟩
    rw [hW3] at p0 p1 HB2 HI3
    replace p0 : W3.cell? ⟨w2.heap.size, 0, none⟩ = some (.int .i64 (tryL rs n).1) := p0
    replace p1 : W3.cell? ⟨w2.heap.size, 1, none⟩ = some (.slice A2 (tryL rs n).2.1.length c2) := p1
    have HW3 := Lib.hid hW3
    clear hb2 hi2 HL bP hW3
    go_wp2_with (first | (refine wpList_alX rfl rfl zeroT_cheap ?_) | (refine wpList_stX rfl _ _ rfl rfl rfl bN rowT_cheap (cheapV_size _ _ _ _ _) (cheapV_size _ _ _ _ _) (cheapV_one _ _ _ _ _) ?_))
    rw [HW3.out]
    clear HW3 bN
    go_quiet (fail)
    go_wp2
    go_ret3
    rw [HM.out.1, HM.out.2.1]
    exact ⟨A2, c2, rfl, HI3.out.drewN _, below_drawN HB2.out _⟩
end Go.Proofs.Ytanmjaljcnihlaa

namespace Go.Proofs.Ytanmjaljcnihlaa
open Go.RowKit

theorem cells_below {w w' : World} {b : Nat} {xs : List Int} (h : Cells w b 0 xs) (hb : Below w.heap.size w w') (hs : b < w.heap.size) : Cells w' b 0 xs := fun j hj =>
  ⟨(hb.cell (p := ⟨b, 0 + j, none⟩) hs).trans (h j hj).1, (World.frozen?_of_block (hb.block b hs)).trans (h j hj).2⟩
theorem costsM_no {rs : List (List Int)} (h : givenB rs = false ∨ 12 ≤ mostL rs) : costsM rs = none := by
  unfold costsM
  rcases h with h | h
  · rw [h]; rfl
  · rw [decide_eq_false (show ¬ mostL rs + 1 ≤ 12 by omega)]; simp
theorem costsM_yes {rs : List (List Int)} (h1 : givenB rs = true) (h2 : mostL rs < 12) : costsM rs = doneM (costsL rs) := by
  unfold costsM
  rw [h1, decide_eq_true (show mostL rs + 1 ≤ 12 by omega)]
  rfl
theorem least_cost {rs : List (List Int)} (h : givenB rs = true) {k : Nat} (hk : k < (costsL rs).length) : (comb (0, [], 0) (tryL rs (k : Int))).1 = (costsL rs)[k] ∧ (k : Int) ≤ mostL rs := by
  obtain ⟨g1, g2, g3⟩ := given_true.1 h
  obtain ⟨c1, c2⟩ := costs_is g1 g3
  have hm := most_le h
  have hkm : (k : Int) ≤ mostL rs := by omega
  have hok : shareOk rs (k : Int) = true := by unfold shareOk; rw [h, inB_true.2 ⟨by omega, hkm⟩]; rfl
  refine ⟨?_, hkm⟩
  rw [share_found hok, ← c2 k hk, getD_at hk]

set_option maxRecDepth 100000 in
set_option maxHeartbeats 2000000 in
theorem implShareCosts_any (A : Option Addr) (c : Nat) (rs : List (List Int)) (w : World) (h : IRR w 0 w.heap.size A rs) :
    Calls Try.prog 29 #[.slice A rs.length c] w (RetSB w (costsM rs)) := by
  have H := Lib.hid h
  clear h
  have hmk : ∀ (n : Nat), n ≤ 17592186044416 → ∀ w : World, (Instr.makeSlice 54 (.int .i64 (n : Int)) (.int .i64 (n : Int))).run Try.prog w = .ok (.slice (some ⟨w.heap.size, 0, none⟩) n n) (w.alloc (.cells (madeCells #[.int .i64 0] n) 3)) := by
    intro n hn w
    obtain ⟨i0, hi, hz0, hz1, hz2⟩ := info_parts info_int
    have hr := run_make (P := Try.prog) w 54 3 i0 (.int .i64 0) Try.underlying54 hi hz0 .i64 .i64 n n (by omega) (Int.le_refl _) (by rw [hz2]; omega) (by omega)
    rw [hz1] at hr
    simpa [Value.cells] using hr
  have HMK := Lib.hid hmk
  clear hmk
  go_enter Try.func29, Try.ntmps29
  cases hg : givenB rs with
  | false =>
    have HM := Lib.hid (costsM_no (.inl hg))
    have HG := Lib.hid hg
    clear hg
    go_wp2_with fail
    refine (areRows_of H.out HG.out rfl).mono ?_
    rintro e w1 ⟨rfl, hb⟩
    have HB := Lib.hid hb
    clear hb
    go_wp2
    go_ret2
    rw [HM.out]
    exact retSB_none HB.out
  | true =>
    have HG := Lib.hid hg
    have hml := most_le hg
    have hfit := given_fit hg
    have HGT := Lib.hid (given_true.1 hg)
    have HFT := Lib.hid hfit
    clear hg hfit
    go_wp2_with fail
    refine (areRows_of H.out HG.out rfl).mono ?_
    rintro e w1 ⟨rfl, hb⟩
    have HB := Lib.hid hb
    have H2 := Lib.hid (H.out.grow hb)
    have HMO := Lib.hid (most_any A c _ _ rs w1 H2.out (fun r hr => (HFT.out r hr).2) HGT.out.2.2)
    clear hb
    obtain ⟨M, hM⟩ : ∃ M, mostL rs = M := ⟨_, rfl⟩
    rw [hM] at hml HMO
    go_wp2_with fail
    refine HMO.out.mono ?_
    rintro e w2 ⟨rfl, rfl⟩
    by_cases h12 : 12 ≤ M
    · have HM := Lib.hid (costsM_no (rs := rs) (.inr (by rw [hM]; exact h12)))
      clear hM
      go_wp2
      go_ret2
      rw [HM.out]
      exact retSB_none HB.out
    · have HM := Lib.hid (costsM_yes HG.out (by rw [hM]; omega))
      have h12' : ¬ (12 : Int) ≤ M := h12
      obtain ⟨c1, c2⟩ := costs_is HGT.out.1 HGT.out.2.2
      have HLC := Lib.hid (fun k hk => least_cost HG.out (k := k) hk)
      obtain ⟨n, hn⟩ : ∃ n : Nat, (n : Int) = M + 1 := ⟨(M + 1).toNat, by omega⟩
      have hcl : (costsL rs).length = n := by rw [c1, hM]; omega
      have HCL := Lib.hid hcl
      have s0 : IntKind.i64.wrap (M + 1) = (n : Int) := by rw [hn]; exact IntWalk.i64_in _ (by omega)
      have hn12 : n ≤ 12 := by omega
      have hn1 : 1 ≤ n := by omega
      have hmk := HMK.out n (by omega) w2
      clear hM c1 c2 hn
      go_wp2_with fail
      refine HMO.out.mono ?_
      rintro e w9 ⟨rfl, h9⟩
      subst h9
      go_wp2
      clear hmk
      go_loopw [22] (fun x wr => ∃ k : Nat, k ≤ n ∧ x = .int .i64 (k : Int) ∧ Cells wr w9.heap.size 0 (fillTo (costsL rs) k) ∧ Below w9.heap.size w9 wr ∧ w9.heap.size < wr.heap.size) (fun x _ => n - (intOf x).toNat)
      case atStart => exact ⟨0, Nat.zero_le _, rfl, by rw [fillTo_zero, HCL.out]; exact Cells.made _ _ _, (Below.refl _ _).alloc (Nat.le_refl _) _, by simp⟩
      case round =>
        clear HMO
        obtain ⟨k, hk, rfl, hcs, hbl, hsz⟩ := hrel
        have HC := Lib.hid hcs; have HBW := Lib.hid hbl
        clear hcs hbl
        by_cases hkn : k < n
        · have hkn' : (k : Int) < (n : Int) := by omega
          have k0 : (0 : Int) ≤ (k : Int) := by omega
          have hkl : k < (costsL rs).length := by rw [HCL.out]; exact hkn
          obtain ⟨g1, g2⟩ := HLC.out k hkl
          have HL := Lib.hid (leastS_any A c rs.length (k : Int) rs wr ((H2.out.below HBW.out H2.out.2.1).toAll) HFT.out rfl (by have := HGT.out.2.1; omega) HGT.out.2.2 ⟨by omega, by omega⟩)
          rw [g1] at HL
          obtain ⟨y, hy⟩ : ∃ y, (costsL rs)[k] = y := ⟨_, rfl⟩
          rw [hy] at HL
          have HY := Lib.hid hy
          clear g1 g2 hy
          go_wp2_with fail
          refine HL.out.mono ?_
          rintro e w3 ⟨A3, c3, rfl, hi3, hb3⟩
          have hcs3 := cells_below HC.out hb3 hsz
          have hf := hcs3.fillAt hkl
          rw [Nat.zero_add] at hf
          obtain ⟨f1, f2⟩ := hf
          have hcn := hcs3.fill hkl
          rw [Nat.zero_add, HY.out] at hcn
          have HCN := Lib.hid hcn; have HB3 := Lib.hid (HBW.out.trans (hb3.mono HBW.out.size)); have HS3 := Lib.hid (Nat.lt_of_lt_of_le hsz hb3.size)
          have hrc := run_cheap0 y (comb (0, [], 0) (tryL rs (k : Int))).2.2 A3 (comb (0, [], 0) (tryL rs (k : Int))).2.1.length c3
          clear hb3 hi3 hcs3 hcn HL HC
          unfold cheapV
          go_wp2
          go_roundw
          case rel => exact ⟨k + 1, by omega, by go_num, HCN.out, HB3.out.setCell (p := ⟨w9.heap.size, k, none⟩) (Nat.le_refl _) _, by simpa [World.setCell] using HS3.out⟩
          case measure => simp [intOf]; omega
        · obtain rfl : k = n := by omega
          have hkn' : ¬ (k : Int) < (k : Int) := by omega
          have hfa := fillTo_all (costsL rs)
          have hcs := HC.out
          rw [← HCL.out, hfa] at hcs
          have HBT := Lib.hid (HB.out.trans (HBW.out.mono HB.out.size))
          obtain ⟨g1, g2, g3⟩ := given_true.1 HG.out
          have hz : ∀ z, z ∈ costsL rs → I64 z := fun z hz => by
            have h := (fold_facts HG.out rs.length (Nat.le_refl _)).1
            rw [foldTo_all] at h
            obtain ⟨j, hj, rfl⟩ := List.getElem_of_mem hz
            have := h j
            rw [getD_at hj] at this
            exact ⟨by omega, by omega⟩
          have hiw : IW wr w.heap.size wr.heap.size (some ⟨w9.heap.size, 0, none⟩) (costsL rs) := Cells.iw hcs HCL.out HB.out.size hsz (Nat.le_refl _) (by omega) hz
          have HIW := Lib.hid hiw
          clear hcs hfa hz hiw g1 g2 g3
          have hle := HCL.out
          cases hrow : rowB (costsL rs) with
          | false =>
            have HC := Lib.hid (checked_false (some ⟨w9.heap.size, 0, none⟩) k _ _ (costsL rs) wr HIW.out.toIR hrow)
            rw [HCL.out] at HC
            have HM2 : Hid (costsM rs = none) := by show _ = _; rw [HM.out]; unfold doneM; rw [hrow]; rfl
            clear hrow hle
            go_wp2_with fail
            refine HC.out.mono ?_
            rintro e w4 ⟨rfl, hb4⟩
            have HB4 := Lib.hid (HBT.out.trans (hb4.mono HBT.out.size))
            clear hb4
            go_wp2
            go_ret2
            rw [HM2.out]
            exact retSB_none HB4.out
          | true =>
            have HC := Lib.hid (checked_true (some ⟨w9.heap.size, 0, none⟩) k _ _ (costsL rs) wr HIW.out.toIR hrow)
            rw [HCL.out] at HC
            have HM2 : Hid (costsM rs = some (costsL rs)) := by show _ = _; rw [HM.out]; unfold doneM; rw [hrow]; rfl
            clear hrow hle
            go_wp2_with fail
            refine HC.out.mono ?_
            rintro e w4 ⟨rfl, hb4⟩
            have HB4 := Lib.hid (HBT.out.trans (hb4.mono HBT.out.size))
            have HI4 := Lib.hid ((HIW.out.below hb4 (Nat.le_refl _)).wide (Nat.le_refl _) hb4.size (Nat.le_refl _))
            clear hb4
            go_wp2
            go_ret2
            rw [HM2.out]
            exact retSB_some HCL.out.symm HI4.out HB4.out
end Go.Proofs.Ytanmjaljcnihlaa
