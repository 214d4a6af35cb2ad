/-
  Sharing in the program, all functions of chapter 6 but ShareGreedy. Conditions: the cells are there.
-/
import Derived.Test.YtanoojpmokbiaabSsA
import Derived.Test.YtanoojpmokbiaabPart2
import Derived.Test.YtanoojpmokbiaabBent2
import Derived.Test.YtanoojpmokbiaabTbS
import Derived.Test.YtanoojpmokbiaabHeldE
import Derived.Test.YtanoojpmokbiaabChg
namespace Go.Proofs.Ytanoojpmokbiaab
open Go.RowKit

theorem all_not {rs : List (List Int)} {f : List Int → Bool} {k : Nat} (hk : k < rs.length) (h : f rs[k] = false) : rs.all f = false := List.all_eq_false.2 ⟨rs[k], List.getElem_mem hk, by rw [h]; simp⟩
theorem all_yes {rs : List (List Int)} {f : List Int → Bool} (h : ∀ (k : Nat) (hk : k < rs.length), f rs[k] = true) : rs.all f = true := List.all_eq_true.2 fun x hx => by
  obtain ⟨j, hj, rfl⟩ := List.getElem_of_mem hx
  exact h j hj

set_option maxRecDepth 100000 in
set_option maxHeartbeats 1000000 in
theorem all1_isRow (A : Option Addr) (c B : Nat) (zs : List Int) (w : World) (h : IR w 0 w.heap.size A zs) (_hr : True) (hB : Boxed w B 55 (.func (.func 45) #[] #[])) :
    Calls Try.prog 47 #[.slice A zs.length c, .pointer (some ⟨B, 0, none⟩)] w fun e w' => e = .returned (.bool (!rowB zs)) ∧ Below w.heap.size w w' := by
  have H := Lib.hid h
  have hc := hB.cell
  have HC := Lib.hid (isRow_any A c zs w h)
  clear h hB
  go_enter Try.func47, Try.ntmps47
  go_wp2_with fail
  refine HC.out.mono ?_
  rintro e w1 ⟨rfl, hb⟩
  have HB := Lib.hid hb
  clear hb
  go_wp2
  go_ret
  exact ⟨rfl, HB.out⟩

set_option maxRecDepth 100000 in
set_option maxHeartbeats 1000000 in
theorem index_isRow (A : Option Addr) (c B : Nat) (rs : List (List Int)) (w : World) (h : IRR w 0 w.heap.size A rs) (hr : ∀ (k : Nat) (_hk : k < rs.length), True) (hB : Boxed w B 55 (.func (.func 45) #[] #[])) (hBw : B < w.heap.size) :
    Calls Try.prog 59 #[.slice A rs.length c, .func (.func 47) #[] #[.pointer (some ⟨B, 0, none⟩)]] w fun e w' => ∃ k : Int, e = .returned (.int .i64 k) ∧ decide (0 ≤ k) = !rs.all rowB ∧ Below w.heap.size w w' := by
  have hl := h.1
  have H := Lib.hid h; have HB := Lib.hid hB; have HR := Lib.hid hr
  clear h hB hr
  go_enter Try.func59, Try.ntmps59
  go_wp2
  go_loopw [8] (fun i wr => ∃ k : Nat, k ≤ rs.length ∧ i = .int .i64 (k : Int) ∧ Below w.heap.size w wr ∧ Hid (∀ (j : Nat) (hj : j < rs.length), j < k → rowB rs[j] = true)) (fun i _ => rs.length - (intOf i).toNat)
  case atStart => exact ⟨0, Nat.zero_le _, rfl, Below.refl _ _, fun j _ hj => absurd hj (by omega)⟩
  case round =>
    obtain ⟨k, hk, rfl, hb, hok⟩ := hrel
    have HBl := Lib.hid hb
    by_cases hlt : k < rs.length
    · have HW := Lib.hid ((H.out.grow hb).toAll)
      have hBx : Boxed wr B 55 (.func (.func 45) #[] #[]) := (hb.block B hBw).trans HB.out
      obtain ⟨b, off, Ak, ck, rfl, _, hc, _, hrow⟩ := HW.out.at_ hlt
      have HC := Lib.hid (all1_isRow Ak ck B rs[k] wr hrow trivial hBx)
      have hlt' : (k : Int) < (rs.length : Int) := by omega
      have k0 : (0 : Int) ≤ (k : Int) := by omega
      have HNO := Lib.hid (fun h => all_not (f := rowB) hlt h)
      obtain ⟨q, hq⟩ : ∃ q, rowB rs[k] = q := ⟨_, rfl⟩
      have HQ := Lib.hid hq
      rw [hq] at HC HNO
      clear hb hBx hrow hq
      cases q with
      | false =>
        go_wp2_with fail
        refine HC.out.mono ?_
        rintro e w1 ⟨rfl, hb⟩
        have HB1 := Lib.hid hb
        clear hb
        go_wp2
        go_ret
        exact ⟨(k : Int), rfl, by rw [HNO.out (by trivial)]; simp, HBl.out.trans (HB1.out.mono HBl.out.size)⟩
      | true =>
        clear HNO
        go_wp2_with fail
        refine HC.out.mono ?_
        rintro e w1 ⟨rfl, hb⟩
        have HB1 := Lib.hid hb
        clear hb
        go_wp2
        go_roundw
        case rel =>
          refine ⟨k + 1, by omega, by go_num, HBl.out.trans (HB1.out.mono HBl.out.size), fun j hj h1 => ?_⟩
          by_cases e : j = k
          · subst e; exact HQ.out
          · exact hok.out j hj (by omega)
        case measure => simp [intOf]; omega
    · obtain rfl : k = rs.length := by omega
      have HA : Hid (rs.all rowB = true) := all_yes fun j hj => hok.out j hj hj
      have hlt' : ¬ (rs.length : Int) < (rs.length : Int) := by omega
      clear hok hb
      go_wp2
      go_ret
      exact ⟨-1, rfl, by rw [HA.out]; rfl, HBl.out⟩

set_option maxRecDepth 100000 in
set_option maxHeartbeats 1000000 in
theorem all_isRow (A : Option Addr) (c : Nat) (rs : List (List Int)) (w : World) (h : IRR w 0 w.heap.size A rs) (hr : ∀ (k : Nat) (_hk : k < rs.length), True) :
    Calls Try.prog 34 #[.slice A rs.length c, .func (.func 45) #[] #[]] w fun e w' => e = .returned (.bool (rs.all rowB)) ∧ Below w.heap.size w w' := by
  have B0 : Below w.heap.size w (w.alloc (.cells #[.func (.func 45) #[] #[]] 55)) := (Below.refl _ _).alloc (Nat.le_refl _) _
  have hI := index_isRow A c w.heap.size rs (w.alloc (.cells #[.func (.func 45) #[] #[]] 55)) ((h.grow B0).toAll) hr (Boxed.new _ _ _) (by simp)
  have HI := Lib.hid hI; have HB := Lib.hid B0
  clear h hr B0 hI
  have HCF : Hid (Calls Try.prog 46 #[.slice A rs.length c, .func (.func 47) #[] #[.pointer (some ⟨w.heap.size, 0, none⟩)]] (w.alloc (.cells #[.func (.func 45) #[] #[]] 55)) fun e w' => e = .returned (.bool (!rs.all rowB)) ∧ Below (w.heap.size + 1) (w.alloc (.cells #[.func (.func 45) #[] #[]] 55)) w') := by
    show Calls _ _ _ _ _
    obtain ⟨W, hW⟩ : ∃ W, w.alloc (.cells #[.func (.func 45) #[] #[]] 55) = W := ⟨_, rfl⟩
    have hs : W.heap.size = w.heap.size + 1 := by rw [← hW]; simp
    rw [hW] at HI
    rw [hW, ← hs]
    clear hW hs
    go_enter Try.func46, Try.ntmps46
    go_wp2_with fail
    refine HI.out.mono ?_
    rintro e w1 ⟨k, rfl, hk, hb⟩
    have HB1 := Lib.hid hb; have HK := Lib.hid hk
    clear hb
    by_cases k0 : 0 ≤ k
    · have hk' : (!rs.all rowB) = true := by rw [← hk]; simp [k0]
      have HK' := Lib.hid hk'
      clear hk hk'
      go_wp2
      go_ret
      first | exact ⟨ret_bool HK'.out.symm, HB1.out⟩ | exact ⟨ret_bool HK.out, HB1.out⟩
    · have hk' : (!rs.all rowB) = false := by rw [← hk]; simp [k0]
      have HK' := Lib.hid hk'
      clear hk hk'
      go_wp2
      go_ret
      first | exact ⟨ret_bool HK'.out.symm, HB1.out⟩ | exact ⟨ret_bool HK.out, HB1.out⟩
  clear HI
  go_enter Try.func34, Try.ntmps34
  go_wp2_with fail
  refine HCF.out.mono ?_
  rintro e w1 ⟨rfl, hb⟩
  have HB1 := Lib.hid hb
  clear hb
  go_wp2
  go_ret
  exact ⟨ret_bool (by simp), HB.out.trans (HB1.out.mono (by simp))⟩

set_option maxRecDepth 100000 in
set_option maxHeartbeats 1000000 in
theorem all1_isBent (A : Option Addr) (c B : Nat) (zs : List Int) (w : World) (h : IR w 0 w.heap.size A zs) (hr : rowB zs = true) (hB : Boxed w B 55 (.func (.func 35) #[] #[])) :
    Calls Try.prog 47 #[.slice A zs.length c, .pointer (some ⟨B, 0, none⟩)] w fun e w' => e = .returned (.bool (!bentB zs)) ∧ Below w.heap.size w w' := by
  have H := Lib.hid h
  have hc := hB.cell
  have HC := Lib.hid (isBent_any A c zs w h hr)
  clear h hB
  go_enter Try.func47, Try.ntmps47
  go_wp2_with fail
  refine HC.out.mono ?_
  rintro e w1 ⟨rfl, hb⟩
  have HB := Lib.hid hb
  clear hb
  go_wp2
  go_ret
  exact ⟨rfl, HB.out⟩

set_option maxRecDepth 100000 in
set_option maxHeartbeats 1000000 in
theorem index_isBent (A : Option Addr) (c B : Nat) (rs : List (List Int)) (w : World) (h : IRR w 0 w.heap.size A rs) (hr : ∀ (k : Nat) (_hk : k < rs.length), rowB rs[k] = true) (hB : Boxed w B 55 (.func (.func 35) #[] #[])) (hBw : B < w.heap.size) :
    Calls Try.prog 59 #[.slice A rs.length c, .func (.func 47) #[] #[.pointer (some ⟨B, 0, none⟩)]] w fun e w' => ∃ k : Int, e = .returned (.int .i64 k) ∧ decide (0 ≤ k) = !rs.all bentB ∧ Below w.heap.size w w' := by
  have hl := h.1
  have H := Lib.hid h; have HB := Lib.hid hB; have HR := Lib.hid hr
  clear h hB hr
  go_enter Try.func59, Try.ntmps59
  go_wp2
  go_loopw [8] (fun i wr => ∃ k : Nat, k ≤ rs.length ∧ i = .int .i64 (k : Int) ∧ Below w.heap.size w wr ∧ Hid (∀ (j : Nat) (hj : j < rs.length), j < k → bentB rs[j] = true)) (fun i _ => rs.length - (intOf i).toNat)
  case atStart => exact ⟨0, Nat.zero_le _, rfl, Below.refl _ _, fun j _ hj => absurd hj (by omega)⟩
  case round =>
    obtain ⟨k, hk, rfl, hb, hok⟩ := hrel
    have HBl := Lib.hid hb
    by_cases hlt : k < rs.length
    · have HW := Lib.hid ((H.out.grow hb).toAll)
      have hBx : Boxed wr B 55 (.func (.func 35) #[] #[]) := (hb.block B hBw).trans HB.out
      obtain ⟨b, off, Ak, ck, rfl, _, hc, _, hrow⟩ := HW.out.at_ hlt
      have HC := Lib.hid (all1_isBent Ak ck B rs[k] wr hrow (HR.out k hlt) hBx)
      have hlt' : (k : Int) < (rs.length : Int) := by omega
      have k0 : (0 : Int) ≤ (k : Int) := by omega
      have HNO := Lib.hid (fun h => all_not (f := bentB) hlt h)
      obtain ⟨q, hq⟩ : ∃ q, bentB rs[k] = q := ⟨_, rfl⟩
      have HQ := Lib.hid hq
      rw [hq] at HC HNO
      clear hb hBx hrow hq
      cases q with
      | false =>
        go_wp2_with fail
        refine HC.out.mono ?_
        rintro e w1 ⟨rfl, hb⟩
        have HB1 := Lib.hid hb
        clear hb
        go_wp2
        go_ret
        exact ⟨(k : Int), rfl, by rw [HNO.out (by trivial)]; simp, HBl.out.trans (HB1.out.mono HBl.out.size)⟩
      | true =>
        clear HNO
        go_wp2_with fail
        refine HC.out.mono ?_
        rintro e w1 ⟨rfl, hb⟩
        have HB1 := Lib.hid hb
        clear hb
        go_wp2
        go_roundw
        case rel =>
          refine ⟨k + 1, by omega, by go_num, HBl.out.trans (HB1.out.mono HBl.out.size), fun j hj h1 => ?_⟩
          by_cases e : j = k
          · subst e; exact HQ.out
          · exact hok.out j hj (by omega)
        case measure => simp [intOf]; omega
    · obtain rfl : k = rs.length := by omega
      have HA : Hid (rs.all bentB = true) := all_yes fun j hj => hok.out j hj hj
      have hlt' : ¬ (rs.length : Int) < (rs.length : Int) := by omega
      clear hok hb
      go_wp2
      go_ret
      exact ⟨-1, rfl, by rw [HA.out]; rfl, HBl.out⟩

set_option maxRecDepth 100000 in
set_option maxHeartbeats 1000000 in
theorem all_isBent (A : Option Addr) (c : Nat) (rs : List (List Int)) (w : World) (h : IRR w 0 w.heap.size A rs) (hr : ∀ (k : Nat) (_hk : k < rs.length), rowB rs[k] = true) :
    Calls Try.prog 34 #[.slice A rs.length c, .func (.func 35) #[] #[]] w fun e w' => e = .returned (.bool (rs.all bentB)) ∧ Below w.heap.size w w' := by
  have B0 : Below w.heap.size w (w.alloc (.cells #[.func (.func 35) #[] #[]] 55)) := (Below.refl _ _).alloc (Nat.le_refl _) _
  have hI := index_isBent A c w.heap.size rs (w.alloc (.cells #[.func (.func 35) #[] #[]] 55)) ((h.grow B0).toAll) hr (Boxed.new _ _ _) (by simp)
  have HI := Lib.hid hI; have HB := Lib.hid B0
  clear h hr B0 hI
  have HCF : Hid (Calls Try.prog 46 #[.slice A rs.length c, .func (.func 47) #[] #[.pointer (some ⟨w.heap.size, 0, none⟩)]] (w.alloc (.cells #[.func (.func 35) #[] #[]] 55)) fun e w' => e = .returned (.bool (!rs.all bentB)) ∧ Below (w.heap.size + 1) (w.alloc (.cells #[.func (.func 35) #[] #[]] 55)) w') := by
    show Calls _ _ _ _ _
    obtain ⟨W, hW⟩ : ∃ W, w.alloc (.cells #[.func (.func 35) #[] #[]] 55) = W := ⟨_, rfl⟩
    have hs : W.heap.size = w.heap.size + 1 := by rw [← hW]; simp
    rw [hW] at HI
    rw [hW, ← hs]
    clear hW hs
    go_enter Try.func46, Try.ntmps46
    go_wp2_with fail
    refine HI.out.mono ?_
    rintro e w1 ⟨k, rfl, hk, hb⟩
    have HB1 := Lib.hid hb; have HK := Lib.hid hk
    clear hb
    by_cases k0 : 0 ≤ k
    · have hk' : (!rs.all bentB) = true := by rw [← hk]; simp [k0]
      have HK' := Lib.hid hk'
      clear hk hk'
      go_wp2
      go_ret
      first | exact ⟨ret_bool HK'.out.symm, HB1.out⟩ | exact ⟨ret_bool HK.out, HB1.out⟩
    · have hk' : (!rs.all bentB) = false := by rw [← hk]; simp [k0]
      have HK' := Lib.hid hk'
      clear hk hk'
      go_wp2
      go_ret
      first | exact ⟨ret_bool HK'.out.symm, HB1.out⟩ | exact ⟨ret_bool HK.out, HB1.out⟩
  clear HI
  go_enter Try.func34, Try.ntmps34
  go_wp2_with fail
  refine HCF.out.mono ?_
  rintro e w1 ⟨rfl, hb⟩
  have HB1 := Lib.hid hb
  clear hb
  go_wp2
  go_ret
  exact ⟨ret_bool (by simp), HB.out.trans (HB1.out.mono (by simp))⟩

set_option maxRecDepth 100000 in
set_option maxHeartbeats 1000000 in
theorem areRows_any (A : Option Addr) (c : Nat) (rs : List (List Int)) (w : World) (h : IRR w 0 w.heap.size A rs) :
    Calls Try.prog 32 #[.slice A rs.length c] w fun e w' => e = .returned (.bool (givenB rs)) ∧ Below w.heap.size w w' := by
  have HA := Lib.hid (all_isRow A c rs w h fun _ _ => trivial)
  by_cases h1 : 1 ≤ (rs.length : Int)
  · by_cases h2 : (rs.length : Int) ≤ 4
    · have HG : Hid (rs.all rowB = givenB rs) := by show _ = _; unfold givenB; rw [inB_true.2 ⟨h1, h2⟩, Bool.and_true]
      clear h
      go_enter Try.func32, Try.ntmps32
      go_wp2_with fail
      refine HA.out.mono ?_
      rintro e w1 ⟨rfl, hb⟩
      have HB := Lib.hid hb
      clear hb
      rw [HG.out]
      go_wp2
      go_ret
      exact ⟨rfl, HB.out⟩
    · have HG : Hid (givenB rs = false) := by show _ = _; unfold givenB; rw [show inB 1 4 (rs.length : Int) = false by simp [inB, h2], Bool.and_false]
      clear h HA
      go_enter Try.func32, Try.ntmps32
      go_wp2
      go_ret
      exact ⟨ret_bool HG.out.symm, Below.refl _ _⟩
  · have HG : Hid (givenB rs = false) := by show _ = _; unfold givenB; rw [show inB 1 4 (rs.length : Int) = false by simp [inB, h1], Bool.and_false]
    clear h HA
    go_enter Try.func32, Try.ntmps32
    go_wp2
    go_ret
    exact ⟨ret_bool HG.out.symm, Below.refl _ _⟩
theorem areRows_of {b : Bool} {A : Option Addr} {c n lo hi : Nat} {rs : List (List Int)} {w : World} (h : IRR w lo hi A rs) (hb : givenB rs = b) (hn : n = rs.length) :
    Calls Try.prog 32 #[.slice A n c] w fun e w' => e = .returned (.bool b) ∧ Below w.heap.size w w' := by
  subst hb; subst hn; exact areRows_any A c rs w h.toAll

set_option maxRecDepth 100000 in
set_option maxHeartbeats 1000000 in
theorem isSharing_any (A : Option Addr) (c : Nat) (rs : List (List Int)) (A1 : Option Addr) (c1 : Nat) (l : List Int) (w : World) (h : IRR w 0 w.heap.size A rs) (h1 : IR w 0 w.heap.size A1 l) :
    Calls Try.prog 30 #[.slice A rs.length c, .slice A1 l.length c1] w fun e w' => e = .returned (.bool (placesB rs l)) ∧ Below w.heap.size w w' := by
  have hl := h.1
  have hl1 := h1.1
  have H := Lib.hid h; have H1 := Lib.hid h1
  clear h h1
  go_enter Try.func30, Try.ntmps30
  cases hg : givenB rs with
  | false =>
    have HM : Hid (placesB rs l = false) := by show _ = _; unfold placesB; rw [hg]; rfl
    have HG := Lib.hid hg
    clear hg
    go_wp2_with fail
    refine (areRows_of H.out HG.out rfl).mono ?_
    rintro e w1 ⟨rfl, hb⟩
    have HB := Lib.hid hb
    clear hb
    go_wp2
    go_ret
    exact ⟨ret_bool HM.out.symm, HB.out⟩
  | true =>
    have HG := Lib.hid hg
    clear hg
    go_wp2_with fail
    refine (areRows_of H.out HG.out rfl).mono ?_
    rintro e w1 ⟨rfl, hb⟩
    have HB := Lib.hid hb
    have H2 := Lib.hid (H.out.grow hb); have H3 := Lib.hid (H1.out.grow hb)
    clear hb
    by_cases hll : l.length = rs.length
    · have HLL := Lib.hid hll
      have hq : (l.length : Int) = (rs.length : Int) := by omega
      obtain ⟨n, hn⟩ : ∃ n, l.length = n := ⟨_, rfl⟩
      have HN := Lib.hid hn
      have hrn : rs.length = n := by omega
      have HRN := Lib.hid hrn
      rw [hn] at hl1 hll
      rw [hn, hrn]
      clear hll hq hn hrn hl
      go_wp2
      go_loop [19] (fun i => ∃ k : Nat, k ≤ n ∧ i = .int .i64 (k : Int) ∧ Hid (∀ j, j < k → inB 0 (((rowAt rs j).length : Int) - 1) (l.getD j 0) = true)) (fun i => n - (intOf i).toNat)
      case atStart => exact ⟨0, Nat.zero_le _, rfl, fun j hj => absurd hj (by omega)⟩
      case round =>
        obtain ⟨k, hk, rfl, hok⟩ := hrel
        by_cases hlt : k < n
        · have hkr : k < rs.length := by rw [HRN.out]; exact hlt
          have hkl : k < l.length := by rw [HN.out]; exact hlt
          obtain ⟨b, off, Ak, ck, rfl, _, hc, _, hrow⟩ := H2.out.at_ hkr
          obtain ⟨b1, off1, rfl, _, _, hc1⟩ := H3.out.at_ hkl
          have hrl := hrow.1
          obtain ⟨x, hx⟩ : ∃ x, l[k] = x := ⟨_, rfl⟩
          obtain ⟨m, hm⟩ : ∃ m, rs[k].length = m := ⟨_, rfl⟩
          have hgx : l.getD k 0 = x := by rw [getD_at hkl, hx]
          have hrm : (rowAt rs k).length = m := by rw [rowAt_get hkr, hm]
          rw [hx] at hc1
          rw [hm] at hc hrl
          have hlt' : (k : Int) < (n : Int) := by omega
          have k0 : (0 : Int) ≤ (k : Int) := by omega
          obtain ⟨p, hp⟩ : ∃ p, inB 0 ((m : Int) - 1) x = p := ⟨_, rfl⟩
          have HP : Hid (inB 0 (((rowAt rs k).length : Int) - 1) (l.getD k 0) = p) := by show _ = _; rw [hgx, hrm]; exact hp
          have HJ := Lib.hid (fun W => isPlace_b p Ak m ck x W hp)
          clear hp hgx hrm hx hm hrow
          cases p with
          | false =>
            have HM := Lib.hid (places_bad hkl HP.out)
            go_wp2_with fail
            refine (HJ.out _).mono ?_
            rintro e w2 ⟨rfl, rfl⟩
            go_wp2
            go_ret
            exact ⟨ret_bool HM.out.symm, HB.out⟩
          | true =>
            go_wp2_with fail
            refine (HJ.out _).mono ?_
            rintro e w2 ⟨rfl, rfl⟩
            go_wp2
            go_round
            case rel =>
              refine ⟨k + 1, by omega, by go_num, fun j hj => ?_⟩
              by_cases e : j = k
              · subst e; exact HP.out
              · exact hok.out j (by omega)
            case measure => simp [intOf]; omega
        · obtain rfl : k = n := by omega
          have HM : Hid (placesB rs l = true) := places_all HG.out HLL.out fun j hj => hok.out j (by rw [← HN.out]; exact hj)
          have hlt' : ¬ (k : Int) < (k : Int) := by omega
          clear hok
          go_wp2
          go_ret
          exact ⟨ret_bool HM.out.symm, HB.out⟩
    · have HM : Hid (placesB rs l = false) := by show _ = _; unfold placesB; rw [decide_eq_false hll]; simp
      have hq : ¬ (l.length : Int) = (rs.length : Int) := by omega
      go_wp2
      go_ret
      exact ⟨ret_bool HM.out.symm, HB.out⟩
theorem isSharing_of {b : Bool} {A : Option Addr} {c lo hi : Nat} {rs : List (List Int)} {A1 : Option Addr} {c1 lo1 hi1 : Nat} {l : List Int} {n m : Nat} {w : World} (h : IRR w lo hi A rs) (h1 : IR w lo1 hi1 A1 l) (hb : placesB rs l = b) (hn : n = rs.length) (hm : m = l.length) :
    Calls Try.prog 30 #[.slice A n c, .slice A1 m c1] w fun e w' => e = .returned (.bool b) ∧ Below w.heap.size w w' := by
  subst hb; subst hn; subst hm; exact isSharing_any A c rs A1 c1 l w h.toAll h1.toAll

set_option maxRecDepth 100000 in
set_option maxHeartbeats 1000000 in
theorem implShareCost_any (A : Option Addr) (c : Nat) (rs : List (List Int)) (A1 : Option Addr) (c1 : Nat) (l : List Int) (w : World) (h : IRR w 0 w.heap.size A rs) (h1 : IR w 0 w.heap.size A1 l) :
    Calls Try.prog 17 #[.slice A rs.length c, .slice A1 l.length c1] w (RetIB w (placesB rs l) (shareCostL rs l)) := by
  have H := Lib.hid h; have H1 := Lib.hid h1
  clear h h1
  go_enter Try.func17, Try.ntmps17
  cases hp : placesB rs l with
  | false =>
    have HM : Hid (shareCostL rs l = 0) := by show _ = _; unfold shareCostL; rw [hp]; rfl
    have HP := Lib.hid hp
    clear hp
    go_wp2_with fail
    refine (isSharing_of H.out H1.out HP.out rfl rfl).mono ?_
    rintro e w1 ⟨rfl, hd⟩
    have HD := Lib.hid hd
    clear hd
    go_wp2
    go_ret2
    rw [HM.out]
    exact ⟨rfl, HD.out⟩
  | true =>
    have HM : Hid (shareCostL rs l = costS rs l) := by show _ = _; unfold shareCostL; rw [hp]; rfl
    have hln := (places_facts hp).1
    have hn4 := (places_facts hp).2.1
    have HP := Lib.hid hp
    obtain ⟨n, hn⟩ : ∃ n, l.length = n := ⟨_, rfl⟩
    have hrn : rs.length = n := by omega
    rw [hn, hrn]
    rw [hrn] at hn4
    have HN := Lib.hid hn; have HRN := Lib.hid hrn
    clear hp hln hn hrn
    go_wp2_with fail
    refine (isSharing_of H.out H1.out HP.out HRN.out.symm HN.out.symm).mono ?_
    rintro e w1 ⟨rfl, hd⟩
    have HB := Lib.hid hd
    have H2 := Lib.hid (H.out.grow hd); have H3 := Lib.hid (H1.out.grow hd)
    clear hd
    go_wp2
    go_loop [6, 15] (fun v i => ∃ k : Nat, k ≤ n ∧ i = .int .i64 (k : Int) ∧ v = .int .i64 (costTo rs l k)) (fun _ i => n - (intOf i).toNat)
    case atStart => exact ⟨0, Nat.zero_le _, rfl, rfl⟩
    case round =>
      obtain ⟨k, hk, rfl, rfl⟩ := hrel
      by_cases hlt : k < n
      · have hkr : k < rs.length := by rw [HRN.out]; exact hlt
        obtain ⟨b, off, bk, ok, ck, b1, off1, m, rfl, rfl, hc, hc1, ⟨hm1, hm2, hm3⟩, hcs, hbd⟩ := place_cells H2.out H3.out HP.out hkr
        have hcp := hcs _ hm1
        have hbp := hbd (plAt l k)
        have hct := costTo_bd HP.out (show k ≤ rs.length by omega)
        have hsc := costTo_succ rs l k
        obtain ⟨x, hx⟩ : ∃ x, (rowAt rs k).getD (plAt l k) 0 = x := ⟨_, rfl⟩
        obtain ⟨p, hpp⟩ : ∃ p, plAt l k = p := ⟨_, rfl⟩
        obtain ⟨s, hs⟩ : ∃ s, costTo rs l k = s := ⟨_, rfl⟩
        rw [hx] at hcp hbp hsc
        rw [hpp] at hc1 hm1 hcp
        rw [hs] at hct hsc
        rw [hs]
        have HSC := Lib.hid hsc
        have s1 : IntKind.i64.wrap (s + x) = s + x := IntWalk.i64_in _ (by omega)
        have hlt' : (k : Int) < (n : Int) := by omega
        have k0 : (0 : Int) ≤ (k : Int) := by omega
        have p0 : (0 : Int) ≤ (p : Int) := by omega
        have pm : (p : Int) < (m : Int) := by omega
        clear hcs hbd hct hsc hx hpp hs hm3 hbp
        go_wp2
        go_round
        case rel => exact ⟨k + 1, by omega, by go_num, by rw [HSC.out]⟩
        case measure => simp [intOf]; omega
      · obtain rfl : k = n := by omega
        have HC : Hid (costTo rs l k = costS rs l) := by show _ = _; rw [← costTo_all HP.out, HRN.out]
        have hlt' : ¬ (k : Int) < (k : Int) := by omega
        go_wp2
        go_ret2
        rw [HM.out, ← HC.out]
        exact ⟨rfl, HB.out⟩

def betB (rs : List (List Int)) (l : List Int) (i k : Nat) : Bool := decide (i ≠ k) && (decide (0 < plAt l i) && (decide (plAt l k + 1 < (rowAt rs k).length) && decide (frS rs l k < toS rs l i)))
theorem betB_n (rs : List (List Int)) (l : List Int) (i k : Nat) : betN rs l i k = if betB rs l i k = true then 1 else 0 := by
  have hmv : moveD rs l i k = frS rs l k - toS rs l i := rfl
  have h : (moveD rs l i k < 0) = (frS rs l k < toS rs l i) := by rw [hmv]; exact propext ⟨fun h => by omega, fun h => by omega⟩
  unfold betN betB
  simp only [h, Bool.and_eq_true, decide_eq_true_eq]

end Go.Proofs.Ytanoojpmokbiaab

namespace Go.Proofs.Ytanoojpmokbiaab
open Go.RowKit Go.Shelf
attribute [local go_sem] Oper.semAt_some

/-- The cheapest of what has been seen, as a value of three cells. -/
def cheapV (c : Int) (A : Option Addr) (n k : Nat) (q : Int) : Array Value := #[.int .i64 c, .slice A n k, .int .i64 q]
theorem cheapV_size (c : Int) (A : Option Addr) (n k : Nat) (q : Int) : (cheapV c A n k q).size = 3 := rfl
theorem cheapV_one (c : Int) (A : Option Addr) (n k : Nat) (q : Int) : (cheapV c A n k q).all (·.oneCell') = true := by simp [cheapV, Value.oneCell']
set_option maxRecDepth 100000 in
theorem rowT_cheap : RowT Try.prog 51 3 := ⟨⟨_, Try.underlying51, rfl⟩, rfl⟩
set_option maxRecDepth 100000 in
theorem zeroT_cheap : ZeroT Try.prog 51 (cheapV 0 none 0 0 0) := by show _ = _; kernel_rfl
/-- Block F holds the cheapest of what has been seen; its list lies behind base. -/
def Fnd (W : World) (F base : Nat) (st : Res) : Prop := ∃ A c, BX W F 51 (cheapV st.1 A st.2.1.length c st.2.2) ∧ IW W base W.heap.size A st.2.1

/-- Only the blocks P and F lie otherwise, and new blocks have been laid. -/
structure Only2 (P F : Nat) (w w' : World) : Prop where
  os : w'.os = w.os
  tape : w'.tape = w.tape
  output : w'.output = w.output
  size : w.heap.size ≤ w'.heap.size
  block : ∀ k, k < w.heap.size → k ≠ P → k ≠ F → w'.heap[k]? = w.heap[k]?
section
variable {P F : Nat} {a b c w : World}
theorem Only2.refl (P F : Nat) (w : World) : Only2 P F w w := ⟨rfl, rfl, rfl, Nat.le_refl _, fun _ _ _ _ => rfl⟩
theorem Only2.trans (h : Only2 P F a b) (k : Only2 P F b c) : Only2 P F a c :=
  ⟨k.os.trans h.os, k.tape.trans h.tape, k.output.trans h.output, Nat.le_trans h.size k.size, fun i hi h1 h2 => (k.block i (Nat.lt_of_lt_of_le hi h.size) h1 h2).trans (h.block i hi h1 h2)⟩
theorem Only2.of {P F : Nat} (h : Below a.heap.size a b) : Only2 P F a b := ⟨h.os, h.tape, h.output, h.size, fun k hk _ _ => h.block k hk⟩
theorem Only2.set_ (h : Only2 P F a b) {q : Addr} (hq : q.block = P ∨ q.block = F) (v : Value) : Only2 P F a (b.setCell q v) :=
  h.trans ⟨rfl, rfl, rfl, by simp [World.setCell], fun k _ h1 h2 => heap_setCell_other b q k v (fun e => by rcases hq with h | h <;> omega)⟩
theorem Only2.row (h : Only2 P F a b) (cs : Array Value) : Only2 P F a (b.setRow F cs) :=
  h.trans ⟨rfl, rfl, rfl, by simp [World.setRow], fun k _ _ h2 => setRow_other b F k cs h2⟩
theorem Only2.below {C : Nat} (h : Only2 P F a b) (hb : Below C w a) (hP : C ≤ P) (hF : C ≤ F) (hs : C ≤ a.heap.size) : Below C w b :=
  ⟨h.os.trans hb.os, h.tape.trans hb.tape, h.output.trans hb.output, Nat.le_trans hb.size h.size, fun k hk => (h.block k (by omega) (by omega) (by omega)).trans (hb.block k hk)⟩
theorem Only2.keeps (h : Only2 P F a b) (hP : ∃ o : Obj, a.heap[P]? = some o ∧ o.isCells = true) (hF : ∃ o : Obj, a.heap[F]? = some o ∧ o.isCells = true) : KeepsOthers a b :=
  ⟨h.size, fun k o hk ho => by
    refine (h.block k (Array.getElem?_eq_some_iff.1 hk).1 (fun e => ?_) (fun e => ?_)).trans hk
    · obtain ⟨o', h1, h2⟩ := hP
      rw [← e, hk] at h1
      injection h1 with h1
      rw [h1, h2] at ho
      cases ho
    · obtain ⟨o', h1, h2⟩ := hF
      rw [← e, hk] at h1
      injection h1 with h1
      rw [h1, h2] at ho
      cases ho⟩
theorem only2_own {β : Type} {B : Nat} (hB : w.heap.size ≤ B) : OwnFrom B (fun (_ : β) W => Only2 P F w W) := fun _ X Y row hs hg hr =>
  ⟨hg.os.trans hs.os, hg.tape.trans hs.tape, hg.output.trans hs.output, Nat.le_trans hs.size hg.size, fun k hk h1 h2 => (hg.block k (Nat.lt_of_lt_of_le hk hs.size) (fun e => by have := (hr k e.symm).1; omega)).trans (hs.block k hk h1 h2)⟩
end

theorem fnd_cells {W : World} {F base : Nat} {st : Res} (h : Fnd W F base st) : W.cell? ⟨F, 0, none⟩ = some (.int .i64 st.1) ∧ W.cell? ⟨F, 2, none⟩ = some (.int .i64 st.2.2) ∧ W.frozen? ⟨F, 2, none⟩ = false := by
  obtain ⟨A, c, hb, _⟩ := h
  exact ⟨hb.cell 0, hb.cell 2, hb.frozen 2⟩
theorem Fnd.lt {W : World} {F base : Nat} {st : Res} (h : Fnd W F base st) : F < W.heap.size := by
  obtain ⟨A, c, hb, _⟩ := h
  exact hb.lt
theorem Fnd.below {W W' : World} {F base : Nat} {st : Res} (h : Fnd W F base st) (hb : Below W.heap.size W W') : Fnd W' F base st := by
  obtain ⟨A, c, h1, h2⟩ := h
  exact ⟨A, c, h1.grow hb, (h2.below hb (Nat.le_refl _)).wide (Nat.le_refl _) hb.size (Nat.le_refl _)⟩

theorem built3 (c : Int) (A : Option Addr) (n k : Nat) (q : Int) : Try.prog.built 51 [(0, .int .i64 c), (1, .slice A n k), (2, .int .i64 q)] = some (cheapV c A n k q) := by kernel_rfl
set_option maxRecDepth 100000 in
theorem wpList_bu3 {ops : Array Oper} {rest : List Oper} {o : Oper} {a : Act} {w : World} {Q : Exit → Act → World → Prop} (hg : o.guard = none) (x y z : Operand) (ho : o.op = .build 51 #[(0, x), (1, y), (2, z)]) {c q : Int} {A : Option Addr} {n k : Nat} (hx : a.eval x = .int .i64 c) (hy : a.eval y = .slice A n k) (hz : a.eval z = .int .i64 q)
    (h : wpList Try.prog ops Q rest (a.put o.dst (.agg (cheapV c A n k q))) w) : wpList Try.prog ops Q (o :: rest) a w :=
  wpList_op hg (by unfold execOp; simp only [ho, Sem.run_bind, List.map_toArray, List.map_cons, List.map_nil, hx, hy, hz, run_build w _ _ _ (built3 c A n k q), Result.andThen_ok, Sem.run_pure]) h

set_option maxRecDepth 100000 in
set_option maxHeartbeats 2000000 in
theorem see_any (P F base n cp : Nat) (cost : Int) (st : Res) (xs : List Int) (w : World) (hF : F < base) (_hPF : P ≠ F) (hbs : base ≤ w.heap.size) (_hcost : -10000 ≤ cost ∧ cost ≤ 10000) (hcnt : 0 ≤ st.2.2 ∧ st.2.2 ≤ 100000) (hn : xs.length = n) (hn0 : 0 < n) (hn4 : n ≤ 4) (hxs : ∀ x, x ∈ xs → I64 x) (hPw : P < w.heap.size) (hx : Cells w P 0 xs) (h : Fnd w F base st) :
    Calls Try.prog 42 #[.pointer (some ⟨F, 0, none⟩), .slice (some ⟨P, 0, none⟩) n cp, .int .i64 cost] w fun e w' => (∃ v, e = .returned v) ∧ Fnd w' F base (comb st (cost, xs, 1)) ∧ Only2 F F w w' := by
  obtain ⟨c0, c2, f2⟩ := fnd_cells h
  obtain ⟨s1, s2, s3⟩ := st
  dsimp only at hcnt c0 c2
  have HF := Lib.hid h
  have hiw : IW w 0 w.heap.size (some ⟨P, 0, none⟩) xs := hx.iw hn (Nat.zero_le _) hPw (Nat.le_refl _) (by omega) hxs
  have hcl := fun W (hb : Below w.heap.size w W) => cloneInts_any (some ⟨P, 0, none⟩) cp _ _ xs W (by omega) (hiw.toIR.grow hb)
  rw [hn] at hcl
  have HCL := Lib.hid hcl
  have t1 : IntKind.i64.wrap (s3 + 1) = s3 + 1 := IntWalk.i64_in _ (by omega)
  have HBS := Lib.hid hbs; have HN := Lib.hid hn
  clear h hcl hiw hx hxs hbs hn
  by_cases z0 : s3 = 0
  · have HC : Hid (comb (s1, s2, s3) (cost, xs, 1) = (cost, xs, 1)) := by show _ = _; simp [comb, z0]
    rw [HC.out]
    go_enter Try.func42, Try.ntmps42
    go_wp2_with fail
    refine (HCL.out _ (Below.refl _ _)).mono ?_
    rintro e w1 ⟨A1, c1, rfl, hcap, hi1, hb1⟩
    rw [HN.out]
    obtain ⟨A0, c0', hbx, _⟩ := HF.out
    have hbx1 := hbx.grow hb1
    have HB := Lib.hid hb1; have HI := Lib.hid hi1; have HX := Lib.hid hbx1
    clear hb1 hi1 hbx hcap
    go_wp2_with (first | (refine wpList_bu3 rfl _ _ _ rfl rfl rfl rfl ?_) | (refine wpList_stX rfl _ _ rfl rfl rfl hbx1 rowT_cheap (cheapV_size _ _ _ _ _) (cheapV_size _ _ _ _ _) (cheapV_one _ _ _ _ _) ?_))
    go_end0
    have hs1 := HB.out.size
    have hbs := HBS.out
    refine ⟨⟨_, rfl⟩, ⟨A1, c1, by rw [HN.out]; exact HX.out.put _, ?_⟩, (Only2.of HB.out).row _⟩
    have hi := HI.out
    refine IW.keep (w := w1) (hi.wide hbs (by simp [World.setRow]) (by simp [World.setRow])) (by simp [World.setRow]) fun k h1 _ => setRow_other w1 F k _ (by omega)
  · have z0' : (s3 == 0) = false := by rw [beq_eq_false_iff_ne]; exact z0
    by_cases z1 : cost < s1
    · have HC : Hid (comb (s1, s2, s3) (cost, xs, 1) = (cost, xs, 1)) := by show _ = _; simp [comb, z1]
      rw [HC.out]
      go_enter Try.func42, Try.ntmps42
      go_wp2_with fail
      refine (HCL.out _ (Below.refl _ _)).mono ?_
      rintro e w1 ⟨A1, c1, rfl, hcap, hi1, hb1⟩
      rw [HN.out]
      obtain ⟨A0, c0', hbx, _⟩ := HF.out
      have hbx1 := hbx.grow hb1
      have HB := Lib.hid hb1; have HI := Lib.hid hi1; have HX := Lib.hid hbx1
      clear hb1 hi1 hbx hcap
      go_wp2_with (first | (refine wpList_bu3 rfl _ _ _ rfl rfl rfl rfl ?_) | (refine wpList_stX rfl _ _ rfl rfl rfl hbx1 rowT_cheap (cheapV_size _ _ _ _ _) (cheapV_size _ _ _ _ _) (cheapV_one _ _ _ _ _) ?_))
      go_end0
      have hs1 := HB.out.size
      have hbs := HBS.out
      refine ⟨⟨_, rfl⟩, ⟨A1, c1, by rw [HN.out]; exact HX.out.put _, ?_⟩, (Only2.of HB.out).row _⟩
      have hi := HI.out
      refine IW.keep (w := w1) (hi.wide hbs (by simp [World.setRow]) (by simp [World.setRow])) (by simp [World.setRow]) fun k h1 _ => setRow_other w1 F k _ (by omega)
    · have z1' : decide (cost < s1) = false := decide_eq_false z1
      by_cases z2 : cost = s1
      · have HC : Hid (comb (s1, s2, s3) (cost, xs, 1) = (s1, s2, s3 + 1)) := by show _ = _; simp [comb, z0, z2]
        have z2' : (cost == s1) = true := by rw [beq_iff_eq]; exact z2
        rw [HC.out]
        go_enter Try.func42, Try.ntmps42
        go_wp2
        go_end0
        obtain ⟨A0, c0', hbx, hi0⟩ := HF.out
        refine ⟨⟨_, rfl⟩, ⟨A0, c0', hbx.set_ 2 _, ?_⟩, (Only2.refl F F w).set_ (.inr rfl) _⟩
        exact IW.keep (w := w) (hi0.wide (Nat.le_refl _) (by simp [World.setCell]) (by simp [World.setCell])) (by simp [World.setCell]) fun k h1 _ => heap_setCell_other w _ k _ (by show k ≠ F; omega)
      · have HC : Hid (comb (s1, s2, s3) (cost, xs, 1) = (s1, s2, s3)) := by show _ = _; simp [comb, z0, z1, z2]
        have z2' : (cost == s1) = false := by rw [beq_eq_false_iff_ne]; exact z2
        rw [HC.out]
        go_enter Try.func42, Try.ntmps42
        go_wp2
        go_end0
        exact ⟨⟨_, rfl⟩, HF.out, Only2.refl _ _ _⟩

/-- What has been seen behind some places of a row. -/
def seeL (us : List (List Int)) (r : List Int) (left cost : Int) (pre0 : List Int) (st : Res) (pre : List (Fin r.length)) : Res := pre.foldl (fun (s : Res) (x : Fin r.length) => comb s (shiftT (cost + r[x]) (pre0 ++ [((x : Nat) : Int)]) (tryL us (left - ((x : Nat) : Int))))) st
theorem seeL_snoc (us : List (List Int)) (r : List Int) (left cost : Int) (pre0 : List Int) (st : Res) (pre : List (Fin r.length)) (x : Fin r.length) : seeL us r left cost pre0 st (pre ++ [x]) = comb (seeL us r left cost pre0 st pre) (shiftT (cost + r[x]) (pre0 ++ [((x : Nat) : Int)]) (tryL us (left - ((x : Nat) : Int)))) := by simp [seeL]
theorem seeL_take {us : List (List Int)} {r : List Int} {left cost : Int} {pre0 : List Int} {st : Res} (hs : 0 ≤ st.2.2) (hf : Fit us) (hr : ∀ z, z ∈ r → -1000 ≤ z ∧ z ≤ 1000) : ∀ k, k ≤ r.length → seeL us r left cost pre0 st ((List.finRange r.length).take k) = comb st (shiftT cost pre0 (tryTo (tryL us) r left k))
  | 0, _ => by
    rw [List.take_zero]
    exact (comb_none (show (shiftT cost pre0 (0, [], 0)).2.2 = 0 from rfl)).symm
  | k + 1, hk => by
    rw [← finRange_succ hk, seeL_snoc, seeL_take hs hf hr k (by omega), ← comb_next hs hf hr, getD_at hk]
    rfl
theorem seeL_all {us : List (List Int)} {r : List Int} {left cost : Int} {pre0 : List Int} {st : Res} (hs : 0 ≤ st.2.2) (hf : Fit us) (hr : ∀ z, z ∈ r → -1000 ≤ z ∧ z ≤ 1000) : seeL us r left cost pre0 st (List.finRange r.length) = comb st (shiftT cost pre0 (tryL (r :: us) left)) := by
  have h := seeL_take (left := left) (cost := cost) (pre0 := pre0) hs hf hr r.length (Nat.le_refl _)
  rw [List.take_of_length_le (by simp)] at h
  rw [h, tryTo_all]
theorem seeL_cnt {us : List (List Int)} {r : List Int} {left cost : Int} {pre0 : List Int} {st : Res} (hs : 0 ≤ st.2.2) (hf : Fit us) : ∀ pre : List (Fin r.length), 0 ≤ (seeL us r left cost pre0 st pre.reverse).2.2 ∧ (seeL us r left cost pre0 st pre.reverse).2.2 ≤ st.2.2 + (pre.length : Int) * pow12 us.length
  | [] => ⟨hs, by simp [seeL]⟩
  | x :: pre => by
    rw [List.reverse_cons, seeL_snoc]
    have ih := seeL_cnt (left := left) (cost := cost) (pre0 := pre0) hs hf pre
    have h := comb_cnt ih (show 0 ≤ (shiftT (cost + r[x]) (pre0 ++ [((x : Nat) : Int)]) (tryL us (left - ((x : Nat) : Int)))).2.2 ∧ _ ≤ pow12 us.length from (try_small hf _).1)
    rw [List.length_cons, Int.natCast_succ, Int.add_mul, Int.one_mul]
    omega
theorem seeL_cnt' {us : List (List Int)} {r : List Int} {left cost : Int} {pre0 : List Int} {st : Res} (hs : 0 ≤ st.2.2) (hf : Fit us) (pre : List (Fin r.length)) : 0 ≤ (seeL us r left cost pre0 st pre).2.2 ∧ (seeL us r left cost pre0 st pre).2.2 ≤ st.2.2 + (pre.length : Int) * pow12 us.length := by
  have h := seeL_cnt (left := left) (cost := cost) (pre0 := pre0) hs hf pre.reverse
  rwa [List.reverse_reverse, List.length_reverse] at h

/-- The variables that the closure shares. -/
structure Env (W : World) (n : Nat) (A : Option Addr) (c bs bf bp bh P : Nat) : Prop where
  s : Boxed W bs 46 (.slice A n c)
  p : Boxed W bp 24 (.slice (some ⟨P, 0, none⟩) n n)
  h : Boxed W bh 66 (.func (.func 41) #[] #[.pointer (some ⟨bs, 0, none⟩), .pointer (some ⟨bf, 0, none⟩), .pointer (some ⟨bp, 0, none⟩), .pointer (some ⟨bh, 0, none⟩)])
/-- The places, the first ones told. -/
def PlX (W : World) (P n i : Nat) (pre : List Int) : Prop := ∃ xs : List Int, xs.length = n ∧ xs.take i = pre ∧ (∀ x, x ∈ xs → I64 x) ∧ Cells W P 0 xs
theorem kept_block {X Y : World} {row : Option Nat} (hg : X.grownBy Y row) (hr : ∀ r, row = some r → ∃ o : Obj, X.heap[r]? = some o ∧ o.isCells = false) {g : Nat} {cs : Array Value} {t : TypeId} (h : X.heap[g]? = some (.cells cs t (0, 0))) : Y.heap[g]? = some (.cells cs t (0, 0)) := by
  refine (hg.block g (Array.getElem?_eq_some_iff.1 h).1 fun e => ?_).trans h
  obtain ⟨o, ho, hc⟩ := hr g e.symm
  rw [h] at ho; cases ho; cases hc
theorem iw_kept {X Y : World} {row : Option Nat} (hg : X.grownBy Y row) (hr : ∀ r, row = some r → ∃ o : Obj, X.heap[r]? = some o ∧ o.isCells = false) {lo : Nat} {A : Option Addr} {zs : List Int} (h : IW X lo X.heap.size A zs) : IW Y lo Y.heap.size A zs :=
  ⟨h.1, h.2.1, Nat.le_refl _, fun h0 => by
    obtain ⟨b, off, e, h1, h2, h3⟩ := h.2.2.2 h0
    exact ⟨b, off, e, h1, Nat.lt_of_lt_of_le h2 hg.size, fun j hj => ⟨cell_kept (h3 j hj).1 hg hr, (frozen_kept (h3 j hj).1 hg hr).trans (h3 j hj).2⟩⟩⟩
theorem plx_kept {X Y : World} {row : Option Nat} (hg : X.grownBy Y row) (hr : ∀ r, row = some r → ∃ o : Obj, X.heap[r]? = some o ∧ o.isCells = false) {P n i : Nat} {pre : List Int} (h : PlX X P n i pre) : PlX Y P n i pre := by
  obtain ⟨xs, h1, h2, h3, h4⟩ := h
  exact ⟨xs, h1, h2, h3, fun j hj => ⟨cell_kept (h4 j hj).1 hg hr, (frozen_kept (h4 j hj).1 hg hr).trans (h4 j hj).2⟩⟩
theorem fnd_kept {X Y : World} {row : Option Nat} (hg : X.grownBy Y row) (hr : ∀ r, row = some r → ∃ o : Obj, X.heap[r]? = some o ∧ o.isCells = false) {F base : Nat} {st : Res} (h : Fnd X F base st) : Fnd Y F base st := by
  obtain ⟨A, c, h1, h2⟩ := h
  exact ⟨A, c, kept_block hg hr h1, iw_kept hg hr h2⟩
theorem env_kept {X Y : World} {row : Option Nat} (hg : X.grownBy Y row) (hr : ∀ r, row = some r → ∃ o : Obj, X.heap[r]? = some o ∧ o.isCells = false) {n : Nat} {A : Option Addr} {c bs bf bp bh P : Nat} (h : Env X n A c bs bf bp bh P) : Env Y n A c bs bf bp bh P :=
  ⟨kept_block hg hr h.s, kept_block hg hr h.p, kept_block hg hr h.h⟩
theorem Env.only {X Y : World} {n : Nat} {A : Option Addr} {c bs bf bp bh P : Nat} (h : Env X n A c bs bf bp bh P) (ho : Only2 P bf X Y) (h1 : bs ≠ P ∧ bs ≠ bf) (h2 : bp ≠ P ∧ bp ≠ bf) (h3 : bh ≠ P ∧ bh ≠ bf) : Env Y n A c bs bf bp bh P :=
  ⟨(ho.block bs h.s.lt h1.1 h1.2).trans h.s, (ho.block bp h.p.lt h2.1 h2.2).trans h.p, (ho.block bh h.h.lt h3.1 h3.2).trans h.h⟩
/-- What holds while the places of a row are tried. -/
structure Lvl (n i nn : Nat) (A : Option Addr) (c bs bf bp bh P base m0 : Nat) (left cost : Int) (pre0 : List Int) (w W0 : World) (st : Res) (W : World) : Prop where
  env : Env W n A c bs bf bp bh P
  b0 : Boxed W m0 3 (.int .i64 (i : Int))
  b1 : Boxed W (m0 + 1) 3 (.int .i64 left)
  b2 : Boxed W (m0 + 2) 3 (.int .i64 cost)
  pl : PlX W P n i pre0
  fnd : Fnd W bf base st
  only : Only2 P bf W0 W
  below : Below nn w W
  size : m0 + 3 ≤ W.heap.size
theorem lvl_own {β : Type} {n i nn : Nat} {A : Option Addr} {c bs bf bp bh P base m0 : Nat} {left cost : Int} {pre0 : List Int} {w W0 : World} {B : Nat} (h0 : W0.heap.size ≤ B) (h1 : nn ≤ B) (h2 : nn ≤ w.heap.size) (f : β → Res) : OwnFrom B (fun s W => Lvl n i nn A c bs bf bp bh P base m0 left cost pre0 w W0 (f s) W) := fun s X Y row h hg hrow => by
  have hr : ∀ r, row = some r → ∃ o : Obj, X.heap[r]? = some o ∧ o.isCells = false := fun r e => (hrow r e).2
  exact ⟨env_kept hg hr h.env, kept_block hg hr h.b0, kept_block hg hr h.b1, kept_block hg hr h.b2, plx_kept hg hr h.pl, fnd_kept hg hr h.fnd, only2_own (β := β) h0 s X Y row h.only hg hrow, ownFrom_below (β := β) h2 h1 s X Y row h.below hg hrow, Nat.le_trans h.size hg.size⟩

theorem Only2.weak {P F : Nat} {a b : World} (h : Only2 F F a b) : Only2 P F a b := ⟨h.os, h.tape, h.output, h.size, fun k hk _ h2 => h.block k hk h2 h2⟩
theorem PlX.block {W W' : World} {P n i : Nat} {pre : List Int} (h : PlX W P n i pre) (hb : W'.heap[P]? = W.heap[P]?) : PlX W' P n i pre := by
  obtain ⟨xs, h1, h2, h3, h4⟩ := h
  exact ⟨xs, h1, h2, h3, fun j hj => ⟨(World.cell?_of_block (w := W) (a := ⟨P, 0 + j, none⟩) hb).trans (h4 j hj).1, (World.frozen?_of_block (w := W) (a := ⟨P, 0 + j, none⟩) hb).trans (h4 j hj).2⟩⟩
theorem PlX.lt {W : World} {P n i : Nat} {pre : List Int} (h : PlX W P n i pre) (h0 : 0 < n) : P < W.heap.size ∧ ∃ o : Obj, W.heap[P]? = some o ∧ o.isCells = true := by
  obtain ⟨xs, h1, h2, h3, h4⟩ := h
  obtain ⟨o, ho, hc⟩ := cells_of_cell (h4 0 (by omega)).1
  exact ⟨(Array.getElem?_eq_some_iff.1 ho).1, o, ho, hc⟩
theorem PlX.put {W : World} {P n i : Nat} {pre : List Int} (h : PlX W P n i pre) (hi : i < n) {x : Int} (hx : I64 x) : PlX (W.setCell ⟨P, i, none⟩ (.int .i64 x)) P n (i + 1) (pre ++ [x]) := by
  obtain ⟨xs, h1, h2, h3, h4⟩ := h
  have h5 := h4.set_ i (by omega) x
  rw [Nat.zero_add] at h5
  refine ⟨xs.set i x, by simpa using h1, ?_, setI64 h3 hx, h5⟩
  rw [List.take_add_one, List.take_set_of_le (Nat.le_refl _), h2]
  simp [show i < xs.length by omega]
theorem PlX.at_ {W : World} {P n i : Nat} {pre : List Int} (h : PlX W P n i pre) (hi : i < n) : ∃ u, W.cell? ⟨P, i, none⟩ = some u ∧ W.frozen? ⟨P, i, none⟩ = false := by
  obtain ⟨xs, h1, h2, h3, h4⟩ := h
  have h5 := h4 i (by omega)
  rw [Nat.zero_add] at h5
  exact ⟨_, h5.1, h5.2⟩
theorem PlX.less {W : World} {P n i : Nat} {pre : List Int} {x : Int} (h : PlX W P n (i + 1) (pre ++ [x])) (hp : pre.length = i) : PlX W P n i pre := by
  obtain ⟨xs, h1, h2, h3, h4⟩ := h
  refine ⟨xs, h1, ?_, h3, h4⟩
  have h5 : (xs.take (i + 1)).take i = (pre ++ [x]).take i := by rw [h2]
  rw [List.take_take, Nat.min_eq_left (by omega)] at h5
  rw [h5, ← hp, List.take_left]
theorem PlX.len {W : World} {P n i : Nat} {pre : List Int} (h : PlX W P n i pre) (hi : i ≤ n) : pre.length = i := by
  obtain ⟨xs, h1, h2, h3, h4⟩ := h
  rw [← h2, List.length_take]
  omega
theorem Fnd.other {W W' : World} {F base : Nat} {st : Res} (h : Fnd W F base st) (hF : W'.heap[F]? = W.heap[F]?) (hs : W.heap.size = W'.heap.size) (hb : ∀ k, base ≤ k → W'.heap[k]? = W.heap[k]?) : Fnd W' F base st := by
  obtain ⟨A, c, h1, h2⟩ := h
  refine ⟨A, c, h1.block hF, ?_⟩
  rw [← hs]
  exact h2.keep (by omega) fun k h3 _ => hb k h3

set_option maxRecDepth 100000 in
set_option maxHeartbeats 4000000 in
theorem share_any (n nn : Nat) (A : Option Addr) (c bs bf bp bh P base : Nat) (rs : List (List Int)) (w : World) (hf : Fit rs) (hn : rs.length = n) (hn0 : 0 < n) (hn4 : n ≤ 4) (hR : IRR w 0 nn A rs)
    (d1 : nn ≤ bs ∧ nn ≤ bf ∧ nn ≤ bp ∧ nn ≤ bh ∧ nn ≤ P) (d2 : bs < base ∧ bf < base ∧ bp < base ∧ bh < base ∧ P < base) (d3 : bs ≠ P ∧ bs ≠ bf) (d4 : bp ≠ P ∧ bp ≠ bf) (d5 : bh ≠ P ∧ bh ≠ bf) (d6 : P ≠ bf) :
    ∀ (d i : Nat) (left cost : Int) (pre0 : List Int) (st : Res) (W : World), i + d = n → (-(12 * (i : Int)) ≤ left ∧ left ≤ 1000) → (-(1000 * (i : Int)) ≤ cost ∧ cost ≤ 1000 * (i : Int)) → (0 ≤ st.2.2 ∧ st.2.2 + pow12 d ≤ 100000) → Below nn w W → base ≤ W.heap.size → Env W n A c bs bf bp bh P → PlX W P n i pre0 → Fnd W bf base st →
    Calls Try.prog 41 #[.int .i64 (i : Int), .int .i64 left, .int .i64 cost, .pointer (some ⟨bs, 0, none⟩), .pointer (some ⟨bf, 0, none⟩), .pointer (some ⟨bp, 0, none⟩), .pointer (some ⟨bh, 0, none⟩)] W fun e W' => (∃ v, e = .returned v) ∧ PlX W' P n i pre0 ∧ Fnd W' bf base (comb st (shiftT cost pre0 (tryL (rs.drop i) left))) ∧ Only2 P bf W W' := by
  have HF := Lib.hid hf; have HN := Lib.hid hn; have HR := Lib.hid hR
  have D1 := Lib.hid d1; have D2 := Lib.hid d2; have D3 := Lib.hid d3; have D4 := Lib.hid d4; have D5 := Lib.hid d5; have D6 := Lib.hid d6
  clear hf hn hR d1 d2 d3 d4 d5 d6
  intro d
  induction d with
  | zero =>
    intro i left cost pre0 st W hid hl hco hst hbw hbs henv hpl hfnd
    have hin : i = n := by omega
    subst hin
    have hd : rs.drop i = [] := List.drop_eq_nil_of_le (by rw [HN.out]; omega)
    rw [hd]
    have hb3 : Below W.heap.size W (((W.alloc (.cells #[.int .i64 (i : Int)] 3)).alloc (.cells #[.int .i64 left] 3)).alloc (.cells #[.int .i64 cost] 3)) := (((Below.refl _ W).alloc (Nat.le_refl _) _).alloc (by simp) _).alloc (by simp; omega) _
    have x0 := (Boxed.new W 3 (.int .i64 (i : Int))).alloc (.cells #[.int .i64 left] 3) |>.alloc (.cells #[.int .i64 cost] 3) |>.cell
    have x1 := (Boxed.new (W.alloc (.cells #[.int .i64 (i : Int)] 3)) 3 (.int .i64 left)).alloc (.cells #[.int .i64 cost] 3) |>.cell
    have x2 := (Boxed.new ((W.alloc (.cells #[.int .i64 (i : Int)] 3)).alloc (.cells #[.int .i64 left] 3)) 3 (.int .i64 cost)).cell
    rw [World.size_alloc, World.size_alloc] at x2
    rw [World.size_alloc] at x1
    have ys := Boxed.cell ((hb3.block bs henv.s.lt).trans henv.s)
    have yp := Boxed.cell ((hb3.block bp henv.p.lt).trans henv.p)
    have HPL := Lib.hid hpl; have HFD := Lib.hid hfnd
    rcases Decidable.em (left = 0) with rfl | hz
    · have HE : Hid (comb st (cost, pre0, 1) = comb st (shiftT cost pre0 (tryL [] 0))) := by
        show _ = _
        unfold tryL
        rw [if_pos rfl]
        simp [shiftT]
      have hlt := hpl.lt hn0
      have hsee := fun (W' : World) (hb : Below W.heap.size W W') => (show Calls Try.prog 42 #[.pointer (some ⟨bf, 0, none⟩), .slice (some ⟨P, 0, none⟩) i i, .int .i64 cost] W' fun e w' => (∃ v, e = .returned v) ∧ Fnd w' bf base (comb st (cost, pre0, 1)) ∧ Only2 bf bf W' w' from by
        have hp2 := hpl.block (hb.block P hlt.1)
        obtain ⟨xs, q1, q2, q3, q4⟩ := hp2
        rw [List.take_of_length_le (by omega)] at q2
        subst q2
        exact see_any P bf base i i cost st xs W' D2.out.2.1 D6.out (Nat.le_trans hbs hb.size) (by omega) (by have := pow12_pos 0; omega) q1 hn0 hn4 q3 (Nat.lt_of_lt_of_le hlt.1 hb.size) q4 (hfnd.below hb))
      have HSEE := Lib.hid (hsee _ hb3)
      have HB := Lib.hid hb3
      have HLT := Lib.hid hlt
      clear hsee hlt hb3 hpl hfnd henv hd
      rw [← HE.out]
      go_enter Try.func41, Try.ntmps41
      go_wp2_with fail
      refine HSEE.out.mono ?_
      rintro e w1 ⟨⟨v, rfl⟩, hf1, ho1⟩
      have HF1 := Lib.hid hf1; have HO1 := Lib.hid ho1
      clear hf1 ho1
      go_wp2
      refine bodyPost_ret (results_none rfl _ _ _) rfl ?_
      have hlt := HLT.out
      exact ⟨⟨_, rfl⟩, (HPL.out.block (HB.out.block P hlt.1)).block (HO1.out.block P (Nat.lt_of_lt_of_le hlt.1 HB.out.size) D6.out D6.out), HF1.out, (Only2.of HB.out).trans HO1.out.weak⟩
    · have hz' : (left == 0) = false := by rw [beq_eq_false_iff_ne]; exact hz
      have HE : Hid (st = comb st (shiftT cost pre0 (tryL [] left))) := by
        show _ = _
        unfold tryL
        rw [if_neg hz]
        exact (comb_none (show (shiftT cost pre0 (0, [], 0)).2.2 = 0 from rfl)).symm
      have HB := Lib.hid hb3
      have HLT := Lib.hid (hpl.lt hn0)
      clear hb3 hpl hfnd henv hd
      rw [← HE.out]
      go_enter Try.func41, Try.ntmps41
      go_wp2
      refine bodyPost_ret (results_none rfl _ _ _) rfl ?_
      exact ⟨⟨_, rfl⟩, HPL.out.block (HB.out.block P HLT.out.1), HFD.out.below HB.out, Only2.of HB.out⟩
  | succ d ih =>
    intro i left cost pre0 st W hid hl hco hst hbw hbs henv hpl hfnd
    have hir : i < rs.length := by rw [HN.out]; omega
    obtain ⟨r, hr⟩ : ∃ r, rs[i] = r := ⟨_, rfl⟩
    have hdc := drop_cons hir
    obtain ⟨us, hus⟩ : ∃ us, rs.drop (i + 1) = us := ⟨_, rfl⟩
    have hul : us.length = d := by rw [← hus, List.length_drop, HN.out]; omega
    have HUF : Hid (Fit us) := by rw [← hus]; exact HF.out.drop _
    have hrb := HF.out.at_ hir
    rw [hr] at hdc hrb
    rw [hus] at hdc
    have HDC := Lib.hid hdc; have HRB := Lib.hid hrb; have HIH := Lib.hid ih; have HUS := Lib.hid hus; have HUL := Lib.hid hul
    have hb3 : Below W.heap.size W (((W.alloc (.cells #[.int .i64 (i : Int)] 3)).alloc (.cells #[.int .i64 left] 3)).alloc (.cells #[.int .i64 cost] 3)) := (((Below.refl _ W).alloc (Nat.le_refl _) _).alloc (by simp) _).alloc (by simp; omega) _
    have x0 := (Boxed.new W 3 (.int .i64 (i : Int))).alloc (.cells #[.int .i64 left] 3) |>.alloc (.cells #[.int .i64 cost] 3)
    have x1 := (Boxed.new (W.alloc (.cells #[.int .i64 (i : Int)] 3)) 3 (.int .i64 left)).alloc (.cells #[.int .i64 cost] 3)
    have x2 := Boxed.new ((W.alloc (.cells #[.int .i64 (i : Int)] 3)).alloc (.cells #[.int .i64 left] 3)) 3 (.int .i64 cost)
    rw [World.size_alloc, World.size_alloc] at x2
    rw [World.size_alloc] at x1
    have hsz : (((W.alloc (.cells #[.int .i64 (i : Int)] 3)).alloc (.cells #[.int .i64 left] 3)).alloc (.cells #[.int .i64 cost] 3)).heap.size = W.heap.size + 3 := by simp
    obtain ⟨W3, hW3⟩ : ∃ W3, ((W.alloc (.cells #[.int .i64 (i : Int)] 3)).alloc (.cells #[.int .i64 left] 3)).alloc (.cells #[.int .i64 cost] 3) = W3 := ⟨_, rfl⟩
    rw [hW3] at hb3 x0 x1 x2 hsz
    have hnw : nn ≤ w.heap.size := HR.out.2.1
    have hbw3 : Below nn w W3 := hbw.trans (hb3.mono (Nat.le_trans hnw hbw.size))
    have ys := Boxed.cell ((hb3.block bs henv.s.lt).trans henv.s)
    have y0 := x0.cell
    obtain ⟨b, off, Ak, ck, hA, _, hc, _, hrow⟩ := (HR.out.below hbw3 (Nat.le_refl _)).at_ hir
    rw [hr] at hc hrow
    obtain ⟨m, hm⟩ : ∃ m, r.length = m := ⟨_, rfl⟩
    have HM := Lib.hid hm
    rw [hm] at hc
    have b4 : Below W3.heap.size W3 (W3.alloc (.cells #[.slice Ak m ck] 56)) := (Below.refl _ W3).alloc (Nat.le_refl _) _
    have bX := (Boxed.new W3 56 (.slice Ak m ck)).cell
    have henv3 : Env W3 n A c bs bf bp bh P := ⟨(hb3.block bs henv.s.lt).trans henv.s, (hb3.block bp henv.p.lt).trans henv.p, (hb3.block bh henv.h.lt).trans henv.h⟩
    have hlt := hpl.lt hn0
    have L4 : Lvl n i nn A c bs bf bp bh P base W.heap.size left cost pre0 w W st (W3.alloc (.cells #[.slice Ak m ck] 56)) :=
      ⟨⟨henv3.s.alloc _, henv3.p.alloc _, henv3.h.alloc _⟩, x0.alloc _, x1.alloc _, x2.alloc _, (hpl.block (hb3.block P hlt.1)).block (b4.block P (Nat.lt_of_lt_of_le hlt.1 hb3.size)), (hfnd.below hb3).below b4, (Only2.of hb3).trans (Only2.of b4), hbw3.trans (b4.mono (by have := hbw3.size; omega)), by simp; omega⟩
    have hrow4 : IR (W3.alloc (.cells #[.slice Ak m ck] 56)) 0 nn Ak r := hrow.grow (b4.mono (Nat.le_refl _))
    have HL4 := Lib.hid L4; have HROW4 := Lib.hid hrow4; have HPRE := Lib.hid (hpl.len (by omega))
    have HBS := Lib.hid hbs; have HST := Lib.hid hst; have HLE := Lib.hid hl; have HCO := Lib.hid hco; have HNW := Lib.hid hnw; have HSZ := Lib.hid hsz
    have hin : ¬ (i : Int) = (n : Int) := by omega
    have hinb : ((i : Int) == (n : Int)) = false := by rw [beq_eq_false_iff_ne]; exact hin
    have i0 : (0 : Int) ≤ (i : Int) := by omega
    have iN : (i : Int) < (n : Int) := by omega
    have iN' : i < n := by omega
    have HID := Lib.hid hid
    have W1' : Hid (nn ≤ W.heap.size) := Nat.le_trans hnw hbw.size
    subst hA
    clear hr hrb hdc hus hul ih hb3 x0 x1 x2 hbw3 hrow henv henv3 hpl hfnd L4 hrow4 hlt b4 hm hbw hid hnw hl hco hst hbs
    refine (callsIn_wide (n := 6)).1 ?_
    refine callsIn_of_wp_marks Try.func41 rfl trivial ?_ rfl
    simp only [Try.ntmps41, List.size_toArray, List.length_cons, List.length_nil, Nat.reduceAdd, Nat.reduceSub, Array.replicate_succ, Array.replicate_zero, List.push_toArray, List.append_toArray, List.nil_append, List.cons_append]
    rw [hsz] at bX
    gi_wp2_with (refine ⟨trivial, ?_⟩; gi_at_call 43; refine (entries_in _ _ trivial rfl _ _ _ _).mono ?_; rintro e w' ⟨rfl, rfl⟩)
    clear ys y0 hc hW3
    have hm := HM.out
    subst hm
    have hbl : nn ≤ (W3.alloc (.cells #[.slice Ak r.length ck] 56)).heap.size := by have := W1'.out; simp; omega
    have hsq := entries_stops Fence.wide (6 - 1) trivial rfl (by decide) (W.heap.size + 3) nn ck Ak r (W3.alloc (.cells #[.slice Ak r.length ck] 56)) (by simp; omega) hbl bX HROW4.out
    have hown := lvl_own (β := List (Fin r.length)) (n := n) (i := i) (nn := nn) (A := some ⟨b, off, none⟩) (c := c) (bs := bs) (bf := bf) (bp := bp) (bh := bh) (P := P) (base := base) (m0 := W.heap.size) (left := left) (cost := cost) (pre0 := pre0) (w := w) (W0 := W) (B := (W3.alloc (.cells #[.slice Ak r.length ck] 56)).heap.size) (by have := HSZ.out; simp; omega) hbl HNW.out (seeL us r left cost pre0 st)
    have HI0 : Lvl n i nn (some ⟨b, off, none⟩) c bs bf bp bh P base W.heap.size left cost pre0 w W (seeL us r left cost pre0 st []) (W3.alloc (.cells #[.slice Ak r.length ck] 56)) := HL4.out
    obtain ⟨I, hI⟩ : ∃ I : List (Fin r.length) → World → Prop, I = fun pre W' => Lvl n i nn (some ⟨b, off, none⟩) c bs bf bp bh P base W.heap.size left cost pre0 w W (seeL us r left cost pre0 st pre) W' := ⟨_, rfl⟩
    have hown' : OwnFrom (W3.alloc (.cells #[.slice Ak r.length ck] 56)).heap.size I := by rw [hI]; exact hown
    have HI0' : I [] (W3.alloc (.cells #[.slice Ak r.length ck] 56)) := by rw [hI]; exact HI0
    have HII : Hid (I = _) := hI
    clear hI hown HI0
    refine wpIn_rangeFunc_ownF (F := Fence.wide) ?h1 ?h2 (gf := 57) (lb := #[.pointer (some ⟨W.heap.size + 3, 0, none⟩)]) ?h3 ?h4 ?h5 hsq ?h6 ?h7 ?h8 ?h9 I (fun _ _ _ => False) hown' (fun _ _ _ _ _ hs _ _ => hs) HI0' ?a1 ?hassign ?hbody ?hdone ?hstop
    case h1 => rfl
    case h2 => decide
    case h3 => rfl
    case h4 => trivial
    case h5 => exact enters_of Try.func57 (by kernel_rfl) rfl
    case h6 => exact belowK_t
    case h7 => exact belowK_b hbl
    case h8 => exact Below.refl _ _
    case h9 => exact fun _ => rfl
    all_goals clear hsq hown' HI0' bX hbl
    case hassign =>
      intro l x W K hK
      go_simp
      repeat (first | gi_guarded | gi_step | gi_upon | gi_in | gi_back)
      exact hK
    case hbody =>
      rintro l pre x Wb L hlt
      rw [HII.out] at L
      have yp := L.env.p.cell; have yh := L.env.h.cell; have z0 := L.b0.cell; have z1 := L.b1.cell; have z2 := L.b2.cell
      obtain ⟨u, yu, yf⟩ := L.pl.at_ iN'
      obtain ⟨hPs, hPc⟩ := L.pl.lt hn0
      have hx12 := HRB.out.2
      have hxl : (x : Nat) < r.length := x.2
      have hent := HRB.out.1 r[x] (List.getElem_mem hxl)
      have hsn := seeL_snoc us r left cost pre0 st pre x
      have hcn := seeL_cnt' (left := left) (cost := cost) (pre0 := pre0) (r := r) HST.out.1 HUF.out pre
      have HL := Lib.hid L
      obtain ⟨e1, e2, e3, e4, e5⟩ := D1.out
      obtain ⟨g1, g2, g3, g4, g5⟩ := D2.out
      have hbs := HBS.out
      have h6 := D6.out
      obtain ⟨y, hy⟩ : ∃ y, r[x] = y := ⟨_, rfl⟩
      obtain ⟨k, hk⟩ : ∃ k, (x : Nat) = k := ⟨_, rfl⟩
      obtain ⟨S, hS⟩ : ∃ S, seeL us r left cost pre0 st pre = S := ⟨_, rfl⟩
      rw [hy, hk, hS] at hsn
      rw [hy] at hent
      rw [hk] at hxl
      rw [hS] at hcn HL
      have hle := HLE.out; have hco := HCO.out; have hid := HID.out
      have hpl2 := HL.out.pl.put iN' (x := (k : Int)) ⟨by omega, by omega⟩
      have hW2 : Wb.heap.size = (Wb.setCell ⟨P, i, none⟩ (.int .i64 (k : Int))).heap.size := by simp [World.setCell]
      have ho2 : Only2 P bf Wb (Wb.setCell ⟨P, i, none⟩ (.int .i64 (k : Int))) := (Only2.refl P bf Wb).set_ (.inl rfl) _
      have henv2 := HL.out.env.only ho2 D3.out D4.out D5.out
      have hfd2 : Fnd (Wb.setCell ⟨P, i, none⟩ (.int .i64 (k : Int))) bf base S := HL.out.fnd.other (heap_setCell_other Wb _ bf _ (by show bf ≠ P; omega)) hW2 fun q hq => heap_setCell_other Wb _ q _ (by show q ≠ P; omega)
      have hbw2 : Below nn w (Wb.setCell ⟨P, i, none⟩ (.int .i64 (k : Int))) := HL.out.below.setCell (p := ⟨P, i, none⟩) e5 _
      have hst := HST.out
      have hpw : pow12 (d + 1) = 12 * pow12 d := rfl
      have hpp := pow12_pos d
      have hpk : ((pre.length : Int) + 1) * pow12 d ≤ 12 * pow12 d := Int.mul_le_mul_of_nonneg_right (by omega) (by omega)
      rw [Int.add_mul, Int.one_mul] at hpk
      rw [HUL.out] at hcn
      have hcall := HIH.out (i + 1) (left - (k : Int)) (cost + y) (pre0 ++ [(k : Int)]) S (Wb.setCell ⟨P, i, none⟩ (.int .i64 (k : Int))) (by omega) (by omega) (by omega) ⟨hcn.1, by omega⟩ hbw2 (by rw [← hW2]; have := HL.out.size; omega) henv2 hpl2 hfd2
      rw [HUS.out, show ((i + 1 : Nat) : Int) = (i : Int) + 1 by omega] at hcall
      have HCALL := Lib.hid hcall; have HSN := Lib.hid hsn; have HO2 := Lib.hid ho2; have HPC := Lib.hid hPc; have HW2 := Lib.hid hW2
      have t1 : IntKind.i64.wrap ((i : Int) + 1) = (i : Int) + 1 := IntWalk.i64_in _ (by omega)
      have t2 : IntKind.i64.wrap (left - (k : Int)) = left - (k : Int) := IntWalk.i64_in _ (by omega)
      have t3 : IntKind.i64.wrap (cost + y) = cost + y := IntWalk.i64_in _ (by omega)
      have hWn : W.heap.size ≠ P ∧ W.heap.size + 1 ≠ P ∧ W.heap.size + 2 ≠ P ∧ W.heap.size ≠ bf ∧ W.heap.size + 1 ≠ bf ∧ W.heap.size + 2 ≠ bf := by omega
      have b0' : Boxed (Wb.setCell ⟨P, i, none⟩ (.int .i64 (k : Int))) W.heap.size 3 (.int .i64 (i : Int)) := (heap_setCell_other Wb _ W.heap.size _ hWn.1).trans HL.out.b0
      have b1' : Boxed (Wb.setCell ⟨P, i, none⟩ (.int .i64 (k : Int))) (W.heap.size + 1) 3 (.int .i64 left) := (heap_setCell_other Wb _ (W.heap.size + 1) _ hWn.2.1).trans HL.out.b1
      have b2' : Boxed (Wb.setCell ⟨P, i, none⟩ (.int .i64 (k : Int))) (W.heap.size + 2) 3 (.int .i64 cost) := (heap_setCell_other Wb _ (W.heap.size + 2) _ hWn.2.2.1).trans HL.out.b2
      have yh' := henv2.h.cell; have z0' := b0'.cell; have z1' := b1'.cell; have z2' := b2'.cell
      have HENV := Lib.hid henv2; have HB0 := Lib.hid b0'; have HB1 := Lib.hid b1'; have HB2 := Lib.hid b2'; have HWN := Lib.hid hWn; have HBW := Lib.hid hbw2
      clear yh z1 z2 b0' b1' b2' hWn hsn hcn hcall hfd2 hbw2 henv2 ho2 hpl2 hW2 hPc L hle hco hst hpw hpp hpk hS hlt hid
      rw [show r[(x : Nat)] = y from hy, hk]
      clear hy hk
      repeat (first | gi_guarded | gi_step | gi_upon | gi_in | gi_back)
      refine ⟨trivial, ?_⟩
      gi_at_call 41
      refine (CallsIn.inRound l (callsIn_wide.2 HCALL.out)).mono ?_
      rintro e w3 ⟨⟨v, rfl⟩, hp3, hf3, ho3⟩
      have HP3 := Lib.hid hp3; have HF3 := Lib.hid hf3; have HO3 := Lib.hid ho3
      clear hp3 hf3 ho3 HCALL HIH
      dsimp only
      repeat (first | gi_guarded | gi_step | gi_upon | gi_in | gi_back)
      have hWN := HWN.out
      have hlt := HL.out.pl.lt hn0
      have hno3 := HO2.out.trans HO3.out
      refine ⟨hno3.keeps hlt.2 ?_, ?_, ?_⟩
      · obtain ⟨A9, c9, h9, _⟩ := HL.out.fnd
        exact ⟨_, h9, rfl⟩
      · exact hno3.below (Below.refl nn Wb) e5 e2 (by have := HL.out.size; have := W1'.out; omega)
      · rw [HII.out]
        show Lvl n i nn (some ⟨b, off, none⟩) c bs bf bp bh P base W.heap.size left cost pre0 w W (seeL us r left cost pre0 st (pre ++ [x])) w3
        rw [HSN.out]
        exact ⟨HENV.out.only HO3.out D3.out D4.out D5.out, (HO3.out.block _ HB0.out.lt hWN.1 hWN.2.2.2.1).trans HB0.out, (HO3.out.block _ HB1.out.lt hWN.2.1 hWN.2.2.2.2.1).trans HB1.out, (HO3.out.block _ HB2.out.lt hWN.2.2.1 hWN.2.2.2.2.2).trans HB2.out, HP3.out.less HPRE.out, HF3.out, HL.out.only.trans hno3, HO3.out.below HBW.out e5 e2 (by have := HBW.out.size; have := HNW.out; omega), by have := HL.out.size; have := hno3.size; omega⟩
    case hdone =>
      rintro D ys W9 hD rfl L hK
      rw [HII.out] at L
      have HL := Lib.hid L; have HK := Lib.hid hK; have HDD := Lib.hid hD
      have hsa := seeL_all (left := left) (cost := cost) (pre0 := pre0) (r := r) HST.out.1 HUF.out HRB.out.1
      have HSA := Lib.hid hsa
      clear L hK hD hsa HIH HL4 HROW4
      gi_wp2
      refine ⟨by simp, .inl ⟨_, _, rfl, run_takeDeferred HK.out, ?_⟩⟩
      have hdd := HDD.out
      have hw1 := W1'.out
      have hsz3 := HSZ.out
      simp at hdd
      have L2 := lvl_own (β := Unit) (B := D) (w := w) (W0 := W) (by omega) (by omega) HNW.out (fun _ => seeL us r left cost pre0 st (List.finRange r.length)) () _ (W9.putObj D (.deferred none)) (some D) HL.out (grownBy_putObj' W9 D (.deferred none)) (fun q e => by cases e; exact ⟨Nat.le_refl _, _, HK.out, rfl⟩)
      refine ⟨_, results_none rfl _ _ _, ⟨_, rfl⟩, L2.pl, ?_, L2.only⟩
      rw [HDC.out, ← HSA.out]
      exact L2.fnd
    case hstop =>
      rintro D cd pre W hD hp h hK
      exact h.elim

theorem info_func3 : (Try.prog.info? 66).map (fun i => (i.zero, i.size)) = some (some .nilFunc, 1) := by kernel_rfl

set_option maxRecDepth 100000 in
set_option maxHeartbeats 4000000 in
theorem leastS_any (A : Option Addr) (c n : Nat) (left : Int) (rs : List (List Int)) (w : World) (h : IRR w 0 w.heap.size A rs) (hf : Fit rs) (hn : rs.length = n) (hn0 : 0 < n) (hn4 : n ≤ 4) (hl : 0 ≤ left ∧ left ≤ 1000) :
    Calls Try.prog 29 #[.slice A n c, .int .i64 left] w fun e w' => ∃ A' c', e = .returned (.agg (cheapV (comb (0, [], 0) (tryL rs left)).1 A' (comb (0, [], 0) (tryL rs left)).2.1.length c' (comb (0, [], 0) (tryL rs left)).2.2)) ∧ IW w' w.heap.size w'.heap.size A' (comb (0, [], 0) (tryL rs left)).2.1 ∧ Below w.heap.size w w' := by
  have H := Lib.hid h; have HF := Lib.hid hf; have HN := Lib.hid hn
  clear h hf hn
  have hmk := run_makeInts n (by omega)
  obtain ⟨W1, h1⟩ : ∃ W1, w.alloc (.cells #[.slice A n c] 46) = W1 := ⟨_, rfl⟩
  obtain ⟨W2, h2⟩ : ∃ W2, W1.alloc (.cells (cheapV 0 none 0 0 0) 51) = W2 := ⟨_, rfl⟩
  obtain ⟨W3, h3⟩ : ∃ W3, W2.alloc (.cells (cheapV 0 none 0 0 0) 51) = W3 := ⟨_, rfl⟩
  obtain ⟨W4, h4⟩ : ∃ W4, W3.alloc (.cells (madeCells #[.int .i64 0] n) 3) = W4 := ⟨_, rfl⟩
  obtain ⟨W5, h5⟩ : ∃ W5, W4.alloc (.cells #[.slice (some ⟨w.heap.size + 1 + 1 + 1, 0, none⟩) n n] 24) = W5 := ⟨_, rfl⟩
  obtain ⟨W6, h6⟩ : ∃ W6, W5.alloc (.cells #[.nilFunc] 66) = W6 := ⟨_, rfl⟩
  have s1 : W1.heap.size = w.heap.size + 1 := by rw [← h1]; simp
  have s2 : W2.heap.size = w.heap.size + 1 + 1 := by rw [← h2]; simp [s1]
  have s3 : W3.heap.size = w.heap.size + 1 + 1 + 1 := by rw [← h3]; simp [s2]
  have s4 : W4.heap.size = w.heap.size + 1 + 1 + 1 + 1 := by rw [← h4]; simp [s3]
  have s5 : W5.heap.size = w.heap.size + 1 + 1 + 1 + 1 + 1 := by rw [← h5]; simp [s4]
  have s6 : W6.heap.size = w.heap.size + 1 + 1 + 1 + 1 + 1 + 1 := by rw [← h6]; simp [s5]
  have g1 : Below w.heap.size w W1 := by rw [← h1]; exact (Below.refl _ _).alloc (Nat.le_refl _) _
  have g2 : Below W1.heap.size W1 W2 := by rw [← h2]; exact (Below.refl _ _).alloc (Nat.le_refl _) _
  have g3 : Below W2.heap.size W2 W3 := by rw [← h3]; exact (Below.refl _ _).alloc (Nat.le_refl _) _
  have g4 : Below W3.heap.size W3 W4 := by rw [← h4]; exact (Below.refl _ _).alloc (Nat.le_refl _) _
  have g5 : Below W4.heap.size W4 W5 := by rw [← h5]; exact (Below.refl _ _).alloc (Nat.le_refl _) _
  have g6 : Below W5.heap.size W5 W6 := by rw [← h6]; exact (Below.refl _ _).alloc (Nat.le_refl _) _
  have g56 := g5.trans (g6.mono (by omega))
  have g46 := g4.trans (g56.mono (by omega))
  have g36 := g3.trans (g46.mono (by omega))
  have g26 := g2.trans (g36.mono (by omega))
  have g16 := g1.trans (g26.mono (by omega))
  have es : Boxed W1 w.heap.size 46 (.slice A n c) := by rw [← h1]; exact Boxed.new _ _ _
  have er : BX W2 (w.heap.size + 1) 51 (cheapV 0 none 0 0 0) := by rw [← h2, ← s1]; exact BX.new _ _ _
  have ef : BX W3 (w.heap.size + 1 + 1) 51 (cheapV 0 none 0 0 0) := by rw [← h3, ← s2]; exact BX.new _ _ _
  have ec : Cells W4 (w.heap.size + 1 + 1 + 1) 0 (List.replicate n 0) := by rw [← h4, ← s3]; exact Cells.made _ _ _
  have ep : Boxed W5 (w.heap.size + 1 + 1 + 1 + 1) 24 (.slice (some ⟨w.heap.size + 1 + 1 + 1, 0, none⟩) n n) := by rw [← h5, ← s4]; exact Boxed.new _ _ _
  have eh : Boxed W6 (w.heap.size + 1 + 1 + 1 + 1 + 1) 66 .nilFunc := by rw [← h6, ← s5]; exact Boxed.new _ _ _
  have cs3 := Boxed.cell ((g3.block _ (by omega)).trans ((g2.block _ (by omega)).trans es))
  replace es : Boxed W6 w.heap.size 46 (.slice A n c) := (g26.block _ (by omega)).trans es
  replace er : BX W6 (w.heap.size + 1) 51 (cheapV 0 none 0 0 0) := (g36.block _ (by omega)).trans er
  replace ef : BX W6 (w.heap.size + 1 + 1) 51 (cheapV 0 none 0 0 0) := (g46.block _ (by omega)).trans ef
  have epl : PlX W6 (w.heap.size + 1 + 1 + 1) n 0 [] := PlX.block (W := W4) ⟨List.replicate n 0, by simp, by simp, fun x hx => by have := List.eq_of_mem_replicate hx; subst this; exact ⟨by omega, by omega⟩, ec⟩ (g56.block _ (by omega))
  replace ep : Boxed W6 (w.heap.size + 1 + 1 + 1 + 1) 24 (.slice (some ⟨w.heap.size + 1 + 1 + 1, 0, none⟩) n n) := (g6.block _ (by omega)).trans ep
  have ch := eh.cell; have fh := eh.frozen
  have cs := es.cell
  obtain ⟨W7, h7⟩ : ∃ W7, W6.setCell ⟨w.heap.size + 1 + 1 + 1 + 1 + 1, 0, none⟩ (Value.func (.func 41) #[] #[.pointer (some ⟨w.heap.size, 0, none⟩), .pointer (some ⟨w.heap.size + 1 + 1, 0, none⟩), .pointer (some ⟨w.heap.size + 1 + 1 + 1 + 1, 0, none⟩), .pointer (some ⟨w.heap.size + 1 + 1 + 1 + 1 + 1, 0, none⟩)]) = W7 := ⟨_, rfl⟩
  have hst : (store ⟨w.heap.size + 1 + 1 + 1 + 1 + 1, 0, none⟩ (Value.func (.func 41) #[] #[.pointer (some ⟨w.heap.size, 0, none⟩), .pointer (some ⟨w.heap.size + 1 + 1, 0, none⟩), .pointer (some ⟨w.heap.size + 1 + 1 + 1 + 1, 0, none⟩), .pointer (some ⟨w.heap.size + 1 + 1 + 1 + 1 + 1, 0, none⟩)])).run Try.prog W6 = .ok () W7 := by
    rw [run_store _ _ _ _ _ rfl, ← h7]
    simp [ch, fh]
  have hne : ∀ q, q ≠ w.heap.size + 1 + 1 + 1 + 1 + 1 → W7.heap[q]? = W6.heap[q]? := fun q hq => by rw [← h7]; exact heap_setCell_other W6 _ q _ hq
  have s7 : W7.heap.size = w.heap.size + 1 + 1 + 1 + 1 + 1 + 1 := by rw [← h7]; simp [World.setCell, s6]
  have eh7 : Boxed W7 (w.heap.size + 1 + 1 + 1 + 1 + 1) 66 (Value.func (.func 41) #[] #[.pointer (some ⟨w.heap.size, 0, none⟩), .pointer (some ⟨w.heap.size + 1 + 1, 0, none⟩), .pointer (some ⟨w.heap.size + 1 + 1 + 1 + 1, 0, none⟩), .pointer (some ⟨w.heap.size + 1 + 1 + 1 + 1 + 1, 0, none⟩)]) := by rw [← h7]; exact eh.set _
  have henv : Env W7 n A c w.heap.size (w.heap.size + 1 + 1) (w.heap.size + 1 + 1 + 1 + 1) (w.heap.size + 1 + 1 + 1 + 1 + 1) (w.heap.size + 1 + 1 + 1) :=
    ⟨(hne _ (by omega)).trans es, (hne _ (by omega)).trans ep, eh7⟩
  have hpl7 : PlX W7 (w.heap.size + 1 + 1 + 1) n 0 [] := epl.block (hne _ (by omega))
  have hfd7 : Fnd W7 (w.heap.size + 1 + 1) W7.heap.size (0, [], 0) := ⟨none, 0, (hne _ (by omega)).trans ef, IW.nil _ _⟩
  have er7 : BX W7 (w.heap.size + 1) 51 (cheapV 0 none 0 0 0) := (hne _ (by omega)).trans er
  have hbw7 : Below w.heap.size w W7 := by rw [← h7]; exact g16.setCell (p := ⟨w.heap.size + 1 + 1 + 1 + 1 + 1, 0, none⟩) (by show w.heap.size ≤ w.heap.size + 1 + 1 + 1 + 1 + 1; omega) _
  have hcall := share_any n w.heap.size A c w.heap.size (w.heap.size + 1 + 1) (w.heap.size + 1 + 1 + 1 + 1) (w.heap.size + 1 + 1 + 1 + 1 + 1) (w.heap.size + 1 + 1 + 1) W7.heap.size rs w HF.out HN.out hn0 hn4 H.out (by omega) (by omega) (by omega) (by omega) (by omega) (by omega) n 0 left 0 [] (0, [], 0) W7 (by omega) (by omega) (by omega) ⟨Int.le_refl _, by have := pow12_le hn4; dsimp only; omega⟩ hbw7 (Nat.le_refl _) henv hpl7 hfd7
  rw [List.drop_zero, shift_nil] at hcall
  have HCALL := Lib.hid hcall; have HR7 := Lib.hid er7; have HB7 := Lib.hid hbw7; have HS7 := Lib.hid s7
  have c7 := eh7.cell
  clear g1 g2 g3 g4 g5 g6 g56 g46 g36 g26 g16 es er ef ec ep eh epl hne eh7 henv hpl7 hfd7 er7 hbw7 hcall hl
  go_enter Try.func29, Try.ntmps29
  go_wp2_with (first | (refine wpList_alX rfl rfl zeroT_cheap ?_))
  refine HCALL.out.mono ?_
  rintro e w9 ⟨⟨v, rfl⟩, -, hf9, ho9⟩
  have hs7 := HS7.out
  have hr9 : BX w9 (w.heap.size + 1) 51 (cheapV 0 none 0 0 0) := (ho9.block _ (by omega) (by omega) (by omega)).trans HR7.out
  obtain ⟨A9, c9, hb9, hi9⟩ := hf9
  have HI9 := Lib.hid hi9; have HO9 := Lib.hid ho9
  have hr10 := hr9.put (cheapV (comb (0, [], 0) (tryL rs left)).1 A9 (comb (0, [], 0) (tryL rs left)).2.1.length c9 (comb (0, [], 0) (tryL rs left)).2.2)
  clear hst ch fh cs cs3 c7 h1 h2 h3 h4 h5 h6 h7 s1 s2 s3 s4 s5 s6 hi9 ho9 HCALL
  go_wp2_with (first | (refine wpList_ldX rfl _ rfl rfl hb9 rowT_cheap (cheapV_size _ _ _ _ _) ?_) | (refine wpList_stX rfl _ _ rfl rfl rfl hr9 rowT_cheap (cheapV_size _ _ _ _ _) (cheapV_size _ _ _ _ _) (cheapV_one _ _ _ _ _) ?_))
  refine bodyPost_ret (resX rfl _ _ rfl hr10 rowT_cheap (cheapV_size _ _ _ _ _)) rfl ?_
  have hs10 := HO9.out.size
  have hb10 := HO9.out.below HB7.out (by omega) (by omega) (by omega)
  refine ⟨A9, c9, rfl, ?_, below_setRow hb10 (by omega) _⟩
  refine (IW.keep (w := w9) HI9.out (by simp [World.setRow]) fun k h1 _ => setRow_other w9 _ k _ (by omega)).wide (by omega) (by simp [World.setRow]) (Nat.le_refl _)

theorem most_any (A : Option Addr) (c lo hi : Nat) (rs : List (List Int)) (w : World) (h : IRR w lo hi A rs) (hb : ∀ r, r ∈ rs → r.length ≤ 12) (h4 : rs.length ≤ 4) :
    Calls Try.prog 33 #[.slice A rs.length c] w fun e w' => e = .returned (.int .i64 (mostL rs)) ∧ w' = w := by
  have H := Lib.hid h; have HBD := Lib.hid hb
  clear h hb
  obtain ⟨n, hn⟩ : ∃ n, rs.length = n := ⟨_, rfl⟩
  have HN := Lib.hid hn
  rw [hn] at h4
  rw [hn]
  clear hn
  go_enter Try.func33, Try.ntmps33
  go_wp2
  go_loop [3, 8] (fun v i => ∃ k : Nat, k ≤ n ∧ i = .int .i64 (k : Int) ∧ v = .int .i64 (mostTo rs k)) (fun _ i => n - (intOf i).toNat)
  case atStart => exact ⟨0, Nat.zero_le _, rfl, rfl⟩
  case round =>
    obtain ⟨k, hk, rfl, rfl⟩ := hrel
    by_cases hlt : k < n
    · have hkr : k < rs.length := by rw [HN.out]; exact hlt
      obtain ⟨b, off, Ak, ck, rfl, _, hc, _, hrow⟩ := H.out.at_ hkr
      have hbd := mostTo_bd HBD.out k (by omega)
      have hsc : mostTo rs (k + 1) = mostTo rs k + (rs[k].length : Int) - 1 := by rw [← rowAt_get hkr]; rfl
      have hl := HBD.out rs[k] (List.getElem_mem hkr)
      obtain ⟨m, hm⟩ : ∃ m, rs[k].length = m := ⟨_, rfl⟩
      obtain ⟨s, hs⟩ : ∃ s, mostTo rs k = s := ⟨_, rfl⟩
      rw [hm] at hc hsc hl
      rw [hs] at hbd hsc
      rw [hs]
      have HSC := Lib.hid hsc
      have s1 : IntKind.i64.wrap ((m : Int) - 1) = (m : Int) - 1 := IntWalk.i64_in _ (by omega)
      have s2 : IntKind.i64.wrap (s + ((m : Int) - 1)) = s + (m : Int) - 1 := by rw [IntWalk.i64_in _ (by omega)]; omega
      have hlt' : (k : Int) < (n : Int) := by omega
      have k0 : (0 : Int) ≤ (k : Int) := by omega
      clear hrow hbd hsc hm hs hl
      go_wp2
      go_round
      case rel => exact ⟨k + 1, by omega, by go_num, by rw [HSC.out]⟩
      case measure => simp [intOf]; omega
    · obtain rfl : k = n := by omega
      have HC : Hid (mostTo rs k = mostL rs) := by show _ = _; rw [← mostTo_all, HN.out]
      have hlt' : ¬ (k : Int) < (k : Int) := by omega
      go_wp2
      go_ret
      rw [← HC.out]
      exact ⟨rfl, rfl⟩

set_option maxRecDepth 100000 in
set_option maxHeartbeats 1000000 in
theorem canShare_any (A : Option Addr) (c : Nat) (rs : List (List Int)) (n : Int) (w : World) (h : IRR w 0 w.heap.size A rs) :
    Calls Try.prog 25 #[.slice A rs.length c, .int .i64 n] w fun e w' => e = .returned (.bool (shareOk rs n)) ∧ Below w.heap.size w w' := by
  have H := Lib.hid h
  clear h
  go_enter Try.func25, Try.ntmps25
  cases hg : givenB rs with
  | false =>
    have HM : Hid (shareOk rs n = false) := by show _ = _; unfold shareOk; rw [hg]; rfl
    have HG := Lib.hid hg
    clear hg
    go_wp2_with fail
    refine (areRows_of H.out HG.out rfl).mono ?_
    rintro e w1 ⟨rfl, hb⟩
    have HB := Lib.hid hb
    clear hb
    go_wp2
    go_ret
    exact ⟨ret_bool HM.out.symm, HB.out⟩
  | true =>
    have HG := Lib.hid hg
    clear hg
    go_wp2_with fail
    refine (areRows_of H.out HG.out rfl).mono ?_
    rintro e w1 ⟨rfl, hb⟩
    have HB := Lib.hid hb
    have H2 := Lib.hid (H.out.grow hb)
    clear hb
    by_cases n0 : 0 ≤ n
    · have HOK : Hid (shareOk rs n = decide (n ≤ mostL rs)) := by show _ = _; unfold shareOk inB; rw [HG.out]; simp [n0]
      go_wp2_with fail
      refine (most_any _ _ _ _ rs _ H2.out (fun r hr => (given_fit HG.out r hr).2) (given_true.1 HG.out).2.2).mono ?_
      rintro e w2 ⟨rfl, rfl⟩
      by_cases n1 : n ≤ mostL rs
      · go_wp2
        go_ret
        exact ⟨ret_bool (by rw [HOK.out]; simp [n1]), HB.out⟩
      · have n1' : decide (n ≤ mostL rs) = false := decide_eq_false n1
        go_wp2
        go_ret
        exact ⟨ret_bool (by rw [HOK.out]; simp [n1]), HB.out⟩
    · have HM : Hid (shareOk rs n = false) := by show _ = _; unfold shareOk inB; simp [n0]
      go_wp2
      go_ret
      exact ⟨ret_bool HM.out.symm, HB.out⟩
theorem canShare_of {b : Bool} {A : Option Addr} {c m lo hi : Nat} {rs : List (List Int)} {n : Int} {w : World} (h : IRR w lo hi A rs) (hb : shareOk rs n = b) (hm : m = rs.length) :
    Calls Try.prog 25 #[.slice A m c, .int .i64 n] w fun e w' => e = .returned (.bool b) ∧ Below w.heap.size w w' := by
  subst hb; subst hm; exact canShare_any A c rs n w h.toAll
theorem share_found {rs : List (List Int)} {n : Int} (h : shareOk rs n = true) : comb (0, [], 0) (tryL rs n) = tryL rs n := by
  have h1 := (all_law h).2.2
  rw [comb_start, if_neg (by omega)]
theorem share_facts {rs : List (List Int)} {n : Int} (h : shareOk rs n = true) : Fit rs ∧ 0 < rs.length ∧ rs.length ≤ 4 ∧ (0 ≤ n ∧ n ≤ 1000) := by
  unfold shareOk at h
  rw [Bool.and_eq_true] at h
  have hg := given_true.1 h.1
  have h1 := inB_true.1 h.2
  have h2 := most_le h.1
  exact ⟨given_fit h.1, by omega, hg.2.2, by omega, by omega⟩
end Go.Proofs.Ytanoojpmokbiaab

namespace Go.Proofs.Ytanoojpmokbiaab
open Go.RowKit

set_option maxRecDepth 100000 in
theorem run_cheap (c q : Int) (A : Option Addr) (n k : Nat) (W : World) : (Instr.field 51 (.agg #[.int .i64 c, .slice A n k, .int .i64 q]) 2).run Try.prog W = .ok (.int .i64 q) W := by kernel_rfl
set_option maxRecDepth 100000 in
theorem run_cheap0 (c q : Int) (A : Option Addr) (n k : Nat) (W : World) : (Instr.field 51 (.agg #[.int .i64 c, .slice A n k, .int .i64 q]) 0).run Try.prog W = .ok (.int .i64 c) W := by kernel_rfl
set_option maxRecDepth 100000 in
set_option maxHeartbeats 1000000 in
theorem implShareTry_any (A : Option Addr) (c : Nat) (rs : List (List Int)) (n : Int) (w : World) (h : IRR w 0 w.heap.size A rs) :
    Calls Try.prog 16 #[.slice A rs.length c, .int .i64 n] w (RetCL w (shareC rs n) (shareM rs n)) := by
  have H := Lib.hid h
  clear h
  go_enter Try.func16, Try.ntmps16
  cases hg : shareOk rs n with
  | false =>
    have HM := Lib.hid (share_not hg)
    have HG := Lib.hid hg
    clear hg
    go_wp2_with fail
    refine (canShare_of H.out HG.out rfl).mono ?_
    rintro e w1 ⟨rfl, hb⟩
    have HB := Lib.hid hb
    clear hb
    go_wp2
    go_ret3
    rw [HM.out.1, HM.out.2.1]
    exact retCL_none HB.out
  | true =>
    have HM := Lib.hid (share_yes hg)
    have HG := Lib.hid hg
    obtain ⟨f1, f2, f3, f4⟩ := share_facts hg
    have HF := Lib.hid f1; have HFD := Lib.hid (share_found hg)
    clear hg f1
    go_wp2_with fail
    refine (canShare_of H.out HG.out rfl).mono ?_
    rintro e w1 ⟨rfl, hb⟩
    have HB := Lib.hid hb
    have HL := Lib.hid (leastS_any A c rs.length n rs w1 (H.out.grow hb).toAll HF.out rfl f2 f3 f4)
    rw [HFD.out] at HL
    clear hb
    go_wp2_with fail
    refine HL.out.mono ?_
    rintro e w2 ⟨A2, c2, rfl, hi2, hb2⟩
    have HI2 := Lib.hid hi2
    have bN := BX.new w2 51 (cheapV 0 none 0 0 0)
    have bP := bN.put (cheapV (tryL rs n).1 A2 (tryL rs n).2.1.length c2 (tryL rs n).2.2)
    have p0 := bP.cell 0; have p1 := bP.cell 1
    have HB2 := Lib.hid (below_setRow ((HB.out.trans (hb2.mono HB.out.size)).alloc (Nat.le_trans HB.out.size hb2.size) (.cells (cheapV 0 none 0 0 0) 51)) (Nat.le_trans HB.out.size hb2.size) (cheapV (tryL rs n).1 A2 (tryL rs n).2.1.length c2 (tryL rs n).2.2))
    have HI3 : Hid (IW ((w2.alloc (.cells (cheapV 0 none 0 0 0) 51)).setRow w2.heap.size (cheapV (tryL rs n).1 A2 (tryL rs n).2.1.length c2 (tryL rs n).2.2)) w.heap.size ((w2.alloc (.cells (cheapV 0 none 0 0 0) 51)).setRow w2.heap.size (cheapV (tryL rs n).1 A2 (tryL rs n).2.1.length c2 (tryL rs n).2.2)).heap.size A2 (tryL rs n).2.1) := by
      have hs := HB.out.size
      exact (IW.below (C := w2.heap.size) HI2.out (below_setRow ((Below.refl _ w2).alloc (Nat.le_refl _) _) (Nat.le_refl _) _) (Nat.le_refl _)).wide hs (by simp [World.setRow]) (Nat.le_refl _)
    obtain ⟨W3, hW3⟩ : ∃ W3, (w2.alloc (.cells (cheapV 0 none 0 0 0) 51)).setRow w2.heap.size (cheapV (tryL rs n).1 A2 (tryL rs n).2.1.length c2 (tryL rs n).2.2) = W3 := ⟨_, rfl⟩
    rw [hW3] at p0 p1 HB2 HI3
    replace p0 : W3.cell? ⟨w2.heap.size, 0, none⟩ = some (.int .i64 (tryL rs n).1) := p0
    replace p1 : W3.cell? ⟨w2.heap.size, 1, none⟩ = some (.slice A2 (tryL rs n).2.1.length c2) := p1
    have HW3 := Lib.hid hW3
    clear hb2 hi2 HL bP hW3
    go_wp2_with (first | (refine wpList_alX rfl rfl zeroT_cheap ?_) | (refine wpList_stX rfl _ _ rfl rfl rfl bN rowT_cheap (cheapV_size _ _ _ _ _) (cheapV_size _ _ _ _ _) (cheapV_one _ _ _ _ _) ?_))
    rw [HW3.out]
    clear HW3 bN
    go_quiet (fail)
    go_wp2
    go_ret3
    rw [HM.out.1, HM.out.2.1]
    exact ⟨A2, c2, rfl, HI3.out.drewN _, below_drawN HB2.out _⟩
end Go.Proofs.Ytanoojpmokbiaab

namespace Go.Proofs.Ytanoojpmokbiaab
open Go.RowKit

theorem cells_below {w w' : World} {b : Nat} {xs : List Int} (h : Cells w b 0 xs) (hb : Below w.heap.size w w') (hs : b < w.heap.size) : Cells w' b 0 xs := fun j hj =>
  ⟨(hb.cell (p := ⟨b, 0 + j, none⟩) hs).trans (h j hj).1, (World.frozen?_of_block (hb.block b hs)).trans (h j hj).2⟩
theorem costsM_no {rs : List (List Int)} (h : givenB rs = false ∨ 12 ≤ mostL rs) : costsM rs = none := by
  unfold costsM
  rcases h with h | h
  · rw [h]; rfl
  · rw [decide_eq_false (show ¬ mostL rs + 1 ≤ 12 by omega)]; simp
theorem costsM_yes {rs : List (List Int)} (h1 : givenB rs = true) (h2 : mostL rs < 12) : costsM rs = doneM (costsL rs) := by
  unfold costsM
  rw [h1, decide_eq_true (show mostL rs + 1 ≤ 12 by omega)]
  rfl
theorem least_cost {rs : List (List Int)} (h : givenB rs = true) {k : Nat} (hk : k < (costsL rs).length) : (comb (0, [], 0) (tryL rs (k : Int))).1 = (costsL rs)[k] ∧ (k : Int) ≤ mostL rs := by
  obtain ⟨g1, g2, g3⟩ := given_true.1 h
  obtain ⟨c1, c2⟩ := costs_is g1 g3
  have hm := most_le h
  have hkm : (k : Int) ≤ mostL rs := by omega
  have hok : shareOk rs (k : Int) = true := by unfold shareOk; rw [h, inB_true.2 ⟨by omega, hkm⟩]; rfl
  refine ⟨?_, hkm⟩
  rw [share_found hok, ← c2 k hk, getD_at hk]

end Go.Proofs.Ytanoojpmokbiaab
