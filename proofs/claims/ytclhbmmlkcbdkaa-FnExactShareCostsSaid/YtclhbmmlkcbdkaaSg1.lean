/-
  Sharing in the program: are there rows, is a list a sharing, its cost, its prices, its moves. Conditions: the cells are there.
-/
import Derived.Test.YtclhbmmlkcbdkaaSs1
import Derived.Test.YtclhbmmlkcbdkaaPart2
import Derived.Test.YtclhbmmlkcbdkaaBent2
namespace Go.Proofs.Ytclhbmmlkcbdkaa
open Go.RowKit

theorem all_not {rs : List (List Int)} {f : List Int → Bool} {k : Nat} (hk : k < rs.length) (h : f rs[k] = false) : rs.all f = false := List.all_eq_false.2 ⟨rs[k], List.getElem_mem hk, by rw [h]; simp⟩
theorem all_yes {rs : List (List Int)} {f : List Int → Bool} (h : ∀ (k : Nat) (hk : k < rs.length), f rs[k] = true) : rs.all f = true := List.all_eq_true.2 fun x hx => by
  obtain ⟨j, hj, rfl⟩ := List.getElem_of_mem hx
  exact h j hj

set_option maxRecDepth 100000 in
set_option maxHeartbeats 1000000 in
theorem all1_isRow (A : Option Addr) (c B : Nat) (zs : List Int) (w : World) (h : IR w 0 w.heap.size A zs) (_hr : True) (hB : Boxed w B 101 (.func (.func 89) #[] #[])) :
    Calls Try.prog 95 #[.slice A zs.length c, .pointer (some ⟨B, 0, none⟩)] w fun e w' => e = .returned (.bool (!rowB zs)) ∧ Below w.heap.size w w' := by
  have H := Lib.hid h
  have hc := hB.cell
  have HC := Lib.hid (isRow_any A c zs w h)
  clear h hB
  go_enter Try.func95, Try.ntmps95
  go_wp2_with fail
  refine HC.out.mono ?_
  rintro e w1 ⟨rfl, hb⟩
  have HB := Lib.hid hb
  clear hb
  go_wp2
  go_ret
  exact ⟨rfl, HB.out⟩

set_option maxRecDepth 100000 in
set_option maxHeartbeats 1000000 in
theorem index_isRow (A : Option Addr) (c B : Nat) (rs : List (List Int)) (w : World) (h : IRR w 0 w.heap.size A rs) (hr : ∀ (k : Nat) (_hk : k < rs.length), True) (hB : Boxed w B 101 (.func (.func 89) #[] #[])) (hBw : B < w.heap.size) :
    Calls Try.prog 104 #[.slice A rs.length c, .func (.func 95) #[] #[.pointer (some ⟨B, 0, none⟩)]] w fun e w' => ∃ k : Int, e = .returned (.int .i64 k) ∧ decide (0 ≤ k) = !rs.all rowB ∧ Below w.heap.size w w' := by
  have hl := h.1
  have H := Lib.hid h; have HB := Lib.hid hB; have HR := Lib.hid hr
  clear h hB hr
  go_enter Try.func104, Try.ntmps104
  go_wp2
  go_loopw [8] (fun i wr => ∃ k : Nat, k ≤ rs.length ∧ i = .int .i64 (k : Int) ∧ Below w.heap.size w wr ∧ Hid (∀ (j : Nat) (hj : j < rs.length), j < k → rowB rs[j] = true)) (fun i _ => rs.length - (intOf i).toNat)
  case atStart => exact ⟨0, Nat.zero_le _, rfl, Below.refl _ _, fun j _ hj => absurd hj (by omega)⟩
  case round =>
    obtain ⟨k, hk, rfl, hb, hok⟩ := hrel
    have HBl := Lib.hid hb
    by_cases hlt : k < rs.length
    · have HW := Lib.hid ((H.out.grow hb).toAll)
      have hBx : Boxed wr B 101 (.func (.func 89) #[] #[]) := (hb.block B hBw).trans HB.out
      obtain ⟨b, off, Ak, ck, rfl, _, hc, _, hrow⟩ := HW.out.at_ hlt
      have HC := Lib.hid (all1_isRow Ak ck B rs[k] wr hrow trivial hBx)
      have hlt' : (k : Int) < (rs.length : Int) := by omega
      have k0 : (0 : Int) ≤ (k : Int) := by omega
      have HNO := Lib.hid (fun h => all_not (f := rowB) hlt h)
      obtain ⟨q, hq⟩ : ∃ q, rowB rs[k] = q := ⟨_, rfl⟩
      have HQ := Lib.hid hq
      rw [hq] at HC HNO
      clear hb hBx hrow hq
      cases q with
      | false =>
        go_wp2_with fail
        refine HC.out.mono ?_
        rintro e w1 ⟨rfl, hb⟩
        have HB1 := Lib.hid hb
        clear hb
        go_wp2
        go_ret
        exact ⟨(k : Int), rfl, by rw [HNO.out (by trivial)]; simp, HBl.out.trans (HB1.out.mono HBl.out.size)⟩
      | true =>
        clear HNO
        go_wp2_with fail
        refine HC.out.mono ?_
        rintro e w1 ⟨rfl, hb⟩
        have HB1 := Lib.hid hb
        clear hb
        go_wp2
        go_roundw
        case rel =>
          refine ⟨k + 1, by omega, by go_num, HBl.out.trans (HB1.out.mono HBl.out.size), fun j hj h1 => ?_⟩
          by_cases e : j = k
          · subst e; exact HQ.out
          · exact hok.out j hj (by omega)
        case measure => simp [intOf]; omega
    · obtain rfl : k = rs.length := by omega
      have HA : Hid (rs.all rowB = true) := all_yes fun j hj => hok.out j hj hj
      have hlt' : ¬ (rs.length : Int) < (rs.length : Int) := by omega
      clear hok hb
      go_wp2
      go_ret
      exact ⟨-1, rfl, by rw [HA.out]; rfl, HBl.out⟩

set_option maxRecDepth 100000 in
set_option maxHeartbeats 1000000 in
theorem all_isRow (A : Option Addr) (c : Nat) (rs : List (List Int)) (w : World) (h : IRR w 0 w.heap.size A rs) (hr : ∀ (k : Nat) (_hk : k < rs.length), True) :
    Calls Try.prog 83 #[.slice A rs.length c, .func (.func 89) #[] #[]] w fun e w' => e = .returned (.bool (rs.all rowB)) ∧ Below w.heap.size w w' := by
  have B0 : Below w.heap.size w (w.alloc (.cells #[.func (.func 89) #[] #[]] 101)) := (Below.refl _ _).alloc (Nat.le_refl _) _
  have hI := index_isRow A c w.heap.size rs (w.alloc (.cells #[.func (.func 89) #[] #[]] 101)) ((h.grow B0).toAll) hr (Boxed.new _ _ _) (by simp)
  have HI := Lib.hid hI; have HB := Lib.hid B0
  clear h hr B0 hI
  have HCF : Hid (Calls Try.prog 94 #[.slice A rs.length c, .func (.func 95) #[] #[.pointer (some ⟨w.heap.size, 0, none⟩)]] (w.alloc (.cells #[.func (.func 89) #[] #[]] 101)) fun e w' => e = .returned (.bool (!rs.all rowB)) ∧ Below (w.heap.size + 1) (w.alloc (.cells #[.func (.func 89) #[] #[]] 101)) w') := by
    show Calls _ _ _ _ _
    obtain ⟨W, hW⟩ : ∃ W, w.alloc (.cells #[.func (.func 89) #[] #[]] 101) = W := ⟨_, rfl⟩
    have hs : W.heap.size = w.heap.size + 1 := by rw [← hW]; simp
    rw [hW] at HI
    rw [hW, ← hs]
    clear hW hs
    go_enter Try.func94, Try.ntmps94
    go_wp2_with fail
    refine HI.out.mono ?_
    rintro e w1 ⟨k, rfl, hk, hb⟩
    have HB1 := Lib.hid hb; have HK := Lib.hid hk
    clear hb
    by_cases k0 : 0 ≤ k
    · have hk' : (!rs.all rowB) = true := by rw [← hk]; simp [k0]
      have HK' := Lib.hid hk'
      clear hk hk'
      go_wp2
      go_ret
      first | exact ⟨ret_bool HK'.out.symm, HB1.out⟩ | exact ⟨ret_bool HK.out, HB1.out⟩
    · have hk' : (!rs.all rowB) = false := by rw [← hk]; simp [k0]
      have HK' := Lib.hid hk'
      clear hk hk'
      go_wp2
      go_ret
      first | exact ⟨ret_bool HK'.out.symm, HB1.out⟩ | exact ⟨ret_bool HK.out, HB1.out⟩
  clear HI
  go_enter Try.func83, Try.ntmps83
  go_wp2_with fail
  refine HCF.out.mono ?_
  rintro e w1 ⟨rfl, hb⟩
  have HB1 := Lib.hid hb
  clear hb
  go_wp2
  go_ret
  exact ⟨ret_bool (by simp), HB.out.trans (HB1.out.mono (by simp))⟩

set_option maxRecDepth 100000 in
set_option maxHeartbeats 1000000 in
theorem all1_isBent (A : Option Addr) (c B : Nat) (zs : List Int) (w : World) (h : IR w 0 w.heap.size A zs) (hr : rowB zs = true) (hB : Boxed w B 101 (.func (.func 84) #[] #[])) :
    Calls Try.prog 95 #[.slice A zs.length c, .pointer (some ⟨B, 0, none⟩)] w fun e w' => e = .returned (.bool (!bentB zs)) ∧ Below w.heap.size w w' := by
  have H := Lib.hid h
  have hc := hB.cell
  have HC := Lib.hid (isBent_any A c zs w h hr)
  clear h hB
  go_enter Try.func95, Try.ntmps95
  go_wp2_with fail
  refine HC.out.mono ?_
  rintro e w1 ⟨rfl, hb⟩
  have HB := Lib.hid hb
  clear hb
  go_wp2
  go_ret
  exact ⟨rfl, HB.out⟩

set_option maxRecDepth 100000 in
set_option maxHeartbeats 1000000 in
theorem index_isBent (A : Option Addr) (c B : Nat) (rs : List (List Int)) (w : World) (h : IRR w 0 w.heap.size A rs) (hr : ∀ (k : Nat) (_hk : k < rs.length), rowB rs[k] = true) (hB : Boxed w B 101 (.func (.func 84) #[] #[])) (hBw : B < w.heap.size) :
    Calls Try.prog 104 #[.slice A rs.length c, .func (.func 95) #[] #[.pointer (some ⟨B, 0, none⟩)]] w fun e w' => ∃ k : Int, e = .returned (.int .i64 k) ∧ decide (0 ≤ k) = !rs.all bentB ∧ Below w.heap.size w w' := by
  have hl := h.1
  have H := Lib.hid h; have HB := Lib.hid hB; have HR := Lib.hid hr
  clear h hB hr
  go_enter Try.func104, Try.ntmps104
  go_wp2
  go_loopw [8] (fun i wr => ∃ k : Nat, k ≤ rs.length ∧ i = .int .i64 (k : Int) ∧ Below w.heap.size w wr ∧ Hid (∀ (j : Nat) (hj : j < rs.length), j < k → bentB rs[j] = true)) (fun i _ => rs.length - (intOf i).toNat)
  case atStart => exact ⟨0, Nat.zero_le _, rfl, Below.refl _ _, fun j _ hj => absurd hj (by omega)⟩
  case round =>
    obtain ⟨k, hk, rfl, hb, hok⟩ := hrel
    have HBl := Lib.hid hb
    by_cases hlt : k < rs.length
    · have HW := Lib.hid ((H.out.grow hb).toAll)
      have hBx : Boxed wr B 101 (.func (.func 84) #[] #[]) := (hb.block B hBw).trans HB.out
      obtain ⟨b, off, Ak, ck, rfl, _, hc, _, hrow⟩ := HW.out.at_ hlt
      have HC := Lib.hid (all1_isBent Ak ck B rs[k] wr hrow (HR.out k hlt) hBx)
      have hlt' : (k : Int) < (rs.length : Int) := by omega
      have k0 : (0 : Int) ≤ (k : Int) := by omega
      have HNO := Lib.hid (fun h => all_not (f := bentB) hlt h)
      obtain ⟨q, hq⟩ : ∃ q, bentB rs[k] = q := ⟨_, rfl⟩
      have HQ := Lib.hid hq
      rw [hq] at HC HNO
      clear hb hBx hrow hq
      cases q with
      | false =>
        go_wp2_with fail
        refine HC.out.mono ?_
        rintro e w1 ⟨rfl, hb⟩
        have HB1 := Lib.hid hb
        clear hb
        go_wp2
        go_ret
        exact ⟨(k : Int), rfl, by rw [HNO.out (by trivial)]; simp, HBl.out.trans (HB1.out.mono HBl.out.size)⟩
      | true =>
        clear HNO
        go_wp2_with fail
        refine HC.out.mono ?_
        rintro e w1 ⟨rfl, hb⟩
        have HB1 := Lib.hid hb
        clear hb
        go_wp2
        go_roundw
        case rel =>
          refine ⟨k + 1, by omega, by go_num, HBl.out.trans (HB1.out.mono HBl.out.size), fun j hj h1 => ?_⟩
          by_cases e : j = k
          · subst e; exact HQ.out
          · exact hok.out j hj (by omega)
        case measure => simp [intOf]; omega
    · obtain rfl : k = rs.length := by omega
      have HA : Hid (rs.all bentB = true) := all_yes fun j hj => hok.out j hj hj
      have hlt' : ¬ (rs.length : Int) < (rs.length : Int) := by omega
      clear hok hb
      go_wp2
      go_ret
      exact ⟨-1, rfl, by rw [HA.out]; rfl, HBl.out⟩

set_option maxRecDepth 100000 in
set_option maxHeartbeats 1000000 in
theorem all_isBent (A : Option Addr) (c : Nat) (rs : List (List Int)) (w : World) (h : IRR w 0 w.heap.size A rs) (hr : ∀ (k : Nat) (_hk : k < rs.length), rowB rs[k] = true) :
    Calls Try.prog 83 #[.slice A rs.length c, .func (.func 84) #[] #[]] w fun e w' => e = .returned (.bool (rs.all bentB)) ∧ Below w.heap.size w w' := by
  have B0 : Below w.heap.size w (w.alloc (.cells #[.func (.func 84) #[] #[]] 101)) := (Below.refl _ _).alloc (Nat.le_refl _) _
  have hI := index_isBent A c w.heap.size rs (w.alloc (.cells #[.func (.func 84) #[] #[]] 101)) ((h.grow B0).toAll) hr (Boxed.new _ _ _) (by simp)
  have HI := Lib.hid hI; have HB := Lib.hid B0
  clear h hr B0 hI
  have HCF : Hid (Calls Try.prog 94 #[.slice A rs.length c, .func (.func 95) #[] #[.pointer (some ⟨w.heap.size, 0, none⟩)]] (w.alloc (.cells #[.func (.func 84) #[] #[]] 101)) fun e w' => e = .returned (.bool (!rs.all bentB)) ∧ Below (w.heap.size + 1) (w.alloc (.cells #[.func (.func 84) #[] #[]] 101)) w') := by
    show Calls _ _ _ _ _
    obtain ⟨W, hW⟩ : ∃ W, w.alloc (.cells #[.func (.func 84) #[] #[]] 101) = W := ⟨_, rfl⟩
    have hs : W.heap.size = w.heap.size + 1 := by rw [← hW]; simp
    rw [hW] at HI
    rw [hW, ← hs]
    clear hW hs
    go_enter Try.func94, Try.ntmps94
    go_wp2_with fail
    refine HI.out.mono ?_
    rintro e w1 ⟨k, rfl, hk, hb⟩
    have HB1 := Lib.hid hb; have HK := Lib.hid hk
    clear hb
    by_cases k0 : 0 ≤ k
    · have hk' : (!rs.all bentB) = true := by rw [← hk]; simp [k0]
      have HK' := Lib.hid hk'
      clear hk hk'
      go_wp2
      go_ret
      first | exact ⟨ret_bool HK'.out.symm, HB1.out⟩ | exact ⟨ret_bool HK.out, HB1.out⟩
    · have hk' : (!rs.all bentB) = false := by rw [← hk]; simp [k0]
      have HK' := Lib.hid hk'
      clear hk hk'
      go_wp2
      go_ret
      first | exact ⟨ret_bool HK'.out.symm, HB1.out⟩ | exact ⟨ret_bool HK.out, HB1.out⟩
  clear HI
  go_enter Try.func83, Try.ntmps83
  go_wp2_with fail
  refine HCF.out.mono ?_
  rintro e w1 ⟨rfl, hb⟩
  have HB1 := Lib.hid hb
  clear hb
  go_wp2
  go_ret
  exact ⟨ret_bool (by simp), HB.out.trans (HB1.out.mono (by simp))⟩

set_option maxRecDepth 100000 in
set_option maxHeartbeats 1000000 in
theorem areRows_any (A : Option Addr) (c : Nat) (rs : List (List Int)) (w : World) (h : IRR w 0 w.heap.size A rs) :
    Calls Try.prog 70 #[.slice A rs.length c] w fun e w' => e = .returned (.bool (givenB rs)) ∧ Below w.heap.size w w' := by
  have HA := Lib.hid (all_isRow A c rs w h fun _ _ => trivial)
  by_cases h1 : 1 ≤ (rs.length : Int)
  · by_cases h2 : (rs.length : Int) ≤ 4
    · have HG : Hid (rs.all rowB = givenB rs) := by show _ = _; unfold givenB; rw [inB_true.2 ⟨h1, h2⟩, Bool.and_true]
      clear h
      go_enter Try.func70, Try.ntmps70
      go_wp2_with fail
      refine HA.out.mono ?_
      rintro e w1 ⟨rfl, hb⟩
      have HB := Lib.hid hb
      clear hb
      rw [HG.out]
      go_wp2
      go_ret
      exact ⟨rfl, HB.out⟩
    · have HG : Hid (givenB rs = false) := by show _ = _; unfold givenB; rw [show inB 1 4 (rs.length : Int) = false by simp [inB, h2], Bool.and_false]
      clear h HA
      go_enter Try.func70, Try.ntmps70
      go_wp2
      go_ret
      exact ⟨ret_bool HG.out.symm, Below.refl _ _⟩
  · have HG : Hid (givenB rs = false) := by show _ = _; unfold givenB; rw [show inB 1 4 (rs.length : Int) = false by simp [inB, h1], Bool.and_false]
    clear h HA
    go_enter Try.func70, Try.ntmps70
    go_wp2
    go_ret
    exact ⟨ret_bool HG.out.symm, Below.refl _ _⟩
theorem areRows_of {b : Bool} {A : Option Addr} {c n lo hi : Nat} {rs : List (List Int)} {w : World} (h : IRR w lo hi A rs) (hb : givenB rs = b) (hn : n = rs.length) :
    Calls Try.prog 70 #[.slice A n c] w fun e w' => e = .returned (.bool b) ∧ Below w.heap.size w w' := by
  subst hb; subst hn; exact areRows_any A c rs w h.toAll

set_option maxRecDepth 100000 in
set_option maxHeartbeats 1000000 in
theorem isSharing_any (A : Option Addr) (c : Nat) (rs : List (List Int)) (A1 : Option Addr) (c1 : Nat) (l : List Int) (w : World) (h : IRR w 0 w.heap.size A rs) (h1 : IR w 0 w.heap.size A1 l) :
    Calls Try.prog 65 #[.slice A rs.length c, .slice A1 l.length c1] w fun e w' => e = .returned (.bool (placesB rs l)) ∧ Below w.heap.size w w' := by
  have hl := h.1
  have hl1 := h1.1
  have H := Lib.hid h; have H1 := Lib.hid h1
  clear h h1
  go_enter Try.func65, Try.ntmps65
  cases hg : givenB rs with
  | false =>
    have HM : Hid (placesB rs l = false) := by show _ = _; unfold placesB; rw [hg]; rfl
    have HG := Lib.hid hg
    clear hg
    go_wp2_with fail
    refine (areRows_of H.out HG.out rfl).mono ?_
    rintro e w1 ⟨rfl, hb⟩
    have HB := Lib.hid hb
    clear hb
    go_wp2
    go_ret
    exact ⟨ret_bool HM.out.symm, HB.out⟩
  | true =>
    have HG := Lib.hid hg
    clear hg
    go_wp2_with fail
    refine (areRows_of H.out HG.out rfl).mono ?_
    rintro e w1 ⟨rfl, hb⟩
    have HB := Lib.hid hb
    have H2 := Lib.hid (H.out.grow hb); have H3 := Lib.hid (H1.out.grow hb)
    clear hb
    by_cases hll : l.length = rs.length
    · have HLL := Lib.hid hll
      have hq : (l.length : Int) = (rs.length : Int) := by omega
      obtain ⟨n, hn⟩ : ∃ n, l.length = n := ⟨_, rfl⟩
      have HN := Lib.hid hn
      have hrn : rs.length = n := by omega
      have HRN := Lib.hid hrn
      rw [hn] at hl1 hll
      rw [hn, hrn]
      clear hll hq hn hrn hl
      go_wp2
      go_loop [19] (fun i => ∃ k : Nat, k ≤ n ∧ i = .int .i64 (k : Int) ∧ Hid (∀ j, j < k → inB 0 (((rowAt rs j).length : Int) - 1) (l.getD j 0) = true)) (fun i => n - (intOf i).toNat)
      case atStart => exact ⟨0, Nat.zero_le _, rfl, fun j hj => absurd hj (by omega)⟩
      case round =>
        obtain ⟨k, hk, rfl, hok⟩ := hrel
        by_cases hlt : k < n
        · have hkr : k < rs.length := by rw [HRN.out]; exact hlt
          have hkl : k < l.length := by rw [HN.out]; exact hlt
          obtain ⟨b, off, Ak, ck, rfl, _, hc, _, hrow⟩ := H2.out.at_ hkr
          obtain ⟨b1, off1, rfl, _, _, hc1⟩ := H3.out.at_ hkl
          have hrl := hrow.1
          obtain ⟨x, hx⟩ : ∃ x, l[k] = x := ⟨_, rfl⟩
          obtain ⟨m, hm⟩ : ∃ m, rs[k].length = m := ⟨_, rfl⟩
          have hgx : l.getD k 0 = x := by rw [getD_at hkl, hx]
          have hrm : (rowAt rs k).length = m := by rw [rowAt_get hkr, hm]
          rw [hx] at hc1
          rw [hm] at hc hrl
          have hlt' : (k : Int) < (n : Int) := by omega
          have k0 : (0 : Int) ≤ (k : Int) := by omega
          obtain ⟨p, hp⟩ : ∃ p, inB 0 ((m : Int) - 1) x = p := ⟨_, rfl⟩
          have HP : Hid (inB 0 (((rowAt rs k).length : Int) - 1) (l.getD k 0) = p) := by show _ = _; rw [hgx, hrm]; exact hp
          have HJ := Lib.hid (fun W => isPlace_b p Ak m ck x W hp)
          clear hp hgx hrm hx hm hrow
          cases p with
          | false =>
            have HM := Lib.hid (places_bad hkl HP.out)
            go_wp2_with fail
            refine (HJ.out _).mono ?_
            rintro e w2 ⟨rfl, rfl⟩
            go_wp2
            go_ret
            exact ⟨ret_bool HM.out.symm, HB.out⟩
          | true =>
            go_wp2_with fail
            refine (HJ.out _).mono ?_
            rintro e w2 ⟨rfl, rfl⟩
            go_wp2
            go_round
            case rel =>
              refine ⟨k + 1, by omega, by go_num, fun j hj => ?_⟩
              by_cases e : j = k
              · subst e; exact HP.out
              · exact hok.out j (by omega)
            case measure => simp [intOf]; omega
        · obtain rfl : k = n := by omega
          have HM : Hid (placesB rs l = true) := places_all HG.out HLL.out fun j hj => hok.out j (by rw [← HN.out]; exact hj)
          have hlt' : ¬ (k : Int) < (k : Int) := by omega
          clear hok
          go_wp2
          go_ret
          exact ⟨ret_bool HM.out.symm, HB.out⟩
    · have HM : Hid (placesB rs l = false) := by show _ = _; unfold placesB; rw [decide_eq_false hll]; simp
      have hq : ¬ (l.length : Int) = (rs.length : Int) := by omega
      go_wp2
      go_ret
      exact ⟨ret_bool HM.out.symm, HB.out⟩
theorem isSharing_of {b : Bool} {A : Option Addr} {c lo hi : Nat} {rs : List (List Int)} {A1 : Option Addr} {c1 lo1 hi1 : Nat} {l : List Int} {n m : Nat} {w : World} (h : IRR w lo hi A rs) (h1 : IR w lo1 hi1 A1 l) (hb : placesB rs l = b) (hn : n = rs.length) (hm : m = l.length) :
    Calls Try.prog 65 #[.slice A n c, .slice A1 m c1] w fun e w' => e = .returned (.bool b) ∧ Below w.heap.size w w' := by
  subst hb; subst hn; subst hm; exact isSharing_any A c rs A1 c1 l w h.toAll h1.toAll

set_option maxRecDepth 100000 in
set_option maxHeartbeats 1000000 in
theorem implShareCost_any (A : Option Addr) (c : Nat) (rs : List (List Int)) (A1 : Option Addr) (c1 : Nat) (l : List Int) (w : World) (h : IRR w 0 w.heap.size A rs) (h1 : IR w 0 w.heap.size A1 l) :
    Calls Try.prog 33 #[.slice A rs.length c, .slice A1 l.length c1] w (RetIB w (placesB rs l) (shareCostL rs l)) := by
  have H := Lib.hid h; have H1 := Lib.hid h1
  clear h h1
  go_enter Try.func33, Try.ntmps33
  cases hp : placesB rs l with
  | false =>
    have HM : Hid (shareCostL rs l = 0) := by show _ = _; unfold shareCostL; rw [hp]; rfl
    have HP := Lib.hid hp
    clear hp
    go_wp2_with fail
    refine (isSharing_of H.out H1.out HP.out rfl rfl).mono ?_
    rintro e w1 ⟨rfl, hd⟩
    have HD := Lib.hid hd
    clear hd
    go_wp2
    go_ret2
    rw [HM.out]
    exact ⟨rfl, HD.out⟩
  | true =>
    have HM : Hid (shareCostL rs l = costS rs l) := by show _ = _; unfold shareCostL; rw [hp]; rfl
    have hln := (places_facts hp).1
    have hn4 := (places_facts hp).2.1
    have HP := Lib.hid hp
    obtain ⟨n, hn⟩ : ∃ n, l.length = n := ⟨_, rfl⟩
    have hrn : rs.length = n := by omega
    rw [hn, hrn]
    rw [hrn] at hn4
    have HN := Lib.hid hn; have HRN := Lib.hid hrn
    clear hp hln hn hrn
    go_wp2_with fail
    refine (isSharing_of H.out H1.out HP.out HRN.out.symm HN.out.symm).mono ?_
    rintro e w1 ⟨rfl, hd⟩
    have HB := Lib.hid hd
    have H2 := Lib.hid (H.out.grow hd); have H3 := Lib.hid (H1.out.grow hd)
    clear hd
    go_wp2
    go_loop [6, 15] (fun v i => ∃ k : Nat, k ≤ n ∧ i = .int .i64 (k : Int) ∧ v = .int .i64 (costTo rs l k)) (fun _ i => n - (intOf i).toNat)
    case atStart => exact ⟨0, Nat.zero_le _, rfl, rfl⟩
    case round =>
      obtain ⟨k, hk, rfl, rfl⟩ := hrel
      by_cases hlt : k < n
      · have hkr : k < rs.length := by rw [HRN.out]; exact hlt
        obtain ⟨b, off, bk, ok, ck, b1, off1, m, rfl, rfl, hc, hc1, ⟨hm1, hm2, hm3⟩, hcs, hbd⟩ := place_cells H2.out H3.out HP.out hkr
        have hcp := hcs _ hm1
        have hbp := hbd (plAt l k)
        have hct := costTo_bd HP.out (show k ≤ rs.length by omega)
        have hsc := costTo_succ rs l k
        obtain ⟨x, hx⟩ : ∃ x, (rowAt rs k).getD (plAt l k) 0 = x := ⟨_, rfl⟩
        obtain ⟨p, hpp⟩ : ∃ p, plAt l k = p := ⟨_, rfl⟩
        obtain ⟨s, hs⟩ : ∃ s, costTo rs l k = s := ⟨_, rfl⟩
        rw [hx] at hcp hbp hsc
        rw [hpp] at hc1 hm1 hcp
        rw [hs] at hct hsc
        rw [hs]
        have HSC := Lib.hid hsc
        have s1 : IntKind.i64.wrap (s + x) = s + x := IntWalk.i64_in _ (by omega)
        have hlt' : (k : Int) < (n : Int) := by omega
        have k0 : (0 : Int) ≤ (k : Int) := by omega
        have p0 : (0 : Int) ≤ (p : Int) := by omega
        have pm : (p : Int) < (m : Int) := by omega
        clear hcs hbd hct hsc hx hpp hs hm3 hbp
        go_wp2
        go_round
        case rel => exact ⟨k + 1, by omega, by go_num, by rw [HSC.out]⟩
        case measure => simp [intOf]; omega
      · obtain rfl : k = n := by omega
        have HC : Hid (costTo rs l k = costS rs l) := by show _ = _; rw [← costTo_all HP.out, HRN.out]
        have hlt' : ¬ (k : Int) < (k : Int) := by omega
        go_wp2
        go_ret2
        rw [HM.out, ← HC.out]
        exact ⟨rfl, HB.out⟩

set_option maxRecDepth 100000 in
set_option maxHeartbeats 1000000 in
/-- No slope leads to the first place, nor to one behind the last. -/
theorem slpTo_no (A : Option Addr) (m c x : Nat) (w : World) (_hm : m ≤ 12) (hx : x ≤ 13) (h : x = 0 ∨ m ≤ x) :
    Calls Try.prog 88 #[.slice A m c, .int .i64 (x : Int)] w fun e w' => e = .returned (.tuple #[.int .i64 0, .bool false]) ∧ Dr w w' := by
  have s1 : IntKind.i64.wrap ((x : Int) - 1) = (x : Int) - 1 := IntWalk.i64_in _ (by omega)
  by_cases h1 : 1 ≤ x ∧ x ≤ m
  · have hp1 : inB 0 ((m : Int) - 1) ((x : Int) - 1) = true := inB_true.2 (by omega)
    have hp2 : inB 0 ((m : Int) - 1) (x : Int) = false := by simp [inB]; omega
    have J1 := Lib.hid (fun W => isPlace_b true A m c ((x : Int) - 1) W hp1)
    have J2 := Lib.hid (fun W => isPlace_b false A m c (x : Int) W hp2)
    clear hp1 hp2 h h1
    go_enter Try.func88, Try.ntmps88
    go_wp2_with fail
    refine (J1.out _).mono ?_
    rintro e w1 ⟨rfl, rfl⟩
    go_wp2_with fail
    refine (J2.out _).mono ?_
    rintro e w1 ⟨rfl, rfl⟩
    go_wp2
    go_ret2
    exact ⟨rfl, Dr.refl _⟩
  · have hp1 : inB 0 ((m : Int) - 1) ((x : Int) - 1) = false := by simp [inB]; omega
    have J1 := Lib.hid (fun W => isPlace_b false A m c ((x : Int) - 1) W hp1)
    clear hp1 h h1
    go_enter Try.func88, Try.ntmps88
    go_wp2_with fail
    refine (J1.out _).mono ?_
    rintro e w1 ⟨rfl, rfl⟩
    go_wp2
    go_ret2
    exact ⟨rfl, Dr.refl _⟩

set_option maxRecDepth 100000 in
set_option maxHeartbeats 1000000 in
/-- The slope that leads from place j to the next one. -/
theorem slpTo_yes (b o m c j : Nat) (x y : Int) (w : World) (hm : m ≤ 12) (h : j + 1 < m) (hx : w.cell? ⟨b, o + j, none⟩ = some (.int .i64 x)) (hy : w.cell? ⟨b, o + (j + 1), none⟩ = some (.int .i64 y)) (bx : -1000 ≤ x ∧ x ≤ 1000) (byy : -1000 ≤ y ∧ y ≤ 1000) :
    Calls Try.prog 88 #[.slice (some ⟨b, o, none⟩) m c, .int .i64 ((j : Int) + 1)] w fun e w' => e = .returned (.tuple #[.int .i64 (y - x), .bool true]) ∧ Dr w w' := by
  have s1 : IntKind.i64.wrap ((j : Int) + 1 - 1) = (j : Int) := by rw [IntWalk.i64_in _ (by omega)]; omega
  have s2 : IntKind.i64.wrap (j : Int) = (j : Int) := IntWalk.i64_in _ (by omega)
  have s3 : IntKind.i64.wrap (y - x) = y - x := IntWalk.i64_in _ (by omega)
  have hp1 : inB 0 ((m : Int) - 1) (j : Int) = true := inB_true.2 (by omega)
  have hp2 : inB 0 ((m : Int) - 1) ((j : Int) + 1) = true := inB_true.2 (by omega)
  have J1 := Lib.hid (fun W => isPlace_b true (some ⟨b, o, none⟩) m c (j : Int) W hp1)
  have J2 := Lib.hid (fun W => isPlace_b true (some ⟨b, o, none⟩) m c ((j : Int) + 1) W hp2)
  have j0 : (0 : Int) ≤ (j : Int) := by omega
  have j1 : (0 : Int) ≤ (j : Int) + 1 := by omega
  have jm : (j : Int) < (m : Int) := by omega
  have jm1 : (j : Int) + 1 < (m : Int) := by omega
  have t1 : ((j : Int) + 1).toNat = j + 1 := by omega
  clear hp1 hp2 h bx byy
  go_enter Try.func88, Try.ntmps88
  go_wp2_with fail
  refine (J1.out _).mono ?_
  rintro e w1 ⟨rfl, rfl⟩
  go_wp2_with fail
  refine (J2.out _).mono ?_
  rintro e w1 ⟨rfl, rfl⟩
  go_wp2
  go_quiet (fail)
  go_wp2
  go_ret2
  exact ⟨rfl, _, rfl⟩

/-- What slopeTo tells of the place that leads to place i of a sharing, and of the one that leads from there. -/
theorem slpTo_at {W : World} {bk ok m c p : Nat} {r : List Int} (hm : m ≤ 12) (hp : p < m) (hcs : ∀ j, j < m → W.cell? ⟨bk, ok + j, none⟩ = some (.int .i64 (r.getD j 0))) (hbd : ∀ j, -1000 ≤ r.getD j 0 ∧ r.getD j 0 ≤ 1000) :
    (Calls Try.prog 88 #[.slice (some ⟨bk, ok, none⟩) m c, .int .i64 (p : Int)] W fun e w' => e = .returned (.tuple #[.int .i64 (if 0 < p then r.getD p 0 - r.getD (p - 1) 0 else 0), .bool (decide (0 < p))]) ∧ Dr W w') ∧
    (Calls Try.prog 88 #[.slice (some ⟨bk, ok, none⟩) m c, .int .i64 ((p : Int) + 1)] W fun e w' => e = .returned (.tuple #[.int .i64 (if p + 1 < m then r.getD (p + 1) 0 - r.getD p 0 else 0), .bool (decide (p + 1 < m))]) ∧ Dr W w') := by
  constructor
  · by_cases h : 0 < p
    · obtain ⟨j, rfl⟩ : ∃ j, p = j + 1 := ⟨p - 1, by omega⟩
      have := slpTo_yes bk ok m c j _ _ W hm hp (hcs j (by omega)) (hcs (j + 1) hp) (hbd _) (hbd _)
      rw [show ((j + 1 : Nat) : Int) = (j : Int) + 1 by omega, if_pos h, decide_eq_true h]
      exact this
    · rw [if_neg h, decide_eq_false h]
      exact slpTo_no _ m c p W hm (by omega) (.inl (by omega))
  · by_cases h : p + 1 < m
    · rw [if_pos h, decide_eq_true h]
      exact slpTo_yes bk ok m c p _ _ W hm h (hcs p hp) (hcs (p + 1) h) (hbd _) (hbd _)
    · rw [if_neg h, decide_eq_false h]
      have := slpTo_no (some ⟨bk, ok, none⟩) m c (p + 1) W hm (by omega) (.inr (by omega))
      rwa [show ((p + 1 : Nat) : Int) = (p : Int) + 1 by omega] at this

set_option maxRecDepth 100000 in
set_option maxHeartbeats 2000000 in
theorem prices_any (A : Option Addr) (c n lo hi lo1 hi1 : Nat) (rs : List (List Int)) (A1 : Option Addr) (c1 : Nat) (l : List Int) (w : World) (h : IRR w lo hi A rs) (h1 : IR w lo1 hi1 A1 l) (hp : placesB rs l = true) (hn : l.length = n) :
    Calls Try.prog 66 #[.slice A n c, .slice A1 n c1] w fun e w' => e = .returned (.tuple #[.int .i64 (lowL rs l), .int .i64 (highL rs l)]) ∧ Dr w w' := by
  have hn4 : n ≤ 4 := by have := places_facts hp; omega
  have hrn : rs.length = n := by have := places_facts hp; omega
  have H := Lib.hid h; have H1 := Lib.hid h1; have HP := Lib.hid hp; have HRN := Lib.hid hrn
  clear h h1 hp hn hrn
  go_enter Try.func66, Try.ntmps66
  go_wp2
  go_loopw [4, 5, 14] (fun v u i wr => ∃ k : Nat, k ≤ n ∧ i = .int .i64 (k : Int) ∧ v = .int .i64 (lowTo rs l k) ∧ u = .int .i64 (highTo rs l k) ∧ Dr w wr) (fun _ _ i _ => n - (intOf i).toNat)
  case atStart => exact ⟨0, Nat.zero_le _, rfl, rfl, rfl, Dr.refl _⟩
  case round =>
    obtain ⟨k, hk, rfl, rfl, rfl, hdr⟩ := hrel
    have HD := Lib.hid hdr
    by_cases hlt : k < n
    · have hkr : k < rs.length := by rw [HRN.out]; exact hlt
      obtain ⟨b, off, bk, ok, ck, b1, off1, m, rfl, rfl, hc, hc1, ⟨hm1, hm2, hm3⟩, hcs, hbd⟩ := place_cells (hdr.irr H.out) (hdr.ir H1.out) HP.out hkr
      have hs1 : lowTo rs l (k + 1) = if 0 < plAt l k then max (lowTo rs l k) (toS rs l k) else lowTo rs l k := rfl
      have hs2 : highTo rs l (k + 1) = if plAt l k + 1 < m then min (highTo rs l k) (frS rs l k) else highTo rs l k := by rw [← hm3]; rfl
      have hto : toS rs l k = (rowAt rs k).getD (plAt l k) 0 - (rowAt rs k).getD (plAt l k - 1) 0 := rfl
      have hfr : frS rs l k = (rowAt rs k).getD (plAt l k + 1) 0 - (rowAt rs k).getD (plAt l k) 0 := rfl
      have HSA := Lib.hid (fun W (hd : Dr wr W) => slpTo_at (W := W) (c := ck) hm2 hm1 (fun j hj => hd.cell (hcs j hj)) hbd)
      rw [← hto, ← hfr] at HSA
      obtain ⟨p, hpp⟩ : ∃ p, plAt l k = p := ⟨_, rfl⟩
      rw [hpp] at hc1 hm1 hs1 hs2 HSA
      obtain ⟨x1, hx1⟩ : ∃ x, toS rs l k = x := ⟨_, rfl⟩
      obtain ⟨x2, hx2⟩ : ∃ x, frS rs l k = x := ⟨_, rfl⟩
      obtain ⟨q1, hq1⟩ : ∃ s, lowTo rs l k = s := ⟨_, rfl⟩
      obtain ⟨q2, hq2⟩ : ∃ s, highTo rs l k = s := ⟨_, rfl⟩
      rw [hx1] at hs1 HSA
      rw [hx2] at hs2 HSA
      rw [hq1] at hs1
      rw [hq2] at hs2
      rw [hq1, hq2]
      have HS1 := Lib.hid hs1; have HS2 := Lib.hid hs2
      have hlt' : (k : Int) < (n : Int) := by omega
      have k0 : (0 : Int) ≤ (k : Int) := by omega
      have t3 : IntKind.i64.wrap ((p : Int) + 1) = (p : Int) + 1 := IntWalk.i64_in _ (by omega)
      have key : ∀ r1 r2, lowTo rs l (k + 1) = r1 → highTo rs l (k + 1) = r2 → Hid (lowTo rs l (k + 1) = r1 ∧ highTo rs l (k + 1) = r2) := fun _ _ h1 h2 => ⟨h1, h2⟩
      have HC := Lib.hid hc; have HC1 := Lib.hid hc1
      clear hcs hbd hs1 hs2 hto hfr hx1 hx2 hq1 hq2 hm3 hpp hdr
      obtain ⟨v1, hv1⟩ : ∃ v, (if 0 < p then x1 else 0) = v := ⟨_, rfl⟩
      obtain ⟨v2, hv2⟩ : ∃ v, (if p + 1 < m then x2 else 0) = v := ⟨_, rfl⟩
      obtain ⟨b1', hb1⟩ : ∃ v, decide (0 < p) = v := ⟨_, rfl⟩
      obtain ⟨b2', hb2⟩ : ∃ v, decide (p + 1 < m) = v := ⟨_, rfl⟩
      rw [hv1, hv2, hb1, hb2] at HSA
      have e1 : lowTo rs l (k + 1) = if b1' = true then max q1 v1 else q1 := by
        rw [HS1.out, ← hb1]
        by_cases h : 0 < p
        · rw [if_pos h] at hv1; simp [h, hv1]
        · simp [h]
      have e2 : highTo rs l (k + 1) = if b2' = true then min q2 v2 else q2 := by
        rw [HS2.out, ← hb2]
        by_cases h : p + 1 < m
        · rw [if_pos h] at hv2; simp [h, hv2]
        · simp [h]
      have HE := Lib.hid (key _ _ e1 e2).out
      clear key HS1 HS2 e1 e2 hb1 hb2 hv1 hv2 hm1
      go_wp2_with fail
      refine ((HSA.out _ (Dr.refl _)).1).mono ?_
      rintro e w1 ⟨rfl, hd1⟩
      have HD1 := Lib.hid hd1
      have hc' := hd1.cell HC.out; have hc1' := hd1.cell HC1.out
      clear hd1 hc hc1
      cases b1' with
      | false =>
        go_wp2_with fail
        refine ((HSA.out _ HD1.out).2).mono ?_
        rintro e w2 ⟨rfl, hd2⟩
        have HD2 := Lib.hid (HD.out.trans (HD1.out.trans hd2))
        clear hd2 hc' hc1' HSA
        cases b2' with
        | false =>
          go_wp2
          go_roundw
          case rel => exact ⟨k + 1, by omega, by go_num, by rw [HE.out.1]; rfl, by rw [HE.out.2]; rfl, HD2.out⟩
          case measure => simp [intOf]; omega
        | true =>
          go_wp2
          go_roundw
          case rel => exact ⟨k + 1, by omega, by go_num, by rw [HE.out.1]; rfl, by rw [HE.out.2]; simp; split <;> omega, HD2.out⟩
          case measure => simp [intOf]; omega
      | true =>
        by_cases g1 : q1 < v1
        all_goals
          go_wp2_with fail
          refine ((HSA.out _ HD1.out).2).mono ?_
          rintro e w2 ⟨rfl, hd2⟩
          have HD2 := Lib.hid (HD.out.trans (HD1.out.trans hd2))
          clear hd2 hc' hc1' HSA
          cases b2' with
          | false =>
            go_wp2
            go_roundw
            case rel => exact ⟨k + 1, by omega, by go_num, by rw [HE.out.1]; simp; omega, by rw [HE.out.2]; rfl, HD2.out⟩
            case measure => simp [intOf]; omega
          | true =>
            go_wp2
            go_roundw
            case rel => exact ⟨k + 1, by omega, by go_num, by rw [HE.out.1]; simp; omega, by rw [HE.out.2]; simp; split <;> omega, HD2.out⟩
            case measure => simp [intOf]; omega
    · obtain rfl : k = n := by omega
      have hlt' : ¬ (k : Int) < (k : Int) := by omega
      have HL : Hid (lowTo rs l k = lowL rs l ∧ highTo rs l k = highL rs l) := by show _ ∧ _; unfold lowL highL; rw [HRN.out]; exact ⟨rfl, rfl⟩
      go_wp2
      go_ret2
      rw [← HL.out.1, ← HL.out.2]
      exact ⟨rfl, HD.out⟩

set_option maxRecDepth 100000 in
set_option maxHeartbeats 1000000 in
theorem implSharePrice_any (A : Option Addr) (c : Nat) (rs : List (List Int)) (A1 : Option Addr) (c1 : Nat) (l : List Int) (w : World) (h : IRR w 0 w.heap.size A rs) (h1 : IR w 0 w.heap.size A1 l) :
    Calls Try.prog 35 #[.slice A rs.length c, .slice A1 l.length c1] w (RetP w rs l) := by
  have H := Lib.hid h; have H1 := Lib.hid h1
  clear h h1
  go_enter Try.func35, Try.ntmps35
  cases hp : placesB rs l with
  | false =>
    have HM : Hid (RetP w rs l = fun e w' => e = .returned (.tuple #[.int .i64 0, .int .i64 0, .bool false]) ∧ Below w.heap.size w w') := by
      show _ = _
      funext e w'
      have : pricesB rs l = false := by unfold pricesB; rw [hp]; rfl
      unfold RetP priceLo priceHi
      rw [this]
      simp
    have HP := Lib.hid hp
    clear hp
    rw [HM.out]
    go_wp2_with fail
    refine (isSharing_of H.out H1.out HP.out rfl rfl).mono ?_
    rintro e w1 ⟨rfl, hd⟩
    have HD := Lib.hid hd
    clear hd
    go_wp2
    go_ret3
    exact ⟨rfl, HD.out⟩
  | true =>
    have hln := (places_facts hp).1
    have HP := Lib.hid hp
    obtain ⟨n, hn⟩ : ∃ n, l.length = n := ⟨_, rfl⟩
    have hrn : rs.length = n := by omega
    rw [hn, hrn]
    have HN := Lib.hid hn; have HRN := Lib.hid hrn
    clear hp hln hn hrn
    go_wp2_with fail
    refine (isSharing_of H.out H1.out HP.out HRN.out.symm HN.out.symm).mono ?_
    rintro e w1 ⟨rfl, hd⟩
    have HB := Lib.hid hd
    have H2 := Lib.hid (H.out.grow hd); have H3 := Lib.hid (H1.out.grow hd)
    clear hd
    go_wp2_with fail
    refine (prices_any _ _ n _ _ _ _ rs _ _ l _ H2.out H3.out HP.out HN.out).mono ?_
    rintro e w2 ⟨rfl, hd⟩
    have HD := Lib.hid (below_then HB.out (Nat.le_refl _) hd.below)
    clear hd
    obtain ⟨q1, hq1⟩ : ∃ s, lowL rs l = s := ⟨_, rfl⟩
    obtain ⟨q2, hq2⟩ : ∃ s, highL rs l = s := ⟨_, rfl⟩
    have hpb : pricesB rs l = decide (q1 ≤ q2) := by unfold pricesB; rw [HP.out, hq1, hq2, Bool.true_and]
    by_cases hle : q1 ≤ q2
    · have HM : Hid (RetP w rs l = fun e w' => e = .returned (.tuple #[.int .i64 q1, .int .i64 q2, .bool true]) ∧ Below w.heap.size w w') := by
        show _ = _
        funext e w'
        have : pricesB rs l = true := by rw [hpb, decide_eq_true hle]
        unfold RetP priceLo priceHi
        rw [this, if_pos rfl, if_pos rfl, hq1, hq2]
      rw [hq1, hq2]
      have hgt : ¬ q2 < q1 := by omega
      clear hpb hq1 hq2
      go_wp2
      go_ret3
      rw [HM.out]
      exact ⟨rfl, HD.out⟩
    · have HM : Hid (RetP w rs l = fun e w' => e = .returned (.tuple #[.int .i64 0, .int .i64 0, .bool false]) ∧ Below w.heap.size w w') := by
        show _ = _
        funext e w'
        have : pricesB rs l = false := by rw [hpb, decide_eq_false hle]
        unfold RetP priceLo priceHi
        rw [this]
        simp
      rw [hq1, hq2]
      have hgt : q2 < q1 := by omega
      clear hpb hq1 hq2
      go_wp2
      go_ret3
      rw [HM.out]
      exact ⟨rfl, HD.out⟩

def betB (rs : List (List Int)) (l : List Int) (i k : Nat) : Bool := decide (i ≠ k) && (decide (0 < plAt l i) && (decide (plAt l k + 1 < (rowAt rs k).length) && decide (frS rs l k < toS rs l i)))
theorem betB_n (rs : List (List Int)) (l : List Int) (i k : Nat) : betN rs l i k = if betB rs l i k = true then 1 else 0 := by
  have hmv : moveD rs l i k = frS rs l k - toS rs l i := rfl
  have h : (moveD rs l i k < 0) = (frS rs l k < toS rs l i) := by rw [hmv]; exact propext ⟨fun h => by omega, fun h => by omega⟩
  unfold betN betB
  simp only [h, Bool.and_eq_true, decide_eq_true_eq]

set_option maxRecDepth 100000 in
set_option maxHeartbeats 2000000 in
theorem moveHelps_any (A : Option Addr) (c n lo hi lo1 hi1 i k : Nat) (rs : List (List Int)) (A1 : Option Addr) (c1 : Nat) (l : List Int) (w : World) (h : IRR w lo hi A rs) (h1 : IR w lo1 hi1 A1 l) (hp : placesB rs l = true) (hn : l.length = n) (hi : i < n) (hk : k < n) :
    Calls Try.prog 67 #[.slice A n c, .slice A1 n c1, .int .i64 (i : Int), .int .i64 (k : Int)] w fun e w' => e = .returned (.bool (betB rs l i k)) ∧ Dr w w' := by
  have hrn : rs.length = n := by have := places_facts hp; omega
  have hn4 : n ≤ 4 := by have := places_facts hp; omega
  obtain ⟨b, off, bi, oi, ci, b1, off1, m, rfl, rfl, hci, hci1, ⟨hm1, hm2, hm3⟩, hcsi, hbdi⟩ := place_cells h h1 hp (show i < rs.length by omega)
  obtain ⟨_, _, bk, ok, ck, _, _, m', e1, e2, hck, hck1, ⟨hm1', hm2', hm3'⟩, hcsk, hbdk⟩ := place_cells h h1 hp (show k < rs.length by omega)
  injection e1 with e1; injection e1 with e3 e4 _; subst e3; subst e4
  injection e2 with e2; injection e2 with e3 e4 _; subst e3; subst e4
  have hto : toS rs l i = (rowAt rs i).getD (plAt l i) 0 - (rowAt rs i).getD (plAt l i - 1) 0 := rfl
  have hfr : frS rs l k = (rowAt rs k).getD (plAt l k + 1) 0 - (rowAt rs k).getD (plAt l k) 0 := rfl
  have J1 := Lib.hid (fun W (hd : Dr w W) => (slpTo_at (W := W) (c := ci) hm2 hm1 (fun j hj => hd.cell (hcsi j hj)) hbdi).1)
  have J2 := Lib.hid (fun W (hd : Dr w W) => (slpTo_at (W := W) (c := ck) hm2' hm1' (fun j hj => hd.cell (hcsk j hj)) hbdk).2)
  rw [← hto] at J1
  rw [← hfr] at J2
  have hbt : betB rs l i k = (decide (i ≠ k) && (decide (0 < plAt l i) && (decide (plAt l k + 1 < m') && decide (frS rs l k < toS rs l i)))) := by unfold betB; rw [hm3']
  obtain ⟨p, hpp⟩ : ∃ p, plAt l i = p := ⟨_, rfl⟩
  obtain ⟨q, hqq⟩ : ∃ q, plAt l k = q := ⟨_, rfl⟩
  obtain ⟨x1, hx1⟩ : ∃ x, toS rs l i = x := ⟨_, rfl⟩
  obtain ⟨x2, hx2⟩ : ∃ x, frS rs l k = x := ⟨_, rfl⟩
  rw [hpp] at hci1 J1 hbt hm1
  rw [hqq] at hck1 J2 hbt hm1'
  rw [hx1] at J1 hbt
  rw [hx2] at J2 hbt
  obtain ⟨v1, hv1⟩ : ∃ v, (if 0 < p then x1 else 0) = v := ⟨_, rfl⟩
  obtain ⟨v2, hv2⟩ : ∃ v, (if q + 1 < m' then x2 else 0) = v := ⟨_, rfl⟩
  obtain ⟨o1, ho1⟩ : ∃ v, decide (0 < p) = v := ⟨_, rfl⟩
  obtain ⟨o2, ho2⟩ : ∃ v, decide (q + 1 < m') = v := ⟨_, rfl⟩
  rw [hv1, ho1] at J1
  rw [hv2, ho2] at J2
  have HBT : Hid (betB rs l i k = (decide (i ≠ k) && (o1 && (o2 && decide (v2 < v1))))) := by
    show _ = _
    rw [hbt, ho1, ho2]
    cases o1 with
    | false => simp
    | true =>
      cases o2 with
      | false => simp
      | true =>
        rw [decide_eq_true_eq] at ho1 ho2
        rw [if_pos ho1] at hv1
        rw [if_pos ho2] at hv2
        rw [hv1, hv2]
  have i0 : (0 : Int) ≤ (i : Int) := by omega
  have k0 : (0 : Int) ≤ (k : Int) := by omega
  have hi' : (i : Int) < (n : Int) := by omega
  have hk' : (k : Int) < (n : Int) := by omega
  have t3 : IntKind.i64.wrap ((q : Int) + 1) = (q : Int) + 1 := IntWalk.i64_in _ (by omega)
  clear h h1 hp hn hi hk hcsi hcsk hbdi hbdk hto hfr hbt hpp hqq hx1 hx2 hv1 hv2 ho1 ho2 hm1 hm1' hm3 hm3' hrn hm2 hm2'
  go_enter Try.func67, Try.ntmps67
  go_wp2
  go_quiet ((go_at_call 88; exact Calls.quiet_of (J1.out _ ⟨_, rfl⟩)))
  go_wp2
  obtain ⟨W, hW⟩ : ∃ W, w.drewN nq = W := ⟨_, rfl⟩
  have HDW : Hid (Dr w W) := ⟨nq, hW.symm⟩
  rw [hW]
  replace hck := HDW.out.cell hck
  replace hck1 := HDW.out.cell hck1
  clear hW hci hci1 J1
  go_quiet ((go_at_call 88; exact Calls.quiet_of (J2.out _ (HDW.out.more _))))
  clear J2 hck hck1
  have HD2 := Lib.hid (HDW.out.more nq)
  by_cases hik : i = k
  · have hik' : (i : Int) = (k : Int) := by omega
    subst hik
    go_wp2
    go_ret
    exact ⟨ret_bool (by rw [HBT.out]; simp), HD2.out⟩
  · have hik1 : ¬ (i : Int) = (k : Int) := by omega
    have hik2 : ((i : Int) == (k : Int)) = false := by rw [beq_eq_false_iff_ne]; exact hik1
    cases o1 with
    | false =>
      go_wp2
      go_ret
      exact ⟨ret_bool (by rw [HBT.out]; simp), HD2.out⟩
    | true =>
      cases o2 with
      | false =>
        go_wp2
        go_ret
        exact ⟨ret_bool (by rw [HBT.out]; simp), HD2.out⟩
      | true =>
        by_cases hlt : v2 < v1
        · have hlt' : decide (v2 < v1) = true := decide_eq_true hlt
          go_wp2
          go_ret
          exact ⟨ret_bool (by rw [HBT.out]; simp [hik, hik1, hlt]), HD2.out⟩
        · have hlt' : decide (v2 < v1) = false := decide_eq_false hlt
          go_wp2
          go_ret
          exact ⟨ret_bool (by rw [HBT.out]; simp [hlt]), HD2.out⟩

set_option maxRecDepth 100000 in
set_option maxHeartbeats 2000000 in
theorem implShareMoves_any (A : Option Addr) (c : Nat) (rs : List (List Int)) (A1 : Option Addr) (c1 : Nat) (l : List Int) (w : World) (h : IRR w 0 w.heap.size A rs) (h1 : IR w 0 w.heap.size A1 l) :
    Calls Try.prog 37 #[.slice A rs.length c, .slice A1 l.length c1] w (RetIB w (placesB rs l) (shareMovesL rs l)) := by
  have H := Lib.hid h; have H1 := Lib.hid h1
  clear h h1
  go_enter Try.func37, Try.ntmps37
  cases hp : placesB rs l with
  | false =>
    have HM : Hid (shareMovesL rs l = 0) := by show _ = _; unfold shareMovesL; rw [hp]; rfl
    have HP := Lib.hid hp
    clear hp
    go_wp2_with fail
    refine (isSharing_of H.out H1.out HP.out rfl rfl).mono ?_
    rintro e w1 ⟨rfl, hd⟩
    have HD := Lib.hid hd
    clear hd
    go_wp2
    go_ret2
    rw [HM.out]
    exact ⟨rfl, HD.out⟩
  | true =>
    have HM : Hid (shareMovesL rs l = movesL rs l) := by show _ = _; unfold shareMovesL; rw [hp]; rfl
    have hln := (places_facts hp).1
    have hn4 := (places_facts hp).2.1
    have HP := Lib.hid hp
    obtain ⟨n, hn⟩ : ∃ n, l.length = n := ⟨_, rfl⟩
    have hrn : rs.length = n := by omega
    rw [hn, hrn]
    rw [hrn] at hn4
    have HN := Lib.hid hn; have HRN := Lib.hid hrn
    clear hp hln hn hrn
    go_wp2_with fail
    refine (isSharing_of H.out H1.out HP.out HRN.out.symm HN.out.symm).mono ?_
    rintro e w1 ⟨rfl, hd⟩
    have HB := Lib.hid hd
    have H2 := Lib.hid (H.out.grow hd); have H3 := Lib.hid (H1.out.grow hd)
    clear hd H H1
    go_wp2
    go_loopw [7, 17] (fun v x wr => ∃ i : Nat, i ≤ n ∧ x = .int .i64 (i : Int) ∧ v = .int .i64 (movesTo rs l n i) ∧ Dr w1 wr) (fun _ x _ => n - (intOf x).toNat)
    case atStart => exact ⟨0, Nat.zero_le _, rfl, rfl, Dr.refl _⟩
    case round =>
      obtain ⟨W0, hW0⟩ : ∃ W, W = wr := ⟨_, rfl⟩
      subst hW0
      obtain ⟨i, hi, rfl, rfl, hdr⟩ := hrel
      have HD := Lib.hid hdr
      clear hdr
      by_cases hin : i < n
      · have hin' : (i : Int) < (n : Int) := by omega
        have i0 : (0 : Int) ≤ (i : Int) := by omega
        go_wp2
        go_loopw [7, 22] (fun v x wr => ∃ k : Nat, k ≤ n ∧ x = .int .i64 (k : Int) ∧ v = .int .i64 (movesTo rs l n i + sumN (betN rs l i) k) ∧ Dr w1 wr) (fun _ x _ => n - (intOf x).toNat)
        case atStart => exact ⟨0, Nat.zero_le _, rfl, by show _ = Value.int .i64 (movesTo rs l n i + 0); rw [Int.add_zero], HD.out⟩
        case round =>
          clear HD
          obtain ⟨k, hk, rfl, rfl, hdr⟩ := hrel
          have HD := Lib.hid hdr
          by_cases hkn : k < n
          · have hkn' : (k : Int) < (n : Int) := by omega
            have k0 : (0 : Int) ≤ (k : Int) := by omega
            have hbd := movesTo_bd rs l (n := n) (i := i) (k := k) hn4 (by omega) (by omega)
            have hsn : sumN (betN rs l i) (k + 1) = sumN (betN rs l i) k + betN rs l i k := rfl
            have hbn := betB_n rs l i k
            have HJ := Lib.hid (moveHelps_any A c n _ _ _ _ i k rs A1 c1 l wr (hdr.irr H2.out) (hdr.ir H3.out) HP.out HN.out hin hkn)
            obtain ⟨q, hq⟩ : ∃ q, betB rs l i k = q := ⟨_, rfl⟩
            rw [hq] at HJ hbn
            obtain ⟨M, hM⟩ : ∃ M, movesTo rs l n i + sumN (betN rs l i) k = M := ⟨_, rfl⟩
            rw [hM] at hbd
            rw [hM]
            have HSN : Hid (movesTo rs l n i + sumN (betN rs l i) (k + 1) = M + if q = true then 1 else 0) := by show _ = _; rw [hsn, ← hM, hbn]; omega
            have sM : IntKind.i64.wrap (M + 1) = M + 1 := IntWalk.i64_in _ (by omega)
            clear hdr hsn hbn hq hM hbd
            go_wp2_with fail
            refine HJ.out.mono ?_
            rintro e w3 ⟨rfl, hd⟩
            have HD3 := Lib.hid (HD.out.trans hd)
            clear hd HJ
            cases q with
            | false =>
              go_wp2
              go_roundw
              case rel => exact ⟨k + 1, by omega, by go_num, by rw [HSN.out]; simp, HD3.out⟩
              case measure => simp [intOf]; omega
            | true =>
              go_wp2
              go_roundw
              case rel => exact ⟨k + 1, by omega, by go_num, by rw [HSN.out]; simp, HD3.out⟩
              case measure => simp [intOf]; omega
          · obtain rfl : k = n := by omega
            have hkn' : ¬ (k : Int) < (k : Int) := by omega
            clear hdr
            go_wp2
            go_roundw
            case rel => exact ⟨i + 1, by omega, by go_num, rfl, HD.out⟩
            case measure => simp [intOf]; omega
      · obtain rfl : i = n := by omega
        have hin' : ¬ (i : Int) < (i : Int) := by omega
        have HC : Hid (movesTo rs l i i = movesL rs l) := by show _ = _; rw [← moves_all, HRN.out]
        go_wp2
        go_ret2
        rw [HM.out, ← HC.out]
        exact ⟨rfl, below_then HB.out (Nat.le_refl _) HD.out.below⟩
end Go.Proofs.Ytclhbmmlkcbdkaa
