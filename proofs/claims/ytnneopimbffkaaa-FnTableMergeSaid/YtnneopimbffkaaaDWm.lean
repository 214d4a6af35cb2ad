/-
  What the laws of chapter 5 draw: two tables. Conditions: none.
-/
import Derived.Test.YtnneopimbffkaaaDW
namespace Go.Proofs.Ytnneopimbffkaaa
open Go.RowKit

set_option maxRecDepth 100000 in
set_option maxHeartbeats 2000000 in
theorem DrawTableMerge_any (A : Option Addr) (c : Nat) (bs : List Int) (w : World) (h : BR w w.heap.size A bs) (hc : bs.length ≤ c) (hc2 : c ≤ 9000000000000000000) :
    Calls Try.prog 23 #[.slice A bs.length c] w (TwoTPost w) := by
  have H := Lib.hid h
  clear h
  go_enter Try.func23, Try.ntmps23
  go_wp2_with fail
  refine (l6Open_any A c bs _ H.out hc hc2).mono ?_
  rintro e w1 ⟨rfl, hr, hb⟩
  have B0 := Lib.hid hb; have R0 := Lib.hid hr
  have hs1 : w.heap.size < w1.heap.size := R0.out.lt
  have hs2 := B0.out.size
  clear hb hr
  go_wp2_with fail
  refine (pick_any w.heap.size _ 5 _ R0.out (by omega) (by omega)).mono ?_
  rintro e w2 ⟨v0, rfl, v00, v01, -, hb, hs, hr⟩
  have v02 := v01 (by omega)
  replace B0 := Lib.hid (B0.out.trans (hb.toBelow hs2 (Nat.le_refl _)))
  replace R0 := Lib.hid hr
  have hs2 := B0.out.size
  clear hb hs hr v01
  obtain ⟨n0, hn0⟩ : ∃ n : Nat, 1 + v0 = (n : Int) := ⟨(1 + v0).toNat, by omega⟩
  have t0 : IntKind.i64.wrap (1 + v0) = (n0 : Int) := by rw [← hn0]; exact IntWalk.i64_in _ (by omega)
  go_wp2_with fail
  refine (pick_any w.heap.size _ 5 _ R0.out (by omega) (by omega)).mono ?_
  rintro e w3 ⟨v1, rfl, v10, v11, -, hb, hs, hr⟩
  have v12 := v11 (by omega)
  replace B0 := Lib.hid (B0.out.trans (hb.toBelow hs2 (Nat.le_refl _)))
  replace R0 := Lib.hid hr
  have hs2 := B0.out.size
  clear hb hs hr v11
  obtain ⟨n1, hn1⟩ : ∃ n : Nat, 1 + v1 = (n : Int) := ⟨(1 + v1).toNat, by omega⟩
  have t1 : IntKind.i64.wrap (1 + v1) = (n1 : Int) := by rw [← hn1]; exact IntWalk.i64_in _ (by omega)
  have hlt3 := R0.out.lt
  go_wp2_with fail
  refine (l92Table_any w.heap.size _ n0 n1 _ R0.out (by omega) (by omega) (by omega)).mono ?_
  rintro e w4 ⟨A4, m4, c4, t, p4, rfl, rfl, hcc, hcc2, hi, hb, hr, hp4⟩
  replace B0 := Lib.hid (B0.out.trans (hb.toBelow hs2 (Nat.le_refl _)))
  have I0 := Lib.hid hi
  replace R0 := Lib.hid hr
  have hs2 := B0.out.size
  have hsz4 := hb.size
  clear hb hr hi
  go_wp2_with fail
  refine (pick_any w.heap.size _ 24 _ R0.out (by omega) (by omega)).mono ?_
  rintro e w5 ⟨v2, rfl, v20, v21, -, hb, hs, hr⟩
  have v22 := v21 (by omega)
  replace B0 := Lib.hid (B0.out.trans (hb.toBelow hs2 (Nat.le_refl _)))
  replace I0 := Lib.hid ((I0.out.but hb (Nat.le_refl _) (by omega)).wide (Nat.le_refl _) hb.size (Nat.le_refl _))
  replace R0 := Lib.hid hr
  have hs2 := B0.out.size
  have hsz5 := hb.size
  clear hb hs hr v21
  go_wp2_with fail
  refine (pick_any w.heap.size _ 5 _ R0.out (by omega) (by omega)).mono ?_
  rintro e w6 ⟨v3, rfl, v30, v31, -, hb, hs, hr⟩
  have v32 := v31 (by omega)
  replace B0 := Lib.hid (B0.out.trans (hb.toBelow hs2 (Nat.le_refl _)))
  replace I0 := Lib.hid ((I0.out.but hb (Nat.le_refl _) (by omega)).wide (Nat.le_refl _) hb.size (Nat.le_refl _))
  replace R0 := Lib.hid hr
  have hs2 := B0.out.size
  have hsz6 := hb.size
  clear hb hs hr v31
  obtain ⟨n2, hn2⟩ : ∃ n : Nat, (n1 : Int) + v2 / 23 = (n : Int) := ⟨((n1 : Int) + v2 / 23).toNat, by omega⟩
  obtain ⟨n3, hn3⟩ : ∃ n : Nat, 1 + v3 = (n : Int) := ⟨(1 + v3).toNat, by omega⟩
  have u6 : IntKind.i64.wrap (1 + v3) = (n3 : Int) := by rw [← hn3]; exact IntWalk.i64_in _ (by omega)
  go_wp2_with fail
  refine (l92Table_any w.heap.size _ n2 n3 _ R0.out (by omega) (by omega) (by omega)).mono ?_
  rintro e w7 ⟨A7, m7, c7, u, p7, rfl, rfl, hcc, hcc2, hi, hb, hr, -⟩
  replace B0 := Lib.hid (B0.out.trans (hb.toBelow hs2 (by omega)))
  replace I0 := Lib.hid ((I0.out.but hb (Nat.le_refl _) (by omega)).wide (Nat.le_refl _) hb.size (Nat.le_refl _))
  have J0 := Lib.hid hi
  clear hb hr hi
  go_wp2
  go_ret2
  exact ⟨A4, c4, t, A7, c7, u, rfl, I0.out.toAll, J0.out.toAll, B0.out⟩
end Go.Proofs.Ytnneopimbffkaaa
