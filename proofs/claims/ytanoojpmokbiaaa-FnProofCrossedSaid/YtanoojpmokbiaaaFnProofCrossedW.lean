/-
  The law FnProofCrossed walked: for all codes it returns true, and nothing that lay before has turned. Conditions: none but those of its row.
-/
import Derived.Test.YtanoojpmokbiaaaDW
import Derived.Test.YtanoojpmokbiaaaPcA
import Derived.Test.YtanoojpmokbiaaaPcB
import Derived.Test.YtanoojpmokbiaaaLawR
import Derived.Test.YtanoojpmokbiaaaSame
import Derived.Test.YtanoojpmokbiaaaMathA
namespace Go.Proofs.Ytanoojpmokbiaaa
open Go.RowKit

set_option maxHeartbeats 1000000 in
theorem DrawProofCrossed_any (A : Option Addr) (c : Nat) (bs : List Int) (w : World) (h : BR w w.heap.size A bs) (hc : bs.length ≤ c) (hc2 : c ≤ 9000000000000000000) :
    Calls Try.prog 13 #[.slice A bs.length c] w (OneTPost w) := by
  have H := Lib.hid h
  clear h
  go_enter Try.func13, Try.ntmps13
  go_wp2_with fail
  refine (l92One_any A c bs _ H.out hc hc2).mono ?_
  rintro e w1 ⟨A1, c1, t, rfl, hi, hb⟩
  have I0 := Lib.hid hi; have B0 := Lib.hid hb
  clear hi hb
  go_wp2
  go_ret
  exact ⟨A1, c1, t, rfl, I0.out, B0.out⟩
theorem implPc_of {x y : Int} {b : Bool} {lo hi : Nat} (A : Option Addr) (c : Nat) (t : List (List Int)) (w : World) (h : IRR w lo hi A t) (h1 : pcV (pcM t) = #[.int .i64 x, .int .i64 y, .bool b]) :
    Calls Try.prog 11 #[.slice A t.length c] w fun e w' => e = .returned (.tuple #[.int .i64 x, .int .i64 y, .bool b]) ∧ Below w.heap.size w w' := by rw [← h1]; exact implProofCrossed_any A c t w h.toAll
theorem specPc_of {x y : Int} {b : Bool} {lo hi : Nat} (A : Option Addr) (c : Nat) (t : List (List Int)) (w : World) (h : IRR w lo hi A t) (h1 : pcV (pcM t) = #[.int .i64 x, .int .i64 y, .bool b]) :
    Calls Try.prog 9 #[.slice A t.length c] w fun e w' => e = .returned (.tuple #[.int .i64 x, .int .i64 y, .bool b]) ∧ Below w.heap.size w w' := by
  rw [← h1]; exact (specProofCrossed_any A c lo hi t w h).mono fun _ _ h => ⟨h.1, h.2.below⟩
theorem implCr_of {b : Bool} {n lo hi : Nat} (A : Option Addr) (c : Nat) (t : List (List Int)) (w : World) (h : IRR w lo hi A t) (hb : crossedB t = b) (hn : n = t.length) :
    Calls Try.prog 14 #[.slice A n c] w fun e w' => e = .returned (.bool b) ∧ Below w.heap.size w w' := by subst hn; subst hb; exact implTableCrossed_any A c t w h.toAll

set_option maxHeartbeats 8000000 in
set_option maxRecDepth 100000 in
theorem lawFnProofCrossed_any (A0 : Option Addr) (c0 : Nat) (bs : List Int) (w : World) (h0 : BR w w.heap.size A0 bs) (hc : bs.length ≤ c0) (hc2 : c0 ≤ 9000000000000000000) :
    Calls Try.prog 4 #[.slice A0 bs.length c0] w fun e w' => e = .returned (.bool true) ∧ Below w.heap.size w w' := by
  by_cases hbig : (1048576 : Int) < (bs.length : Int)
  · clear h0
    go_enter Try.func4, Try.ntmps4
    go_wp2
    go_ret
    exact ⟨rfl, Below.refl _ _⟩
  have H0 := Lib.hid h0
  clear h0
  have BB := Lib.hid (Below.refl w.heap.size w)
  go_enter Try.func4, Try.ntmps4
  go_wp2_with fail
  refine (DrawProofCrossed_any _ _ bs _ H0.out hc hc2).mono ?_
  rintro e w1 ⟨A, c, t, rfl, iw, bb⟩
  replace BB := Lib.hid (below_then BB.out (Nat.le_refl _) bb)
  have Z := Lib.hid iw.toAll
  clear bb
  clear iw
  cases ho : pcM t with
  | none =>
    have HV : Hid (pcV (pcM t) = #[.int .i64 0, .int .i64 0, .bool false]) := by show _ = _; rw [ho]; rfl
    clear ho
    go_wp2_with fail
    refine (implPc_of _ _ t _ Z.out HV.out).mono ?_
    rintro e w2 ⟨rfl, bb⟩
    replace BB := Lib.hid (below_then BB.out (Nat.le_refl _) bb)
    replace Z := Lib.hid (Z.out.grow bb)
    clear bb
    go_wp2_with fail
    refine (specPc_of _ _ t _ Z.out HV.out).mono ?_
    rintro e w3 ⟨rfl, bb⟩
    replace BB := Lib.hid (below_then BB.out (Nat.le_refl _) bb)
    clear bb
    go_wp2
    go_ret
    exact ⟨rfl, BB.out⟩
  | some pq =>
    obtain ⟨p, q⟩ := pq
    have HV : Hid (pcV (pcM t) = #[.int .i64 (p : Int), .int .i64 (q : Int), .bool true]) := by show _ = _; rw [ho]; rfl
    have HS := Lib.hid (pc_some ho)
    clear ho
    go_wp2_with fail
    refine (implPc_of _ _ t _ Z.out HV.out).mono ?_
    rintro e w2 ⟨rfl, bb⟩
    replace BB := Lib.hid (below_then BB.out (Nat.le_refl _) bb)
    replace Z := Lib.hid (Z.out.grow bb)
    clear bb
    go_wp2_with fail
    refine (specPc_of _ _ t _ Z.out HV.out).mono ?_
    rintro e w3 ⟨rfl, bb⟩
    replace BB := Lib.hid (below_then BB.out (Nat.le_refl _) bb)
    replace Z := Lib.hid (Z.out.grow bb)
    clear bb
    obtain ⟨ht, hp, hq, hx, hcr⟩ := HS.out
    obtain ⟨hsh, hn, hm, hE⟩ := table_sh ht
    obtain ⟨b, off, b0, o0, c1, rfl, hc0, he0⟩ := Z.out.entry ht (i := p) (by omega)
    obtain ⟨_, _, b1, o1, c2, e, hc1, he1⟩ := Z.out.entry ht (i := p + 1) hp
    injection e with e; injection e with e3 e4 _; subst e3; subst e4
    have x00 := he0 q (by omega)
    have x01 := he0 (q + 1) hq
    have x10 := he1 q (by omega)
    have x11 := he1 (q + 1) hq
    have g00 := hE p q (by omega) (by omega)
    have g01 := hE p (q + 1) (by omega) hq
    have g10 := hE (p + 1) q hp (by omega)
    have g11 := hE (p + 1) (q + 1) hp hq
    obtain ⟨y00, hy00⟩ : ∃ y, ent t p q = y := ⟨_, rfl⟩
    obtain ⟨y01, hy01⟩ : ∃ y, ent t p (q + 1) = y := ⟨_, rfl⟩
    obtain ⟨y10, hy10⟩ : ∃ y, ent t (p + 1) q = y := ⟨_, rfl⟩
    obtain ⟨y11, hy11⟩ : ∃ y, ent t (p + 1) (q + 1) = y := ⟨_, rfl⟩
    rw [hy00] at x00 g00 hx
    rw [hy01] at x01 g01 hx
    rw [hy10] at x10 g10 hx
    rw [hy11] at x11 g11 hx
    obtain ⟨n, hnn⟩ : ∃ n, t.length = n := ⟨_, rfl⟩
    obtain ⟨m, hmm⟩ : ∃ m, colsN t = m := ⟨_, rfl⟩
    rw [hnn] at hp
    rw [hmm] at hq hc0 hc1
    have s1 : IntKind.i64.wrap (y00 + y11) = y00 + y11 := IntWalk.i64_in _ (by omega)
    have s2 : IntKind.i64.wrap (y01 + y10) = y01 + y10 := IntWalk.i64_in _ (by omega)
    have s3 : IntKind.i64.wrap ((p : Int) + 1) = (p : Int) + 1 := IntWalk.i64_in _ (by omega)
    have s4 : IntKind.i64.wrap ((q : Int) + 1) = (q : Int) + 1 := IntWalk.i64_in _ (by omega)
    have p0 : (0 : Int) ≤ (p : Int) := by omega
    have q0 : (0 : Int) ≤ (q : Int) := by omega
    have p1 : (0 : Int) ≤ (p : Int) + 1 := by omega
    have q1 : (0 : Int) ≤ (q : Int) + 1 := by omega
    have pn : (p : Int) < (n : Int) := by omega
    have qm : (q : Int) < (m : Int) := by omega
    have pn1 : (p : Int) + 1 < (n : Int) := by omega
    have qm1 : (q : Int) + 1 < (m : Int) := by omega
    have u0 : ((p : Int) + 1).toNat = p + 1 := by omega
    have u1 : ((q : Int) + 1).toNat = q + 1 := by omega
    have hlt : y01 + y10 < y00 + y11 := by omega
    have HNN := Lib.hid hnn; have HCR := Lib.hid hcr
    have hbs : b < w3.heap.size ∧ b0 < w3.heap.size ∧ b1 < w3.heap.size := ⟨block_lt_of_cell hc0, block_lt_of_cell x00, block_lt_of_cell x10⟩
    obtain ⟨z1, z2, z3⟩ := hbs
    have HZ : Hid (IRR w3.drew 0 w3.drew.heap.size (some ⟨b, off, none⟩) t) := Z.out.toAll
    rw [hnn]
    clear hsh hn hm hE he0 he1 hy00 hy01 hy10 hy11 g00 g01 g10 g11 hx ht hcr hp hq hnn hmm Z HV HS
    go_wp2
    obtain ⟨S, hS⟩ : ∃ S : World → Prop, S = fun W => (W.cell? ⟨b, off + p, none⟩ = some (.slice (some ⟨b0, o0, none⟩) m c1) ∧ W.cell? ⟨b, off + (p + 1), none⟩ = some (.slice (some ⟨b1, o1, none⟩) m c2)) ∧ (W.cell? ⟨b0, o0 + q, none⟩ = some (.int .i64 y00) ∧ W.cell? ⟨b0, o0 + (q + 1), none⟩ = some (.int .i64 y01)) ∧ (W.cell? ⟨b1, o1 + q, none⟩ = some (.int .i64 y10) ∧ W.cell? ⟨b1, o1 + (q + 1), none⟩ = some (.int .i64 y11)) := ⟨_, rfl⟩
    have S1 : Hid (∀ W, S W → W.cell? ⟨b, off + p, none⟩ = some (.slice (some ⟨b0, o0, none⟩) m c1)) := fun W h => by rw [hS] at h; exact h.1.1
    have S2 : Hid (∀ W, S W → W.cell? ⟨b, off + (p + 1), none⟩ = some (.slice (some ⟨b1, o1, none⟩) m c2)) := fun W h => by rw [hS] at h; exact h.1.2
    have S3 : Hid (∀ W, S W → W.cell? ⟨b0, o0 + q, none⟩ = some (.int .i64 y00)) := fun W h => by rw [hS] at h; exact h.2.1.1
    have S4 : Hid (∀ W, S W → W.cell? ⟨b0, o0 + (q + 1), none⟩ = some (.int .i64 y01)) := fun W h => by rw [hS] at h; exact h.2.1.2
    have S5 : Hid (∀ W, S W → W.cell? ⟨b1, o1 + q, none⟩ = some (.int .i64 y10)) := fun W h => by rw [hS] at h; exact h.2.2.1
    have S6 : Hid (∀ W, S W → W.cell? ⟨b1, o1 + (q + 1), none⟩ = some (.int .i64 y11)) := fun W h => by rw [hS] at h; exact h.2.2.2
    have hS3 : S w3.drew := by rw [hS]; exact ⟨⟨hc0, hc1⟩, ⟨x00, x01⟩, x10, x11⟩
    have hSk : ∀ W', Below w3.heap.size w3 W' → S W' := fun W' h => by rw [hS]; exact ⟨⟨(h.cell (p := ⟨b, off + p, none⟩) z1).trans hc0, (h.cell (p := ⟨b, off + (p + 1), none⟩) z1).trans hc1⟩, ⟨(h.cell (p := ⟨b0, o0 + q, none⟩) z2).trans x00, (h.cell (p := ⟨b0, o0 + (q + 1), none⟩) z2).trans x01⟩, (h.cell (p := ⟨b1, o1 + q, none⟩) z3).trans x10, (h.cell (p := ⟨b1, o1 + (q + 1), none⟩) z3).trans x11⟩
    have HS3 := Lib.hid hS3; have HSK := Lib.hid hSk
    clear hS hS3 hSk hc0 hc1 x00 x01 x10 x11
    refine wp_region_held_drew (S := S) (by kernel_rfl) HS3.out (fun hS => ?_)
    refine anyH_take 0 (v := .slice (some ⟨b, off, none⟩) n c) rfl (by kernel_rfl) (by kernel_rfl) (by kernel_rfl) (fun _ _ _ h => h) rfl (fun W hW => by kernel_rfl) hS ?_
    refine anyH_one 1 rfl (by kernel_rfl) (by kernel_rfl) ?_
    refine wp_callF (args := #[.slice (some ⟨b, off, none⟩) n c]) rfl Try.call14 (by kernel_rfl) ?_
    refine (implCr_of _ _ t _ HZ.out HCR.out HNN.out.symm).mono ?_
    rintro e w9 ⟨rfl, bb⟩
    have hb9 : Below w3.heap.size w3 w9 := ⟨bb.os, bb.tape, bb.output, bb.size, bb.block⟩
    have HB9 := Lib.hid hb9
    have hS9 := HSK.out w9 hb9
    refine ⟨_, rfl, hS9, ?_⟩
    refine anyH_take 2 (v := .bool true) rfl (by kernel_rfl) (by kernel_rfl) (by kernel_rfl) (fun _ _ _ h => h) rfl (fun W hW => by go_simp) hS9 ?_
    refine anyH_take 3 (v := .bool true) rfl (by kernel_rfl) (by kernel_rfl) (by kernel_rfl) (fun _ _ _ h => h) rfl (fun W hW => by kernel_rfl) hS9 ?_
    refine anyH_takeW 4 (v := .slice (some ⟨b, off, none⟩) n c) rfl (by kernel_rfl) (by kernel_rfl) (by kernel_rfl) (fun _ _ _ h => h) (by kernel_rfl) (fun W hW => by kernel_rfl) hS9 ?_
    refine anyH_takeW 5 (v := .int .i64 (p : Int)) rfl (by kernel_rfl) (by kernel_rfl) (by kernel_rfl) (fun _ _ _ h => h) (by kernel_rfl) (fun W hW => by kernel_rfl) hS9 ?_
    refine anyH_takeW 6 (v := .pointer (some ⟨b, off + p, none⟩)) rfl (by kernel_rfl) (by kernel_rfl) (by kernel_rfl) (fun _ _ _ h => h) (by kernel_rfl) (fun W hW => by go_simp) hS9 ?_
    refine anyH_takeW 7 (v := .slice (some ⟨b0, o0, none⟩) m c1) rfl (by kernel_rfl) (by kernel_rfl) (by kernel_rfl) (fun _ _ _ h => h) (by kernel_rfl) (fun W hW => by have h1 := S1.out W hW; go_simp) hS9 ?_
    refine anyH_takeW 8 (v := .int .i64 (q : Int)) rfl (by kernel_rfl) (by kernel_rfl) (by kernel_rfl) (fun _ _ _ h => h) (by kernel_rfl) (fun W hW => by kernel_rfl) hS9 ?_
    refine anyH_takeW 9 (v := .pointer (some ⟨b0, o0 + q, none⟩)) rfl (by kernel_rfl) (by kernel_rfl) (by kernel_rfl) (fun _ _ _ h => h) (by kernel_rfl) (fun W hW => by go_simp) hS9 ?_
    refine anyH_takeW 10 (v := .int .i64 y00) rfl (by kernel_rfl) (by kernel_rfl) (by kernel_rfl) (fun _ _ _ h => h) (by kernel_rfl) (fun W hW => by have h1 := S3.out W hW; go_simp) hS9 ?_
    refine anyH_takeW 11 (v := .slice (some ⟨b, off, none⟩) n c) rfl (by kernel_rfl) (by kernel_rfl) (by kernel_rfl) (fun _ _ _ h => h) (by kernel_rfl) (fun W hW => by kernel_rfl) hS9 ?_
    refine anyH_takeW 12 (v := .int .i64 (p : Int)) rfl (by kernel_rfl) (by kernel_rfl) (by kernel_rfl) (fun _ _ _ h => h) (by kernel_rfl) (fun W hW => by kernel_rfl) hS9 ?_
    refine anyH_takeW 13 (v := .int .i64 ((p : Int) + 1)) rfl (by kernel_rfl) (by kernel_rfl) (by kernel_rfl) (fun _ _ _ h => h) (by kernel_rfl) (fun W hW => by go_simp) hS9 ?_
    refine anyH_takeW 14 (v := .pointer (some ⟨b, off + (p + 1), none⟩)) rfl (by kernel_rfl) (by kernel_rfl) (by kernel_rfl) (fun _ _ _ h => h) (by kernel_rfl) (fun W hW => by go_simp) hS9 ?_
    refine anyH_takeW 15 (v := .slice (some ⟨b1, o1, none⟩) m c2) rfl (by kernel_rfl) (by kernel_rfl) (by kernel_rfl) (fun _ _ _ h => h) (by kernel_rfl) (fun W hW => by have h1 := S2.out W hW; go_simp) hS9 ?_
    refine anyH_takeW 16 (v := .int .i64 (q : Int)) rfl (by kernel_rfl) (by kernel_rfl) (by kernel_rfl) (fun _ _ _ h => h) (by kernel_rfl) (fun W hW => by kernel_rfl) hS9 ?_
    refine anyH_takeW 17 (v := .int .i64 ((q : Int) + 1)) rfl (by kernel_rfl) (by kernel_rfl) (by kernel_rfl) (fun _ _ _ h => h) (by kernel_rfl) (fun W hW => by go_simp) hS9 ?_
    refine anyH_takeW 18 (v := .pointer (some ⟨b1, o1 + (q + 1), none⟩)) rfl (by kernel_rfl) (by kernel_rfl) (by kernel_rfl) (fun _ _ _ h => h) (by kernel_rfl) (fun W hW => by go_simp) hS9 ?_
    refine anyH_takeW 19 (v := .int .i64 y11) rfl (by kernel_rfl) (by kernel_rfl) (by kernel_rfl) (fun _ _ _ h => h) (by kernel_rfl) (fun W hW => by have h1 := S6.out W hW; go_simp) hS9 ?_
    refine anyH_takeW 20 (v := .int .i64 (y00 + y11)) rfl (by kernel_rfl) (by kernel_rfl) (by kernel_rfl) (fun _ _ _ h => h) (by kernel_rfl) (fun W hW => by go_simp) hS9 ?_
    refine anyH_takeW 21 (v := .slice (some ⟨b, off, none⟩) n c) rfl (by kernel_rfl) (by kernel_rfl) (by kernel_rfl) (fun _ _ _ h => h) (by kernel_rfl) (fun W hW => by kernel_rfl) hS9 ?_
    refine anyH_takeW 22 (v := .int .i64 (p : Int)) rfl (by kernel_rfl) (by kernel_rfl) (by kernel_rfl) (fun _ _ _ h => h) (by kernel_rfl) (fun W hW => by kernel_rfl) hS9 ?_
    refine anyH_takeW 23 (v := .pointer (some ⟨b, off + p, none⟩)) rfl (by kernel_rfl) (by kernel_rfl) (by kernel_rfl) (fun _ _ _ h => h) (by kernel_rfl) (fun W hW => by go_simp) hS9 ?_
    refine anyH_takeW 24 (v := .slice (some ⟨b0, o0, none⟩) m c1) rfl (by kernel_rfl) (by kernel_rfl) (by kernel_rfl) (fun _ _ _ h => h) (by kernel_rfl) (fun W hW => by have h1 := S1.out W hW; go_simp) hS9 ?_
    refine anyH_takeW 25 (v := .int .i64 (q : Int)) rfl (by kernel_rfl) (by kernel_rfl) (by kernel_rfl) (fun _ _ _ h => h) (by kernel_rfl) (fun W hW => by kernel_rfl) hS9 ?_
    refine anyH_takeW 26 (v := .int .i64 ((q : Int) + 1)) rfl (by kernel_rfl) (by kernel_rfl) (by kernel_rfl) (fun _ _ _ h => h) (by kernel_rfl) (fun W hW => by go_simp) hS9 ?_
    refine anyH_takeW 27 (v := .pointer (some ⟨b0, o0 + (q + 1), none⟩)) rfl (by kernel_rfl) (by kernel_rfl) (by kernel_rfl) (fun _ _ _ h => h) (by kernel_rfl) (fun W hW => by go_simp) hS9 ?_
    refine anyH_takeW 28 (v := .int .i64 y01) rfl (by kernel_rfl) (by kernel_rfl) (by kernel_rfl) (fun _ _ _ h => h) (by kernel_rfl) (fun W hW => by have h1 := S4.out W hW; go_simp) hS9 ?_
    refine anyH_takeW 29 (v := .slice (some ⟨b, off, none⟩) n c) rfl (by kernel_rfl) (by kernel_rfl) (by kernel_rfl) (fun _ _ _ h => h) (by kernel_rfl) (fun W hW => by kernel_rfl) hS9 ?_
    refine anyH_takeW 30 (v := .int .i64 (p : Int)) rfl (by kernel_rfl) (by kernel_rfl) (by kernel_rfl) (fun _ _ _ h => h) (by kernel_rfl) (fun W hW => by kernel_rfl) hS9 ?_
    refine anyH_takeW 31 (v := .int .i64 ((p : Int) + 1)) rfl (by kernel_rfl) (by kernel_rfl) (by kernel_rfl) (fun _ _ _ h => h) (by kernel_rfl) (fun W hW => by go_simp) hS9 ?_
    refine anyH_takeW 32 (v := .pointer (some ⟨b, off + (p + 1), none⟩)) rfl (by kernel_rfl) (by kernel_rfl) (by kernel_rfl) (fun _ _ _ h => h) (by kernel_rfl) (fun W hW => by go_simp) hS9 ?_
    refine anyH_takeW 33 (v := .slice (some ⟨b1, o1, none⟩) m c2) rfl (by kernel_rfl) (by kernel_rfl) (by kernel_rfl) (fun _ _ _ h => h) (by kernel_rfl) (fun W hW => by have h1 := S2.out W hW; go_simp) hS9 ?_
    refine anyH_takeW 34 (v := .int .i64 (q : Int)) rfl (by kernel_rfl) (by kernel_rfl) (by kernel_rfl) (fun _ _ _ h => h) (by kernel_rfl) (fun W hW => by kernel_rfl) hS9 ?_
    refine anyH_takeW 35 (v := .pointer (some ⟨b1, o1 + q, none⟩)) rfl (by kernel_rfl) (by kernel_rfl) (by kernel_rfl) (fun _ _ _ h => h) (by kernel_rfl) (fun W hW => by go_simp) hS9 ?_
    refine anyH_takeW 36 (v := .int .i64 y10) rfl (by kernel_rfl) (by kernel_rfl) (by kernel_rfl) (fun _ _ _ h => h) (by kernel_rfl) (fun W hW => by have h1 := S5.out W hW; go_simp) hS9 ?_
    refine anyH_takeW 37 (v := .int .i64 (y01 + y10)) rfl (by kernel_rfl) (by kernel_rfl) (by kernel_rfl) (fun _ _ _ h => h) (by kernel_rfl) (fun W hW => by go_simp) hS9 ?_
    refine anyH_takeW 38 (v := .bool true) rfl (by kernel_rfl) (by kernel_rfl) (by kernel_rfl) (fun _ _ _ h => h) (by kernel_rfl) (fun W hW => by go_simp) hS9 ?_
    refine anyH_take 39 (v := .bool true) rfl (by kernel_rfl) (by kernel_rfl) (by kernel_rfl) (fun _ _ _ h => h) rfl (fun W hW => by go_simp) hS9 ?_
    refine anyH_take 40 (v := .bool true) rfl (by kernel_rfl) (by kernel_rfl) (by kernel_rfl) (fun _ _ _ h => h) rfl (fun W hW => by kernel_rfl) hS9 ?_
    refine wpAnyH_done (by kernel_rfl) ?_ _
    clear hb9 bb hS9
    go_simp
    go_wp2
    go_ret
    exact ⟨rfl, BB.out.trans (HB9.out.mono BB.out.size)⟩
end Go.Proofs.Ytanoojpmokbiaaa
