/-
  The greatest lines of a book: greatest. Conditions: the book's block is there.
-/
import Derived.Test.YtlgagdplnpeklaaLnG
import Derived.Test.YtlgagdplnpeklaaLn6
namespace Go.Proofs.Ytlgagdplnpeklaa
open Go.RowKit Go.Shelf
attribute [local go_sem] Oper.semAt_some

/-- What a range over the book has made of the row: up to the place i the key x is counted too. -/
def GrtTo (F : Int → Int) (N : Nat) (R : List Int) (done : Int → Prop) (x : Int) (i : Nat) : Prop :=
  R.length = N ∧ ∀ j, j < N → MostOf (fun s => done s ∨ (j < i ∧ s = x)) (fun s => -(F s) + (j : Int) * s) (R.getD j 0)

theorem MostOf.congr {T T' : Int → Prop} {g : Int → Int} {v : Int} (h : MostOf T g v) (hT : ∀ s, T' s ↔ T s) : MostOf T' g v := by
  have e : T' = T := funext fun s => propext (hT s)
  rw [e]; exact h
theorem GrtTo.step {F : Int → Int} {N : Nat} {R : List Int} {done : Int → Prop} {x : Int} {i : Nat} (h : GrtTo F N R done x i) (hi : i < N) (hx : -9223372036854775808 ≤ -(F x) + (i : Int) * x) :
    GrtTo F N (R.set i (if R.getD i 0 < -(F x) + (i : Int) * x then -(F x) + (i : Int) * x else R.getD i 0)) done x (i + 1) := by
  obtain ⟨hl, hm⟩ := h
  subst hl
  refine ⟨by simp, fun j hj => ?_⟩
  obtain ⟨y, hy⟩ : ∃ y, y = if R.getD i 0 < -(F x) + (i : Int) * x then -(F x) + (i : Int) * x else R.getD i 0 := ⟨_, rfl⟩
  rw [← hy]
  by_cases e : j = i
  · subst e
    have h0 := (hm j hj).more (T' := fun s => done s ∨ (j < j + 1 ∧ s = x)) (x := x) (fun s => by simp) hx
    rw [getD_in (show j < (R.set j y).length by simp; exact hi), List.getElem_set_self, hy]
    exact h0
  · have h0 := hm j hj
    have e2 : (R.set i y).getD j 0 = R.getD j 0 := by
      rw [getD_in (show j < (R.set i y).length by simp; exact hj), List.getElem_set_ne (Ne.symm e)]
      exact (getD_in hj).symm
    rw [e2]
    refine h0.congr fun s => ?_
    show (done s ∨ (j < i + 1 ∧ s = x)) ↔ (done s ∨ (j < i ∧ s = x))
    rw [show (j < i + 1) = (j < i) from propext ⟨fun h => by omega, fun h => by omega⟩]
theorem GrtTo.over {F : Int → Int} {N : Nat} {R : List Int} {done : Int → Prop} {x : Int} (h : GrtTo F N R done x N) : GrtTo F N R (fun s => done s ∨ s = x) 0 0 :=
  ⟨h.1, fun j hj => (h.2 j hj).congr fun s => by simp [hj]⟩
theorem GrtTo.begin {F : Int → Int} {N : Nat} {R : List Int} {done : Int → Prop} (x : Int) (h : GrtTo F N R done 0 0) : GrtTo F N R done x 0 :=
  ⟨h.1, fun j hj => (h.2 j hj).congr fun s => by simp⟩

set_option maxRecDepth 100000 in
set_option maxHeartbeats 4000000 in
theorem greatest_any (b n N : Nat) (T : Int → Prop) (F : Int → Int) (w : World) (hb : Bk w b n T F) (hN1 : 1 ≤ N) (hN2 : N ≤ 12) (hT : ∀ s, T s → -3000 ≤ s ∧ s ≤ 3000) (hF : ∀ s, T s → -500000 ≤ F s ∧ F s ≤ 500000) :
    Calls Try.prog 75 #[.map (some b), .int .i64 (N : Int)] w fun e w' => ∃ (A : Option Addr) (c : Nat) (R : List Int), e = .returned (.slice A N c) ∧ R.length = N ∧ (∀ j, j < N → MostOf T (fun s => -(F s) + (j : Int) * s) (R.getD j 0)) ∧ IW w' w.heap.size w'.heap.size A R ∧ Below w.heap.size w w' := by
  have HT := Lib.hid hT; have HF := Lib.hid hF
  have hbl := hb.lt
  clear hT hF
  refine (callsIn_wide (n := 6)).1 ?_
  refine callsIn_of_wp Try.func75 rfl trivial ?_ rfl
  simp only [Try.ntmps75, List.size_toArray, List.length_cons, List.length_nil, Nat.reduceAdd, Nat.reduceSub, Array.replicate_succ, Array.replicate_zero, List.push_toArray, List.append_toArray, List.nil_append, List.cons_append]
  gi_wp2_with fail
  refine ⟨trivial, ?_⟩
  gi_at_call 94
  refine (callsIn_wide.2 (repeat_any w.heap.size 0 1 N (-9223372036854775808) _ (by simp) (by rw [World.cell?_alloc_at _ _ _ _ rfl]; rfl) hN1 hN2)).mono ?_
  rintro e w1 ⟨rfl, hc, hs, hB⟩
  rw [World.size_alloc] at hc hs hB ⊢
  have hB1 : Below w.heap.size w w1 := below_then ((Below.refl _ w).alloc (Nat.le_refl _) _) (by simp) (hB.mono (by simp))
  have hb1 : Bk w1 b n T F := (hb.kept (World.grownBy_alloc w _ none) (by simp)).below (by rw [World.size_alloc]; exact hB)
  have HC1 := Lib.hid hc; have HS1 := Lib.hid hs; have HB1 := Lib.hid hB1
  clear hc hs hB hB1 hb
  gi_wp2_with (gi_at_range; refine wpListIn_range_bk _ rfl _ rfl b n T F rfl hb1 ?_; intro w0 cnt0 hrg0 hg0 hs0)
  go_frame
  gi_loopw [6] (fun _ wr => ∃ cnt done R, Rg wr b w1.heap.size n T F done cnt ∧ Cells wr (w.heap.size + 1) 0 R ∧ GrtTo F N R done 0 0 ∧ Below w.heap.size w wr) (fun _ wr => wr.rangeLeft b w1.heap.size)
  case atStart =>
    have hb10 : Below w1.heap.size w1 w0 := ⟨hg0.os, hg0.tape, hg0.output, hg0.size, fun i hi => hg0.block i hi (by simp)⟩
    refine ⟨cnt0, _, List.replicate N (-9223372036854775808), hrg0, fun j hj => ?_, ⟨by simp, fun j hj => ?_⟩, below_then HB1.out (Nat.le_refl _) (hb10.mono (Nat.le_refl _))⟩
    · have h1 := HC1.out j hj
      have hk := hb10.block (w.heap.size + 1) HS1.out
      exact ⟨(World.cell?_of_block (a := ⟨w.heap.size + 1, 0 + j, none⟩) hk).trans h1.1, (World.frozen?_of_block (a := ⟨w.heap.size + 1, 0 + j, none⟩) hk).trans h1.2⟩
    · have : (List.replicate N (-9223372036854775808 : Int)).getD j 0 = -9223372036854775808 := by simp [List.getD, hj]
      rw [this]
      exact MostOf.none (fun s hs => by rcases hs with hs | hs; exact hs; omega)
  case round =>
    obtain ⟨cnt, done, R, hrg, hc, hR, hB⟩ := hrel
    have HC := Lib.hid hc; have HR := Lib.hid hR; have HB := Lib.hid hB; have HRG := Lib.hid hrg
    clear hc hR hB
    gi_wp2_with (gi_at_next; refine wpListIn_next_bk _ rfl _ rfl b w1.heap.size n T F done cnt rfl hrg ?_ ?_)
    · intro hall
      have HAll := Lib.hid hall
      clear hall hrg
      gi_wp2
      refine bodyPost_ret (results_tmp rfl _ _ _) rfl ?_
      have hlt : w1.heap.size ≤ wr.heap.size := Nat.le_of_lt HRG.out.lt.2
      have hm : ∀ j, j < N → MostOf T (fun s => -(F s) + (j : Int) * s) (R.getD j 0) := fun j hj => (HR.out.2 j hj).congr fun s => by rw [HAll.out s]; simp
      refine ⟨some ⟨w.heap.size + 1, 0, none⟩, N, R, rfl, HR.out.1, hm, HC.out.iw HR.out.1 (Nat.le_succ _) (Nat.lt_of_lt_of_le HS1.out hlt) (Nat.le_refl _) (by omega) (fun z hz => ?_), HB.out⟩
      obtain ⟨j, hj, rfl⟩ := List.getElem_of_mem hz
      have hjN : j < N := by rw [← HR.out.1]; exact hj
      have h0 := hm j hjN
      rw [getD_in hj] at h0
      refine h0.i64 fun s hs => ?_
      obtain ⟨t1, t2⟩ := HT.out s hs
      obtain ⟨p1, p2⟩ := HF.out s hs
      obtain ⟨k1, k2⟩ := sk_bd t1 t2 hjN hN2
      rw [Int.mul_comm] at k1 k2
      show I64 (-(F s) + (j : Int) * s)
      unfold I64; omega
    · intro x w2 cnt2 hwx hwf hTx hrg2 hlt2 hg2 hs2 hen
      obtain ⟨t1, t2⟩ := HT.out x hTx
      obtain ⟨p1, p2⟩ := HF.out x hTx
      have HRG2 := Lib.hid hrg2; have HTX := Lib.hid hTx; have HLT := Lib.hid hlt2; have HG2 := Lib.hid hg2
      clear hrg2 hTx hlt2 hg2 hrg
      have hsw : w1.heap.size < w2.heap.size := HRG2.out.lt.2
      have hbw : b < w2.heap.size := HRG2.out.lt.1
      have HC2 := Lib.hid (show Cells w2 (w.heap.size + 1) 0 R from fun j hj => by
        have h1 := HC.out j hj
        have hk := HG2.out.block (w.heap.size + 1) (by rw [← hs2]; exact Nat.lt_trans HS1.out hsw) (by have := HS1.out; simp; omega)
        exact ⟨(World.cell?_of_block (a := ⟨w.heap.size + 1, 0 + j, none⟩) hk).trans h1.1, (World.frozen?_of_block (a := ⟨w.heap.size + 1, 0 + j, none⟩) hk).trans h1.2⟩)
      have HB2 := Lib.hid (HB.out.trans (grown_below HG2.out (show w.heap.size ≤ w1.heap.size by have := HS1.out; omega) HB.out.size))
      have HN2 := Lib.hid hs2
      clear hs2
      gi_wp2
      obtain ⟨W3, hW3⟩ : ∃ W3, w2.alloc (.cells #[.int .i64 (-(F x)), .int .i64 x] 86) = W3 := ⟨_, rfl⟩
      have hg23 : w2.grownBy W3 none := by rw [← hW3]; exact World.grownBy_alloc w2 _ none
      have HL3 := Lib.hid (show Line2 W3 w2.heap.size (-(F x)) x by rw [← hW3]; exact Line2.new _ _ _)
      have HRG3 := Lib.hid (HRG2.out.kept hg23 (by simp) (by simp))
      have HC3 := Lib.hid (show Cells W3 (w.heap.size + 1) 0 R from fun j hj => by
        have h1 := HC2.out j hj
        have hk := hg23.block (w.heap.size + 1) (Nat.lt_trans HS1.out hsw) (by simp)
        exact ⟨(World.cell?_of_block (a := ⟨w.heap.size + 1, 0 + j, none⟩) hk).trans h1.1, (World.frozen?_of_block (a := ⟨w.heap.size + 1, 0 + j, none⟩) hk).trans h1.2⟩)
      have HB3 := Lib.hid (show Below w.heap.size w W3 by rw [← hW3]; exact HB2.out.alloc (by rw [HN2.out]; exact HB.out.size) _)
      rw [hW3]
      clear hW3 hg23
      gi_loopw [26] (fun i wr => ∃ (k : Nat) (R' : List Int), k ≤ N ∧ i = .int .i64 k ∧ (Rg wr b w1.heap.size n T F (fun s => done s ∨ s = x) cnt2 ∧ Cells wr (w.heap.size + 1) 0 R') ∧ (GrtTo F N R' done x k ∧ Line2 wr w2.heap.size (-(F x)) x) ∧ Below w.heap.size w wr) (fun i _ => N - (intOf i).toNat)
      case atStart => exact ⟨0, R, Nat.zero_le _, rfl, ⟨HRG3.out, HC3.out⟩, ⟨HR.out.begin x, HL3.out⟩, HB3.out⟩
      case round =>
        obtain ⟨k, R', hk, rfl, ⟨hrg, hc⟩, ⟨hR', hl⟩, hB'⟩ := hrel
        have HRG' := Lib.hid hrg; have HC' := Lib.hid hc; have HR' := Lib.hid hR'; have HL' := Lib.hid hl; have HB' := Lib.hid hB'
        clear hrg hc hR' hl hB'
        by_cases hlt : k < N
        · have hkn : (k : Int) < (N : Int) := by omega
          obtain ⟨k1, k2⟩ := sk_bd t1 t2 hlt hN2
          rw [Int.mul_comm] at k1 k2
          have hkR : k < R'.length := by rw [HR'.out.1]; exact hlt
          obtain ⟨v, hv⟩ : ∃ v, v = R'.getD k 0 := ⟨_, rfl⟩
          have hcell : wr.cell? ⟨w.heap.size + 1, k, none⟩ = some (.int .i64 v) := by
            have := (HC'.out k hkR).1
            rw [Nat.zero_add] at this
            rw [this, hv, getD_in hkR]
          have hfro : wr.frozen? ⟨w.heap.size + 1, k, none⟩ = false := by
            have := (HC'.out k hkR).2
            rwa [Nat.zero_add] at this
          have HV := Lib.hid hv
          clear hv
          gi_wp2
          refine region_anyS (fun W' => Line2 W' w2.heap.size (-(F x)) x) (by kernel_rfl) ?_
          have hS0 : Line2 wr.drew w2.heap.size (-(F x)) x := HL'.out
          refine anyS_first 0 (v := .slice (some ⟨w.heap.size + 1, 0, none⟩) N N) rfl (by kernel_rfl) (by kernel_rfl) (by kernel_rfl) (fun _ _ _ h => h) hS0 ⟨fun _ => rfl, .inl ⟨by rfl, fun W' hW' => (by go_simp)⟩⟩ ?_
          refine anyS_first 1 (v := .int .i64 (k : Int)) rfl (by kernel_rfl) (by kernel_rfl) (by kernel_rfl) (fun _ _ _ h => h) hS0 ⟨fun _ => rfl, .inl ⟨by rfl, fun W' hW' => (by go_simp)⟩⟩ ?_
          refine anyS_first 2 (v := .slice (some ⟨w.heap.size + 1, 0, none⟩) N N) rfl (by kernel_rfl) (by kernel_rfl) (by kernel_rfl) (fun _ _ _ h => h) hS0 ⟨fun _ => rfl, .inl ⟨by rfl, fun W' hW' => (by go_simp)⟩⟩ ?_
          refine anyS_first 3 (v := .int .i64 (k : Int)) rfl (by kernel_rfl) (by kernel_rfl) (by kernel_rfl) (fun _ _ _ h => h) hS0 ⟨fun _ => rfl, .inl ⟨by rfl, fun W' hW' => (by go_simp)⟩⟩ ?_
          refine anyS_first 4 (v := .pointer (some ⟨w.heap.size + 1, k, none⟩)) rfl (by kernel_rfl) (by kernel_rfl) (by kernel_rfl) (fun _ _ _ h => h) hS0 ⟨fun _ => rfl, .inl ⟨by rfl, fun W' hW' => (by go_simp)⟩⟩ ?_
          refine anyS_first 6 (v := .agg #[.int .i64 (-(F x)), .int .i64 x]) rfl (by kernel_rfl) (by kernel_rfl) (by kernel_rfl) (fun _ _ _ h => h) hS0 ⟨fun _ => rfl, .inl ⟨by rfl, fun W' hW' => (by have e1 := hW'.c0; have e2 := hW'.c1; go_simp)⟩⟩ ?_
          refine anyS_first 7 (v := .int .i64 (k : Int)) rfl (by kernel_rfl) (by kernel_rfl) (by kernel_rfl) (fun _ _ _ h => h) hS0 ⟨fun _ => rfl, .inl ⟨by rfl, fun W' hW' => (by go_simp)⟩⟩ ?_
          refine anyS_two 5 8 (by kernel_rfl) hS0 ?pa ?pb
          case' pa =>
            refine wpOpIn_step rfl fun K5 hK5 => ?_
            go_simp
            refine hK5 _ _ ?_
            refine anyS_one 8 rfl (by kernel_rfl) hS0 ?_
            refine wpOpIn_step rfl fun K8 hK8 => ?_
            go_simp
            refine ⟨trivial, (callsIn_wide.2 (lineAtF_any (-(F x)) x (k : Int) wr.drew (by omega) (by omega) (by omega) (by omega))).mono ?_⟩
            rintro e W5 ⟨rfl, hb5⟩
            have hb5' : Below wr.heap.size wr W5 := ⟨hb5.os, hb5.tape, hb5.output, hb5.size, hb5.block⟩
            refine hK8 _ _ ?_
            clear hK8 hK5
          case' pb =>
            refine wpOpIn_step rfl fun K8 hK8 => ?_
            go_simp
            refine ⟨trivial, (callsIn_wide.2 (lineAtF_any (-(F x)) x (k : Int) wr.drew (by omega) (by omega) (by omega) (by omega))).mono ?_⟩
            rintro e W5 ⟨rfl, hb5⟩
            have hb5' : Below wr.heap.size wr W5 := ⟨hb5.os, hb5.tape, hb5.output, hb5.size, hb5.block⟩
            have hq5 : W5.cell? ⟨w.heap.size + 1, k, none⟩ = some (.int .i64 v) := (hb5'.cell (p := ⟨w.heap.size + 1, k, none⟩) (by show w.heap.size + 1 < _; have := HRG'.out.lt.2; have := HS1.out; omega)).trans hcell
            refine hK8 _ _ ?_
            refine anyS_one 5 rfl (by kernel_rfl) (HL'.out.below hb5') ?_
            refine wpOpIn_step rfl fun K5 hK5 => ?_
            go_simp
            refine hK5 _ _ ?_
            clear hq5 hK8 hK5
          all_goals
            have hblk : W5.heap[w.heap.size + 1]? = wr.heap[w.heap.size + 1]? := hb5'.block _ (by have := HRG'.out.lt.2; have := HS1.out; omega)
            have HC5 := Lib.hid (show Cells W5 (w.heap.size + 1) 0 R' from fun j hj => by
              have h1 := HC'.out j hj
              exact ⟨(World.cell?_of_block (a := ⟨w.heap.size + 1, 0 + j, none⟩) hblk).trans h1.1, (World.frozen?_of_block (a := ⟨w.heap.size + 1, 0 + j, none⟩) hblk).trans h1.2⟩)
            have HL5 := Lib.hid (HL'.out.below hb5')
            have HRG5 := Lib.hid (HRG'.out.below hb5')
            have HB5 := Lib.hid (HB'.out.trans (hb5'.mono HB'.out.size))
            have hcell5 : W5.cell? ⟨w.heap.size + 1, k, none⟩ = some (.int .i64 v) := (World.cell?_of_block (a := ⟨w.heap.size + 1, k, none⟩) hblk).trans hcell
            have hfro5 : W5.frozen? ⟨w.heap.size + 1, k, none⟩ = false := (World.frozen?_of_block (a := ⟨w.heap.size + 1, k, none⟩) hblk).trans hfro
            have hS5 : Line2 W5 w2.heap.size (-(F x)) x := HL5.out
            clear hb5 hb5' hblk hcell hfro
            have HST := Lib.hid (HR'.out.step hlt (show -9223372036854775808 ≤ -(F x) + (k : Int) * x by omega))
            have hgrt : ∀ (u : Int), u = (if v < -(F x) + (k : Int) * x then -(F x) + (k : Int) * x else v) → ∀ W6, W6 = W5.setCell ⟨w.heap.size + 1, k, none⟩ (.int .i64 u) →
                (Rg W6 b w1.heap.size n T F (fun s => done s ∨ s = x) cnt2 ∧ Cells W6 (w.heap.size + 1) 0 (R'.set k u)) ∧ (GrtTo F N (R'.set k u) done x (k + 1) ∧ Line2 W6 w2.heap.size (-(F x)) x) ∧ Below w.heap.size w W6 := by
              intro u hu W6 hW6
              have hgr : W5.grownBy W6 (some (w.heap.size + 1)) := by
                rw [hW6]; exact ⟨rfl, rfl, rfl, by simp [World.setCell], fun i _ hi => Below.heap_setCell W5 ⟨w.heap.size + 1, k, none⟩ _ i (fun e => hi (by rw [e]))⟩
              refine ⟨⟨HRG5.out.kept hgr (by simp; omega) (by have := HS1.out; simp; omega), ?_⟩, ⟨?_, HL5.out.kept hgr (by have := HS1.out; simp; omega)⟩, ?_⟩
              · rw [hW6]
                have := HC5.out.set_ k hkR u
                rwa [Nat.zero_add] at this
              · have h0 := HST.out
                rw [← HV.out] at h0
                rw [hu]; exact h0
              · rw [hW6]
                exact HB5.out.setCell (p := ⟨w.heap.size + 1, k, none⟩) (Nat.le_succ _) _
            have HGR := Lib.hid hgrt
            clear hgrt
            by_cases hc : v < -(F x) + (k : Int) * x
            · obtain ⟨g1, g2, g3⟩ := HGR.out (-(F x) + (k : Int) * x) (by rw [if_pos hc]) _ rfl
              have G1 := Lib.hid g1; have G2 := Lib.hid g2; have G3 := Lib.hid g3
              clear g1 g2 g3
              refine anyS_one 9 rfl (by kernel_rfl) hS5 ?_
              refine wpOpIn_step rfl fun K9 hK9 => ?_
              go_simp
              refine hK9 _ _ ?_
              refine anyS_one 10 rfl (by kernel_rfl) hS5 ?_
              refine wpOpIn_step rfl fun K10 hK10 => ?_
              go_simp
              refine hK10 _ _ ?_
              refine anyS_one 11 rfl (by kernel_rfl) hS5 ?_
              refine wpOpIn_step rfl fun K11 hK11 => ?_
              go_simp
              refine hK11 _ _ ?_
              refine anyS_done (by kernel_rfl) G2.out.2 ?_
              gi_wp2
              go_roundw
              case rel => exact ⟨k + 1, _, by omega, by go_num, G1.out, G2.out, G3.out⟩
              case measure => simp [intOf]; omega
            · obtain ⟨g1, g2, g3⟩ := HGR.out v (by rw [if_neg hc]) _ rfl
              have G1 := Lib.hid g1; have G2 := Lib.hid g2; have G3 := Lib.hid g3
              clear g1 g2 g3
              refine anyS_one 9 rfl (by kernel_rfl) hS5 ?_
              refine wpOpIn_step rfl fun K9 hK9 => ?_
              go_simp
              refine hK9 _ _ ?_
              refine anyS_one 10 rfl (by kernel_rfl) hS5 ?_
              refine wpOpIn_step rfl fun K10 hK10 => ?_
              go_simp
              refine hK10 _ _ ?_
              refine anyS_one 11 rfl (by kernel_rfl) hS5 ?_
              refine wpOpIn_step rfl fun K11 hK11 => ?_
              go_simp
              refine hK11 _ _ ?_
              refine anyS_done (by kernel_rfl) G2.out.2 ?_
              gi_wp2
              go_roundw
              case rel => exact ⟨k + 1, _, by omega, by go_num, G1.out, G2.out, G3.out⟩
              case measure => simp [intOf]; omega
        · obtain rfl : k = N := by omega
          gi_wp2
          exact ⟨⟨cnt2, _, R', HRG'.out, HC'.out, HR'.out.over, HB'.out⟩, by rw [HRG'.out.left_eq, HRG.out.left_eq]; exact HLT.out⟩
end Go.Proofs.Ytlgagdplnpeklaa
