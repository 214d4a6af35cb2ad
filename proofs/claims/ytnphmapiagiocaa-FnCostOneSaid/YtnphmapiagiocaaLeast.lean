/-
  RowLeast of the model: the least entry, its first place and its last. Conditions: the row's cells are there.
-/
import Derived.Test.YtnphmapiagiocaaImp2
namespace Go.Proofs.Ytnphmapiagiocaa
open Go.RowKit

/-- One more entry is looked at. -/
def lstep (zs : List Int) (s : Nat × Nat) (i : Nat) : Nat × Nat := (if zs.getD i 0 < zs.getD s.1 0 then i else s.1, if zs.getD i 0 ≤ zs.getD s.2 0 then i else s.2)
def leastTo (zs : List Int) : Nat → Nat × Nat
  | 0 => (0, 0)
  | k + 1 => lstep zs (leastTo zs k) k
theorem lstep_eq {zs : List Int} {s : Nat × Nat} (h : zs.getD s.2 0 = zs.getD s.1 0) (i : Nat) : zs.getD (lstep zs s i).2 0 = zs.getD (lstep zs s i).1 0 := by
  unfold lstep
  by_cases h1 : zs.getD i 0 < zs.getD s.1 0
  · have h2 : zs.getD i 0 ≤ zs.getD s.2 0 := by omega
    simp only [h1, h2, if_true]
  · by_cases h2 : zs.getD i 0 ≤ zs.getD s.2 0
    · simp only [h1, h2, if_true, if_false]; omega
    · simp only [h1, h2, if_false]; exact h
theorem leastTo_lt (zs : List Int) (k : Nat) : (leastTo zs (k + 1)).1 ≤ k ∧ (leastTo zs (k + 1)).2 ≤ k := by
  induction k with
  | zero => simp [leastTo, lstep]
  | succ k ih =>
    show (lstep zs (leastTo zs (k + 1)) (k + 1)).1 ≤ k + 1 ∧ (lstep zs (leastTo zs (k + 1)) (k + 1)).2 ≤ k + 1
    unfold lstep
    constructor
    · show (if _ then _ else _) ≤ _; split <;> first | exact Nat.le_refl _ | omega
    · show (if _ then _ else _) ≤ _; split <;> first | exact Nat.le_refl _ | omega
theorem leastTo_one (zs : List Int) : leastTo zs 1 = (0, 0) := by simp [leastTo, lstep]

set_option maxHeartbeats 2000000 in
theorem l1Least_any (A : Option Addr) (c lo hi : Nat) (zs : List Int) (w : World) (h : IR w lo hi A zs) (hr : rowB zs = true) :
    Calls Try.prog 62 #[.slice A zs.length c] w fun e w' => e = .returned (.tuple #[.int .i64 (zs.getD (leastTo zs zs.length).1 0), .int .i64 ((leastTo zs zs.length).1 : Int), .int .i64 ((leastTo zs zs.length).2 : Int)]) ∧ Below w.heap.size w w' := by
  have hl := (rowB_true.1 hr).2
  clear hr
  go_enter Try.func62, Try.ntmps62
  go_wp2
  go_loopw [5, 6, 7] (fun ff ll i wr => ∃ k f l : Nat, k + 1 ≤ zs.length ∧ i = .int .i64 ((k : Int) + 1) ∧ ff = .int .i64 (f : Int) ∧ ll = .int .i64 (l : Int) ∧ Hid ((f, l) = leastTo zs (k + 1)) ∧ IR wr lo hi A zs ∧ Below w.heap.size w wr) (fun _ _ i _ => zs.length - (intOf i).toNat)
  case atStart => exact ⟨0, 0, 0, hl.1, rfl, rfl, rfl, Lib.hid (leastTo_one zs).symm, h, Below.refl _ _⟩
  case round =>
    obtain ⟨k, f, l, hk, rfl, rfl, rfl, hfl, hR, hb⟩ := hrel
    have HR := Lib.hid hR; have HB := Lib.hid hb
    clear hR hb
    have hb1 := leastTo_lt zs k
    rw [← hfl.out] at hb1
    obtain ⟨hf, hll⟩ := hb1
    have hf : f ≤ k := hf
    have hll : l ≤ k := hll
    by_cases hlt : k + 1 < zs.length
    · have hfz : f < zs.length := by omega
      have hlz : l < zs.length := by omega
      obtain ⟨b, off, rfl, _, _, hc1⟩ := HR.out.at_ hlt
      obtain ⟨b', off', e, _, _, hcf⟩ := HR.out.at_ hfz
      injection e with e; injection e with e1 e2 _; subst e1; subst e2
      obtain ⟨b', off', e, _, _, hcl⟩ := HR.out.at_ hlz
      injection e with e; injection e with e1 e2 _; subst e1; subst e2
      have g1 := Lib.hid (getD_in hlt); have gf := Lib.hid (getD_in hfz); have gl := Lib.hid (getD_in hlz)
      have hlt1 : (k : Int) + 1 < (zs.length : Int) := by omega
      have p1 : (0 : Int) ≤ (k : Int) + 1 := by omega
      have q1 : (f : Int) < (zs.length : Int) := by omega
      have q2 : (l : Int) < (zs.length : Int) := by omega
      have t1 : ((k : Int) + 1).toNat = k + 1 := by omega
      have tf : (f : Int).toNat = f := by omega
      have tl : (l : Int).toNat = l := by omega
      have hst : ∀ (f' l' : Nat), f' = (if zs.getD (k + 1) 0 < zs.getD f 0 then k + 1 else f) → l' = (if zs.getD (k + 1) 0 ≤ zs.getD l 0 then k + 1 else l) → (f', l') = leastTo zs (k + 1 + 1) := by
        intro f' l' h1 h2
        show _ = lstep zs (leastTo zs (k + 1)) (k + 1)
        rw [← hfl.out, h1, h2]; rfl
      have HST := Lib.hid hst
      clear hst
      by_cases c1 : (zs[k + 1]'hlt) < (zs[f]'hfz)
      · by_cases c2 : (zs[k + 1]'hlt) ≤ (zs[l]'hlz)
        · go_wp2
          go_quiet (fail)
          go_wp2
          go_quiet (fail)
          clear t1 tf tl hc1 hcf hcl
          go_wp2
          go_roundw
          case rel => exact ⟨k + 1, k + 1, k + 1, by omega, by go_num, by go_num, by go_num, Lib.hid (HST.out _ _ (by rw [g1.out, gf.out, if_pos (by omega)]) (by rw [g1.out, gl.out, if_pos (by omega)])), HR.out, below_drawN HB.out _⟩
          case measure => simp [intOf]; omega
        · go_wp2
          go_quiet (fail)
          go_wp2
          go_quiet (fail)
          clear t1 tf tl hc1 hcf hcl
          go_wp2
          go_roundw
          case rel => exact ⟨k + 1, k + 1, l, by omega, by go_num, by go_num, by go_num, Lib.hid (HST.out _ _ (by rw [g1.out, gf.out, if_pos (by omega)]) (by rw [g1.out, gl.out, if_neg (by omega)])), HR.out, below_drawN HB.out _⟩
          case measure => simp [intOf]; omega
      · by_cases c2 : (zs[k + 1]'hlt) ≤ (zs[l]'hlz)
        · go_wp2
          go_quiet (fail)
          go_wp2
          go_quiet (fail)
          clear t1 tf tl hc1 hcf hcl
          go_wp2
          go_roundw
          case rel => exact ⟨k + 1, f, k + 1, by omega, by go_num, by go_num, by go_num, Lib.hid (HST.out _ _ (by rw [g1.out, gf.out, if_neg (by omega)]) (by rw [g1.out, gl.out, if_pos (by omega)])), HR.out, below_drawN HB.out _⟩
          case measure => simp [intOf]; omega
        · go_wp2
          go_quiet (fail)
          go_wp2
          go_quiet (fail)
          clear t1 tf tl hc1 hcf hcl
          go_wp2
          go_roundw
          case rel => exact ⟨k + 1, f, l, by omega, by go_num, by go_num, by go_num, Lib.hid (HST.out _ _ (by rw [g1.out, gf.out, if_neg (by omega)]) (by rw [g1.out, gl.out, if_neg (by omega)])), HR.out, below_drawN HB.out _⟩
          case measure => simp [intOf]; omega
    · have hkn : k + 1 = zs.length := by omega
      have hfl' := hfl.out
      rw [hkn] at hfl'
      have hfz : f < zs.length := by omega
      obtain ⟨b, off, rfl, _, _, hcf⟩ := HR.out.at_ hfz
      have gf := Lib.hid (getD_in hfz)
      have q1 : (f : Int) < (zs.length : Int) := by omega
      have HF := Lib.hid hfl'
      have hlt' : ¬ (k : Int) + 1 < (zs.length : Int) := by omega
      clear hfl hfl' hkn
      go_wp2
      go_ret3
      rw [← HF.out]
      refine ⟨?_, HB.out⟩
      show _ = Ending.returned (.tuple #[.int .i64 (zs.getD f 0), .int .i64 (f : Int), .int .i64 (l : Int)])
      rw [gf.out]; rfl

theorem results4 {fn : Func} {t u v x : Tmp} (h : fn.results = #[.tmp t, .tmp u, .tmp v, .tmp x]) (tmps : Array Value) (P : Program) (w : World) :
    (results fn tmps).run P w = .ok (.tuple #[tmps.getD t undef, tmps.getD u undef, tmps.getD v undef, tmps.getD x undef]) w := by
  simp only [results, h]
  simp

def leastV (zs : List Int) : Value := if rowB zs then .tuple #[.int .i64 (zs.getD (leastTo zs zs.length).1 0), .int .i64 ((leastTo zs zs.length).1 : Int), .int .i64 ((leastTo zs zs.length).2 : Int), .bool true] else .tuple #[.int .i64 0, .int .i64 0, .int .i64 0, .bool false]
def leastA (zs : List Int) : Int := if rowB zs then zs.getD (leastTo zs zs.length).1 0 else 0
def leastB (zs : List Int) : Int := if rowB zs then ((leastTo zs zs.length).1 : Int) else 0
def leastC (zs : List Int) : Int := if rowB zs then ((leastTo zs zs.length).2 : Int) else 0

end Go.Proofs.Ytnphmapiagiocaa
