/-
  A table of the program as lists: slices.Clone, lists. Conditions: the entries are 64-bit numbers.
-/
import Derived.Test.YtanoojpmokbiaabTbL
import Derived.Test.YtanoojpmokbiaabLawT
import Derived.Test.YtanoojpmokbiaabDraw2
namespace Go.Proofs.Ytanoojpmokbiaab
open Go.RowKit Go.Shelf
attribute [local go_sem] Oper.semAt_some

set_option maxHeartbeats 1000000 in
set_option maxRecDepth 100000 in
theorem cloneInts_any (A : Option Addr) (c lo hi : Nat) (ys : List Int) (w : World) (hp : 0 < ys.length) (h : IR w lo hi A ys) :
    Calls Try.prog 56 #[.slice A ys.length c] w (RetSC w ys) := by
  obtain ⟨b, off, rfl, _, _, _⟩ := h.at_ hp
  have HC := Lib.hid (h.below ((Below.refl w.heap.size w).alloc (Nat.le_refl _) (.cells #[] 3)) h.2.2.1)
  have HLe : Hid (([] : List Int).length + ys.length ≤ 17592186044416) := by have := h.1; show _ ≤ _; simp; omega
  have hnil := fun (w : World) => Lib.run_eql_slice_nil (P := Try.prog) w _ _ (some ⟨b, off, none⟩) ys.length c 0 0 Try.underlying24
  clear h
  go_enter Try.func56, Try.ntmps56
  go_wp2_with (at_builtin; refine wpList_appendsI rfl _ _ rfl w.heap.size _ [] ys (some ⟨b, off, none⟩) lo hi ys.length c rfl rfl rfl (OwnI.made w) HC.out HLe.out ?_; intro v1 w1 ho1 hb1; have HO1 := Lib.hid ho1; have HB1 := Lib.hid hb1; clear ho1 hb1; obtain ⟨A1, c1, rfl, hi1, hcap⟩ := HO1.out.iwc (n := ys.length) (by simp) (by simpa using HLe.out); have HI1 := Lib.hid hi1; have HCP := Lib.hid hcap; clear hi1 hcap HO1)
  go_ret
  exact ⟨A1, c1, rfl, HCP.out, HI1.out, ((Below.refl _ _).alloc (Nat.le_refl _) _).trans HB1.out⟩


set_option maxRecDepth 100000 in
theorem wp_stS {o : Oper} {a : Act} {w : World} {K : Act → World → Prop} {Q : Exit → Act → World → Prop} {x y : Operand} (ho : o.op = .store 24 x y) {p : Addr} {A : Option Addr} {n c : Nat} {v : Value} (hv : v = .slice A n c) {u : Value} (hx : a.eval x = .pointer (some p)) (hy : a.eval y = v) (hc : w.cell? p = some u) (hf : w.frozen? p = false)
    (h : K (a.put o.dst undef) (w.setCell p v)) : WpS Try.prog o a w K Q := by
  subst hv
  refine ⟨?_⟩
  have hr : (execOp a.eval o).run Try.prog w = .ok .skip (w.setCell p (.slice A n c)) := by
    unfold execOp
    simp only [ho, hx, hy]
    simp [go_sem, hc, hf]
  unfold Oper.wp
  rw [hr]
  exact h
set_option maxRecDepth 100000 in
theorem seg_row (n m : Nat) (f : Nat → Nat → Int) {i : Nat} (hm : 1 ≤ m) (hi : i < (tabL n m f).length) : (tabL n m f)[i] = segL (f i) 0 (m - 1) := by
  have e : segL (f i) 0 (m - 1) = (List.range m).map fun k => f i k := by
    unfold segL
    rw [show m - 1 + 1 = m by omega]
    simp
  rw [e]
  simp [tabL]

end Go.Proofs.Ytanoojpmokbiaab
