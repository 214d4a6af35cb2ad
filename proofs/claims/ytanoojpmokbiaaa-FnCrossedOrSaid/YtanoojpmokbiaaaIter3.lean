/-
  The iterators of the rows once more: a loop that is left early has seen the first ones, in order. Conditions: the row's cells are there.
-/
import Derived.Test.YtanoojpmokbiaaaColl2
namespace Go.Proofs.Ytanoojpmokbiaaa
open Go.RowKit Go.Shelf
attribute [local go_sem] Oper.semAt_some

/-- The first ones, in order, at least one. -/
def Pfx (n : Nat) (pre : List (Fin n)) : Prop := ∃ k, k < n ∧ pre = (List.finRange n).take (k + 1)
theorem finRange_init {n : Nat} {l : List (Fin n)} {x : Fin n} (h : Pfx n (l ++ [x])) : l = (List.finRange n).take x.1 := by
  obtain ⟨k, hk, e⟩ := h
  rw [← finRange_succ hk] at e
  have e2 := List.append_inj' e rfl
  obtain ⟨e3, e4⟩ := e2
  injection e4 with e4 _
  rw [e3, e4]

set_option maxRecDepth 100000 in
set_option maxHeartbeats 1000000 in
theorem entries1_pf (F : Fence) (n : Nat) (hF : F.fn 65) (hro : F.round = none) (hn : 1 ≤ n) (l Bn n₀ c : Nat) (A : Option Addr) (zs : List Int) (J Jx : List (Fin zs.length) → World → Prop)
    (hY : ∀ pre x W, J pre W → pre.length < zs.length → YieldAt F (n - 1) Try.prog l #[.int .i64 ((x : Fin zs.length) : Nat), .int .i64 zs[x]] W fun e W' =>
      (e = .returned (.bool true) ∧ J (pre ++ [x]) W' ∧ Below n₀ W W') ∨ (e = .returned (.bool false) ∧ Jx (pre ++ [x]) W'))
    (W : World) (hBn : W.cell? ⟨Bn, 0, none⟩ = some (.slice A zs.length c)) (hL : IR W 0 n₀ A zs) (h0 : J [] W) :
    CallsIn F n Try.prog 65 #[.func (.yield l) #[] #[], .pointer (some ⟨Bn, 0, none⟩)] W fun e W' => (∃ v, e = .returned v) ∧
      ((∃ ys, ys = List.finRange zs.length ∧ J ys W') ∨ (∃ pre, Pfx zs.length pre ∧ Jx pre W')) := by
  have hl := hL.1
  refine callsIn_of_wp Try.func65 rfl hF ?_ hro
  simp only [Try.ntmps65, List.size_toArray, List.length_cons, List.length_nil, Nat.reduceAdd, Nat.reduceSub, Array.replicate_succ, Array.replicate_zero, List.push_toArray, List.append_toArray, List.nil_append, List.cons_append]
  gi_wp2
  gi_loopw [7] (fun i wr => ∃ k : Nat, k ≤ zs.length ∧ i = .int .i64 k ∧ IR wr 0 n₀ A zs ∧ J ((List.finRange zs.length).take k) wr)
    (fun i _ => zs.length - (intOf i).toNat)
  case atStart => exact ⟨0, Nat.zero_le _, rfl, hL, by simpa using h0⟩
  case round =>
    obtain ⟨k, hk, rfl, hR, hJ⟩ := hrel
    by_cases hlt : k < zs.length
    · have HR := Lib.hid hR
      obtain ⟨b, off, rfl, _, _, hc⟩ := hR.at_ hlt
      clear hR
      have hlt' : (k : Int) < (zs.length : Int) := by omega
      obtain ⟨fn, tmps, assign, body, hy, hYR⟩ := hY ((List.finRange zs.length).take k) ⟨k, hlt⟩ wr hJ (by simp; omega)
      simp only [Fin.getElem_fin] at hy
      gi_wp2
      refine hYR.mono ?_
      rintro e W3 (⟨rfl, hJ3, hk3⟩ | ⟨rfl, hJx3⟩)
      · have HJ := Lib.hid hJ3; have HK := Lib.hid hk3
        clear hJ3 hk3 hYR hJ
        gi_wp2
        go_roundw
        case rel => exact ⟨k + 1, by omega, by go_num, HR.out.below HK.out (Nat.le_refl _), by rw [← finRange_succ hlt]; exact HJ.out⟩
        case measure => simp [intOf]; omega
      · have HJ := Lib.hid hJx3
        clear hJx3 hYR hJ
        gi_wp2
        refine bodyPost_ret (results_none rfl _ _ _) rfl ?_
        exact ⟨⟨_, rfl⟩, .inr ⟨_, ⟨k, hlt, (finRange_succ hlt)⟩, HJ.out⟩⟩
    · obtain rfl : k = zs.length := by omega
      have HJ := Lib.hid hJ
      clear hJ
      gi_wp2
      go_end0
      exact ⟨⟨_, rfl⟩, .inl ⟨_, rfl, by have := HJ.out; rwa [List.take_of_length_le (by simp)] at this⟩⟩

/-- The value that entries hands back: a loop over it, that may be left early. -/
theorem entries_pf (F : Fence) (n : Nat) (hF : F.fn 65) (hro : F.round = none) (hn : 1 ≤ n) (Bn n₀ c : Nat) (A : Option Addr) (zs : List Int) (w : World) (hBn : Bn < w.heap.size) (hn₀ : n₀ ≤ w.heap.size)
    (hc : w.cell? ⟨Bn, 0, none⟩ = some (.slice A zs.length c)) (hL : IR w 0 n₀ A zs) :
    SeqStopsK F n Try.prog 65 #[.pointer (some ⟨Bn, 0, none⟩)] (fun x : Fin zs.length => #[.int .i64 ((x : Nat) : Int), .int .i64 zs[x]]) (Below n₀) (fun ys => ys = List.finRange zs.length) (Pfx zs.length) zs.length w := fun l J Jx W hW _ _ hY h0 =>
  entries1_pf F n hF hro hn l Bn n₀ c A zs J Jx hY W ((hW.cell (p := ⟨Bn, 0, none⟩) hBn).trans hc) (hL.below hW hn₀) h0
end Go.Proofs.Ytanoojpmokbiaaa
