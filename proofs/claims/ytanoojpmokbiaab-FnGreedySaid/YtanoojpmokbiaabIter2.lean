/-
  The iterator slopes of a row, and what slices.Collect makes of it. Conditions: the row's cells are there, below n₀; its entries are those of a row.
-/
import Derived.Test.YtanoojpmokbiaabImpl
import Derived.Test.YtanoojpmokbiaabPush
import Derived.Sort.QuietIn
import Derived.Deep.Light
namespace Go.Proofs.Ytanoojpmokbiaab
open Go.RowKit Go.Shelf
attribute [local go_sem] Oper.semAt_some

theorem finRange_succ' {n k : Nat} (h : k < n) : (List.finRange n).take k ++ [⟨k, h⟩] = (List.finRange n).take (k + 1) := finRange_succ h

def YWay {α : Type} (n₀ : Nat) (J Jx : List α → World → Prop) (pre : List α) (W : World) (b : Bool) (W' : World) : Prop := (b = true ∧ J pre W' ∧ Below n₀ W W') ∨ (b = false ∧ Jx pre W')
theorem YWay.of {α : Type} {n₀ : Nat} {J Jx : List α → World → Prop} {pre : List α} {W W' : World} {e : Ending}
    (h : (e = .returned (.bool true) ∧ J pre W' ∧ Below n₀ W W') ∨ (e = .returned (.bool false) ∧ Jx pre W')) : ∃ b, e = .returned (.bool b) ∧ YWay n₀ J Jx pre W b W' := by
  rcases h with ⟨rfl, h⟩ | ⟨rfl, h⟩
  · exact ⟨true, rfl, .inl ⟨rfl, h⟩⟩
  · exact ⟨false, rfl, .inr ⟨rfl, h⟩⟩

set_option maxRecDepth 100000 in
set_option maxHeartbeats 1000000 in
theorem slopes1_in (n : Nat) (l Bn n₀ c : Nat) (A : Option Addr) (zs : List Int) (hr : rowB zs = true) (J Jx : List (Fin (slopesL zs).length) → World → Prop) (W : World) (hAb : AbidesFrom W.heap.size J)
    (hY : ∀ pre x W, J pre W → pre.length < (slopesL zs).length → YieldAt Fence.wide (n - 1) Try.prog l #[.int .i64 (slopesL zs)[x]] W fun e W' =>
      (e = .returned (.bool true) ∧ J (pre ++ [x]) W' ∧ Below n₀ W W') ∨ (e = .returned (.bool false) ∧ Jx (pre ++ [x]) W'))
    (hBn : W.cell? ⟨Bn, 0, none⟩ = some (.slice A zs.length c)) (hn₀ : Bn < n₀) (hL : IR W 0 n₀ A zs) (h0 : J [] W) :
    CallsIn Fence.wide n Try.prog 62 #[.func (.yield l) #[] #[], .pointer (some ⟨Bn, 0, none⟩)] W fun e W' => (∃ v, e = .returned v) ∧
      ((∃ ys, ys = List.finRange (slopesL zs).length ∧ J ys W') ∨ (∃ pre, True ∧ Jx pre W')) := by
  have hl := (rowB_true.1 hr).2
  have HB := Lib.hid (rowB_true.1 hr).1
  have HSL := Lib.hid (slopesL_len zs)
  clear hr
  refine callsIn_of_wp Try.func62 rfl trivial ?_ rfl
  simp only [Try.ntmps62, List.size_toArray, List.length_cons, List.length_nil, Nat.reduceAdd, Nat.reduceSub, Array.replicate_succ, Array.replicate_zero, List.push_toArray, List.append_toArray, List.nil_append, List.cons_append]
  gi_wp2
  gi_loopw [3] (fun i wr => ∃ k : Nat, k + 1 ≤ zs.length ∧ i = .int .i64 ((k : Int) + 1) ∧ wr.cell? ⟨Bn, 0, none⟩ = some (.slice A zs.length c) ∧ IR wr 0 n₀ A zs ∧ J ((List.finRange (slopesL zs).length).take k) wr)
    (fun i _ => zs.length - (intOf i).toNat)
  case atStart => exact ⟨0, hl.1, rfl, hBn, hL, by simpa using h0⟩
  case round =>
    obtain ⟨k, hk, rfl, hbox, hR, hJ⟩ := hrel
    by_cases hlt : k + 1 < zs.length
    · have HR := Lib.hid hR
      obtain ⟨b, off, rfl, hbh, hbs, hc1⟩ := hR.at_ hlt
      obtain ⟨b', off', e, _, _, hc0⟩ := hR.at_ (k := k) (by omega)
      injection e with e; injection e with e1 e2 _; subst e1; subst e2
      clear hR
      have hlt' : (k : Int) + 1 < (zs.length : Int) := by omega
      have hlt0 : (k : Int) < (zs.length : Int) := by omega
      have h00 : (0 : Int) ≤ (k : Int) := by omega
      have h01 : (0 : Int) ≤ (k : Int) + 1 := by omega
      have b1 := HB.out _ (List.getElem_mem hlt)
      have b0 := HB.out _ (List.getElem_mem (show k < zs.length by omega))
      obtain ⟨b11, b12⟩ := b1
      obtain ⟨b01, b02⟩ := b0
      have hks : k < (slopesL zs).length := by rw [HSL.out]; omega
      have hyy := hY ((List.finRange (slopesL zs).length).take k) ⟨k, hks⟩ wr.drew (hAb _ _ _ none hJ ⟨rfl, rfl, rfl, Nat.le_refl _, fun _ _ _ => rfl⟩ (by intro r e; cases e)) (by simp; omega)
      rw [show (slopesL zs)[(⟨k, hks⟩ : Fin (slopesL zs).length)] = zs[k + 1] - zs[k] from slopesL_get zs k hlt] at hyy
      obtain ⟨fn, tmps, assign, body, hy, hYR⟩ := hyy
      have t1 : ((k : Int) + 1).toNat = k + 1 := by omega
      have s1 : IntKind.i64.wrap (k : Int) = (k : Int) := IntWalk.i64_in _ (by omega)
      have t0 : (k : Int).toNat = k := by omega
      have s2 : IntKind.i64.wrap (zs[k + 1] - zs[k]) = zs[k + 1] - zs[k] := IntWalk.i64_in _ (by omega)
      gi_wp2
      have hmx : Try.prog.follows .mixedOrders = true := by kernel_rfl
      refine wpIn_mono (Q := Exit.then (fun a' w' => ∃ v10 v11 v12 v13 v14 v15 v16 v17 v18 v19 v20 v21 bb, a' = { tmps := #[.func (.yield l) #[] #[], .pointer (some ⟨Bn, 0, none⟩), undef, .int .i64 ((k : Int) + 1), .int .i64 ((k : Int) + 1), .slice (some ⟨b, off, none⟩) zs.length c, .int .i64 (zs.length : Int), .bool true, u8, u9, v10, v11, v12, v13, v14, v15, v16, v17, v18, v19, v20, v21, .bool (!bb)], defers := [] } ∧ YWay n₀ J Jx ((List.finRange (slopesL zs).length).take k ++ [⟨k, hks⟩]) wr.drew bb w') (fun _ _ _ => False)) ?reg ?rest
      case reg =>
        clear hY h0 hL hBn hJ hAb HR HB HSL hl hn₀
        go_light
        gi_region_with_o (refine ⟨fun h => (by cases h), ?_⟩; refine hYR.mono ?_; intro e W3 he; obtain ⟨bb, rfl, hw⟩ := YWay.of he)
        all_goals exact ⟨_, _, _, _, _, _, _, _, _, _, _, _, _, rfl, hw⟩
      case rest =>
        intro e a' w' hp
        cases e <;> try exact hp.elim
        obtain ⟨v10, v11, v12, v13, v14, v15, v16, v17, v18, v19, v20, v21, bb, rfl, hw⟩ := hp
        have hbox' := Lib.hid hbox
        clear t1 t0 s1 s2 hy hYR hc1 hc0 hbox hJ
        rcases hw with ⟨rfl, hJ3, hk3⟩ | ⟨rfl, hJx3⟩
        · have HJ := Lib.hid hJ3; have HK := Lib.hid hk3
          clear hJ3 hk3
          gi_wp2
          go_roundw
          case rel => exact ⟨k + 1, by omega, by go_num, (HK.out.cell (p := ⟨Bn, 0, none⟩) hn₀).trans hbox'.out, HR.out.keep HK.out.size (fun p _ h2 => HK.out.cell h2), by rw [← finRange_succ hks]; exact HJ.out⟩
          case measure => simp [intOf]; omega
        · have HJ := Lib.hid hJx3
          clear hJx3
          gi_wp2
          refine bodyPost_ret (results_none rfl _ _ _) rfl ?_
          first | exact ⟨⟨_, rfl⟩, .inr ⟨_, trivial, HJ.out⟩⟩ | exact ⟨⟨_, rfl⟩, .inr ⟨_, HJ.out⟩⟩
    · have HJ := Lib.hid hJ
      have hlt' : ¬ (k : Int) + 1 < (zs.length : Int) := by omega
      clear hJ hR
      gi_wp2
      go_end0
      have hJ' : J (List.finRange (slopesL zs).length) wr := by
        have := HJ.out; rwa [List.take_of_length_le (by simp [HSL.out]; omega)] at this
      first | exact ⟨⟨_, rfl⟩, .inl ⟨_, rfl, hJ'⟩⟩ | exact ⟨⟨_, rfl⟩, .inl hJ'⟩

end Go.Proofs.Ytanoojpmokbiaab
