/-
  The iterators of the rows once more: a loop that is left early has seen the first ones, in order. Conditions: the row's cells are there.
-/
import Derived.Test.YtanoojpmokbiaabColl2
namespace Go.Proofs.Ytanoojpmokbiaab
open Go.RowKit Go.Shelf
attribute [local go_sem] Oper.semAt_some

/-- The first ones, in order, at least one. -/
def Pfx (n : Nat) (pre : List (Fin n)) : Prop := ∃ k, k < n ∧ pre = (List.finRange n).take (k + 1)
theorem finRange_init {n : Nat} {l : List (Fin n)} {x : Fin n} (h : Pfx n (l ++ [x])) : l = (List.finRange n).take x.1 := by
  obtain ⟨k, hk, e⟩ := h
  rw [← finRange_succ hk] at e
  have e2 := List.append_inj' e rfl
  obtain ⟨e3, e4⟩ := e2
  injection e4 with e4 _
  rw [e3, e4]

set_option maxRecDepth 100000 in
set_option maxHeartbeats 1000000 in
theorem entries1_pf (F : Fence) (n : Nat) (hF : F.fn 57) (hro : F.round = none) (hn : 1 ≤ n) (l Bn n₀ c : Nat) (A : Option Addr) (zs : List Int) (J Jx : List (Fin zs.length) → World → Prop)
    (hY : ∀ pre x W, J pre W → pre.length < zs.length → YieldAt F (n - 1) Try.prog l #[.int .i64 ((x : Fin zs.length) : Nat), .int .i64 zs[x]] W fun e W' =>
      (e = .returned (.bool true) ∧ J (pre ++ [x]) W' ∧ Below n₀ W W') ∨ (e = .returned (.bool false) ∧ Jx (pre ++ [x]) W'))
    (W : World) (hBn : W.cell? ⟨Bn, 0, none⟩ = some (.slice A zs.length c)) (hL : IR W 0 n₀ A zs) (h0 : J [] W) :
    CallsIn F n Try.prog 57 #[.func (.yield l) #[] #[], .pointer (some ⟨Bn, 0, none⟩)] W fun e W' => (∃ v, e = .returned v) ∧
      ((∃ ys, ys = List.finRange zs.length ∧ J ys W') ∨ (∃ pre, Pfx zs.length pre ∧ Jx pre W')) := by
  have hl := hL.1
  refine callsIn_of_wp Try.func57 rfl hF ?_ hro
  simp only [Try.ntmps57, List.size_toArray, List.length_cons, List.length_nil, Nat.reduceAdd, Nat.reduceSub, Array.replicate_succ, Array.replicate_zero, List.push_toArray, List.append_toArray, List.nil_append, List.cons_append]
  gi_wp2
  gi_loopw [7] (fun i wr => ∃ k : Nat, k ≤ zs.length ∧ i = .int .i64 k ∧ IR wr 0 n₀ A zs ∧ J ((List.finRange zs.length).take k) wr)
    (fun i _ => zs.length - (intOf i).toNat)
  case atStart => exact ⟨0, Nat.zero_le _, rfl, hL, by simpa using h0⟩
  case round =>
    obtain ⟨k, hk, rfl, hR, hJ⟩ := hrel
    by_cases hlt : k < zs.length
    · have HR := Lib.hid hR
      obtain ⟨b, off, rfl, _, _, hc⟩ := hR.at_ hlt
      clear hR
      have hlt' : (k : Int) < (zs.length : Int) := by omega
      obtain ⟨fn, tmps, assign, body, hy, hYR⟩ := hY ((List.finRange zs.length).take k) ⟨k, hlt⟩ wr hJ (by simp; omega)
      simp only [Fin.getElem_fin] at hy
      gi_wp2
      refine hYR.mono ?_
      rintro e W3 (⟨rfl, hJ3, hk3⟩ | ⟨rfl, hJx3⟩)
      · have HJ := Lib.hid hJ3; have HK := Lib.hid hk3
        clear hJ3 hk3 hYR hJ
        gi_wp2
        go_roundw
        case rel => exact ⟨k + 1, by omega, by go_num, HR.out.below HK.out (Nat.le_refl _), by rw [← finRange_succ hlt]; exact HJ.out⟩
        case measure => simp [intOf]; omega
      · have HJ := Lib.hid hJx3
        clear hJx3 hYR hJ
        gi_wp2
        refine bodyPost_ret (results_none rfl _ _ _) rfl ?_
        exact ⟨⟨_, rfl⟩, .inr ⟨_, ⟨k, hlt, (finRange_succ hlt)⟩, HJ.out⟩⟩
    · obtain rfl : k = zs.length := by omega
      have HJ := Lib.hid hJ
      clear hJ
      gi_wp2
      go_end0
      exact ⟨⟨_, rfl⟩, .inl ⟨_, rfl, by have := HJ.out; rwa [List.take_of_length_le (by simp)] at this⟩⟩

/-- The value that entries hands back: a loop over it, that may be left early. -/
theorem entries_pf (F : Fence) (n : Nat) (hF : F.fn 57) (hro : F.round = none) (hn : 1 ≤ n) (Bn n₀ c : Nat) (A : Option Addr) (zs : List Int) (w : World) (hBn : Bn < w.heap.size) (hn₀ : n₀ ≤ w.heap.size)
    (hc : w.cell? ⟨Bn, 0, none⟩ = some (.slice A zs.length c)) (hL : IR w 0 n₀ A zs) :
    SeqStopsK F n Try.prog 57 #[.pointer (some ⟨Bn, 0, none⟩)] (fun x : Fin zs.length => #[.int .i64 ((x : Nat) : Int), .int .i64 zs[x]]) (Below n₀) (fun ys => ys = List.finRange zs.length) (Pfx zs.length) zs.length w := fun l J Jx W hW _ _ hY h0 =>
  entries1_pf F n hF hro hn l Bn n₀ c A zs J Jx hY W ((hW.cell (p := ⟨Bn, 0, none⟩) hBn).trans hc) (hL.below hW hn₀) h0
set_option maxRecDepth 100000 in
set_option maxHeartbeats 1000000 in
theorem slopes1_pf (n : Nat) (l Bn n₀ c : Nat) (A : Option Addr) (zs : List Int) (hr : rowB zs = true) (J Jx : List (Fin (slopesL zs).length) → World → Prop) (W : World) (hAb : AbidesFrom W.heap.size J)
    (hY : ∀ pre x W, J pre W → pre.length < (slopesL zs).length → YieldAt Fence.wide (n - 1) Try.prog l #[.int .i64 (slopesL zs)[x]] W fun e W' =>
      (e = .returned (.bool true) ∧ J (pre ++ [x]) W' ∧ KeepAt n₀ Bn W W') ∨ (e = .returned (.bool false) ∧ Jx (pre ++ [x]) W'))
    (hBn : W.cell? ⟨Bn, 0, none⟩ = some (.slice A zs.length c)) (hL : IR W 0 n₀ A zs) (h0 : J [] W) :
    CallsIn Fence.wide n Try.prog 62 #[.func (.yield l) #[] #[], .pointer (some ⟨Bn, 0, none⟩)] W fun e W' => (∃ v, e = .returned v) ∧
      ((∃ ys, ys = List.finRange (slopesL zs).length ∧ J ys W') ∨ (∃ pre, Pfx (slopesL zs).length pre ∧ Jx pre W')) := by
  have hl := (rowB_true.1 hr).2
  have HB := Lib.hid (rowB_true.1 hr).1
  have HSL := Lib.hid (slopesL_len zs)
  clear hr
  refine callsIn_of_wp Try.func62 rfl trivial ?_ rfl
  simp only [Try.ntmps62, List.size_toArray, List.length_cons, List.length_nil, Nat.reduceAdd, Nat.reduceSub, Array.replicate_succ, Array.replicate_zero, List.push_toArray, List.append_toArray, List.nil_append, List.cons_append]
  gi_wp2
  gi_loopw [3] (fun i wr => ∃ k : Nat, k + 1 ≤ zs.length ∧ i = .int .i64 ((k : Int) + 1) ∧ wr.cell? ⟨Bn, 0, none⟩ = some (.slice A zs.length c) ∧ IR wr 0 n₀ A zs ∧ J ((List.finRange (slopesL zs).length).take k) wr)
    (fun i _ => zs.length - (intOf i).toNat)
  case atStart => exact ⟨0, hl.1, rfl, hBn, hL, by simpa using h0⟩
  case round =>
    obtain ⟨k, hk, rfl, hbox, hR, hJ⟩ := hrel
    by_cases hlt : k + 1 < zs.length
    · have HR := Lib.hid hR
      obtain ⟨b, off, rfl, hbh, hbs, hc1⟩ := hR.at_ hlt
      obtain ⟨b', off', e, _, _, hc0⟩ := hR.at_ (k := k) (by omega)
      injection e with e; injection e with e1 e2 _; subst e1; subst e2
      clear hR
      have hlt' : (k : Int) + 1 < (zs.length : Int) := by omega
      have hlt0 : (k : Int) < (zs.length : Int) := by omega
      have h00 : (0 : Int) ≤ (k : Int) := by omega
      have h01 : (0 : Int) ≤ (k : Int) + 1 := by omega
      have b1 := HB.out _ (List.getElem_mem hlt)
      have b0 := HB.out _ (List.getElem_mem (show k < zs.length by omega))
      obtain ⟨b11, b12⟩ := b1
      obtain ⟨b01, b02⟩ := b0
      have hks : k < (slopesL zs).length := by rw [HSL.out]; omega
      have hyy := hY ((List.finRange (slopesL zs).length).take k) ⟨k, hks⟩ wr.drew (hAb _ _ _ none hJ ⟨rfl, rfl, rfl, Nat.le_refl _, fun _ _ _ => rfl⟩ (by intro r e; cases e)) (by simp; omega)
      rw [show (slopesL zs)[(⟨k, hks⟩ : Fin (slopesL zs).length)] = zs[k + 1] - zs[k] from slopesL_get zs k hlt] at hyy
      obtain ⟨fn, tmps, assign, body, hy, hYR⟩ := hyy
      have t1 : ((k : Int) + 1).toNat = k + 1 := by omega
      have s1 : IntKind.i64.wrap (k : Int) = (k : Int) := IntWalk.i64_in _ (by omega)
      have t0 : (k : Int).toNat = k := by omega
      have s2 : IntKind.i64.wrap (zs[k + 1] - zs[k]) = zs[k + 1] - zs[k] := IntWalk.i64_in _ (by omega)
      gi_wp2
      have hmx : Try.prog.follows .mixedOrders = true := by kernel_rfl
      refine wpIn_mono (Q := Exit.then (fun a' w' => ∃ v10 v11 v12 v13 v14 v15 v16 v17 v18 v19 v20 v21 bb, a' = { tmps := #[.func (.yield l) #[] #[], .pointer (some ⟨Bn, 0, none⟩), undef, .int .i64 ((k : Int) + 1), .int .i64 ((k : Int) + 1), .slice (some ⟨b, off, none⟩) zs.length c, .int .i64 (zs.length : Int), .bool true, u8, u9, v10, v11, v12, v13, v14, v15, v16, v17, v18, v19, v20, v21, .bool (!bb)], defers := [] } ∧ YWayAt n₀ Bn J Jx ((List.finRange (slopesL zs).length).take k ++ [⟨k, hks⟩]) wr.drew bb w') (fun _ _ _ => False)) ?reg ?rest
      case reg =>
        clear hY h0 hL hBn hJ hAb HR HB HSL hl
        go_light
        gi_region_with_o (refine ⟨fun h => (by cases h), ?_⟩; refine hYR.mono ?_; intro e W3 he; obtain ⟨bb, rfl, hw⟩ := YWayAt.of he)
        all_goals exact ⟨_, _, _, _, _, _, _, _, _, _, _, _, _, rfl, hw⟩
      case rest =>
        intro e a' w' hp
        cases e <;> try exact hp.elim
        obtain ⟨v10, v11, v12, v13, v14, v15, v16, v17, v18, v19, v20, v21, bb, rfl, hw⟩ := hp
        have hbox' := Lib.hid hbox
        clear t1 t0 s1 s2 hy hYR hc1 hc0 hbox hJ
        rcases hw with ⟨rfl, hJ3, hk3⟩ | ⟨rfl, hJx3⟩
        · have HJ := Lib.hid hJ3; have HK := Lib.hid hk3
          clear hJ3 hk3
          gi_wp2
          go_roundw
          case rel => exact ⟨k + 1, by omega, by go_num, (HK.out.cell (p := ⟨Bn, 0, none⟩) (.inr rfl)).trans hbox'.out, HR.out.keep HK.out.1 (fun p _ h2 => HK.out.cell (.inl h2)), by rw [← finRange_succ hks]; exact HJ.out⟩
          case measure => simp [intOf]; omega
        · have HJ := Lib.hid hJx3
          clear hJx3
          gi_wp2
          refine bodyPost_ret (results_none rfl _ _ _) rfl ?_
          exact ⟨⟨_, rfl⟩, .inr ⟨_, ⟨k, hks, finRange_succ hks⟩, HJ.out⟩⟩
    · have HJ := Lib.hid hJ
      have hlt' : ¬ (k : Int) + 1 < (zs.length : Int) := by omega
      clear hJ hR
      gi_wp2
      go_end0
      have hJ' : J (List.finRange (slopesL zs).length) wr := by
        have := HJ.out; rwa [List.take_of_length_le (by simp [HSL.out]; omega)] at this
      first | exact ⟨⟨_, rfl⟩, .inl ⟨_, rfl, hJ'⟩⟩ | exact ⟨⟨_, rfl⟩, .inl hJ'⟩

/-- The value that slopes hands back: a loop over it, beside which other blocks turn, that may be left early. -/
theorem slopes_pf (n : Nat) (Bn n₀ c : Nat) (A : Option Addr) (zs : List Int) (hr : rowB zs = true) (w : World) (hBn : Bn < w.heap.size) (hn₀ : n₀ ≤ w.heap.size)
    (hc : w.cell? ⟨Bn, 0, none⟩ = some (.slice A zs.length c)) (hL : IR w 0 n₀ A zs) :
    SeqStopsK Fence.wide n Try.prog 62 #[.pointer (some ⟨Bn, 0, none⟩)] (fun x : Fin (slopesL zs).length => #[.int .i64 (slopesL zs)[x]]) (KeepAt n₀ Bn) (fun ys => ys = List.finRange (slopesL zs).length) (Pfx (slopesL zs).length) (slopesL zs).length w := fun l J Jx W hW hA _ hY h0 =>
  slopes1_pf n l Bn n₀ c A zs hr J Jx W hA hY ((hW.cell (p := ⟨Bn, 0, none⟩) hBn).trans hc) (hL.below hW hn₀) h0

end Go.Proofs.Ytanoojpmokbiaab
