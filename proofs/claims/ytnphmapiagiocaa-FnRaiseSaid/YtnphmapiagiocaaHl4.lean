/-
  HillRaise of the model and of the program: each entry of a hill times a binomial number. Conditions: the list's cells are there.
-/
import Derived.Test.YtnphmapiagiocaaHl1
import Derived.Test.YtnphmapiagiocaaImp4
import Derived.Test.YtnphmapiagiocaaHeld
import Derived.Test.YtnphmapiagiocaaFrom
import Derived.Test.YtnphmapiagiocaaMathA
namespace Go.Proofs.Ytnphmapiagiocaa
open Go.RowKit Go.Shelf
attribute [local go_sem] Oper.semAt_some

def raiseM (zs : List Int) : Option (List Int) := if hillB zs then doneM (raiseL zs) else none
theorem raise_no {zs : List Int} (h : hillB zs = false) : raiseM zs = none := by unfold raiseM; rw [h]; rfl
theorem raise_yes {zs : List Int} (h : hillB zs = true) : raiseM zs = doneM (raiseL zs) := by unfold raiseM; rw [h]; rfl

theorem choose_up : ∀ m, m < 12 → ∀ i, i < 12 → m + i < 11 → chooseN (m + i) i * (m + i + 1) = chooseN (m + (i + 1)) (i + 1) * (i + 1) := by decide +kernel
theorem choose_on : ∀ n, n < 12 → ∀ i, i < n → chooseN n i * (n - i) = chooseN n (i + 1) * (i + 1) := by decide +kernel
theorem choose_le : ∀ n, n < 12 → ∀ i, i < 13 → chooseN n i ≤ 462 := by decide +kernel
theorem choose_up_div {m i : Nat} (h : m + i < 11) : ((chooseN (m + i) i : Int) * ((m : Int) + ((i : Int) + 1))) / ((i : Int) + 1) = (chooseN (m + (i + 1)) (i + 1) : Int) := by
  have h1 := choose_up m (by omega) i (by omega) h
  have h2 : ((chooseN (m + i) i : Int) * ((m : Int) + ((i : Int) + 1))) = (chooseN (m + (i + 1)) (i + 1) : Int) * ((i : Int) + 1) := by
    have e : ((chooseN (m + i) i * (m + i + 1) : Nat) : Int) = ((chooseN (m + (i + 1)) (i + 1) * (i + 1) : Nat) : Int) := by rw [h1]
    simp only [Int.natCast_mul, Int.natCast_add, Int.cast_ofNat_Int] at e
    rw [← Int.add_assoc]; exact e
  rw [h2]
  exact Int.mul_ediv_cancel _ (by omega)
theorem choose_on_div {n i : Nat} (hn : n < 12) (h : i < n) : ((chooseN n i : Int) * ((n : Int) - (i : Int))) / ((i : Int) + 1) = (chooseN n (i + 1) : Int) := by
  have h1 := choose_on n hn i h
  have h2 : ((chooseN n i : Int) * ((n : Int) - (i : Int))) = (chooseN n (i + 1) : Int) * ((i : Int) + 1) := by
    have e : ((chooseN n i * (n - i) : Nat) : Int) = ((chooseN n (i + 1) * (i + 1) : Nat) : Int) := by rw [h1]
    simp only [Int.natCast_mul, Int.natCast_add, Int.cast_ofNat_Int] at e
    rw [show ((n : Int) - (i : Int)) = ((n - i : Nat) : Int) by omega]; exact e
  rw [h2]
  exact Int.mul_ediv_cancel _ (by omega)
theorem small_mul {x y : Int} (h1 : 0 ≤ x) (h2 : x ≤ 462) (h3 : 0 ≤ y) (h4 : y ≤ 100000) : 0 ≤ x * y ∧ x * y ≤ 46200000 :=
  ⟨Int.mul_nonneg h1 h3, by have := Int.mul_le_mul h2 h4 h3 (by omega : (0 : Int) ≤ 462); omega⟩

set_option maxHeartbeats 1000000 in
theorem l4Choose_any (n k : Nat) (hk : k ≤ n) (hn : n < 12) (w : World) :
    Calls Try.prog 65 #[.int .i64 (n : Int), .int .i64 (k : Int)] w fun e w' => e = .returned (.int .i64 (chooseN n k : Int)) ∧ w' = w := by
  obtain ⟨m, rfl⟩ : ∃ m, n = m + k := ⟨n - k, by omega⟩
  go_enter Try.func65, Try.ntmps65
  go_wp2
  go_loop [5, 6] (fun v i => ∃ j : Nat, j ≤ k ∧ i = .int .i64 ((j : Int) + 1) ∧ v = .int .i64 (chooseN (m + j) j : Int)) (fun _ i => k + 1 - (intOf i).toNat)
  case atStart => exact ⟨0, Nat.zero_le _, rfl, by rw [choose_zero]; rfl⟩
  case round =>
    obtain ⟨j, hj, rfl, rfl⟩ := hrel
    by_cases hlt : j < k
    · have hlt' : (j : Int) + 1 ≤ (k : Int) := by omega
      have HD := Lib.hid (choose_up_div (m := m) (i := j) (by omega))
      have hle := choose_le (m + j) (by omega) j (by omega)
      obtain ⟨x, hx⟩ : ∃ x, chooseN (m + j) j = x := ⟨_, rfl⟩
      rw [hx] at HD hle ⊢
      clear hx
      have hs := small_mul (x := (x : Int)) (y := (m : Int) + ((j : Int) + 1)) (by omega) (by omega) (by omega) (by omega)
      obtain ⟨hs1, hs2⟩ := hs
      have s1 : IntKind.i64.wrap ((m : Int) + (k : Int) - (k : Int)) = (m : Int) := by rw [IntWalk.i64_in _ (by omega)]; omega
      have s2 : IntKind.i64.wrap ((m : Int) + ((j : Int) + 1)) = (m : Int) + ((j : Int) + 1) := IntWalk.i64_in _ (by omega)
      have s3 : IntKind.i64.wrap ((x : Int) * ((m : Int) + ((j : Int) + 1))) = (x : Int) * ((m : Int) + ((j : Int) + 1)) := IntWalk.i64_in _ (by omega)
      have nz : ¬ (j : Int) + 1 = 0 := by omega
      have hcl := choose_le (m + (j + 1)) (by omega) (j + 1) (by omega)
      have s4 : IntKind.i64.wrap (chooseN (m + (j + 1)) (j + 1) : Int) = (chooseN (m + (j + 1)) (j + 1) : Int) := IntWalk.i64_in _ (by omega)
      have HW := Lib.hid s4; clear s4
      have hcl' := Lib.hid hcl; clear hcl
      go_wp2
      go_round
      case rel => exact ⟨j + 1, by omega, by go_num, by rw [HD.out]⟩
      case measure => simp [intOf]; omega
    · obtain rfl : j = k := by omega
      have hlt' : ¬ (j : Int) + 1 ≤ (j : Int) := by omega
      go_wp2
      go_ret
      exact ⟨rfl, rfl⟩

set_option maxHeartbeats 1000000 in
theorem binomial_any (n k : Nat) (hk : k ≤ n) (hn : n < 12) (w : World) :
    Calls Try.prog 64 #[.int .i64 (n : Int), .int .i64 (k : Int)] w fun e w' => e = .returned (.int .i64 (chooseN n k : Int)) ∧ w' = w := by
  go_enter Try.func64, Try.ntmps64
  go_wp2
  go_loop [5, 6, 8] (fun v _ i => ∃ j : Nat, j ≤ k ∧ i = .int .i64 (j : Int) ∧ v = .int .i64 (chooseN n j : Int)) (fun _ _ i => k - (intOf i).toNat)
  case atStart => exact ⟨0, Nat.zero_le _, rfl, by rw [choose_zero]; rfl⟩
  case round =>
    obtain ⟨j, hj, rfl, rfl⟩ := hrel
    by_cases hlt : j < k
    · have hlt' : (j : Int) < (k : Int) := by omega
      have HD := Lib.hid (choose_on_div (n := n) (i := j) hn (by omega))
      have hle := choose_le n hn j (by omega)
      obtain ⟨x, hx⟩ : ∃ x, chooseN n j = x := ⟨_, rfl⟩
      rw [hx] at HD hle ⊢
      clear hx
      have hs := small_mul (x := (x : Int)) (y := (n : Int) - (j : Int)) (by omega) (by omega) (by omega) (by omega)
      obtain ⟨hs1, hs2⟩ := hs
      have s2 : IntKind.i64.wrap ((n : Int) - (j : Int)) = (n : Int) - (j : Int) := IntWalk.i64_in _ (by omega)
      have s3 : IntKind.i64.wrap ((x : Int) * ((n : Int) - (j : Int))) = (x : Int) * ((n : Int) - (j : Int)) := IntWalk.i64_in _ (by omega)
      have s5 : IntKind.i64.wrap ((j : Int) + 1) = (j : Int) + 1 := IntWalk.i64_in _ (by omega)
      have nz : ¬ (j : Int) + 1 = 0 := by omega
      have hcl := choose_le n hn (j + 1) (by omega)
      have s4 : IntKind.i64.wrap (chooseN n (j + 1) : Int) = (chooseN n (j + 1) : Int) := IntWalk.i64_in _ (by omega)
      have HW := Lib.hid s4; clear s4
      have hcl' := Lib.hid hcl; clear hcl
      go_wp2
      go_round
      case rel => exact ⟨j + 1, by omega, by go_num, by rw [HD.out]⟩
      case measure => simp [intOf]; omega
    · obtain rfl : j = k := by omega
      have hlt' : ¬ (j : Int) < (j : Int) := by omega
      go_wp2
      go_ret
      exact ⟨rfl, rfl⟩

section
variable {F : Fence} {n : Nat}
/-- append of one number, in a region that draws its order, in a fence. -/
theorem stepIn_push1 {ops : Array Oper} {o : Oper} {a : Act} {w : World} {K : Act → World → Prop} {Q : Exit → Act → World → Prop} {E : Prop} (hgd : o.guard = none) (s x : Operand)
    (ho : o.op = .call { callee := .builtin .append, args := #[s, x], argTypes := #[23, 23] })
    (base : Nat) (v : Value) (zs : List Int) (y : Int) (G : Nat) (hs : a.eval s = v) (hx : a.eval x = .slice (some ⟨G, 0, none⟩) 1 1) (hown : OwnI w base v zs) (hc : w.cell? ⟨G, 0, none⟩ = some (.int .i64 y))
    (hl : zs.length < 17592186044416) (hy : I64 y)
    (h : ∀ v' w', OwnI w' base v' (zs ++ [y]) → Below base w w' → K (a.put o.dst v') w') : if Region.wanted o (yielded ops a.tmps) = true then Oper.wpIn F n Try.prog o a w K Q else E := by
  rw [if_pos (show Region.wanted o (yielded ops a.tmps) = true by simp [Region.wanted, hgd])]
  obtain ⟨v', w', hrun, h2, h3⟩ := run_push w base v zs hown G y hc hl hy o.type
  unfold Oper.wpIn
  refine ⟨?_, ?_⟩
  · simp [Oper.about, ho, resolve, Target.leads, Sem.run_pure]
  · rw [Oper.semAt_plain F _ _ (by rw [ho]; intro c hc'; cases hc')]
    simp only [execOp, ho, resolve, invoke, builtin, Sem.run_bind, Sem.run_pure, Result.andThen_ok, List.map_toArray, List.map_cons, List.map_nil, hs, hx, hrun]
    exact h v' w' h2 h3
end

theorem take_raise (zs : List Int) (k : Nat) (h : k < zs.length) : (raiseL zs).take k ++ [(chooseN (zs.length - 1) k : Int) * zs[k]] = (raiseL zs).take (k + 1) := by
  have := take_snoc (raiseL zs) k (by rw [raise_len]; exact h)
  rw [← this, ← getD_in (show k < (raiseL zs).length by rw [raise_len]; exact h), raise_getD, getD_in h]

set_option maxRecDepth 100000 in
set_option maxHeartbeats 4000000 in
theorem specHillRaise_any (A : Option Addr) (c : Nat) (zs : List Int) (w : World) (h : IR w 0 w.heap.size A zs) :
    Calls Try.prog 37 #[.slice A zs.length c] w (RetRB w (raiseM zs)) := by
  have H := Lib.hid h; clear h
  cases hh : hillB zs with
  | false =>
    have HM := Lib.hid (raise_no hh)
    have HR := Lib.hid hh; clear hh
    go_enter Try.func37, Try.ntmps37
    go_wp2_with fail
    refine (l4Hill_of _ _ _ _ zs _ H.out HR.out).mono ?_; rintro e w' ⟨rfl, rfl⟩
    go_wp2
    go_ret2
    rw [HM.out]
    exact (retSB_none ((Below.refl _ _).alloc (Nat.le_refl _) _)).toR
  | true =>
    have HM := Lib.hid (raise_yes hh)
    have hr := (hill_true hh).2
    have hn := nnB_nn (hill_true hh).1
    have hl := (rowB_true.1 hr).2
    have HRB := Lib.hid hr
    have HN := Lib.hid hn
    have HLN := Lib.hid (raise_len zs)
    have HR := Lib.hid hh; clear hh hr hn
    refine (callsIn_wide (n := 6)).1 ?_
    refine callsIn_of_wp Try.func37 rfl trivial ?_
    simp only [Try.ntmps37, List.size_toArray, List.length_cons, List.length_nil, Nat.reduceAdd, Nat.reduceSub, Array.replicate_succ, Array.replicate_zero, List.push_toArray, List.append_toArray, List.nil_append, List.cons_append]
    gi_wp2_with fail
    refine ⟨trivial, ?_⟩
    gi_at_call 57
    refine (callsIn_wide.2 (l4Hill_of _ _ _ _ zs _ H.out HR.out)).mono ?_; rintro e w' ⟨rfl, rfl⟩
    gi_wp2
    gi_loopw [4, 5] (fun v i wr => ∃ k : Nat, k ≤ zs.length ∧ i = .int .i64 (k : Int) ∧ OwnI wr w.heap.size v ((raiseL zs).take k) ∧ Below w.heap.size w wr) (fun _ i _ => zs.length - (intOf i).toNat)
    case atStart => exact ⟨0, Nat.zero_le _, rfl, OwnI.made w, (Below.refl _ _).alloc (Nat.le_refl _) _⟩
    case round =>
      obtain ⟨k, hk, rfl, ho, hb⟩ := hrel
      have HO := Lib.hid ho; have HBl := Lib.hid hb
      clear ho hb
      by_cases hlt : k < zs.length
      · have hR := H.out.below HBl.out H.out.2.2.1
        obtain ⟨b, off, rfl, hbh, hbs, hc⟩ := hR.at_ hlt
        have hbw : b < w.heap.size := Nat.lt_of_lt_of_le hbh (Nat.le_refl _)
        have HBW := Lib.hid hbw; clear hbw hbs hbh hR
        obtain ⟨g1, g2⟩ := row_getD HRB.out k hlt
        have g0 := HN.out k
        have HT := Lib.hid (take_raise zs k hlt)
        rw [getD_in hlt] at g1 g2
        have g0' : 0 ≤ zs[k] := by have := g0; simp only [getD_in hlt] at this; exact this
        clear g0
        obtain ⟨x, hx⟩ : ∃ x, zs[k] = x := ⟨_, rfl⟩
        rw [hx] at hc g1 g2 HT g0'
        have HC := Lib.hid (fun w' => l4Choose_any (zs.length - 1) k (by omega) (by omega) w')
        have hle := choose_le (zs.length - 1) (by omega) k (by omega)
        obtain ⟨m, hm⟩ : ∃ m, chooseN (zs.length - 1) k = m := ⟨_, rfl⟩
        rw [hm] at HC HT hle
        have hs := small_mul (x := (m : Int)) (y := x) (by omega) (by omega) g0' (by omega)
        obtain ⟨hs1, hs2⟩ := hs
        have HY : Hid (I64 ((m : Int) * x)) := ⟨by omega, by omega⟩
        have s3 : IntKind.i64.wrap ((m : Int) * x) = (m : Int) * x := IntWalk.i64_in _ HY.out
        have s1 : IntKind.i64.wrap ((zs.length : Int) - 1) = ((zs.length - 1 : Nat) : Int) := by rw [IntWalk.i64_in _ (by omega)]; omega
        have HLn : Hid (((raiseL zs).take k).length < 17592186044416) := by show _ < _; rw [List.length_take]; omega
        have hlt' : (k : Int) < (zs.length : Int) := by omega
        have k0 : (0 : Int) ≤ (k : Int) := by omega
        have kt : (k : Int).toNat = k := by omega
        clear hx hm
        gi_wp2
        obtain ⟨W0, hW0⟩ : ∃ W0, wr = W0 := ⟨_, rfl⟩
        have SC : ∀ {W' : World}, Below w.heap.size wr W' → W'.cell? ⟨b, off + k, none⟩ = some (.int .i64 x) := fun hb => (hb.cell (p := ⟨b, off + k, none⟩) HBW.out).trans hc
        clear hW0
        refine region_anyS (fun W' => Below w.heap.size wr W') (by kernel_rfl) ?_
        have hS0 : Below w.heap.size wr wr.drew := (Below.refl _ _).drew
        refine anyS_first 0 (v := u4) rfl (by kernel_rfl) (by kernel_rfl) (by kernel_rfl) (fun _ _ _ h => h) hS0 ⟨fun _ => rfl, .inl ⟨by rfl, fun W' hW' => (by go_simp)⟩⟩ ?_
        refine anyS_first 1 (v := .slice (some ⟨b, off, none⟩) zs.length c) rfl (by kernel_rfl) (by kernel_rfl) (by kernel_rfl) (fun _ _ _ h => h) hS0 ⟨fun _ => rfl, .inl ⟨by rfl, fun W' hW' => (by go_simp)⟩⟩ ?_
        refine anyS_first 2 (v := .int .i64 (zs.length : Int)) rfl (by kernel_rfl) (by kernel_rfl) (by kernel_rfl) (fun _ _ _ h => h) hS0 ⟨fun _ => rfl, .inl ⟨by rfl, fun W' hW' => (by go_simp)⟩⟩ ?_
        refine anyS_first 3 (v := .int .i64 ((zs.length - 1 : Nat) : Int)) rfl (by kernel_rfl) (by kernel_rfl) (by kernel_rfl) (fun _ _ _ h => h) hS0 ⟨fun _ => rfl, .inl ⟨by rfl, fun W' hW' => (by go_simp)⟩⟩ ?_
        refine anyS_first 4 (v := .int .i64 (k : Int)) rfl (by kernel_rfl) (by kernel_rfl) (by kernel_rfl) (fun _ _ _ h => h) hS0 ⟨fun _ => rfl, .inl ⟨by rfl, fun W' hW' => (by go_simp)⟩⟩ ?_
        refine anyS_first 6 (v := .slice (some ⟨b, off, none⟩) zs.length c) rfl (by kernel_rfl) (by kernel_rfl) (by kernel_rfl) (fun _ _ _ h => h) hS0 ⟨fun _ => rfl, .inl ⟨by rfl, fun W' hW' => (by go_simp)⟩⟩ ?_
        refine anyS_first 7 (v := .int .i64 (k : Int)) rfl (by kernel_rfl) (by kernel_rfl) (by kernel_rfl) (fun _ _ _ h => h) hS0 ⟨fun _ => rfl, .inl ⟨by rfl, fun W' hW' => (by go_simp)⟩⟩ ?_
        refine anyS_first 8 (v := .pointer (some ⟨b, off + k, none⟩)) rfl (by kernel_rfl) (by kernel_rfl) (by kernel_rfl) (fun _ _ _ h => h) hS0 ⟨fun _ => rfl, .inl ⟨by rfl, fun W' hW' => (by go_simp)⟩⟩ ?_
        refine anyS_first 9 (v := .int .i64 x) rfl (by kernel_rfl) (by kernel_rfl) (by kernel_rfl) (fun _ _ _ h => h) hS0 ⟨fun _ => rfl, .inl ⟨by rfl, fun W' hW' => (by have e1 := SC hW'; go_simp)⟩⟩ ?_
        refine anyS_one 5 rfl (by kernel_rfl) hS0 ?_
        refine wpOpIn_step rfl fun K5 hK5 => ?_
        go_simp
        refine ⟨trivial, (callsIn_wide.2 (HC.out _)).mono ?_⟩
        rintro e W5 ⟨rfl, rfl⟩
        refine hK5 _ _ ?_
        clear hK5
        refine anyS_one 10 rfl (by kernel_rfl) hS0 ?_
        refine wpOpIn_step rfl fun K6 hK6 => ?_
        go_simp
        refine hK6 _ _ ?_
        clear hK6
        refine anyS_one 11 rfl (by kernel_rfl) hS0 ?_
        refine wpOpIn_step rfl fun K7 hK7 => ?_
        go_simp
        refine hK7 _ _ ?_
        clear hK7
        have hS1 : Below w.heap.size wr (wr.drew.alloc (.cells #[.int .i64 ((m : Int) * x)] 3)) := hS0.alloc (Nat.le_trans HO.out.2.2 (Nat.le_refl _)) _
        refine anyS_one 12 rfl (by kernel_rfl) hS1 ?_
        refine wpOpIn_step rfl fun K8 hK8 => ?_
        refine stepIn_push1 rfl (.tmp 17) (.tmp 28) rfl w.heap.size u4 _ ((m : Int) * x) wr.heap.size rfl rfl HO.out.drew.alloc (by show (wr.alloc _).cell? _ = _; rw [World.cell?_alloc_at _ _ _ _ rfl]; rfl) HLn.out HY.out ?_
        intro v9 w9 ho9 hb9
        rw [HT.out] at ho9
        have hS9 := hS1.trans hb9
        have HO9 := Lib.hid ho9; have HS9 := Lib.hid hS9
        clear ho9 hb9
        refine hK8 _ _ ?_
        clear hK8
        refine anyS_one 13 rfl (by kernel_rfl) HS9.out ?_
        refine wpOpIn_step rfl fun K9 hK9 => ?_
        go_simp
        refine hK9 _ _ ?_
        clear hK9
        refine anyS_done (by kernel_rfl) HS9.out ?_
        clear SC hc
        gi_wp2
        go_roundw
        case rel => exact ⟨k + 1, by omega, by go_num, HO9.out, HBl.out.trans HS9.out⟩
        case measure => simp [intOf]; omega
      · obtain rfl : k = zs.length := by omega
        have ho := HO.out
        rw [List.take_of_length_le (by rw [HLN.out]; omega)] at ho
        obtain ⟨A', c', rfl, hiw⟩ := ho.iwn HLN.out (by omega)
        have HIW := Lib.hid hiw
        clear hiw ho HO
        cases hr2 : rowB (raiseL zs) with
        | false =>
          have HD : Hid (doneM (raiseL zs) = none) := by show _ = _; simp [doneM, hr2]
          have hc := l1Done_false A' c' _ _ (raiseL zs) wr HIW.out.toIR hr2
          rw [HLN.out] at hc
          have HC := Lib.hid hc; clear hc hr2
          gi_wp2_with fail
          refine ⟨trivial, ?_⟩
          gi_at_call 60
          refine (callsIn_wide.2 HC.out).mono ?_
          rintro e w5 ⟨A5, rfl, hb5⟩
          gi_wp2
          go_ret2
          rw [HM.out, HD.out]
          exact (retSB_none (below_then HBl.out (Nat.le_refl _) hb5)).toR
        | true =>
          have HD : Hid (doneM (raiseL zs) = some (raiseL zs)) := doneM_row hr2
          have hc := l1Done_true A' c' _ _ (raiseL zs) wr HIW.out.toIR hr2
          rw [HLN.out] at hc
          have HC := Lib.hid hc; clear hc hr2
          gi_wp2_with fail
          refine ⟨trivial, ?_⟩
          gi_at_call 60
          refine (callsIn_wide.2 HC.out).mono ?_
          rintro e w5 ⟨rfl, rfl⟩
          gi_wp2
          go_ret2
          rw [HM.out, HD.out]
          exact retRB_some HLN.out.symm HIW.out.toIR.toAll HBl.out

/-! ### The program's -/
set_option maxHeartbeats 1000000 in
theorem raise1_any (k : Nat) (x : Int) (A : Option Addr) (n c : Nat) (P : Nat) (w : World) (hc : w.cell? ⟨P, 0, none⟩ = some (.slice A n c)) (hk : k < n) (hn : n ≤ 12) (h1 : 0 ≤ x) (h2 : x ≤ 1000) :
    Calls Try.prog 63 #[.int .i64 (k : Int), .int .i64 x, .pointer (some ⟨P, 0, none⟩)] w fun e w' => e = .returned (.int .i64 ((chooseN (n - 1) k : Int) * x)) ∧ Below w.heap.size w w' := by
  have s1 : IntKind.i64.wrap ((n : Int) - 1) = ((n - 1 : Nat) : Int) := by rw [IntWalk.i64_in _ (by omega)]; omega
  have HC := Lib.hid (fun w' => binomial_any (n - 1) k (by omega) (by omega) w')
  have hle := choose_le (n - 1) (by omega) k (by omega)
  obtain ⟨m, hm⟩ : ∃ m, chooseN (n - 1) k = m := ⟨_, rfl⟩
  rw [hm] at HC hle ⊢
  have hs := small_mul (x := (m : Int)) (y := x) (by omega) (by omega) h1 (by omega)
  obtain ⟨hs1, hs2⟩ := hs
  have e : (m : Int) * x = x * (m : Int) := Int.mul_comm _ _
  rw [e] at hs1 hs2 ⊢
  have s3 : IntKind.i64.wrap (x * (m : Int)) = x * (m : Int) := IntWalk.i64_in _ (by omega)
  clear e hm
  go_enter Try.func63, Try.ntmps63
  go_wp2_with fail
  refine (HC.out _).mono ?_; rintro e w2 ⟨rfl, rfl⟩
  go_wp2
  go_ret
  exact ⟨rfl, Below.refl _ _⟩
def raiseG (zs : List Int) (x : Fin zs.length) : Int := (chooseN (zs.length - 1) x.1 : Int) * zs[x]
theorem raise_chg {zs : List Int} (hh : hillB zs = true) : raiseM zs = chgM zs (raiseG zs) := by
  have e : chgL zs (raiseG zs) = raiseL zs := by
    apply List.ext_getElem
    · simp [chgL, raiseL]
    · intro j h1 h2
      rw [← getD_in h2, raise_getD]
      have : j < zs.length := by rw [raise_len] at h2; exact h2
      rw [getD_in this]
      simp [chgL, raiseG]
  rw [raise_yes hh]
  unfold chgM doneM
  rw [e, (hill_true hh).2, if_pos rfl]

set_option maxHeartbeats 2000000 in
theorem implHillRaise_any (A : Option Addr) (c : Nat) (zs : List Int) (w : World) (h : IR w 0 w.heap.size A zs) :
    Calls Try.prog 36 #[.slice A zs.length c] w (RetSB w (raiseM zs)) := by
  have hmf : ∀ (fn : Fn) (first cap : Array Value) (w : World), (Instr.makeFunc fn first cap).run Try.prog w = .ok (.func fn first cap) w := fun _ _ _ _ => rfl
  have hb0 : Below w.heap.size w (w.alloc (.cells #[.slice A zs.length c] 23)) := (Below.refl _ w).alloc (Nat.le_refl _) _
  have hb1 : Below w.heap.size w ((w.alloc (.cells #[.slice A zs.length c] 23)).alloc (.cells #[.slice A zs.length c] 52)) := hb0.alloc (by rw [World.size_alloc]; omega) _
  have H := Lib.hid (h.grow hb1).toAll; have B1 := Lib.hid hb1; clear h hb1 hb0
  cases hh : hillB zs with
  | false =>
    have HM := Lib.hid (raise_no hh)
    have HR := Lib.hid hh; clear hh
    go_enter Try.func36, Try.ntmps36
    go_wp2_with fail
    refine (isHill_of _ _ _ _ zs _ H.out HR.out).mono ?_; rintro e w1 ⟨rfl, b1⟩
    have B2 := Lib.hid b1; clear b1
    go_wp2
    go_ret2
    rw [HM.out]
    exact retSB_none (below_then B1.out (Nat.le_refl _) B2.out)
  | true =>
    have hr := (hill_true hh).2
    have hn := nnB_nn (hill_true hh).1
    have hl := (rowB_true.1 hr).2
    have hg : ∀ x : Fin zs.length, 0 ≤ zs[x] ∧ zs[x] ≤ 1000 := fun x => by
      have h1 := hn x.1
      have h2 := (row_getD hr x.1 x.2).2
      simp only [getD_in x.2] at h1 h2
      exact ⟨h1, h2⟩
    have hgi : ∀ x, I64 (raiseG zs x) := fun x => by
      have h1 := hg x
      have h2 := choose_le (zs.length - 1) (by omega) x.1 (by have := x.2; omega)
      have := small_mul (x := (chooseN (zs.length - 1) x.1 : Int)) (y := zs[x]) (by omega) (by omega) h1.1 (by omega)
      unfold raiseG
      exact ⟨by omega, by omega⟩
    have HG := Lib.hid hg; have HGI := Lib.hid hgi
    have HM := Lib.hid (raise_chg hh)
    have HR := Lib.hid hh; clear hh hr hn hg hgi
    go_enter Try.func36, Try.ntmps36
    go_wp2_with fail
    refine (isHill_of _ _ _ _ zs _ H.out HR.out).mono ?_; rintro e w1 ⟨rfl, b1⟩
    have hcx : w1.cell? ⟨w.heap.size + 1, 0, none⟩ = some (.slice A zs.length c) := (b1.cell (p := ⟨w.heap.size + 1, 0, none⟩) (by show w.heap.size + 1 < _; rw [World.size_alloc, World.size_alloc]; omega)).trans (by rw [World.cell?_alloc_at _ _ _ _ (by rw [World.size_alloc])]; rfl)
    have hcy : w1.cell? ⟨w.heap.size, 0, none⟩ = some (.slice A zs.length c) := (b1.cell (p := ⟨w.heap.size, 0, none⟩) (by show w.heap.size < _; rw [World.size_alloc, World.size_alloc]; omega)).trans (by
      rw [World.cell?_alloc_past _ _ _ (by rw [World.size_alloc]; omega), World.cell?_alloc_at _ _ _ _ rfl]; rfl)
    have HS1 : Hid (w.heap.size + 2 ≤ w1.heap.size) := by have := b1.size; rw [World.size_alloc, World.size_alloc] at this; show _ ≤ _; omega
    have B2 := Lib.hid (below_then B1.out (Nat.le_refl _) b1); have H1 := Lib.hid (H.out.grow b1).toAll; clear b1
    have HC : Hid (Calls Try.prog 43 #[.slice A zs.length c, .func (.func 63) #[] #[.pointer (some ⟨w.heap.size, 0, none⟩)]] w1 (RetSB w1 (raiseM zs))) := by
      rw [HM.out]
      refine changed_any A c zs 63 #[.pointer (some ⟨w.heap.size, 0, none⟩)] (raiseG zs) HGI.out _ H1.out (enters_of Try.func63 (by kernel_rfl) rfl) ?_
      intro _ x W hb
      exact raise1_any x.1 zs[x] A zs.length c w.heap.size W ((hb.cell (p := ⟨w.heap.size, 0, none⟩) (show w.heap.size < w1.heap.size by have := HS1.out; omega)).trans hcy) x.2 hl.2 (HG.out x).1 (HG.out x).2
    clear hcy
    go_wp2_with fail
    refine HC.out.mono ?_
    rintro e w4 ⟨A', c', rfl, hi, hb⟩
    have HI := Lib.hid hi; have B4 := Lib.hid hb; clear hi hb
    go_wp2
    go_ret2
    exact ⟨A', c', rfl, HI.out.wide B2.out.size (Nat.le_refl _) (Nat.le_refl _), below_then B2.out (Nat.le_refl _) B4.out⟩
end Go.Proofs.Ytnphmapiagiocaa
