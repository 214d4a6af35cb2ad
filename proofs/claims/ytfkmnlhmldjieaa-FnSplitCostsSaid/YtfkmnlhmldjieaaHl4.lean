/-
  HillRaise of the model and of the program: each entry of a hill times a binomial number. Conditions: the list's cells are there.
-/
import Derived.Test.YtfkmnlhmldjieaaHl1
import Derived.Test.YtfkmnlhmldjieaaImp4
import Derived.Test.YtfkmnlhmldjieaaHeld
import Derived.Test.YtfkmnlhmldjieaaFrom
import Derived.Test.YtfkmnlhmldjieaaMathA
namespace Go.Proofs.Ytfkmnlhmldjieaa
open Go.RowKit Go.Shelf
attribute [local go_sem] Oper.semAt_some

def raiseM (zs : List Int) : Option (List Int) := if hillB zs then doneM (raiseL zs) else none
theorem raise_no {zs : List Int} (h : hillB zs = false) : raiseM zs = none := by unfold raiseM; rw [h]; rfl
theorem raise_yes {zs : List Int} (h : hillB zs = true) : raiseM zs = doneM (raiseL zs) := by unfold raiseM; rw [h]; rfl

theorem choose_up : ∀ m, m < 12 → ∀ i, i < 12 → m + i < 11 → chooseN (m + i) i * (m + i + 1) = chooseN (m + (i + 1)) (i + 1) * (i + 1) := by decide +kernel
theorem choose_on : ∀ n, n < 12 → ∀ i, i < n → chooseN n i * (n - i) = chooseN n (i + 1) * (i + 1) := by decide +kernel
theorem choose_le : ∀ n, n < 12 → ∀ i, i < 13 → chooseN n i ≤ 462 := by decide +kernel
theorem choose_up_div {m i : Nat} (h : m + i < 11) : ((chooseN (m + i) i : Int) * ((m : Int) + ((i : Int) + 1))) / ((i : Int) + 1) = (chooseN (m + (i + 1)) (i + 1) : Int) := by
  have h1 := choose_up m (by omega) i (by omega) h
  have h2 : ((chooseN (m + i) i : Int) * ((m : Int) + ((i : Int) + 1))) = (chooseN (m + (i + 1)) (i + 1) : Int) * ((i : Int) + 1) := by
    have e : ((chooseN (m + i) i * (m + i + 1) : Nat) : Int) = ((chooseN (m + (i + 1)) (i + 1) * (i + 1) : Nat) : Int) := by rw [h1]
    simp only [Int.natCast_mul, Int.natCast_add, Int.cast_ofNat_Int] at e
    rw [← Int.add_assoc]; exact e
  rw [h2]
  exact Int.mul_ediv_cancel _ (by omega)
theorem choose_on_div {n i : Nat} (hn : n < 12) (h : i < n) : ((chooseN n i : Int) * ((n : Int) - (i : Int))) / ((i : Int) + 1) = (chooseN n (i + 1) : Int) := by
  have h1 := choose_on n hn i h
  have h2 : ((chooseN n i : Int) * ((n : Int) - (i : Int))) = (chooseN n (i + 1) : Int) * ((i : Int) + 1) := by
    have e : ((chooseN n i * (n - i) : Nat) : Int) = ((chooseN n (i + 1) * (i + 1) : Nat) : Int) := by rw [h1]
    simp only [Int.natCast_mul, Int.natCast_add, Int.cast_ofNat_Int] at e
    rw [show ((n : Int) - (i : Int)) = ((n - i : Nat) : Int) by omega]; exact e
  rw [h2]
  exact Int.mul_ediv_cancel _ (by omega)
theorem small_mul {x y : Int} (h1 : 0 ≤ x) (h2 : x ≤ 462) (h3 : 0 ≤ y) (h4 : y ≤ 100000) : 0 ≤ x * y ∧ x * y ≤ 46200000 :=
  ⟨Int.mul_nonneg h1 h3, by have := Int.mul_le_mul h2 h4 h3 (by omega : (0 : Int) ≤ 462); omega⟩

set_option maxHeartbeats 1000000 in
theorem l4Choose_any (n k : Nat) (hk : k ≤ n) (hn : n < 12) (w : World) :
    Calls Try.prog 58 #[.int .i64 (n : Int), .int .i64 (k : Int)] w fun e w' => e = .returned (.int .i64 (chooseN n k : Int)) ∧ w' = w := by
  obtain ⟨m, rfl⟩ : ∃ m, n = m + k := ⟨n - k, by omega⟩
  go_enter Try.func58, Try.ntmps58
  go_wp2
  go_loop [5, 6] (fun v i => ∃ j : Nat, j ≤ k ∧ i = .int .i64 ((j : Int) + 1) ∧ v = .int .i64 (chooseN (m + j) j : Int)) (fun _ i => k + 1 - (intOf i).toNat)
  case atStart => exact ⟨0, Nat.zero_le _, rfl, by rw [choose_zero]; rfl⟩
  case round =>
    obtain ⟨j, hj, rfl, rfl⟩ := hrel
    by_cases hlt : j < k
    · have hlt' : (j : Int) + 1 ≤ (k : Int) := by omega
      have HD := Lib.hid (choose_up_div (m := m) (i := j) (by omega))
      have hle := choose_le (m + j) (by omega) j (by omega)
      obtain ⟨x, hx⟩ : ∃ x, chooseN (m + j) j = x := ⟨_, rfl⟩
      rw [hx] at HD hle ⊢
      clear hx
      have hs := small_mul (x := (x : Int)) (y := (m : Int) + ((j : Int) + 1)) (by omega) (by omega) (by omega) (by omega)
      obtain ⟨hs1, hs2⟩ := hs
      have s1 : IntKind.i64.wrap ((m : Int) + (k : Int) - (k : Int)) = (m : Int) := by rw [IntWalk.i64_in _ (by omega)]; omega
      have s2 : IntKind.i64.wrap ((m : Int) + ((j : Int) + 1)) = (m : Int) + ((j : Int) + 1) := IntWalk.i64_in _ (by omega)
      have s3 : IntKind.i64.wrap ((x : Int) * ((m : Int) + ((j : Int) + 1))) = (x : Int) * ((m : Int) + ((j : Int) + 1)) := IntWalk.i64_in _ (by omega)
      have nz : ¬ (j : Int) + 1 = 0 := by omega
      have hcl := choose_le (m + (j + 1)) (by omega) (j + 1) (by omega)
      have s4 : IntKind.i64.wrap (chooseN (m + (j + 1)) (j + 1) : Int) = (chooseN (m + (j + 1)) (j + 1) : Int) := IntWalk.i64_in _ (by omega)
      have HW := Lib.hid s4; clear s4
      have hcl' := Lib.hid hcl; clear hcl
      go_wp2
      go_round
      case rel => exact ⟨j + 1, by omega, by go_num, by rw [HD.out]⟩
      case measure => simp [intOf]; omega
    · obtain rfl : j = k := by omega
      have hlt' : ¬ (j : Int) + 1 ≤ (j : Int) := by omega
      go_wp2
      go_ret
      exact ⟨rfl, rfl⟩

set_option maxHeartbeats 1000000 in
theorem binomial_any (n k : Nat) (hk : k ≤ n) (hn : n < 12) (w : World) :
    Calls Try.prog 56 #[.int .i64 (n : Int), .int .i64 (k : Int)] w fun e w' => e = .returned (.int .i64 (chooseN n k : Int)) ∧ w' = w := by
  go_enter Try.func56, Try.ntmps56
  go_wp2
  go_loop [5, 6, 8] (fun v _ i => ∃ j : Nat, j ≤ k ∧ i = .int .i64 (j : Int) ∧ v = .int .i64 (chooseN n j : Int)) (fun _ _ i => k - (intOf i).toNat)
  case atStart => exact ⟨0, Nat.zero_le _, rfl, by rw [choose_zero]; rfl⟩
  case round =>
    obtain ⟨j, hj, rfl, rfl⟩ := hrel
    by_cases hlt : j < k
    · have hlt' : (j : Int) < (k : Int) := by omega
      have HD := Lib.hid (choose_on_div (n := n) (i := j) hn (by omega))
      have hle := choose_le n hn j (by omega)
      obtain ⟨x, hx⟩ : ∃ x, chooseN n j = x := ⟨_, rfl⟩
      rw [hx] at HD hle ⊢
      clear hx
      have hs := small_mul (x := (x : Int)) (y := (n : Int) - (j : Int)) (by omega) (by omega) (by omega) (by omega)
      obtain ⟨hs1, hs2⟩ := hs
      have s2 : IntKind.i64.wrap ((n : Int) - (j : Int)) = (n : Int) - (j : Int) := IntWalk.i64_in _ (by omega)
      have s3 : IntKind.i64.wrap ((x : Int) * ((n : Int) - (j : Int))) = (x : Int) * ((n : Int) - (j : Int)) := IntWalk.i64_in _ (by omega)
      have s5 : IntKind.i64.wrap ((j : Int) + 1) = (j : Int) + 1 := IntWalk.i64_in _ (by omega)
      have nz : ¬ (j : Int) + 1 = 0 := by omega
      have hcl := choose_le n hn (j + 1) (by omega)
      have s4 : IntKind.i64.wrap (chooseN n (j + 1) : Int) = (chooseN n (j + 1) : Int) := IntWalk.i64_in _ (by omega)
      have HW := Lib.hid s4; clear s4
      have hcl' := Lib.hid hcl; clear hcl
      go_wp2
      go_round
      case rel => exact ⟨j + 1, by omega, by go_num, by rw [HD.out]⟩
      case measure => simp [intOf]; omega
    · obtain rfl : j = k := by omega
      have hlt' : ¬ (j : Int) < (j : Int) := by omega
      go_wp2
      go_ret
      exact ⟨rfl, rfl⟩

section
variable {F : Fence} {n : Nat}
/-- append of one number, in a region that draws its order, in a fence. -/
theorem stepIn_push1 {ops : Array Oper} {o : Oper} {a : Act} {w : World} {K : Act → World → Prop} {Q : Exit → Act → World → Prop} {E : Prop} (hgd : o.guard = none) (s x : Operand)
    (ho : o.op = .call { callee := .builtin .append, args := #[s, x], argTypes := #[23, 23] })
    (base : Nat) (v : Value) (zs : List Int) (y : Int) (G : Nat) (hs : a.eval s = v) (hx : a.eval x = .slice (some ⟨G, 0, none⟩) 1 1) (hown : OwnI w base v zs) (hc : w.cell? ⟨G, 0, none⟩ = some (.int .i64 y))
    (hl : zs.length < 17592186044416) (hy : I64 y)
    (h : ∀ v' w', OwnI w' base v' (zs ++ [y]) → Below base w w' → K (a.put o.dst v') w') : if Region.wanted o (yielded ops a.tmps) = true then Oper.wpIn F n Try.prog o a w K Q else E := by
  rw [if_pos (show Region.wanted o (yielded ops a.tmps) = true by simp [Region.wanted, hgd])]
  obtain ⟨v', w', hrun, h2, h3⟩ := run_push w base v zs hown G y hc hl hy o.type
  unfold Oper.wpIn
  refine ⟨?_, ?_⟩
  · simp [Oper.about, ho, resolve, Target.leads, Sem.run_pure]
  · rw [Oper.semAt_plain F _ _ (by rw [ho]; intro c hc'; cases hc')]
    simp only [execOp, ho, resolve, invoke, builtin, Sem.run_bind, Sem.run_pure, Result.andThen_ok, List.map_toArray, List.map_cons, List.map_nil, hs, hx, hrun]
    exact h v' w' h2 h3
end

theorem take_raise (zs : List Int) (k : Nat) (h : k < zs.length) : (raiseL zs).take k ++ [(chooseN (zs.length - 1) k : Int) * zs[k]] = (raiseL zs).take (k + 1) := by
  have := take_snoc (raiseL zs) k (by rw [raise_len]; exact h)
  rw [← this, ← getD_in (show k < (raiseL zs).length by rw [raise_len]; exact h), raise_getD, getD_in h]

/-! ### The program's -/
def raiseG (zs : List Int) (x : Fin zs.length) : Int := (chooseN (zs.length - 1) x.1 : Int) * zs[x]
theorem raise_chg {zs : List Int} (hh : hillB zs = true) : raiseM zs = chgM zs (raiseG zs) := by
  have e : chgL zs (raiseG zs) = raiseL zs := by
    apply List.ext_getElem
    · simp [chgL, raiseL]
    · intro j h1 h2
      rw [← getD_in h2, raise_getD]
      have : j < zs.length := by rw [raise_len] at h2; exact h2
      rw [getD_in this]
      simp [chgL, raiseG]
  rw [raise_yes hh]
  unfold chgM doneM
  rw [e, (hill_true hh).2, if_pos rfl]

end Go.Proofs.Ytfkmnlhmldjieaa
