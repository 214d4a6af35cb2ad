/-
  The model's functions of chapter 5 in the form that the exact laws take; how few numbers a table has. Conditions: the tables' cells are there.
-/
import Derived.Test.YtlbimmhlijelfaaTsA
import Derived.Test.YtlbimmhlijelfaaLawT
import Derived.Test.YtlbimmhlijelfaaMathA
namespace Go.Proofs.Ytlbimmhlijelfaa
open Go.RowKit
set_option maxRecDepth 100000 in
theorem totN_sh {t : List (List Int)} {n m : Nat} (h : Sh t n m) : ∀ k, k ≤ n → totN t k = m * k := by
  intro k
  induction k with
  | zero => intro _; rfl
  | succ k ih =>
    intro hk
    unfold totN
    rw [ih (by omega), h.row (by omega), Nat.mul_succ]
set_option maxRecDepth 100000 in
theorem small_table {o : Option (List (List Int))} (h : ∀ t, o = some t → tableB t = true) : totN (o.getD []) (o.getD []).length ≤ 36 := by
  cases o with
  | none => exact Nat.zero_le _
  | some t =>
    obtain ⟨h1, h2, h3, _⟩ := table_sh (h t rfl)
    show totN t t.length ≤ 36
    rw [totN_sh h1 _ (Nat.le_refl _)]
    have := Nat.mul_le_mul h3.2 h2.2
    omega
set_option maxRecDepth 100000 in
theorem small_merge (t u : List (List Int)) : totN ((mergeTM t u).getD []) ((mergeTM t u).getD []).length ≤ 36 := small_table fun o h => by
  unfold mergeTM at h
  split at h
  · split at h
    · next e => injection h with h; rw [← h]; exact e
    · cases h
  · cases h
set_option maxRecDepth 100000 in
theorem small_of (n m : Int) (a : List Int) : totN ((ofM n m a).getD []) ((ofM n m a).getD []).length ≤ 36 := small_table fun o h => by
  unfold ofM at h
  split at h
  · next e =>
      injection h with h
      obtain ⟨h1, h2, h3, h4⟩ := e
      rw [← h]
      refine tab_table (by omega) (by omega) fun i k hi hk => ?_
      exact row_getD h3 _ (by omega)
  · cases h
set_option maxRecDepth 100000 in
theorem specTableCost_b (A : Option Addr) (c : Nat) (t : List (List Int)) (A2 : Option Addr) (c2 : Nat) (l : List (List Int)) (w : World) (h : IRR w 0 w.heap.size A t) (h2 : IRR w 0 w.heap.size A2 l) :
    Calls Try.prog 32 #[.slice A t.length c, .slice A2 l.length c2] w fun e w' => e = .returned (.tuple #[.int .i64 ((costTM t l).getD 0), .bool (costTM t l).isSome]) ∧ Below w.heap.size w w' :=
  (specTableCost_any A c _ _ t A2 c2 _ _ l w h h2).mono fun _ _ ⟨e, d⟩ => ⟨e, d.below⟩
end Go.Proofs.Ytlbimmhlijelfaa
