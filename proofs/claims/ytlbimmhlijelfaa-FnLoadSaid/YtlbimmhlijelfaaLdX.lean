/-
  What a load is: how few numbers it has, what its rows and columns add up to, that it has a cost. Conditions: none.
-/
import Derived.Test.YtlbimmhlijelfaaLdA
import Derived.Test.YtlbimmhlijelfaaTabX
namespace Go.Proofs.Ytlbimmhlijelfaa
open Go.RowKit
theorem load_table {t : List (List Int)} {a b : List Int} (h : amountsB t a b = true) : tableB (loadL a b) = true ∧ Sh (loadL a b) t.length (colsN t) ∧ ∀ i k, i < t.length → k < colsN t → 0 ≤ ent (loadL a b) i k ∧ ent (loadL a b) i k ≤ 9 := by
  obtain ⟨tt, ea, eb, fa, fb, es⟩ := amounts_true h
  obtain ⟨-, bn, bm, -⟩ := table_sh tt
  obtain ⟨upA, dA⟩ := am9_up fa
  obtain ⟨upB, dB⟩ := am9_up fb
  have hbd : ∀ i k, 0 ≤ loadF (sumTo a) (sumTo b) i k ∧ loadF (sumTo a) (sumTo b) i k ≤ 9 := fun i k => by
    have := loadF_bd upA upB i k; have := dA i; omega
  refine ⟨tab_table (by omega) (by omega) fun i k _ _ => by have := hbd i k; omega, ?_, fun i k hi hk => ?_⟩
  · unfold loadL; rw [ea, eb]; exact tab_sh _ _ _
  · unfold loadL; rw [tab_ent _ (by omega) (by omega)]; exact hbd i k
set_option maxRecDepth 100000 in
theorem small_load (t : List (List Int)) (a b : List Int) : totN ((loadM t a b).getD []) ((loadM t a b).getD []).length ≤ 36 := small_table fun o h => by
  unfold loadM at h
  split at h
  · next e => injection h with h; rw [← h]; exact (load_table e).1
  · cases h
set_option maxRecDepth 100000 in
theorem specTableLoad_r (A : Option Addr) (c : Nat) (t : List (List Int)) (A1 : Option Addr) (c1 : Nat) (a : List Int) (A2 : Option Addr) (c2 : Nat) (b : List Int) (w : World) (h : IRR w 0 w.heap.size A t) (h1 : IR w 0 w.heap.size A1 a) (h2 : IR w 0 w.heap.size A2 b) :
    Calls Try.prog 11 #[.slice A t.length c, .slice A1 a.length c1, .slice A2 b.length c2] w (RetTR w (loadM t a b)) :=
  (specTableLoad_any A c _ _ t A1 c1 _ _ a A2 c2 _ _ b w h h1 h2).mono fun _ _ ⟨A, c, e, _, i, b⟩ => ⟨A, c, e, i.toIRR.toAll, b⟩
end Go.Proofs.Ytlbimmhlijelfaa
