/-
  l5Match and TableMatch of the model. Conditions: the table's cells are there.
-/
import Derived.Test.YtanoojpmokbiaabTsA
import Derived.Test.YtanoojpmokbiaabDraw2
import Derived.Test.YtanoojpmokbiaabFrom
namespace Go.Proofs.Ytanoojpmokbiaab
open Go.RowKit

theorem match_bd {f : Nat → Nat → Int} {n : Nat} (hf : ∀ i k, i < n → k < n → -1000 ≤ f i k ∧ f i k ≤ 1000) : ∀ d us, Used n d us → -1000 * (d : Int) ≤ (matchM f n d us).1 ∧ (matchM f n d us).1 ≤ 1000 * (d : Int) := by
  intro d
  induction d with
  | zero => intro us _; exact ⟨Int.le_refl _, Int.le_refl _⟩
  | succ d ih =>
    intro us h
    obtain ⟨k, h1, h2, h3, -, -⟩ := match_found f h
    have := ih _ (used_cons h h1 h2)
    have := hf (n - (d + 1)) k (by have := h.2.2; omega) h1
    rw [h3]
    show -1000 * ((d + 1 : Nat) : Int) ≤ (matchM f n d (k :: us)).1 + f (n - (d + 1)) k ∧ (matchM f n d (k :: us)).1 + f (n - (d + 1)) k ≤ 1000 * ((d + 1 : Nat) : Int)
    omega
theorem bits_all : ((List.range 64).all fun u => (List.range 6).all fun k => ((bits BinOp.and IntKind.i64 ((u : Int) / 2 ^ k) 1 == 1) == u.testBit k) && (bits BinOp.or IntKind.i64 (u : Int) (wrap64 (2 ^ k)) == ((u ||| 2 ^ k : Nat) : Int))) = true := by kernel_rfl
theorem bits_and {u k : Nat} (hu : u < 64) (hk : k < 6) : (bits BinOp.and IntKind.i64 ((u : Int) / 2 ^ k) 1 == 1) = u.testBit k ∧ bits BinOp.or IntKind.i64 (u : Int) (wrap64 (2 ^ k)) = ((u ||| 2 ^ k : Nat) : Int) := by
  have h := List.all_eq_true.1 (List.all_eq_true.1 bits_all u (List.mem_range.2 hu)) k (List.mem_range.2 hk)
  rw [Bool.and_eq_true, beq_iff_eq, beq_iff_eq] at h
  exact h
/-- The columns that are used, as bits. -/
def Bits (u : Nat) (n : Nat) (us : List Nat) : Prop := u < 64 ∧ ∀ k, k < n → (u.testBit k = true ↔ k ∈ us)

theorem Bits.or {u n k : Nat} {us : List Nat} (h : Bits u n us) (hn : n ≤ 6) (hk : k < n) : Bits (u ||| 2 ^ k) n (k :: us) := by
  refine ⟨?_, fun j hj => ?_⟩
  · have : 2 ^ k < 2 ^ 6 := Nat.pow_lt_pow_right (by omega) (by omega)
    exact Nat.or_lt_two_pow (n := 6) h.1 this
  · rw [Nat.testBit_or, Nat.testBit_two_pow, Bool.or_eq_true, h.2 j hj, List.mem_cons, decide_eq_true_eq]
    constructor
    · rintro (h | h)
      · exact .inr h
      · exact .inl h.symm
    · rintro (h | h)
      · exact .inr h.symm
      · exact .inl h

/-- What TableMatch gives: a cost, a list of the call's own, and whether there is one. -/
def RetMB (w : World) (o : Option (Int × List Int)) (e : Ending) (w' : World) : Prop := ∃ A c, e = .returned (.tuple #[.int .i64 (o.getD (0, [])).1, .slice A (o.getD (0, [])).2.length c, .bool o.isSome]) ∧ IR w' 0 w'.heap.size A (o.getD (0, [])).2 ∧ Below w.heap.size w w'
theorem retMB_none {w w1 : World} (hb : Below w.heap.size w w1) : RetMB w none (.returned (.tuple #[.int .i64 0, .slice (some ⟨w1.heap.size, 0, none⟩) 0 0, .bool false])) (w1.alloc (.cells #[] 3)) :=
  ⟨_, 0, rfl, ⟨by simp, by simp, Nat.le_refl _, fun h => absurd h (by simp)⟩, below_then hb (Nat.le_refl _) ((Below.refl _ _).alloc (Nat.le_refl _) _)⟩

end Go.Proofs.Ytanoojpmokbiaab
