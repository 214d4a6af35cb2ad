/-
  match of the program, begun: six booleans as a value; the call behind the last row.
-/
import Derived.Test.YtfkmnlhmldjieabTbG
import Derived.Test.YtfkmnlhmldjieabTsB
namespace Go.Proofs.Ytfkmnlhmldjieab
open Go.RowKit
attribute [local go_sem] Oper.semAt_some


/-- Six booleans. -/
def boolV (g : Nat → Bool) : Array Value := ((List.range 6).map fun j => Value.bool (g j)).toArray
theorem boolV_size (g : Nat → Bool) : (boolV g).size = 6 := by simp [boolV]
theorem boolV_get (g : Nat → Bool) {k : Nat} (hk : k < 6) : (boolV g)[k]? = some (.bool (g k)) := by simp [boolV, hk]
theorem boolV_set (g : Nat → Bool) (k : Nat) : (boolV g).setIfInBounds k (.bool true) = boolV (fun j => if j = k then true else g j) := by
  apply Array.ext
  · simp [boolV]
  · intro j h1 h2
    have hj : j < 6 := by simpa [boolV] using h2
    rw [Array.getElem_setIfInBounds (by simpa [boolV] using hj)]
    by_cases e : k = j
    · subst e; simp [boolV]
    · simp [boolV, e, Ne.symm e]
theorem boolV_one (g : Nat → Bool) : (boolV g).all (·.oneCell') = true := by
  rw [Array.all_eq_true]
  intro j hj
  simp [boolV]
  rfl

set_option maxRecDepth 100000 in
set_option maxHeartbeats 2000000 in
theorem match_zero (n : Nat) (f : Nat → Nat → Int) (i : Nat) (us : List Nat) (g : Nat → Bool) (w : World) (hid : i = n) :
    Calls Try.prog 50 #[.agg (tabV n n f), .int .i64 (i : Int), .agg (boolV g)] w fun e w' => ∃ A' c', e = .returned (.tuple #[.int .i64 (matchM f n 0 us).1, .slice A' (matchM f n 0 us).2.length c']) ∧ IW w' w.heap.size w'.heap.size A' ((matchM f n 0 us).2.map fun k : Nat => (k : Int)) ∧ Below w.heap.size w w' := by
  have hin : (i : Int) = (n : Int) := by omega
  have hb : Below w.heap.size w ((w.alloc (.cells (tabV n n f) 63)).alloc (.cells (boolV g) 76)) := ((Below.refl _ _).alloc (Nat.le_refl _) _).alloc (by simp) _
  have bT : BT ((w.alloc (.cells (tabV n n f) 63)).alloc (.cells (boolV g) 76)) w.heap.size n n f := (BT.new w n n f).alloc _
  have bG : BX ((w.alloc (.cells (tabV n n f) 63)).alloc (.cells (boolV g) 76)) (w.heap.size + 1) 76 (boolV g) := by
    have := BX.new (w.alloc (.cells (tabV n n f) 63)) 76 (boolV g)
    rwa [World.size_alloc] at this
  have HB := Lib.hid hb
  obtain ⟨V, hV⟩ : ∃ V, boolV g = V := ⟨_, rfl⟩
  have g0 : (tabV n n f)[0]? = some (.int .i64 (n : Int)) := rfl
  clear hb
  rw [hV] at HB bT bG
  rw [hV]
  go_enter Try.func50, Try.ntmps50
  go_wp2
  go_ret2
  exact ⟨_, 0, rfl, IW.nil' _ _ _, HB.out⟩
set_option maxRecDepth 100000 in
theorem rowT_bools : RowT Try.prog 76 6 := ⟨⟨_, Try.underlying76, rfl⟩, rfl⟩
set_option maxRecDepth 100000 in
theorem zeroT_bools : ZeroT Try.prog 76 (boolV fun _ => false) := by show _ = _; kernel_rfl
end Go.Proofs.Ytfkmnlhmldjieab
