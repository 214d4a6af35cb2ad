/-
  slices.Grow and slices.Concat at two lists of integers. Conditions: the lists' cells are there, and they are short.
-/
import Derived.Test.YtfkmnlhmldjieabDraw2
namespace Go.Proofs.Ytfkmnlhmldjieab
open Go.RowKit

theorem int_undI : Try.prog.underlying 3 = some (.int .i64) := Try.underlying3
theorem run_append_zerosI (n : Nat) (h0 : 0 < n) (hn : n ≤ 1000) (w : World) (ty : TypeId) :
    (Builtin.append_ #[26, 3] ty #[.slice none 0 0, .int .i64 (n : Int)]).run Try.prog w = .ok (.slice (some ⟨w.heap.size, 0, none⟩) n (grownCap w n 0 3)) (w.drew.alloc (.cells (Builtin.zeroCells (Value.int .i64 0).cells n ++ Builtin.zeroCells (Value.int .i64 0).cells (grownCap w n 0 3 - n)) 3)) := by
  obtain ⟨i0, hi, hz0, hz1, hz2⟩ := info_parts info_int
  have hn0 : n ≠ 0 := by omega
  have e0 : IntKind.i64.wrap (n : Int) = (n : Int) := IntWalk.i64_in _ (by omega)
  have e1 : ¬ (n : Int) < 0 := by omega
  have e3 : ¬ (9223372036854775807 < (n : Int)) := by omega
  have e4 : ¬ (281474976710656 < Builtin.nextslicecap n 0 * 8) := by rw [nextslicecap_zero h0]; omega
  have e5 : ¬ (281474976710656 < (n : Int) * 8) := by omega
  have e7 : max (n : Int) 0 = (n : Int) := by omega
  simp [Builtin.append_, run_underlying Try.underlying26, run_underlying int_undI, sizeOf, typeInfo, zeroValue, hi, hz0, hz1, hz2, asInt, asIntOf, e7, e0, e1, e3, e4, e5, hn0, Builtin.lenOf, Question.forced, run_firstCells_none, newRow, grownCap]
theorem wpList_zerosI {ops : Array Oper} {rest : List Oper} {o : Oper} {a : Act} {w : World} {Q : Exit → Act → World → Prop} (hgd : o.guard = none) (s x : Operand)
    (ho : o.op = .call { callee := .builtin .append, args := #[s, x], argTypes := #[26, 3] }) (n : Nat) (h0 : 0 < n) (hn : n ≤ 1000) (hs : a.eval s = .slice none 0 0) (hx : a.eval x = .int .i64 (n : Int))
    (h : ∀ (cap : Nat) (w' : World), n ≤ cap → OwnI w' w.heap.size (.slice (some ⟨w.heap.size, 0, none⟩) 0 cap) [] → Below w.heap.size w w' → wpList Try.prog ops Q rest (a.put o.dst (.slice (some ⟨w.heap.size, 0, none⟩) n cap)) w') : wpList Try.prog ops Q (o :: rest) a w := by
  refine wpList_plain hgd fun K hK => ?_
  have hrun := run_append_zerosI n h0 hn w o.type
  unfold Oper.wp execOp
  simp only [ho, resolve, invoke, builtin, Sem.run_bind, Sem.run_pure, Result.andThen_ok, List.map_toArray, List.map_cons, List.map_nil, hs, hx, hrun]
  refine hK _ _ (h _ _ (grownCap_ge w n 0 3) ⟨World.ownsRow_made w.drew _ _ (Nat.le_refl _) (grownCap_le_maxLen w n 0 3 (by unfold maxLen; omega)) ?_, by simp, by simp⟩ ((below_drawN (Below.refl w.heap.size w) 1).alloc (Nat.le_refl _) _))
  have hge := grownCap_ge w n 0 3
  rw [Array.size_append, size_zeroCells, size_zeroCells]; show n * 1 + (_ - n) * 1 = _; omega
set_option maxHeartbeats 1000000 in
theorem growI_any (n : Nat) (h0 : 0 < n) (hn : n ≤ 1000) (w : World) :
    Calls Try.prog 97 #[.slice none 0 0, .int .i64 (n : Int)] w fun e w' => ∃ v, e = .returned v ∧ OwnI w' w.heap.size v [] ∧ Below w.heap.size w w' := by
  have h1 : ¬ (n : Int) < 0 := by omega
  have h2 : (0 : Int) < (n : Int) := by omega
  have s1 : IntKind.i64.wrap (n : Int) = (n : Int) := IntWalk.i64_in _ (by omega)
  go_enter Try.func97, Try.ntmps97
  go_wp2_with (at_builtin; refine wpList_zerosI rfl _ _ rfl n h0 hn rfl rfl ?_; intro cap W hge ho hb; have HO := Lib.hid ho; have HB := Lib.hid hb; clear ho hb)
  go_ret
  exact ⟨_, rfl, HO.out, HB.out⟩

set_option maxHeartbeats 2000000 in
set_option maxRecDepth 100000 in
theorem concatI_any (A1 A2 : Option Addr) (n1 n2 c1 c2 lo1 lo2 hi1 hi2 G : Nat) (xs ys : List Int) (w : World) (hn1 : n1 = xs.length) (hn2 : n2 = ys.length) (h0 : 0 < n1) (hl1 : n1 ≤ 100) (hl2 : n2 ≤ 100) (hr1 : IR w lo1 hi1 A1 xs) (hr2 : IR w lo2 hi2 A2 ys)
    (hG1 : w.cell? ⟨G, 0, none⟩ = some (.slice A1 n1 c1)) (hG2 : w.cell? ⟨G, 1, none⟩ = some (.slice A2 n2 c2)) (hGs : G < w.heap.size) :
    Calls Try.prog 78 #[.slice (some ⟨G, 0, none⟩) 2 2] w (RetS w (xs ++ ys)) := by
  have HR1 := Lib.hid hr1.toAll; have HR2 := Lib.hid hr2.toAll
  have HN1 := Lib.hid hn1; have HN2 := Lib.hid hn2
  have HG1 := Lib.hid hG1; have HG2 := Lib.hid hG2
  clear hr1 hr2 hn1 hn2
  have s1 : IntKind.i64.wrap ((n1 : Int) + (n2 : Int)) = ((n1 + n2 : Nat) : Int) := by rw [IntWalk.i64_in _ (by omega)]; omega
  have s2 : ¬ (n1 : Int) < 0 := by omega
  have s3 : ¬ ((n1 + n2 : Nat) : Int) < 0 := by omega
  have s4 : IntKind.i64.wrap (n1 : Int) = (n1 : Int) := IntWalk.i64_in _ (by omega)
  have s5 : IntKind.i64.wrap (0 + (n1 : Int)) = (n1 : Int) := by rw [IntWalk.i64_in _ (by omega)]; omega
  go_enter Try.func78, Try.ntmps78
  go_wp2
  go_loop [3, 5, 11] (fun sz _ x => (x = .int .i64 0 ∧ sz = .int .i64 0) ∨ (x = .int .i64 1 ∧ sz = .int .i64 (n1 : Int)) ∨ (x = .int .i64 2 ∧ sz = .int .i64 ((n1 + n2 : Nat) : Int))) (fun _ _ x => 2 - (intOf x).toNat)
  case atStart => exact .inl ⟨rfl, rfl⟩
  case round =>
    rcases hrel with ⟨rfl, rfl⟩ | ⟨rfl, rfl⟩ | ⟨rfl, rfl⟩
    · go_wp2
      go_round
      case rel => exact .inr (.inl ⟨rfl, rfl⟩)
      case measure => simp [intOf]
    · go_wp2
      go_round
      case rel => exact .inr (.inr ⟨rfl, rfl⟩)
      case measure => simp [intOf]
    · clear hG1 hG2
      have HGR := Lib.hid (growI_any (n1 + n2) (by omega) (by omega) w)
      go_wp2_with fail
      refine HGR.out.mono ?_; rintro e w1 ⟨v1, rfl, ho1, hb1⟩
      have HO := Lib.hid ho1; have HB := Lib.hid hb1
      clear ho1 hb1 HGR
      go_wp2
      go_loopw [6, 8, 27] (fun v _ x wr => ((x = .int .i64 0 ∧ OwnI wr w.heap.size v []) ∨ (x = .int .i64 1 ∧ OwnI wr w.heap.size v xs) ∨ (x = .int .i64 2 ∧ OwnI wr w.heap.size v (xs ++ ys))) ∧ Below w.heap.size w wr) (fun _ _ x _ => 2 - (intOf x).toNat)
      case atStart => exact ⟨.inl ⟨rfl, HO.out⟩, HB.out⟩
      case round =>
        clear HO HB
        obtain ⟨hrel, hb⟩ := hrel
        have HB := Lib.hid hb
        have hc1 := (World.cell?_of_block (a := ⟨G, 0, none⟩) (hb.block G hGs)).trans HG1.out
        have hc2 := (World.cell?_of_block (a := ⟨G, 1, none⟩) (hb.block G hGs)).trans HG2.out
        have R1 := Lib.hid (HR1.out.grow hb)
        have R2 := Lib.hid (HR2.out.grow hb)
        clear hb
        rcases hrel with ⟨rfl, ho⟩ | ⟨rfl, ho⟩ | ⟨rfl, ho⟩
        · have HO := Lib.hid ho
          have HLE : Hid (([] : List Int).length + xs.length ≤ 17592186044416) := Lib.hid (by have := HN1.out; simp; omega)
          clear ho
          go_wp2_with (at_builtin; refine wpList_appendsI rfl _ _ rfl w.heap.size _ [] xs A1 _ _ _ c1 HN1.out rfl rfl HO.out R1.out HLE.out ?_; intro v4 w4 ho4 hb4; have HO4 := Lib.hid ho4; have HB4 := Lib.hid hb4; clear ho4 hb4)
          go_roundw
          case rel => exact ⟨.inr (.inl ⟨rfl, HO4.out⟩), HB.out.trans HB4.out⟩
          case measure => simp [intOf]
        · have HO := Lib.hid ho
          have HLE : Hid (xs.length + ys.length ≤ 17592186044416) := Lib.hid (by have := HN1.out; have := HN2.out; omega)
          clear ho
          go_wp2_with (at_builtin; refine wpList_appendsI rfl _ _ rfl w.heap.size _ xs ys A2 _ _ _ c2 HN2.out rfl rfl HO.out R2.out HLE.out ?_; intro v4 w4 ho4 hb4; have HO4 := Lib.hid ho4; have HB4 := Lib.hid hb4; clear ho4 hb4)
          go_roundw
          case rel => exact ⟨.inr (.inr ⟨rfl, HO4.out⟩), HB.out.trans HB4.out⟩
          case measure => simp [intOf]
        · obtain ⟨A, c, rfl, hi⟩ := ho.iw (by rw [List.length_append]; have := HN1.out; have := HN2.out; omega)
          have HI := Lib.hid hi
          obtain ⟨N, hN⟩ : ∃ N, (xs ++ ys).length = N := ⟨_, rfl⟩
          have HNN := Lib.hid hN
          rw [hN]
          clear ho hi hc1 hc2 hN
          go_wp2
          go_ret
          exact ⟨A, c, by rw [HNN.out]; rfl, HI.out, HB.out⟩
end Go.Proofs.Ytfkmnlhmldjieab
