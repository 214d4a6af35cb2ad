/-
  Chapter 8 of the program: least splits (Grow, Concat and leastSplit for the three kinds of parts). Conditions: the row's cells are there.
-/
import Derived.Test.YtfkmnlhmldjieaaScC
namespace Go.Proofs.Ytfkmnlhmldjieaa
open Go.RowKit

theorem int_und : Try.prog.underlying 3 = some (.int .i64) := Try.underlying3
theorem run_append_zeros {t e : TypeId} (hk : EltK t e) (n : Nat) (h0 : 0 < n) (hn : n ≤ 1000) (w : World) (ty : TypeId) :
    (Builtin.append_ #[t, 3] ty #[.slice none 0 0, .int .i64 (n : Int)]).run Try.prog w = .ok (.slice (some ⟨w.heap.size, 0, none⟩) n (grownCap w n 0 e)) (w.drew.alloc (.cells (Builtin.zeroCells (Value.slice none 0 0).cells n ++ Builtin.zeroCells (Value.slice none 0 0).cells (grownCap w n 0 e - n)) e)) := by
  obtain ⟨i0, hi, hz0, hz1, hz2⟩ := info_parts hk.info
  have hn0 : n ≠ 0 := by omega
  have e0 : IntKind.i64.wrap (n : Int) = (n : Int) := IntWalk.i64_in _ (by omega)
  have e1 : ¬ (n : Int) < 0 := by omega
  have e3 : ¬ (9223372036854775807 < (n : Int)) := by omega
  have e4 : ¬ (281474976710656 < Builtin.nextslicecap n 0 * 24) := by rw [nextslicecap_zero h0]; omega
  have e5 : ¬ (281474976710656 < (n : Int) * 24) := by omega
  have e7 : max (n : Int) 0 = (n : Int) := by omega
  simp [Builtin.append_, run_underlying hk.und, run_underlying int_und, sizeOf, typeInfo, zeroValue, hi, hz0, hz1, hz2, asInt, asIntOf, e7, e0, e1, e3, e4, e5, hn0, Builtin.lenOf, Question.forced, run_firstCells_none, newRow, grownCap]
theorem wpList_zerosV {ops : Array Oper} {rest : List Oper} {o : Oper} {a : Act} {w : World} {Q : Exit → Act → World → Prop} {t e : TypeId} (hk : EltK t e) (hgd : o.guard = none) (s x : Operand)
    (ho : o.op = .call { callee := .builtin .append, args := #[s, x], argTypes := #[t, 3] }) (n : Nat) (h0 : 0 < n) (hn : n ≤ 1000) (hs : a.eval s = .slice none 0 0) (hx : a.eval x = .int .i64 (n : Int))
    (h : ∀ (cap : Nat) (w' : World), n ≤ cap → OwnV e w' w.heap.size (.slice (some ⟨w.heap.size, 0, none⟩) 0 cap) [] → Below w.heap.size w w' → wpList Try.prog ops Q rest (a.put o.dst (.slice (some ⟨w.heap.size, 0, none⟩) n cap)) w') : wpList Try.prog ops Q (o :: rest) a w := by
  refine wpList_plain hgd fun K hK => ?_
  have hrun := run_append_zeros hk n h0 hn w o.type
  unfold Oper.wp execOp
  simp only [ho, resolve, invoke, builtin, Sem.run_bind, Sem.run_pure, Result.andThen_ok, List.map_toArray, List.map_cons, List.map_nil, hs, hx, hrun]
  refine hK _ _ (h _ _ (grownCap_ge w n 0 e) (OwnV.room e w.drew _ _ (grownCap_le_maxLen w n 0 e (by unfold maxLen; omega)) ?_) ((below_drawN (Below.refl w.heap.size w) 1).alloc (Nat.le_refl _) _))
  have hge := grownCap_ge w n 0 e
  rw [Array.size_append, size_zeroCells, size_zeroCells]; show n * 1 + (_ - n) * 1 = _; omega

set_option maxHeartbeats 1000000 in
theorem growWide_any (n : Nat) (h0 : 0 < n) (hn : n ≤ 1000) (w : World) :
    Calls Try.prog 81 #[.slice none 0 0, .int .i64 (n : Int)] w fun e w' => ∃ v, e = .returned v ∧ OwnV 56 w' w.heap.size v [] ∧ Below w.heap.size w w' := by
  have h1 : ¬ (n : Int) < 0 := by omega
  have h2 : (0 : Int) < (n : Int) := by omega
  have s1 : IntKind.i64.wrap (n : Int) = (n : Int) := IntWalk.i64_in _ (by omega)
  go_enter Try.func81, Try.ntmps81
  go_wp2_with (at_builtin; refine wpList_zerosV eltWide rfl _ _ rfl n h0 hn rfl rfl ?_; intro cap W hge ho hb; have HO := Lib.hid ho; have HB := Lib.hid hb; clear ho hb)
  go_ret
  exact ⟨_, rfl, HO.out, HB.out⟩

set_option maxHeartbeats 2000000 in
set_option maxRecDepth 100000 in
theorem concatWide_any (A1 A2 : Option Addr) (n1 n2 c1 c2 lo1 lo2 G : Nat) (us1 us2 : List Value) (w : World) (hn1 : n1 = us1.length) (hn2 : n2 = us2.length) (h0 : 0 < n1) (hl1 : n1 ≤ 100) (hl2 : n2 ≤ 100) (hr1 : RV w lo1 A1 us1) (hr2 : RV w lo2 A2 us2)
    (ho1 : ∀ u, u ∈ us1 → u.oneCell' = true) (ho2 : ∀ u, u ∈ us2 → u.oneCell' = true) (hG1 : w.cell? ⟨G, 0, none⟩ = some (.slice A1 n1 c1)) (hG2 : w.cell? ⟨G, 1, none⟩ = some (.slice A2 n2 c2)) (hGs : G < w.heap.size) :
    Calls Try.prog 73 #[.slice (some ⟨G, 0, none⟩) 2 2] w (RetSub w (n1 + n2) (us1 ++ us2)) := by
  have HR1 := Lib.hid hr1; have HR2 := Lib.hid hr2; have HO1 := Lib.hid ho1; have HO2 := Lib.hid ho2
  have HN1 := Lib.hid hn1; have HN2 := Lib.hid hn2
  have HG1 := Lib.hid hG1; have HG2 := Lib.hid hG2
  clear hr1 hr2 ho1 ho2 hn1 hn2
  have s1 : IntKind.i64.wrap ((n1 : Int) + (n2 : Int)) = ((n1 + n2 : Nat) : Int) := by rw [IntWalk.i64_in _ (by omega)]; omega
  have s2 : ¬ (n1 : Int) < 0 := by omega
  have s3 : ¬ ((n1 + n2 : Nat) : Int) < 0 := by omega
  have s4 : IntKind.i64.wrap (n1 : Int) = (n1 : Int) := IntWalk.i64_in _ (by omega)
  have s5 : IntKind.i64.wrap (0 + (n1 : Int)) = (n1 : Int) := by rw [IntWalk.i64_in _ (by omega)]; omega
  go_enter Try.func73, Try.ntmps73
  go_wp2
  go_loop [3, 5, 11] (fun sz _ x => (x = .int .i64 0 ∧ sz = .int .i64 0) ∨ (x = .int .i64 1 ∧ sz = .int .i64 (n1 : Int)) ∨ (x = .int .i64 2 ∧ sz = .int .i64 ((n1 + n2 : Nat) : Int))) (fun _ _ x => 2 - (intOf x).toNat)
  case atStart => exact .inl ⟨rfl, rfl⟩
  case round =>
    rcases hrel with ⟨rfl, rfl⟩ | ⟨rfl, rfl⟩ | ⟨rfl, rfl⟩
    · go_wp2
      go_round
      case rel => exact .inr (.inl ⟨rfl, rfl⟩)
      case measure => simp [intOf]
    · go_wp2
      go_round
      case rel => exact .inr (.inr ⟨rfl, rfl⟩)
      case measure => simp [intOf]
    · clear hG1 hG2
      have HGR := Lib.hid (growWide_any (n1 + n2) (by omega) (by omega) w)
      go_wp2_with fail
      refine HGR.out.mono ?_; rintro e w1 ⟨v1, rfl, ho1, hb1⟩
      have HO := Lib.hid ho1; have HB := Lib.hid hb1
      clear ho1 hb1 HGR
      go_wp2
      go_loopw [6, 8, 27] (fun v _ x wr => ((x = .int .i64 0 ∧ OwnV 56 wr w.heap.size v []) ∨ (x = .int .i64 1 ∧ OwnV 56 wr w.heap.size v us1) ∨ (x = .int .i64 2 ∧ OwnV 56 wr w.heap.size v (us1 ++ us2))) ∧ Below w.heap.size w wr) (fun _ _ x _ => 2 - (intOf x).toNat)
      case atStart => exact ⟨.inl ⟨rfl, HO.out⟩, HB.out⟩
      case round =>
        clear HO HB
        obtain ⟨hrel, hb⟩ := hrel
        have HB := Lib.hid hb
        have hc1 := (World.cell?_of_block (a := ⟨G, 0, none⟩) (hb.block G hGs)).trans HG1.out
        have hc2 := (World.cell?_of_block (a := ⟨G, 1, none⟩) (hb.block G hGs)).trans HG2.out
        have R1 := Lib.hid (HR1.out.grow hb)
        have R2 := Lib.hid (HR2.out.grow hb)
        clear hb
        rcases hrel with ⟨rfl, ho⟩ | ⟨rfl, ho⟩ | ⟨rfl, ho⟩
        · have HO := Lib.hid ho
          have HLE : Hid (([] : List Value).length + us1.length ≤ 1000000) := Lib.hid (by have := HN1.out; simp; omega)
          clear ho
          go_wp2_with (at_builtin; refine wpList_appendsV eltWide rfl _ _ rfl w.heap.size _ [] us1 A1 _ _ c1 HN1.out rfl rfl HO.out R1.out HO1.out HLE.out ?_; intro v4 w4 ho4 hb4; have HO4 := Lib.hid ho4; have HB4 := Lib.hid hb4; clear ho4 hb4)
          go_roundw
          case rel => exact ⟨.inr (.inl ⟨rfl, HO4.out⟩), HB.out.trans HB4.out⟩
          case measure => simp [intOf]
        · have HO := Lib.hid ho
          have HLE : Hid (us1.length + us2.length ≤ 1000000) := Lib.hid (by have := HN1.out; have := HN2.out; omega)
          clear ho
          go_wp2_with (at_builtin; refine wpList_appendsV eltWide rfl _ _ rfl w.heap.size _ us1 us2 A2 _ _ c2 HN2.out rfl rfl HO.out R2.out HO2.out HLE.out ?_; intro v4 w4 ho4 hb4; have HO4 := Lib.hid ho4; have HB4 := Lib.hid hb4; clear ho4 hb4)
          go_roundw
          case rel => exact ⟨.inr (.inr ⟨rfl, HO4.out⟩), HB.out.trans HB4.out⟩
          case measure => simp [intOf]
        · obtain ⟨A, c, rfl, hrv, hc3, hc4⟩ := ho.rv
          rw [List.length_append, ← HN1.out, ← HN2.out] at hc3
          rw [List.length_append, ← HN1.out, ← HN2.out]
          have HRV := Lib.hid hrv; have HC3 := Lib.hid hc3; have HC4 := Lib.hid hc4
          clear ho hrv hc1 hc2 hc3 hc4
          go_wp2
          go_ret
          exact ⟨A, c, rfl, HRV.out, ⟨HC3.out, HC4.out⟩, HB.out⟩

set_option maxHeartbeats 1000000 in
theorem growSquare_any (n : Nat) (h0 : 0 < n) (hn : n ≤ 1000) (w : World) :
    Calls Try.prog 82 #[.slice none 0 0, .int .i64 (n : Int)] w fun e w' => ∃ v, e = .returned v ∧ OwnV 61 w' w.heap.size v [] ∧ Below w.heap.size w w' := by
  have h1 : ¬ (n : Int) < 0 := by omega
  have h2 : (0 : Int) < (n : Int) := by omega
  have s1 : IntKind.i64.wrap (n : Int) = (n : Int) := IntWalk.i64_in _ (by omega)
  go_enter Try.func82, Try.ntmps82
  go_wp2_with (at_builtin; refine wpList_zerosV eltSquare rfl _ _ rfl n h0 hn rfl rfl ?_; intro cap W hge ho hb; have HO := Lib.hid ho; have HB := Lib.hid hb; clear ho hb)
  go_ret
  exact ⟨_, rfl, HO.out, HB.out⟩

set_option maxHeartbeats 2000000 in
set_option maxRecDepth 100000 in
theorem concatSquare_any (A1 A2 : Option Addr) (n1 n2 c1 c2 lo1 lo2 G : Nat) (us1 us2 : List Value) (w : World) (hn1 : n1 = us1.length) (hn2 : n2 = us2.length) (h0 : 0 < n1) (hl1 : n1 ≤ 100) (hl2 : n2 ≤ 100) (hr1 : RV w lo1 A1 us1) (hr2 : RV w lo2 A2 us2)
    (ho1 : ∀ u, u ∈ us1 → u.oneCell' = true) (ho2 : ∀ u, u ∈ us2 → u.oneCell' = true) (hG1 : w.cell? ⟨G, 0, none⟩ = some (.slice A1 n1 c1)) (hG2 : w.cell? ⟨G, 1, none⟩ = some (.slice A2 n2 c2)) (hGs : G < w.heap.size) :
    Calls Try.prog 74 #[.slice (some ⟨G, 0, none⟩) 2 2] w (RetSub w (n1 + n2) (us1 ++ us2)) := by
  have HR1 := Lib.hid hr1; have HR2 := Lib.hid hr2; have HO1 := Lib.hid ho1; have HO2 := Lib.hid ho2
  have HN1 := Lib.hid hn1; have HN2 := Lib.hid hn2
  have HG1 := Lib.hid hG1; have HG2 := Lib.hid hG2
  clear hr1 hr2 ho1 ho2 hn1 hn2
  have s1 : IntKind.i64.wrap ((n1 : Int) + (n2 : Int)) = ((n1 + n2 : Nat) : Int) := by rw [IntWalk.i64_in _ (by omega)]; omega
  have s2 : ¬ (n1 : Int) < 0 := by omega
  have s3 : ¬ ((n1 + n2 : Nat) : Int) < 0 := by omega
  have s4 : IntKind.i64.wrap (n1 : Int) = (n1 : Int) := IntWalk.i64_in _ (by omega)
  have s5 : IntKind.i64.wrap (0 + (n1 : Int)) = (n1 : Int) := by rw [IntWalk.i64_in _ (by omega)]; omega
  go_enter Try.func74, Try.ntmps74
  go_wp2
  go_loop [3, 5, 11] (fun sz _ x => (x = .int .i64 0 ∧ sz = .int .i64 0) ∨ (x = .int .i64 1 ∧ sz = .int .i64 (n1 : Int)) ∨ (x = .int .i64 2 ∧ sz = .int .i64 ((n1 + n2 : Nat) : Int))) (fun _ _ x => 2 - (intOf x).toNat)
  case atStart => exact .inl ⟨rfl, rfl⟩
  case round =>
    rcases hrel with ⟨rfl, rfl⟩ | ⟨rfl, rfl⟩ | ⟨rfl, rfl⟩
    · go_wp2
      go_round
      case rel => exact .inr (.inl ⟨rfl, rfl⟩)
      case measure => simp [intOf]
    · go_wp2
      go_round
      case rel => exact .inr (.inr ⟨rfl, rfl⟩)
      case measure => simp [intOf]
    · clear hG1 hG2
      have HGR := Lib.hid (growSquare_any (n1 + n2) (by omega) (by omega) w)
      go_wp2_with fail
      refine HGR.out.mono ?_; rintro e w1 ⟨v1, rfl, ho1, hb1⟩
      have HO := Lib.hid ho1; have HB := Lib.hid hb1
      clear ho1 hb1 HGR
      go_wp2
      go_loopw [6, 8, 27] (fun v _ x wr => ((x = .int .i64 0 ∧ OwnV 61 wr w.heap.size v []) ∨ (x = .int .i64 1 ∧ OwnV 61 wr w.heap.size v us1) ∨ (x = .int .i64 2 ∧ OwnV 61 wr w.heap.size v (us1 ++ us2))) ∧ Below w.heap.size w wr) (fun _ _ x _ => 2 - (intOf x).toNat)
      case atStart => exact ⟨.inl ⟨rfl, HO.out⟩, HB.out⟩
      case round =>
        clear HO HB
        obtain ⟨hrel, hb⟩ := hrel
        have HB := Lib.hid hb
        have hc1 := (World.cell?_of_block (a := ⟨G, 0, none⟩) (hb.block G hGs)).trans HG1.out
        have hc2 := (World.cell?_of_block (a := ⟨G, 1, none⟩) (hb.block G hGs)).trans HG2.out
        have R1 := Lib.hid (HR1.out.grow hb)
        have R2 := Lib.hid (HR2.out.grow hb)
        clear hb
        rcases hrel with ⟨rfl, ho⟩ | ⟨rfl, ho⟩ | ⟨rfl, ho⟩
        · have HO := Lib.hid ho
          have HLE : Hid (([] : List Value).length + us1.length ≤ 1000000) := Lib.hid (by have := HN1.out; simp; omega)
          clear ho
          go_wp2_with (at_builtin; refine wpList_appendsV eltSquare rfl _ _ rfl w.heap.size _ [] us1 A1 _ _ c1 HN1.out rfl rfl HO.out R1.out HO1.out HLE.out ?_; intro v4 w4 ho4 hb4; have HO4 := Lib.hid ho4; have HB4 := Lib.hid hb4; clear ho4 hb4)
          go_roundw
          case rel => exact ⟨.inr (.inl ⟨rfl, HO4.out⟩), HB.out.trans HB4.out⟩
          case measure => simp [intOf]
        · have HO := Lib.hid ho
          have HLE : Hid (us1.length + us2.length ≤ 1000000) := Lib.hid (by have := HN1.out; have := HN2.out; omega)
          clear ho
          go_wp2_with (at_builtin; refine wpList_appendsV eltSquare rfl _ _ rfl w.heap.size _ us1 us2 A2 _ _ c2 HN2.out rfl rfl HO.out R2.out HO2.out HLE.out ?_; intro v4 w4 ho4 hb4; have HO4 := Lib.hid ho4; have HB4 := Lib.hid hb4; clear ho4 hb4)
          go_roundw
          case rel => exact ⟨.inr (.inr ⟨rfl, HO4.out⟩), HB.out.trans HB4.out⟩
          case measure => simp [intOf]
        · obtain ⟨A, c, rfl, hrv, hc3, hc4⟩ := ho.rv
          rw [List.length_append, ← HN1.out, ← HN2.out] at hc3
          rw [List.length_append, ← HN1.out, ← HN2.out]
          have HRV := Lib.hid hrv; have HC3 := Lib.hid hc3; have HC4 := Lib.hid hc4
          clear ho hrv hc1 hc2 hc3 hc4
          go_wp2
          go_ret
          exact ⟨A, c, rfl, HRV.out, ⟨HC3.out, HC4.out⟩, HB.out⟩

set_option maxHeartbeats 1000000 in
theorem growSum_any (n : Nat) (h0 : 0 < n) (hn : n ≤ 1000) (w : World) :
    Calls Try.prog 83 #[.slice none 0 0, .int .i64 (n : Int)] w fun e w' => ∃ v, e = .returned v ∧ OwnV 83 w' w.heap.size v [] ∧ Below w.heap.size w w' := by
  have h1 : ¬ (n : Int) < 0 := by omega
  have h2 : (0 : Int) < (n : Int) := by omega
  have s1 : IntKind.i64.wrap (n : Int) = (n : Int) := IntWalk.i64_in _ (by omega)
  go_enter Try.func83, Try.ntmps83
  go_wp2_with (at_builtin; refine wpList_zerosV eltSum rfl _ _ rfl n h0 hn rfl rfl ?_; intro cap W hge ho hb; have HO := Lib.hid ho; have HB := Lib.hid hb; clear ho hb)
  go_ret
  exact ⟨_, rfl, HO.out, HB.out⟩

set_option maxHeartbeats 2000000 in
set_option maxRecDepth 100000 in
theorem concatSum_any (A1 A2 : Option Addr) (n1 n2 c1 c2 lo1 lo2 G : Nat) (us1 us2 : List Value) (w : World) (hn1 : n1 = us1.length) (hn2 : n2 = us2.length) (h0 : 0 < n1) (hl1 : n1 ≤ 100) (hl2 : n2 ≤ 100) (hr1 : RV w lo1 A1 us1) (hr2 : RV w lo2 A2 us2)
    (ho1 : ∀ u, u ∈ us1 → u.oneCell' = true) (ho2 : ∀ u, u ∈ us2 → u.oneCell' = true) (hG1 : w.cell? ⟨G, 0, none⟩ = some (.slice A1 n1 c1)) (hG2 : w.cell? ⟨G, 1, none⟩ = some (.slice A2 n2 c2)) (hGs : G < w.heap.size) :
    Calls Try.prog 76 #[.slice (some ⟨G, 0, none⟩) 2 2] w (RetSub w (n1 + n2) (us1 ++ us2)) := by
  have HR1 := Lib.hid hr1; have HR2 := Lib.hid hr2; have HO1 := Lib.hid ho1; have HO2 := Lib.hid ho2
  have HN1 := Lib.hid hn1; have HN2 := Lib.hid hn2
  have HG1 := Lib.hid hG1; have HG2 := Lib.hid hG2
  clear hr1 hr2 ho1 ho2 hn1 hn2
  have s1 : IntKind.i64.wrap ((n1 : Int) + (n2 : Int)) = ((n1 + n2 : Nat) : Int) := by rw [IntWalk.i64_in _ (by omega)]; omega
  have s2 : ¬ (n1 : Int) < 0 := by omega
  have s3 : ¬ ((n1 + n2 : Nat) : Int) < 0 := by omega
  have s4 : IntKind.i64.wrap (n1 : Int) = (n1 : Int) := IntWalk.i64_in _ (by omega)
  have s5 : IntKind.i64.wrap (0 + (n1 : Int)) = (n1 : Int) := by rw [IntWalk.i64_in _ (by omega)]; omega
  go_enter Try.func76, Try.ntmps76
  go_wp2
  go_loop [3, 5, 11] (fun sz _ x => (x = .int .i64 0 ∧ sz = .int .i64 0) ∨ (x = .int .i64 1 ∧ sz = .int .i64 (n1 : Int)) ∨ (x = .int .i64 2 ∧ sz = .int .i64 ((n1 + n2 : Nat) : Int))) (fun _ _ x => 2 - (intOf x).toNat)
  case atStart => exact .inl ⟨rfl, rfl⟩
  case round =>
    rcases hrel with ⟨rfl, rfl⟩ | ⟨rfl, rfl⟩ | ⟨rfl, rfl⟩
    · go_wp2
      go_round
      case rel => exact .inr (.inl ⟨rfl, rfl⟩)
      case measure => simp [intOf]
    · go_wp2
      go_round
      case rel => exact .inr (.inr ⟨rfl, rfl⟩)
      case measure => simp [intOf]
    · clear hG1 hG2
      have HGR := Lib.hid (growSum_any (n1 + n2) (by omega) (by omega) w)
      go_wp2_with fail
      refine HGR.out.mono ?_; rintro e w1 ⟨v1, rfl, ho1, hb1⟩
      have HO := Lib.hid ho1; have HB := Lib.hid hb1
      clear ho1 hb1 HGR
      go_wp2
      go_loopw [6, 8, 27] (fun v _ x wr => ((x = .int .i64 0 ∧ OwnV 83 wr w.heap.size v []) ∨ (x = .int .i64 1 ∧ OwnV 83 wr w.heap.size v us1) ∨ (x = .int .i64 2 ∧ OwnV 83 wr w.heap.size v (us1 ++ us2))) ∧ Below w.heap.size w wr) (fun _ _ x _ => 2 - (intOf x).toNat)
      case atStart => exact ⟨.inl ⟨rfl, HO.out⟩, HB.out⟩
      case round =>
        clear HO HB
        obtain ⟨hrel, hb⟩ := hrel
        have HB := Lib.hid hb
        have hc1 := (World.cell?_of_block (a := ⟨G, 0, none⟩) (hb.block G hGs)).trans HG1.out
        have hc2 := (World.cell?_of_block (a := ⟨G, 1, none⟩) (hb.block G hGs)).trans HG2.out
        have R1 := Lib.hid (HR1.out.grow hb)
        have R2 := Lib.hid (HR2.out.grow hb)
        clear hb
        rcases hrel with ⟨rfl, ho⟩ | ⟨rfl, ho⟩ | ⟨rfl, ho⟩
        · have HO := Lib.hid ho
          have HLE : Hid (([] : List Value).length + us1.length ≤ 1000000) := Lib.hid (by have := HN1.out; simp; omega)
          clear ho
          go_wp2_with (at_builtin; refine wpList_appendsV eltSum rfl _ _ rfl w.heap.size _ [] us1 A1 _ _ c1 HN1.out rfl rfl HO.out R1.out HO1.out HLE.out ?_; intro v4 w4 ho4 hb4; have HO4 := Lib.hid ho4; have HB4 := Lib.hid hb4; clear ho4 hb4)
          go_roundw
          case rel => exact ⟨.inr (.inl ⟨rfl, HO4.out⟩), HB.out.trans HB4.out⟩
          case measure => simp [intOf]
        · have HO := Lib.hid ho
          have HLE : Hid (us1.length + us2.length ≤ 1000000) := Lib.hid (by have := HN1.out; have := HN2.out; omega)
          clear ho
          go_wp2_with (at_builtin; refine wpList_appendsV eltSum rfl _ _ rfl w.heap.size _ us1 us2 A2 _ _ c2 HN2.out rfl rfl HO.out R2.out HO2.out HLE.out ?_; intro v4 w4 ho4 hb4; have HO4 := Lib.hid ho4; have HB4 := Lib.hid hb4; clear ho4 hb4)
          go_roundw
          case rel => exact ⟨.inr (.inr ⟨rfl, HO4.out⟩), HB.out.trans HB4.out⟩
          case measure => simp [intOf]
        · obtain ⟨A, c, rfl, hrv, hc3, hc4⟩ := ho.rv
          rw [List.length_append, ← HN1.out, ← HN2.out] at hc3
          rw [List.length_append, ← HN1.out, ← HN2.out]
          have HRV := Lib.hid hrv; have HC3 := Lib.hid hc3; have HC4 := Lib.hid hc4
          clear ho hrv hc1 hc2 hc3 hc4
          go_wp2
          go_ret
          exact ⟨A, c, rfl, HRV.out, ⟨HC3.out, HC4.out⟩, HB.out⟩

set_option maxHeartbeats 4000000 in
set_option maxRecDepth 100000 in
theorem leastWide_any (zs : List Int) (hr : rowB zs = true) (b o cp N : Nat) (hN : zs.length = N) (hcp : N ≤ cp ∧ cp ≤ maxLen) : ∀ (k f : Nat) (K : Int) (off L C : Nat) (w : World), K = (k : Int) + 1 → off = o + f → L = N - f → C = cp - f → f + k + 1 ≤ N → RowAt w b o zs →
    Calls Try.prog 50 #[.slice (some ⟨b, off, none⟩) L C, .int .i64 K, .func (.func 40) #[] #[]] w (RetSub w (k + 1) (subsV b o cp (pairs (f : Int) (spL (segC (partV zs false)) (N : Int) k (f : Int))))) := by
  have HCP := Lib.hid hcp
  have h12 := (rowB_true.1 hr).2.2
  rw [hN] at h12
  have HMS : Hid (∀ (l : List Int) (f : Nat) (A : Option Addr) (lo c n : Nat) (w : World), Seg (f : Int) l (N : Int) → l ≠ [] → RowAt w b o zs → RV w lo A (subsV b o cp (pairs (f : Int) l)) → n = l.length → n ≤ c ∧ c ≤ maxLen →
      Calls Try.prog 40 #[.slice A n c] w fun e w' => e = .returned (.int .i64 ((segC (partV zs false)) (f : Int) l)) ∧ w' = w) := Lib.hid fun l f A lo c n w hs hne h hv hn hc => by
    have hll := hs.le
    have hpi := inRow_pairs (n := zs.length) (l := l) (f := (f : Int)) (by omega) (by rw [hN]; exact hs)
    rw [segC_sum]
    exact costOfWide_any zs hr b o cp (pairs (f : Int) l) hpi (by rw [pairs_len]; omega) A lo c n w h hv (by rw [pairs_len]; exact hn)
  obtain ⟨M, hM⟩ : ∃ M, (segC (partV zs false)) = M := ⟨_, rfl⟩
  rw [hM] at HMS
  rw [hM]
  clear hcp hM
  intro k
  induction k with
  | zero =>
    intro f K off L C w hK hoff hL hC hf hra
    have hRV : RV (w.alloc (.cells #[.slice (some ⟨b, off, none⟩) L C] 56)) w.heap.size (some ⟨w.heap.size, 0, none⟩) (subsV b o cp (pairs (f : Int) (spL M (N : Int) 0 (f : Int)))) := fun _ => ⟨w.heap.size, 0, rfl, Nat.le_refl _, by simp, fun j hj => by
      have hj0 : j = 0 := by rw [subs_len, pairs_len] at hj; simp [spL] at hj; omega
      subst hj0
      rw [World.cell?_alloc_at _ _ _ _ rfl]
      simp only [spL, pairs, subsV, List.map_cons, List.map_nil, subV, List.getElem_cons_zero]
      rw [Int.toNat_natCast, hoff, show ((N : Int) - 1 - (f : Int)).toNat + 1 = L by omega, ← hC]; rfl⟩
    have HRV := Lib.hid hRV
    obtain rfl : K = 1 := hK
    clear hoff hL hC hf hra hRV HMS
    go_enter Try.func50, Try.ntmps50
    go_wp2
    go_ret
    exact ⟨_, _, rfl, HRV.out, ⟨Nat.le_refl _, by unfold maxLen; omega⟩, (Below.refl _ _).alloc (Nat.le_refl _) _⟩
  | succ k ih =>
    intro f K off L C w hK hoff hL hC hf hra
    have HRA := Lib.hid hra; have HIH := Lib.hid ih
    have hcp := HCP.out
    unfold maxLen at hcp
    have hk1 : ¬ K = 1 := by omega
    have hk1b : (K == 1) = false := by rw [beq_eq_false_iff_ne]; exact hk1
    obtain ⟨D, hD⟩ : ∃ D : Nat, N = f + D + k + 1 := ⟨N - k - 1 - f, by omega⟩
    have hDp : 0 < D := by omega
    have HM : Hid (spL M (N : Int) (k + 1) (f : Int) = spTo M (spL M (N : Int) k) (f : Int) D) := Lib.hid (by
      show spTo _ _ _ _ = _
      rw [show ((N : Int) - (k : Int) - 1 - (f : Int)).toNat = D by omega])
    rw [HM.out]
    obtain ⟨G, hG⟩ : ∃ G, spL M (N : Int) k = G := ⟨_, rfl⟩
    have HGP : Hid (∀ g : Nat, g + k + 1 ≤ N → Parts (N : Int) (g : Int) (k + 1) (G (g : Int))) := Lib.hid fun g hg => by rw [← hG]; exact spL_parts k (g : Int) (by omega)
    have HTP : Hid (∀ d : Nat, d ≤ D → d = 0 ∨ Parts (N : Int) (f : Int) (k + 2) (spTo M G (f : Int) d)) := Lib.hid fun d => by
      induction d with
      | zero => intro _; exact .inl rfl
      | succ d ihd =>
        intro hd
        have old := ihd (by omega)
        have r1 := HGP.out (f + d + 1) (by omega)
        rw [show ((f + d + 1 : Nat) : Int) = (f : Int) + (d : Int) + 1 by omega] at r1
        refine .inr ?_
        show Parts (N : Int) (f : Int) (k + 2) (spStep M (f : Int) (spTo M G (f : Int) d) (((f : Int) + (d : Int)) :: G ((f : Int) + (d : Int) + 1)))
        have hq : Parts (N : Int) (f : Int) (k + 2) (((f : Int) + (d : Int)) :: G ((f : Int) + (d : Int) + 1)) := ⟨⟨by omega, r1.1⟩, by rw [List.length_cons, r1.2]⟩
        unfold spStep
        by_cases c : spTo M G (f : Int) d = [] ∨ M (f : Int) (((f : Int) + (d : Int)) :: G ((f : Int) + (d : Int) + 1)) < M (f : Int) (spTo M G (f : Int) d)
        · rw [if_pos c]; exact hq
        · rw [if_neg c]
          rcases old with e | o
          · subst e; exact absurd (.inl rfl) c
          · exact o
    rw [hG] at HIH
    rw [hG]
    have HF : Hid (K = ((k + 1 : Nat) : Int) + 1 ∧ off = o + f ∧ L = N - f ∧ C = cp - f ∧ N = f + D + k + 1) := Lib.hid ⟨hK, hoff, hL, hC, hD⟩
    clear hra ih hG HM hK hoff hL hC hf hD hcp
    have H12 := Lib.hid h12; have HDP := Lib.hid hDp
    clear h12 hDp
    go_enter Try.func50, Try.ntmps50
    go_wp2
    go_loopw [7, 8, 9, 10] (fun v x _ _ wr => ∃ (d : Nat) (A : Option Addr) (c : Nat), d ≤ D ∧ x = .int .i64 ((d : Int) + 1) ∧ v = .slice A (if d = 0 then 0 else k + 2) c ∧ RV wr w.heap.size A (subsV b o cp (pairs (f : Int) (spTo M G (f : Int) d))) ∧ ((if d = 0 then 0 else k + 2) ≤ c ∧ c ≤ maxLen) ∧ Below w.heap.size w wr) (fun _ x _ _ _ => D + 1 - (intOf x).toNat)
    case atStart => exact ⟨0, none, 0, Nat.zero_le _, by go_num, rfl, fun h0 => absurd h0 (by simp [spTo, pairs, subsV]), ⟨by simp, by unfold maxLen; omega⟩, Below.refl _ _⟩
    case round =>
      obtain ⟨d, A, c, hd, rfl, rfl, hrv, hcc, hbl⟩ := hrel
      obtain ⟨hK, hoff, hL, hC, hD⟩ := HF.out
      have hDp := HDP.out
      have h12 := H12.out
      have HRV := Lib.hid hrv; have HCC := Lib.hid hcc; have HB := Lib.hid hbl
      clear hrv hcc hbl
      have k64 : IntKind.i64.wrap (K - 1) = K - 1 := IntWalk.i64_in _ (by omega)
      have x64 : IntKind.i64.wrap ((d : Int) + 1 + K) = (d : Int) + 1 + K := IntWalk.i64_in _ (by omega)
      have x65 : IntKind.i64.wrap ((d : Int) + 1 + K - 1) = (d : Int) + 1 + K - 1 := IntWalk.i64_in _ (by omega)
      have x66 : IntKind.i64.wrap ((d : Int) + 1 + 1) = (d : Int) + 1 + 1 := IntWalk.i64_in _ (by omega)
      by_cases hlt : d < D
      · have hlt' : (d : Int) + 1 + K - 1 ≤ (L : Int) := by omega
        have hcp := HCP.out
        unfold maxLen at hcp
        have HRAW := Lib.hid (HRA.out.grow HB.out)
        have HC := Lib.hid (HIH.out (f + d + 1) (K - 1) (off + (d + 1)) (L - (d + 1)) (C - (d + 1)) wr (by omega) (by omega) (by omega) (by omega) (by omega) HRAW.out)
        rw [show ((f + d + 1 : Nat) : Int) = (f : Int) + (d : Int) + 1 by omega] at HC
        have HG1 : Hid (Parts (N : Int) ((f : Int) + (d : Int) + 1) (k + 1) (G ((f : Int) + (d : Int) + 1))) := by
          have := HGP.out (f + d + 1) (by omega)
          rw [show ((f + d + 1 : Nat) : Int) = (f : Int) + (d : Int) + 1 by omega] at this
          exact Lib.hid this
        have HST : Hid (spTo M G (f : Int) (d + 1) = spStep M (f : Int) (spTo M G (f : Int) d) (((f : Int) + (d : Int)) :: G ((f : Int) + (d : Int) + 1))) := Lib.hid rfl
        have HSUB : Hid (subsV b o cp (pairs (f : Int) (((f : Int) + (d : Int)) :: G ((f : Int) + (d : Int) + 1))) = [Value.slice (some ⟨b, off, none⟩) (d + 1) C] ++ subsV b o cp (pairs ((f : Int) + (d : Int) + 1) (G ((f : Int) + (d : Int) + 1)))) := Lib.hid (by
          simp only [pairs, subsV, List.map_cons, List.cons_append, List.nil_append]
          congr 1
          unfold subV
          dsimp only
          rw [Int.toNat_natCast, hoff, hC, show ((f : Int) + (d : Int) - (f : Int)).toNat + 1 = d + 1 by omega])
        have HSEG : Hid (Seg (f : Int) (((f : Int) + (d : Int)) :: G ((f : Int) + (d : Int) + 1)) (N : Int)) := Lib.hid ⟨by omega, HG1.out.1⟩
        have HLQ : Hid ((((f : Int) + (d : Int)) :: G ((f : Int) + (d : Int) + 1)).length = k + 2) := Lib.hid (by rw [List.length_cons, HG1.out.2])
        have HLN : Hid ((subsV b o cp (pairs ((f : Int) + (d : Int) + 1) (G ((f : Int) + (d : Int) + 1)))).length = k + 1) := Lib.hid (by rw [subs_len, pairs_len, HG1.out.2])
        have a1 : (0 : Int) ≤ (d : Int) + 1 := by omega
        have a2 : (d : Int) + 1 ≤ (L : Int) := by omega
        have a3 : (d : Int) + 1 ≤ (C : Int) := by omega
        have a4 : ((d : Int) + 1).toNat = d + 1 := by omega
        have a5 : ¬ C = d + 1 := by omega
        have a6 : (L : Int) ≤ (C : Int) := by omega
        have a7 : d + 1 ≤ C := by omega
        obtain ⟨ln, hln⟩ : ∃ ln, (if d = 0 then 0 else k + 2) = ln := ⟨_, rfl⟩
        rw [hln] at HCC
        rw [hln]
        have HLNN := Lib.hid hln
        have HD0 : Hid (d + 1 ≤ D) := Lib.hid (by omega)
        have HKB : Hid (k + 1 ≤ 12 ∧ d ≤ 12) := Lib.hid ⟨by omega, by omega⟩
        have HDO : Hid (d ≠ 0 → Parts (N : Int) (f : Int) (k + 2) (spTo M G (f : Int) d)) := Lib.hid fun h => (HTP.out d (by omega)).resolve_left h
        generalize ((f : Int) + (d : Int)) :: G ((f : Int) + (d : Int) + 1) = q1 at HST HSUB HSEG HLQ
        generalize subsV b o cp (pairs ((f : Int) + (d : Int) + 1) (G ((f : Int) + (d : Int) + 1))) = us2 at HC HSUB HLN
        clear hK hoff hL hC hD hcp hln h12 hDp
        go_wp2_with fail
        refine HC.out.mono ?_
        rintro e w3 ⟨A3, c3, rfl, hv3, hc3, hb3⟩
        have HV3 := Lib.hid hv3; have HC3 := Lib.hid hc3
        have HB3 := Lib.hid (HB.out.trans (hb3.mono HB.out.size))
        have HRV3 := Lib.hid (HRV.out.grow hb3)
        have HRA3 := Lib.hid (HRAW.out.grow hb3)
        clear hv3 hc3 hb3 HC
        have hW4 : Below w3.heap.size w3 ((w3.alloc (.cells #[.slice (some ⟨b, off, none⟩) (d + 1) C] 56)).alloc (.cells #[.slice (some ⟨w3.heap.size, 0, none⟩) 1 1, .slice A3 (k + 1) c3] 54)) := ((Below.refl _ w3).alloc (Nat.le_refl _) _).alloc (by simp) _
        have hz4 : ((w3.alloc (.cells #[.slice (some ⟨b, off, none⟩) (d + 1) C] 56)).alloc (.cells #[.slice (some ⟨w3.heap.size, 0, none⟩) 1 1, .slice A3 (k + 1) c3] 54)).heap.size = w3.heap.size + 2 := by simp
        have hs4 : ((w3.alloc (.cells #[.slice (some ⟨b, off, none⟩) (d + 1) C] 56)).alloc (.cells #[.slice (some ⟨w3.heap.size, 0, none⟩) 1 1, .slice A3 (k + 1) c3] 54)).cell? ⟨w3.heap.size, 0, none⟩ = some (.slice (some ⟨b, off, none⟩) (d + 1) C) := by
          rw [World.cell?_alloc_past _ _ _ (by simp), World.cell?_alloc_at _ _ _ _ rfl]; rfl
        have g1 : ((w3.alloc (.cells #[.slice (some ⟨b, off, none⟩) (d + 1) C] 56)).alloc (.cells #[.slice (some ⟨w3.heap.size, 0, none⟩) 1 1, .slice A3 (k + 1) c3] 54)).cell? ⟨w3.heap.size + 1, 0, none⟩ = some (.slice (some ⟨w3.heap.size, 0, none⟩) 1 1) := by
          rw [World.cell?_alloc_at _ _ _ _ (by simp)]; rfl
        have g2 : ((w3.alloc (.cells #[.slice (some ⟨b, off, none⟩) (d + 1) C] 56)).alloc (.cells #[.slice (some ⟨w3.heap.size, 0, none⟩) 1 1, .slice A3 (k + 1) c3] 54)).cell? ⟨w3.heap.size + 1, 1, none⟩ = some (.slice A3 (k + 1) c3) := by
          rw [World.cell?_alloc_at _ _ _ _ (by simp)]; rfl
        have HCAT := Lib.hid (concatWide_any (some ⟨w3.heap.size, 0, none⟩) A3 1 (k + 1) 1 c3 w3.heap.size wr.heap.size (w3.heap.size + 1) [.slice (some ⟨b, off, none⟩) (d + 1) C] us2 _ rfl HLN.out.symm (by omega) (by omega) (by have := HKB.out; omega)
          (fun _ => ⟨w3.heap.size, 0, rfl, Nat.le_refl _, by rw [hz4]; omega, fun j hj => by
            have : j = 0 := by simp at hj; omega
            subst this; exact hs4⟩) (HV3.out.grow hW4) (fun u hu => by rw [List.mem_singleton.1 hu]; rfl) (fun u hu => by
            have : u ∈ subsV b o cp (pairs (f : Int) q1) := by rw [HSUB.out]; exact List.mem_append_right _ hu
            exact subs_cell _ _ _ _ u this) g1 g2 (by rw [hz4]; omega))
        rw [← HSUB.out, show 1 + (k + 1) = k + 2 by omega] at HCAT
        have HB4 := Lib.hid (HB3.out.trans (hW4.mono HB3.out.size))
        have HRV4 := Lib.hid (HRV3.out.grow hW4)
        have HRA4 := Lib.hid (HRA3.out.grow hW4)
        clear hs4 g1 g2
        go_wp2_with fail
        refine HCAT.out.mono ?_
        rintro e w5 ⟨A5, c5, rfl, hv5, hc5, hb5⟩
        have HV5 := Lib.hid (hv5.lo (lo' := w.heap.size) HB4.out.size); have HC5 := Lib.hid hc5
        have HB5 := Lib.hid (HB4.out.trans (hb5.mono HB4.out.size))
        have HRV5 := Lib.hid (HRV4.out.grow hb5)
        have HRA5 := Lib.hid (HRA4.out.grow hb5)
        clear hv5 hc5 hb5 HCAT hW4 hz4 HRV4 HRA4 HRV3 HRA3
        have HQNE : Hid (q1 ≠ []) := Lib.hid (fun e => by have := HLQ.out; rw [e] at this; simp at this)
        by_cases hd0 : d = 0
        · have HNEW : Hid (spTo M G (f : Int) (d + 1) = q1) := Lib.hid (by
            rw [HST.out]; unfold spStep; rw [if_pos (.inl (by rw [hd0]; rfl))])
          have c0b : ((d : Int) + 1 == 1) = true := by rw [hd0]; rfl
          clear hd0
          go_wp2
          go_roundw
          case rel => exact ⟨d + 1, A5, c5, HD0.out, by go_num, by rw [if_neg (by omega)], by rw [HNEW.out]; exact HV5.out, by rw [if_neg (by omega)]; exact HC5.out, HB5.out⟩
          case measure => have := HD0.out; simp [intOf]; omega
        · have c0b : ((d : Int) + 1 == 1) = false := by rw [beq_eq_false_iff_ne]; omega
          have hlnk : ln = k + 2 := by rw [← HLNN.out, if_neg hd0]
          have hold := HDO.out hd0
          have HOLD : Hid (spTo M G (f : Int) d ≠ []) := Lib.hid (fun e => by have := hold.2; rw [e] at this; simp at this)
          subst hlnk
          have HM1 := Lib.hid (HMS.out q1 f A5 w.heap.size c5 (k + 2) w5 HSEG.out HQNE.out HRA5.out HV5.out HLQ.out.symm HC5.out)
          have HM2 := Lib.hid (HMS.out (spTo M G (f : Int) d) f A w.heap.size c (k + 2) w5 hold.1 HOLD.out HRA5.out HRV5.out hold.2.symm HCC.out)
          have HS1 : Hid (M (f : Int) q1 < M (f : Int) (spTo M G (f : Int) d) → spTo M G (f : Int) (d + 1) = q1) := Lib.hid fun h => by
            rw [HST.out]; unfold spStep; rw [if_pos (.inr h)]
          have HS2 : Hid (¬ M (f : Int) q1 < M (f : Int) (spTo M G (f : Int) d) → spTo M G (f : Int) (d + 1) = spTo M G (f : Int) d) := Lib.hid fun h => by
            rw [HST.out]; unfold spStep; rw [if_neg (fun e => e.elim HOLD.out h)]
          generalize M (f : Int) q1 = m1 at HM1 HS1 HS2
          generalize M (f : Int) (spTo M G (f : Int) d) = m2 at HM2 HS1 HS2
          clear hd0 hold
          by_cases c1 : m1 < m2
          · have HNEW := Lib.hid (HS1.out c1)
            go_wp2_with fail
            refine HM1.out.mono ?_; rintro e w' ⟨rfl, rfl⟩
            go_wp2_with fail
            refine HM2.out.mono ?_; rintro e w' ⟨rfl, rfl⟩
            go_wp2
            go_roundw
            case rel => exact ⟨d + 1, A5, c5, HD0.out, by go_num, by rw [if_neg (by omega)], by rw [HNEW.out]; exact HV5.out, by rw [if_neg (by omega)]; exact HC5.out, HB5.out⟩
            case measure => have := HD0.out; simp [intOf]; omega
          · have HNEW := Lib.hid (HS2.out c1)
            have c1d : decide (m1 < m2) = false := decide_eq_false c1
            go_wp2_with fail
            refine HM1.out.mono ?_; rintro e w' ⟨rfl, rfl⟩
            go_wp2_with fail
            refine HM2.out.mono ?_; rintro e w' ⟨rfl, rfl⟩
            go_wp2
            go_roundw
            case rel => exact ⟨d + 1, A, c, HD0.out, by go_num, by rw [if_neg (by omega)], by rw [HNEW.out]; exact HRV5.out, by rw [if_neg (by omega)]; exact HCC.out, HB5.out⟩
            case measure => have := HD0.out; simp [intOf]; omega
      · obtain rfl : d = D := by omega
        have hlt' : ¬ (d : Int) + 1 + K - 1 ≤ (L : Int) := by omega
        have hd0 : d ≠ 0 := by omega
        rw [if_neg hd0] at HCC
        rw [if_neg hd0]
        clear hK hoff hL hC hD hd0 h12 hDp
        go_wp2
        go_ret
        exact ⟨A, c, rfl, HRV.out, HCC.out, HB.out⟩

set_option maxHeartbeats 4000000 in
set_option maxRecDepth 100000 in
theorem leastSquare_any (zs : List Int) (hr : rowB zs = true) (b o cp N : Nat) (hN : zs.length = N) (hcp : N ≤ cp ∧ cp ≤ maxLen) : ∀ (k f : Nat) (K : Int) (off L C : Nat) (w : World), K = (k : Int) + 1 → off = o + f → L = N - f → C = cp - f → f + k + 1 ≤ N → RowAt w b o zs →
    Calls Try.prog 52 #[.slice (some ⟨b, off, none⟩) L C, .int .i64 K, .func (.func 42) #[] #[]] w (RetSub w (k + 1) (subsV b o cp (pairs (f : Int) (spL (segC (partV zs true)) (N : Int) k (f : Int))))) := by
  have HCP := Lib.hid hcp
  have h12 := (rowB_true.1 hr).2.2
  rw [hN] at h12
  have HMS : Hid (∀ (l : List Int) (f : Nat) (A : Option Addr) (lo c n : Nat) (w : World), Seg (f : Int) l (N : Int) → l ≠ [] → RowAt w b o zs → RV w lo A (subsV b o cp (pairs (f : Int) l)) → n = l.length → n ≤ c ∧ c ≤ maxLen →
      Calls Try.prog 42 #[.slice A n c] w fun e w' => e = .returned (.int .i64 ((segC (partV zs true)) (f : Int) l)) ∧ w' = w) := Lib.hid fun l f A lo c n w hs hne h hv hn hc => by
    have hll := hs.le
    have hpi := inRow_pairs (n := zs.length) (l := l) (f := (f : Int)) (by omega) (by rw [hN]; exact hs)
    rw [segC_sum]
    exact costOfSquare_any zs hr b o cp (pairs (f : Int) l) hpi (by rw [pairs_len]; omega) A lo c n w h hv (by rw [pairs_len]; exact hn)
  obtain ⟨M, hM⟩ : ∃ M, (segC (partV zs true)) = M := ⟨_, rfl⟩
  rw [hM] at HMS
  rw [hM]
  clear hcp hM
  intro k
  induction k with
  | zero =>
    intro f K off L C w hK hoff hL hC hf hra
    have hRV : RV (w.alloc (.cells #[.slice (some ⟨b, off, none⟩) L C] 61)) w.heap.size (some ⟨w.heap.size, 0, none⟩) (subsV b o cp (pairs (f : Int) (spL M (N : Int) 0 (f : Int)))) := fun _ => ⟨w.heap.size, 0, rfl, Nat.le_refl _, by simp, fun j hj => by
      have hj0 : j = 0 := by rw [subs_len, pairs_len] at hj; simp [spL] at hj; omega
      subst hj0
      rw [World.cell?_alloc_at _ _ _ _ rfl]
      simp only [spL, pairs, subsV, List.map_cons, List.map_nil, subV, List.getElem_cons_zero]
      rw [Int.toNat_natCast, hoff, show ((N : Int) - 1 - (f : Int)).toNat + 1 = L by omega, ← hC]; rfl⟩
    have HRV := Lib.hid hRV
    obtain rfl : K = 1 := hK
    clear hoff hL hC hf hra hRV HMS
    go_enter Try.func52, Try.ntmps52
    go_wp2
    go_ret
    exact ⟨_, _, rfl, HRV.out, ⟨Nat.le_refl _, by unfold maxLen; omega⟩, (Below.refl _ _).alloc (Nat.le_refl _) _⟩
  | succ k ih =>
    intro f K off L C w hK hoff hL hC hf hra
    have HRA := Lib.hid hra; have HIH := Lib.hid ih
    have hcp := HCP.out
    unfold maxLen at hcp
    have hk1 : ¬ K = 1 := by omega
    have hk1b : (K == 1) = false := by rw [beq_eq_false_iff_ne]; exact hk1
    obtain ⟨D, hD⟩ : ∃ D : Nat, N = f + D + k + 1 := ⟨N - k - 1 - f, by omega⟩
    have hDp : 0 < D := by omega
    have HM : Hid (spL M (N : Int) (k + 1) (f : Int) = spTo M (spL M (N : Int) k) (f : Int) D) := Lib.hid (by
      show spTo _ _ _ _ = _
      rw [show ((N : Int) - (k : Int) - 1 - (f : Int)).toNat = D by omega])
    rw [HM.out]
    obtain ⟨G, hG⟩ : ∃ G, spL M (N : Int) k = G := ⟨_, rfl⟩
    have HGP : Hid (∀ g : Nat, g + k + 1 ≤ N → Parts (N : Int) (g : Int) (k + 1) (G (g : Int))) := Lib.hid fun g hg => by rw [← hG]; exact spL_parts k (g : Int) (by omega)
    have HTP : Hid (∀ d : Nat, d ≤ D → d = 0 ∨ Parts (N : Int) (f : Int) (k + 2) (spTo M G (f : Int) d)) := Lib.hid fun d => by
      induction d with
      | zero => intro _; exact .inl rfl
      | succ d ihd =>
        intro hd
        have old := ihd (by omega)
        have r1 := HGP.out (f + d + 1) (by omega)
        rw [show ((f + d + 1 : Nat) : Int) = (f : Int) + (d : Int) + 1 by omega] at r1
        refine .inr ?_
        show Parts (N : Int) (f : Int) (k + 2) (spStep M (f : Int) (spTo M G (f : Int) d) (((f : Int) + (d : Int)) :: G ((f : Int) + (d : Int) + 1)))
        have hq : Parts (N : Int) (f : Int) (k + 2) (((f : Int) + (d : Int)) :: G ((f : Int) + (d : Int) + 1)) := ⟨⟨by omega, r1.1⟩, by rw [List.length_cons, r1.2]⟩
        unfold spStep
        by_cases c : spTo M G (f : Int) d = [] ∨ M (f : Int) (((f : Int) + (d : Int)) :: G ((f : Int) + (d : Int) + 1)) < M (f : Int) (spTo M G (f : Int) d)
        · rw [if_pos c]; exact hq
        · rw [if_neg c]
          rcases old with e | o
          · subst e; exact absurd (.inl rfl) c
          · exact o
    rw [hG] at HIH
    rw [hG]
    have HF : Hid (K = ((k + 1 : Nat) : Int) + 1 ∧ off = o + f ∧ L = N - f ∧ C = cp - f ∧ N = f + D + k + 1) := Lib.hid ⟨hK, hoff, hL, hC, hD⟩
    clear hra ih hG HM hK hoff hL hC hf hD hcp
    have H12 := Lib.hid h12; have HDP := Lib.hid hDp
    clear h12 hDp
    go_enter Try.func52, Try.ntmps52
    go_wp2
    go_loopw [7, 8, 9, 10] (fun v x _ _ wr => ∃ (d : Nat) (A : Option Addr) (c : Nat), d ≤ D ∧ x = .int .i64 ((d : Int) + 1) ∧ v = .slice A (if d = 0 then 0 else k + 2) c ∧ RV wr w.heap.size A (subsV b o cp (pairs (f : Int) (spTo M G (f : Int) d))) ∧ ((if d = 0 then 0 else k + 2) ≤ c ∧ c ≤ maxLen) ∧ Below w.heap.size w wr) (fun _ x _ _ _ => D + 1 - (intOf x).toNat)
    case atStart => exact ⟨0, none, 0, Nat.zero_le _, by go_num, rfl, fun h0 => absurd h0 (by simp [spTo, pairs, subsV]), ⟨by simp, by unfold maxLen; omega⟩, Below.refl _ _⟩
    case round =>
      obtain ⟨d, A, c, hd, rfl, rfl, hrv, hcc, hbl⟩ := hrel
      obtain ⟨hK, hoff, hL, hC, hD⟩ := HF.out
      have hDp := HDP.out
      have h12 := H12.out
      have HRV := Lib.hid hrv; have HCC := Lib.hid hcc; have HB := Lib.hid hbl
      clear hrv hcc hbl
      have k64 : IntKind.i64.wrap (K - 1) = K - 1 := IntWalk.i64_in _ (by omega)
      have x64 : IntKind.i64.wrap ((d : Int) + 1 + K) = (d : Int) + 1 + K := IntWalk.i64_in _ (by omega)
      have x65 : IntKind.i64.wrap ((d : Int) + 1 + K - 1) = (d : Int) + 1 + K - 1 := IntWalk.i64_in _ (by omega)
      have x66 : IntKind.i64.wrap ((d : Int) + 1 + 1) = (d : Int) + 1 + 1 := IntWalk.i64_in _ (by omega)
      by_cases hlt : d < D
      · have hlt' : (d : Int) + 1 + K - 1 ≤ (L : Int) := by omega
        have hcp := HCP.out
        unfold maxLen at hcp
        have HRAW := Lib.hid (HRA.out.grow HB.out)
        have HC := Lib.hid (HIH.out (f + d + 1) (K - 1) (off + (d + 1)) (L - (d + 1)) (C - (d + 1)) wr (by omega) (by omega) (by omega) (by omega) (by omega) HRAW.out)
        rw [show ((f + d + 1 : Nat) : Int) = (f : Int) + (d : Int) + 1 by omega] at HC
        have HG1 : Hid (Parts (N : Int) ((f : Int) + (d : Int) + 1) (k + 1) (G ((f : Int) + (d : Int) + 1))) := by
          have := HGP.out (f + d + 1) (by omega)
          rw [show ((f + d + 1 : Nat) : Int) = (f : Int) + (d : Int) + 1 by omega] at this
          exact Lib.hid this
        have HST : Hid (spTo M G (f : Int) (d + 1) = spStep M (f : Int) (spTo M G (f : Int) d) (((f : Int) + (d : Int)) :: G ((f : Int) + (d : Int) + 1))) := Lib.hid rfl
        have HSUB : Hid (subsV b o cp (pairs (f : Int) (((f : Int) + (d : Int)) :: G ((f : Int) + (d : Int) + 1))) = [Value.slice (some ⟨b, off, none⟩) (d + 1) C] ++ subsV b o cp (pairs ((f : Int) + (d : Int) + 1) (G ((f : Int) + (d : Int) + 1)))) := Lib.hid (by
          simp only [pairs, subsV, List.map_cons, List.cons_append, List.nil_append]
          congr 1
          unfold subV
          dsimp only
          rw [Int.toNat_natCast, hoff, hC, show ((f : Int) + (d : Int) - (f : Int)).toNat + 1 = d + 1 by omega])
        have HSEG : Hid (Seg (f : Int) (((f : Int) + (d : Int)) :: G ((f : Int) + (d : Int) + 1)) (N : Int)) := Lib.hid ⟨by omega, HG1.out.1⟩
        have HLQ : Hid ((((f : Int) + (d : Int)) :: G ((f : Int) + (d : Int) + 1)).length = k + 2) := Lib.hid (by rw [List.length_cons, HG1.out.2])
        have HLN : Hid ((subsV b o cp (pairs ((f : Int) + (d : Int) + 1) (G ((f : Int) + (d : Int) + 1)))).length = k + 1) := Lib.hid (by rw [subs_len, pairs_len, HG1.out.2])
        have a1 : (0 : Int) ≤ (d : Int) + 1 := by omega
        have a2 : (d : Int) + 1 ≤ (L : Int) := by omega
        have a3 : (d : Int) + 1 ≤ (C : Int) := by omega
        have a4 : ((d : Int) + 1).toNat = d + 1 := by omega
        have a5 : ¬ C = d + 1 := by omega
        have a6 : (L : Int) ≤ (C : Int) := by omega
        have a7 : d + 1 ≤ C := by omega
        obtain ⟨ln, hln⟩ : ∃ ln, (if d = 0 then 0 else k + 2) = ln := ⟨_, rfl⟩
        rw [hln] at HCC
        rw [hln]
        have HLNN := Lib.hid hln
        have HD0 : Hid (d + 1 ≤ D) := Lib.hid (by omega)
        have HKB : Hid (k + 1 ≤ 12 ∧ d ≤ 12) := Lib.hid ⟨by omega, by omega⟩
        have HDO : Hid (d ≠ 0 → Parts (N : Int) (f : Int) (k + 2) (spTo M G (f : Int) d)) := Lib.hid fun h => (HTP.out d (by omega)).resolve_left h
        generalize ((f : Int) + (d : Int)) :: G ((f : Int) + (d : Int) + 1) = q1 at HST HSUB HSEG HLQ
        generalize subsV b o cp (pairs ((f : Int) + (d : Int) + 1) (G ((f : Int) + (d : Int) + 1))) = us2 at HC HSUB HLN
        clear hK hoff hL hC hD hcp hln h12 hDp
        go_wp2_with fail
        refine HC.out.mono ?_
        rintro e w3 ⟨A3, c3, rfl, hv3, hc3, hb3⟩
        have HV3 := Lib.hid hv3; have HC3 := Lib.hid hc3
        have HB3 := Lib.hid (HB.out.trans (hb3.mono HB.out.size))
        have HRV3 := Lib.hid (HRV.out.grow hb3)
        have HRA3 := Lib.hid (HRAW.out.grow hb3)
        clear hv3 hc3 hb3 HC
        have hW4 : Below w3.heap.size w3 ((w3.alloc (.cells #[.slice (some ⟨b, off, none⟩) (d + 1) C] 61)).alloc (.cells #[.slice (some ⟨w3.heap.size, 0, none⟩) 1 1, .slice A3 (k + 1) c3] 59)) := ((Below.refl _ w3).alloc (Nat.le_refl _) _).alloc (by simp) _
        have hz4 : ((w3.alloc (.cells #[.slice (some ⟨b, off, none⟩) (d + 1) C] 61)).alloc (.cells #[.slice (some ⟨w3.heap.size, 0, none⟩) 1 1, .slice A3 (k + 1) c3] 59)).heap.size = w3.heap.size + 2 := by simp
        have hs4 : ((w3.alloc (.cells #[.slice (some ⟨b, off, none⟩) (d + 1) C] 61)).alloc (.cells #[.slice (some ⟨w3.heap.size, 0, none⟩) 1 1, .slice A3 (k + 1) c3] 59)).cell? ⟨w3.heap.size, 0, none⟩ = some (.slice (some ⟨b, off, none⟩) (d + 1) C) := by
          rw [World.cell?_alloc_past _ _ _ (by simp), World.cell?_alloc_at _ _ _ _ rfl]; rfl
        have g1 : ((w3.alloc (.cells #[.slice (some ⟨b, off, none⟩) (d + 1) C] 61)).alloc (.cells #[.slice (some ⟨w3.heap.size, 0, none⟩) 1 1, .slice A3 (k + 1) c3] 59)).cell? ⟨w3.heap.size + 1, 0, none⟩ = some (.slice (some ⟨w3.heap.size, 0, none⟩) 1 1) := by
          rw [World.cell?_alloc_at _ _ _ _ (by simp)]; rfl
        have g2 : ((w3.alloc (.cells #[.slice (some ⟨b, off, none⟩) (d + 1) C] 61)).alloc (.cells #[.slice (some ⟨w3.heap.size, 0, none⟩) 1 1, .slice A3 (k + 1) c3] 59)).cell? ⟨w3.heap.size + 1, 1, none⟩ = some (.slice A3 (k + 1) c3) := by
          rw [World.cell?_alloc_at _ _ _ _ (by simp)]; rfl
        have HCAT := Lib.hid (concatSquare_any (some ⟨w3.heap.size, 0, none⟩) A3 1 (k + 1) 1 c3 w3.heap.size wr.heap.size (w3.heap.size + 1) [.slice (some ⟨b, off, none⟩) (d + 1) C] us2 _ rfl HLN.out.symm (by omega) (by omega) (by have := HKB.out; omega)
          (fun _ => ⟨w3.heap.size, 0, rfl, Nat.le_refl _, by rw [hz4]; omega, fun j hj => by
            have : j = 0 := by simp at hj; omega
            subst this; exact hs4⟩) (HV3.out.grow hW4) (fun u hu => by rw [List.mem_singleton.1 hu]; rfl) (fun u hu => by
            have : u ∈ subsV b o cp (pairs (f : Int) q1) := by rw [HSUB.out]; exact List.mem_append_right _ hu
            exact subs_cell _ _ _ _ u this) g1 g2 (by rw [hz4]; omega))
        rw [← HSUB.out, show 1 + (k + 1) = k + 2 by omega] at HCAT
        have HB4 := Lib.hid (HB3.out.trans (hW4.mono HB3.out.size))
        have HRV4 := Lib.hid (HRV3.out.grow hW4)
        have HRA4 := Lib.hid (HRA3.out.grow hW4)
        clear hs4 g1 g2
        go_wp2_with fail
        refine HCAT.out.mono ?_
        rintro e w5 ⟨A5, c5, rfl, hv5, hc5, hb5⟩
        have HV5 := Lib.hid (hv5.lo (lo' := w.heap.size) HB4.out.size); have HC5 := Lib.hid hc5
        have HB5 := Lib.hid (HB4.out.trans (hb5.mono HB4.out.size))
        have HRV5 := Lib.hid (HRV4.out.grow hb5)
        have HRA5 := Lib.hid (HRA4.out.grow hb5)
        clear hv5 hc5 hb5 HCAT hW4 hz4 HRV4 HRA4 HRV3 HRA3
        have HQNE : Hid (q1 ≠ []) := Lib.hid (fun e => by have := HLQ.out; rw [e] at this; simp at this)
        by_cases hd0 : d = 0
        · have HNEW : Hid (spTo M G (f : Int) (d + 1) = q1) := Lib.hid (by
            rw [HST.out]; unfold spStep; rw [if_pos (.inl (by rw [hd0]; rfl))])
          have c0b : ((d : Int) + 1 == 1) = true := by rw [hd0]; rfl
          clear hd0
          go_wp2
          go_roundw
          case rel => exact ⟨d + 1, A5, c5, HD0.out, by go_num, by rw [if_neg (by omega)], by rw [HNEW.out]; exact HV5.out, by rw [if_neg (by omega)]; exact HC5.out, HB5.out⟩
          case measure => have := HD0.out; simp [intOf]; omega
        · have c0b : ((d : Int) + 1 == 1) = false := by rw [beq_eq_false_iff_ne]; omega
          have hlnk : ln = k + 2 := by rw [← HLNN.out, if_neg hd0]
          have hold := HDO.out hd0
          have HOLD : Hid (spTo M G (f : Int) d ≠ []) := Lib.hid (fun e => by have := hold.2; rw [e] at this; simp at this)
          subst hlnk
          have HM1 := Lib.hid (HMS.out q1 f A5 w.heap.size c5 (k + 2) w5 HSEG.out HQNE.out HRA5.out HV5.out HLQ.out.symm HC5.out)
          have HM2 := Lib.hid (HMS.out (spTo M G (f : Int) d) f A w.heap.size c (k + 2) w5 hold.1 HOLD.out HRA5.out HRV5.out hold.2.symm HCC.out)
          have HS1 : Hid (M (f : Int) q1 < M (f : Int) (spTo M G (f : Int) d) → spTo M G (f : Int) (d + 1) = q1) := Lib.hid fun h => by
            rw [HST.out]; unfold spStep; rw [if_pos (.inr h)]
          have HS2 : Hid (¬ M (f : Int) q1 < M (f : Int) (spTo M G (f : Int) d) → spTo M G (f : Int) (d + 1) = spTo M G (f : Int) d) := Lib.hid fun h => by
            rw [HST.out]; unfold spStep; rw [if_neg (fun e => e.elim HOLD.out h)]
          generalize M (f : Int) q1 = m1 at HM1 HS1 HS2
          generalize M (f : Int) (spTo M G (f : Int) d) = m2 at HM2 HS1 HS2
          clear hd0 hold
          by_cases c1 : m1 < m2
          · have HNEW := Lib.hid (HS1.out c1)
            go_wp2_with fail
            refine HM1.out.mono ?_; rintro e w' ⟨rfl, rfl⟩
            go_wp2_with fail
            refine HM2.out.mono ?_; rintro e w' ⟨rfl, rfl⟩
            go_wp2
            go_roundw
            case rel => exact ⟨d + 1, A5, c5, HD0.out, by go_num, by rw [if_neg (by omega)], by rw [HNEW.out]; exact HV5.out, by rw [if_neg (by omega)]; exact HC5.out, HB5.out⟩
            case measure => have := HD0.out; simp [intOf]; omega
          · have HNEW := Lib.hid (HS2.out c1)
            have c1d : decide (m1 < m2) = false := decide_eq_false c1
            go_wp2_with fail
            refine HM1.out.mono ?_; rintro e w' ⟨rfl, rfl⟩
            go_wp2_with fail
            refine HM2.out.mono ?_; rintro e w' ⟨rfl, rfl⟩
            go_wp2
            go_roundw
            case rel => exact ⟨d + 1, A, c, HD0.out, by go_num, by rw [if_neg (by omega)], by rw [HNEW.out]; exact HRV5.out, by rw [if_neg (by omega)]; exact HCC.out, HB5.out⟩
            case measure => have := HD0.out; simp [intOf]; omega
      · obtain rfl : d = D := by omega
        have hlt' : ¬ (d : Int) + 1 + K - 1 ≤ (L : Int) := by omega
        have hd0 : d ≠ 0 := by omega
        rw [if_neg hd0] at HCC
        rw [if_neg hd0]
        clear hK hoff hL hC hD hd0 h12 hDp
        go_wp2
        go_ret
        exact ⟨A, c, rfl, HRV.out, HCC.out, HB.out⟩

set_option maxHeartbeats 4000000 in
set_option maxRecDepth 100000 in
theorem leastSum_any (zs : List Int) (hr : rowB zs = true) (b o cp N : Nat) (hN : zs.length = N) (hcp : N ≤ cp ∧ cp ≤ maxLen) : ∀ (k f : Nat) (K : Int) (off L C : Nat) (w : World), K = (k : Int) + 1 → off = o + f → L = N - f → C = cp - f → f + k + 1 ≤ N → RowAt w b o zs →
    Calls Try.prog 64 #[.slice (some ⟨b, off, none⟩) L C, .int .i64 K, .func (.func 65) #[] #[]] w (RetSub w (k + 1) (subsV b o cp (pairs (f : Int) (spL (maxC (sumW zs)) (N : Int) k (f : Int))))) := by
  have HCP := Lib.hid hcp
  have h12 := (rowB_true.1 hr).2.2
  rw [hN] at h12
  have HMS : Hid (∀ (l : List Int) (f : Nat) (A : Option Addr) (lo c n : Nat) (w : World), Seg (f : Int) l (N : Int) → l ≠ [] → RowAt w b o zs → RV w lo A (subsV b o cp (pairs (f : Int) l)) → n = l.length → n ≤ c ∧ c ≤ maxLen →
      Calls Try.prog 65 #[.slice A n c] w fun e w' => e = .returned (.int .i64 ((maxC (sumW zs)) (f : Int) l)) ∧ w' = w) := Lib.hid fun l f A lo c n w hs hne h hv hn hc => by
    have hll := hs.le
    have hpi := inRow_pairs (n := zs.length) (l := l) (f := (f : Int)) (by omega) (by rw [hN]; exact hs)
    cases l with
    | nil => exact absurd rfl hne
    | cons x l =>
      rw [maxC_fold]
      exact greatSum_any zs hr b o cp ((f : Int), x) (pairs (x + 1) l) (hpi _ (by simp [pairs])) (fun q hq => hpi q (by simp [pairs, hq])) (by rw [pairs_len]; simp at hll; omega) A lo c n w h hv (by rw [pairs_len]; simpa using hn) hc
  obtain ⟨M, hM⟩ : ∃ M, (maxC (sumW zs)) = M := ⟨_, rfl⟩
  rw [hM] at HMS
  rw [hM]
  clear hcp hM
  intro k
  induction k with
  | zero =>
    intro f K off L C w hK hoff hL hC hf hra
    have hRV : RV (w.alloc (.cells #[.slice (some ⟨b, off, none⟩) L C] 83)) w.heap.size (some ⟨w.heap.size, 0, none⟩) (subsV b o cp (pairs (f : Int) (spL M (N : Int) 0 (f : Int)))) := fun _ => ⟨w.heap.size, 0, rfl, Nat.le_refl _, by simp, fun j hj => by
      have hj0 : j = 0 := by rw [subs_len, pairs_len] at hj; simp [spL] at hj; omega
      subst hj0
      rw [World.cell?_alloc_at _ _ _ _ rfl]
      simp only [spL, pairs, subsV, List.map_cons, List.map_nil, subV, List.getElem_cons_zero]
      rw [Int.toNat_natCast, hoff, show ((N : Int) - 1 - (f : Int)).toNat + 1 = L by omega, ← hC]; rfl⟩
    have HRV := Lib.hid hRV
    obtain rfl : K = 1 := hK
    clear hoff hL hC hf hra hRV HMS
    go_enter Try.func64, Try.ntmps64
    go_wp2
    go_ret
    exact ⟨_, _, rfl, HRV.out, ⟨Nat.le_refl _, by unfold maxLen; omega⟩, (Below.refl _ _).alloc (Nat.le_refl _) _⟩
  | succ k ih =>
    intro f K off L C w hK hoff hL hC hf hra
    have HRA := Lib.hid hra; have HIH := Lib.hid ih
    have hcp := HCP.out
    unfold maxLen at hcp
    have hk1 : ¬ K = 1 := by omega
    have hk1b : (K == 1) = false := by rw [beq_eq_false_iff_ne]; exact hk1
    obtain ⟨D, hD⟩ : ∃ D : Nat, N = f + D + k + 1 := ⟨N - k - 1 - f, by omega⟩
    have hDp : 0 < D := by omega
    have HM : Hid (spL M (N : Int) (k + 1) (f : Int) = spTo M (spL M (N : Int) k) (f : Int) D) := Lib.hid (by
      show spTo _ _ _ _ = _
      rw [show ((N : Int) - (k : Int) - 1 - (f : Int)).toNat = D by omega])
    rw [HM.out]
    obtain ⟨G, hG⟩ : ∃ G, spL M (N : Int) k = G := ⟨_, rfl⟩
    have HGP : Hid (∀ g : Nat, g + k + 1 ≤ N → Parts (N : Int) (g : Int) (k + 1) (G (g : Int))) := Lib.hid fun g hg => by rw [← hG]; exact spL_parts k (g : Int) (by omega)
    have HTP : Hid (∀ d : Nat, d ≤ D → d = 0 ∨ Parts (N : Int) (f : Int) (k + 2) (spTo M G (f : Int) d)) := Lib.hid fun d => by
      induction d with
      | zero => intro _; exact .inl rfl
      | succ d ihd =>
        intro hd
        have old := ihd (by omega)
        have r1 := HGP.out (f + d + 1) (by omega)
        rw [show ((f + d + 1 : Nat) : Int) = (f : Int) + (d : Int) + 1 by omega] at r1
        refine .inr ?_
        show Parts (N : Int) (f : Int) (k + 2) (spStep M (f : Int) (spTo M G (f : Int) d) (((f : Int) + (d : Int)) :: G ((f : Int) + (d : Int) + 1)))
        have hq : Parts (N : Int) (f : Int) (k + 2) (((f : Int) + (d : Int)) :: G ((f : Int) + (d : Int) + 1)) := ⟨⟨by omega, r1.1⟩, by rw [List.length_cons, r1.2]⟩
        unfold spStep
        by_cases c : spTo M G (f : Int) d = [] ∨ M (f : Int) (((f : Int) + (d : Int)) :: G ((f : Int) + (d : Int) + 1)) < M (f : Int) (spTo M G (f : Int) d)
        · rw [if_pos c]; exact hq
        · rw [if_neg c]
          rcases old with e | o
          · subst e; exact absurd (.inl rfl) c
          · exact o
    rw [hG] at HIH
    rw [hG]
    have HF : Hid (K = ((k + 1 : Nat) : Int) + 1 ∧ off = o + f ∧ L = N - f ∧ C = cp - f ∧ N = f + D + k + 1) := Lib.hid ⟨hK, hoff, hL, hC, hD⟩
    clear hra ih hG HM hK hoff hL hC hf hD hcp
    have H12 := Lib.hid h12; have HDP := Lib.hid hDp
    clear h12 hDp
    go_enter Try.func64, Try.ntmps64
    go_wp2
    go_loopw [7, 8, 9, 10] (fun v x _ _ wr => ∃ (d : Nat) (A : Option Addr) (c : Nat), d ≤ D ∧ x = .int .i64 ((d : Int) + 1) ∧ v = .slice A (if d = 0 then 0 else k + 2) c ∧ RV wr w.heap.size A (subsV b o cp (pairs (f : Int) (spTo M G (f : Int) d))) ∧ ((if d = 0 then 0 else k + 2) ≤ c ∧ c ≤ maxLen) ∧ Below w.heap.size w wr) (fun _ x _ _ _ => D + 1 - (intOf x).toNat)
    case atStart => exact ⟨0, none, 0, Nat.zero_le _, by go_num, rfl, fun h0 => absurd h0 (by simp [spTo, pairs, subsV]), ⟨by simp, by unfold maxLen; omega⟩, Below.refl _ _⟩
    case round =>
      obtain ⟨d, A, c, hd, rfl, rfl, hrv, hcc, hbl⟩ := hrel
      obtain ⟨hK, hoff, hL, hC, hD⟩ := HF.out
      have hDp := HDP.out
      have h12 := H12.out
      have HRV := Lib.hid hrv; have HCC := Lib.hid hcc; have HB := Lib.hid hbl
      clear hrv hcc hbl
      have k64 : IntKind.i64.wrap (K - 1) = K - 1 := IntWalk.i64_in _ (by omega)
      have x64 : IntKind.i64.wrap ((d : Int) + 1 + K) = (d : Int) + 1 + K := IntWalk.i64_in _ (by omega)
      have x65 : IntKind.i64.wrap ((d : Int) + 1 + K - 1) = (d : Int) + 1 + K - 1 := IntWalk.i64_in _ (by omega)
      have x66 : IntKind.i64.wrap ((d : Int) + 1 + 1) = (d : Int) + 1 + 1 := IntWalk.i64_in _ (by omega)
      by_cases hlt : d < D
      · have hlt' : (d : Int) + 1 + K - 1 ≤ (L : Int) := by omega
        have hcp := HCP.out
        unfold maxLen at hcp
        have HRAW := Lib.hid (HRA.out.grow HB.out)
        have HC := Lib.hid (HIH.out (f + d + 1) (K - 1) (off + (d + 1)) (L - (d + 1)) (C - (d + 1)) wr (by omega) (by omega) (by omega) (by omega) (by omega) HRAW.out)
        rw [show ((f + d + 1 : Nat) : Int) = (f : Int) + (d : Int) + 1 by omega] at HC
        have HG1 : Hid (Parts (N : Int) ((f : Int) + (d : Int) + 1) (k + 1) (G ((f : Int) + (d : Int) + 1))) := by
          have := HGP.out (f + d + 1) (by omega)
          rw [show ((f + d + 1 : Nat) : Int) = (f : Int) + (d : Int) + 1 by omega] at this
          exact Lib.hid this
        have HST : Hid (spTo M G (f : Int) (d + 1) = spStep M (f : Int) (spTo M G (f : Int) d) (((f : Int) + (d : Int)) :: G ((f : Int) + (d : Int) + 1))) := Lib.hid rfl
        have HSUB : Hid (subsV b o cp (pairs (f : Int) (((f : Int) + (d : Int)) :: G ((f : Int) + (d : Int) + 1))) = [Value.slice (some ⟨b, off, none⟩) (d + 1) C] ++ subsV b o cp (pairs ((f : Int) + (d : Int) + 1) (G ((f : Int) + (d : Int) + 1)))) := Lib.hid (by
          simp only [pairs, subsV, List.map_cons, List.cons_append, List.nil_append]
          congr 1
          unfold subV
          dsimp only
          rw [Int.toNat_natCast, hoff, hC, show ((f : Int) + (d : Int) - (f : Int)).toNat + 1 = d + 1 by omega])
        have HSEG : Hid (Seg (f : Int) (((f : Int) + (d : Int)) :: G ((f : Int) + (d : Int) + 1)) (N : Int)) := Lib.hid ⟨by omega, HG1.out.1⟩
        have HLQ : Hid ((((f : Int) + (d : Int)) :: G ((f : Int) + (d : Int) + 1)).length = k + 2) := Lib.hid (by rw [List.length_cons, HG1.out.2])
        have HLN : Hid ((subsV b o cp (pairs ((f : Int) + (d : Int) + 1) (G ((f : Int) + (d : Int) + 1)))).length = k + 1) := Lib.hid (by rw [subs_len, pairs_len, HG1.out.2])
        have a1 : (0 : Int) ≤ (d : Int) + 1 := by omega
        have a2 : (d : Int) + 1 ≤ (L : Int) := by omega
        have a3 : (d : Int) + 1 ≤ (C : Int) := by omega
        have a4 : ((d : Int) + 1).toNat = d + 1 := by omega
        have a5 : ¬ C = d + 1 := by omega
        have a6 : (L : Int) ≤ (C : Int) := by omega
        have a7 : d + 1 ≤ C := by omega
        obtain ⟨ln, hln⟩ : ∃ ln, (if d = 0 then 0 else k + 2) = ln := ⟨_, rfl⟩
        rw [hln] at HCC
        rw [hln]
        have HLNN := Lib.hid hln
        have HD0 : Hid (d + 1 ≤ D) := Lib.hid (by omega)
        have HKB : Hid (k + 1 ≤ 12 ∧ d ≤ 12) := Lib.hid ⟨by omega, by omega⟩
        have HDO : Hid (d ≠ 0 → Parts (N : Int) (f : Int) (k + 2) (spTo M G (f : Int) d)) := Lib.hid fun h => (HTP.out d (by omega)).resolve_left h
        generalize ((f : Int) + (d : Int)) :: G ((f : Int) + (d : Int) + 1) = q1 at HST HSUB HSEG HLQ
        generalize subsV b o cp (pairs ((f : Int) + (d : Int) + 1) (G ((f : Int) + (d : Int) + 1))) = us2 at HC HSUB HLN
        clear hK hoff hL hC hD hcp hln h12 hDp
        go_wp2_with fail
        refine HC.out.mono ?_
        rintro e w3 ⟨A3, c3, rfl, hv3, hc3, hb3⟩
        have HV3 := Lib.hid hv3; have HC3 := Lib.hid hc3
        have HB3 := Lib.hid (HB.out.trans (hb3.mono HB.out.size))
        have HRV3 := Lib.hid (HRV.out.grow hb3)
        have HRA3 := Lib.hid (HRAW.out.grow hb3)
        clear hv3 hc3 hb3 HC
        have hW4 : Below w3.heap.size w3 ((w3.alloc (.cells #[.slice (some ⟨b, off, none⟩) (d + 1) C] 83)).alloc (.cells #[.slice (some ⟨w3.heap.size, 0, none⟩) 1 1, .slice A3 (k + 1) c3] 81)) := ((Below.refl _ w3).alloc (Nat.le_refl _) _).alloc (by simp) _
        have hz4 : ((w3.alloc (.cells #[.slice (some ⟨b, off, none⟩) (d + 1) C] 83)).alloc (.cells #[.slice (some ⟨w3.heap.size, 0, none⟩) 1 1, .slice A3 (k + 1) c3] 81)).heap.size = w3.heap.size + 2 := by simp
        have hs4 : ((w3.alloc (.cells #[.slice (some ⟨b, off, none⟩) (d + 1) C] 83)).alloc (.cells #[.slice (some ⟨w3.heap.size, 0, none⟩) 1 1, .slice A3 (k + 1) c3] 81)).cell? ⟨w3.heap.size, 0, none⟩ = some (.slice (some ⟨b, off, none⟩) (d + 1) C) := by
          rw [World.cell?_alloc_past _ _ _ (by simp), World.cell?_alloc_at _ _ _ _ rfl]; rfl
        have g1 : ((w3.alloc (.cells #[.slice (some ⟨b, off, none⟩) (d + 1) C] 83)).alloc (.cells #[.slice (some ⟨w3.heap.size, 0, none⟩) 1 1, .slice A3 (k + 1) c3] 81)).cell? ⟨w3.heap.size + 1, 0, none⟩ = some (.slice (some ⟨w3.heap.size, 0, none⟩) 1 1) := by
          rw [World.cell?_alloc_at _ _ _ _ (by simp)]; rfl
        have g2 : ((w3.alloc (.cells #[.slice (some ⟨b, off, none⟩) (d + 1) C] 83)).alloc (.cells #[.slice (some ⟨w3.heap.size, 0, none⟩) 1 1, .slice A3 (k + 1) c3] 81)).cell? ⟨w3.heap.size + 1, 1, none⟩ = some (.slice A3 (k + 1) c3) := by
          rw [World.cell?_alloc_at _ _ _ _ (by simp)]; rfl
        have HCAT := Lib.hid (concatSum_any (some ⟨w3.heap.size, 0, none⟩) A3 1 (k + 1) 1 c3 w3.heap.size wr.heap.size (w3.heap.size + 1) [.slice (some ⟨b, off, none⟩) (d + 1) C] us2 _ rfl HLN.out.symm (by omega) (by omega) (by have := HKB.out; omega)
          (fun _ => ⟨w3.heap.size, 0, rfl, Nat.le_refl _, by rw [hz4]; omega, fun j hj => by
            have : j = 0 := by simp at hj; omega
            subst this; exact hs4⟩) (HV3.out.grow hW4) (fun u hu => by rw [List.mem_singleton.1 hu]; rfl) (fun u hu => by
            have : u ∈ subsV b o cp (pairs (f : Int) q1) := by rw [HSUB.out]; exact List.mem_append_right _ hu
            exact subs_cell _ _ _ _ u this) g1 g2 (by rw [hz4]; omega))
        rw [← HSUB.out, show 1 + (k + 1) = k + 2 by omega] at HCAT
        have HB4 := Lib.hid (HB3.out.trans (hW4.mono HB3.out.size))
        have HRV4 := Lib.hid (HRV3.out.grow hW4)
        have HRA4 := Lib.hid (HRA3.out.grow hW4)
        clear hs4 g1 g2
        go_wp2_with fail
        refine HCAT.out.mono ?_
        rintro e w5 ⟨A5, c5, rfl, hv5, hc5, hb5⟩
        have HV5 := Lib.hid (hv5.lo (lo' := w.heap.size) HB4.out.size); have HC5 := Lib.hid hc5
        have HB5 := Lib.hid (HB4.out.trans (hb5.mono HB4.out.size))
        have HRV5 := Lib.hid (HRV4.out.grow hb5)
        have HRA5 := Lib.hid (HRA4.out.grow hb5)
        clear hv5 hc5 hb5 HCAT hW4 hz4 HRV4 HRA4 HRV3 HRA3
        have HQNE : Hid (q1 ≠ []) := Lib.hid (fun e => by have := HLQ.out; rw [e] at this; simp at this)
        by_cases hd0 : d = 0
        · have HNEW : Hid (spTo M G (f : Int) (d + 1) = q1) := Lib.hid (by
            rw [HST.out]; unfold spStep; rw [if_pos (.inl (by rw [hd0]; rfl))])
          have c0b : ((d : Int) + 1 == 1) = true := by rw [hd0]; rfl
          clear hd0
          go_wp2
          go_roundw
          case rel => exact ⟨d + 1, A5, c5, HD0.out, by go_num, by rw [if_neg (by omega)], by rw [HNEW.out]; exact HV5.out, by rw [if_neg (by omega)]; exact HC5.out, HB5.out⟩
          case measure => have := HD0.out; simp [intOf]; omega
        · have c0b : ((d : Int) + 1 == 1) = false := by rw [beq_eq_false_iff_ne]; omega
          have hlnk : ln = k + 2 := by rw [← HLNN.out, if_neg hd0]
          have hold := HDO.out hd0
          have HOLD : Hid (spTo M G (f : Int) d ≠ []) := Lib.hid (fun e => by have := hold.2; rw [e] at this; simp at this)
          subst hlnk
          have HM1 := Lib.hid (HMS.out q1 f A5 w.heap.size c5 (k + 2) w5 HSEG.out HQNE.out HRA5.out HV5.out HLQ.out.symm HC5.out)
          have HM2 := Lib.hid (HMS.out (spTo M G (f : Int) d) f A w.heap.size c (k + 2) w5 hold.1 HOLD.out HRA5.out HRV5.out hold.2.symm HCC.out)
          have HS1 : Hid (M (f : Int) q1 < M (f : Int) (spTo M G (f : Int) d) → spTo M G (f : Int) (d + 1) = q1) := Lib.hid fun h => by
            rw [HST.out]; unfold spStep; rw [if_pos (.inr h)]
          have HS2 : Hid (¬ M (f : Int) q1 < M (f : Int) (spTo M G (f : Int) d) → spTo M G (f : Int) (d + 1) = spTo M G (f : Int) d) := Lib.hid fun h => by
            rw [HST.out]; unfold spStep; rw [if_neg (fun e => e.elim HOLD.out h)]
          generalize M (f : Int) q1 = m1 at HM1 HS1 HS2
          generalize M (f : Int) (spTo M G (f : Int) d) = m2 at HM2 HS1 HS2
          clear hd0 hold
          by_cases c1 : m1 < m2
          · have HNEW := Lib.hid (HS1.out c1)
            go_wp2_with fail
            refine HM1.out.mono ?_; rintro e w' ⟨rfl, rfl⟩
            go_wp2_with fail
            refine HM2.out.mono ?_; rintro e w' ⟨rfl, rfl⟩
            go_wp2
            go_roundw
            case rel => exact ⟨d + 1, A5, c5, HD0.out, by go_num, by rw [if_neg (by omega)], by rw [HNEW.out]; exact HV5.out, by rw [if_neg (by omega)]; exact HC5.out, HB5.out⟩
            case measure => have := HD0.out; simp [intOf]; omega
          · have HNEW := Lib.hid (HS2.out c1)
            have c1d : decide (m1 < m2) = false := decide_eq_false c1
            go_wp2_with fail
            refine HM1.out.mono ?_; rintro e w' ⟨rfl, rfl⟩
            go_wp2_with fail
            refine HM2.out.mono ?_; rintro e w' ⟨rfl, rfl⟩
            go_wp2
            go_roundw
            case rel => exact ⟨d + 1, A, c, HD0.out, by go_num, by rw [if_neg (by omega)], by rw [HNEW.out]; exact HRV5.out, by rw [if_neg (by omega)]; exact HCC.out, HB5.out⟩
            case measure => have := HD0.out; simp [intOf]; omega
      · obtain rfl : d = D := by omega
        have hlt' : ¬ (d : Int) + 1 + K - 1 ≤ (L : Int) := by omega
        have hd0 : d ≠ 0 := by omega
        rw [if_neg hd0] at HCC
        rw [if_neg hd0]
        clear hK hoff hL hC hD hd0 h12 hDp
        go_wp2
        go_ret
        exact ⟨A, c, rfl, HRV.out, HCC.out, HB.out⟩
end Go.Proofs.Ytfkmnlhmldjieaa
