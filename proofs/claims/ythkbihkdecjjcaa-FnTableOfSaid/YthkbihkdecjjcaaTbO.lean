/-
  TableOf of the program. Conditions: the list's cells are there.
-/
import Derived.Test.YthkbihkdecjjcaaTbS
import Derived.Test.YthkbihkdecjjcaaTbF
import Derived.Test.YthkbihkdecjjcaaImpl
namespace Go.Proofs.Ythkbihkdecjjcaa
open Go.RowKit Go.Shelf
attribute [local go_sem] Oper.semAt_some

set_option maxRecDepth 100000 in
set_option maxHeartbeats 1000000 in
theorem tableOf1_any (b5 b3 lo hi c n m i k : Nat) (A : Option Addr) (a : List Int) (hn : 1 ≤ n ∧ n ≤ 6) (hm : 1 ≤ m ∧ m ≤ 6) (hl : a.length + 1 = n + m) (hi' : i < n) (hk : k < m) (W : World) (h5 : W.cell? ⟨b5, 0, none⟩ = some (.slice A a.length c)) (h3 : W.cell? ⟨b3, 0, none⟩ = some (.int .i64 (n : Int))) (h : IR W lo hi A a) :
    Calls Try.prog 56 #[.int .i64 (i : Int), .int .i64 (k : Int), .pointer (some ⟨b5, 0, none⟩), .pointer (some ⟨b3, 0, none⟩)] W fun e W' => e = .returned (.int .i64 (ofRow a n i k)) ∧ W' = W := by
  obtain ⟨p, hp⟩ : ∃ p, n - 1 - i + k = p := ⟨_, rfl⟩
  have hpl : p < a.length := by omega
  have HV : Hid (ofRow a n i k = a[p]) := by show _ = _; unfold ofRow; rw [hp, getD_in hpl]
  obtain ⟨b, off, rfl, _, _, hc⟩ := h.at_ hpl
  obtain ⟨v, hv⟩ : ∃ v, a[p] = v := ⟨_, rfl⟩
  rw [hv] at hc HV
  have t1 : IntKind.i64.wrap ((n : Int) - 1) = (n : Int) - 1 := IntWalk.i64_in _ (by omega)
  have t2 : IntKind.i64.wrap ((n : Int) - 1 - (i : Int)) = (n : Int) - 1 - (i : Int) := IntWalk.i64_in _ (by omega)
  have t3 : IntKind.i64.wrap ((n : Int) - 1 - (i : Int) + (k : Int)) = (p : Int) := by
    rw [IntWalk.i64_in _ (by omega)]; omega
  have p0 : (0 : Int) ≤ (p : Int) := by omega
  have pl : (p : Int) < (a.length : Int) := by omega
  clear h hv hp
  go_enter Try.func56, Try.ntmps56
  go_wp2
  go_ret
  exact ⟨by rw [HV.out]; rfl, rfl⟩

set_option maxRecDepth 100000 in
set_option maxHeartbeats 2000000 in
theorem implTableOf_any (x y : Int) (A : Option Addr) (c : Nat) (a : List Int) (w : World) (h : IR w 0 w.heap.size A a) :
    Calls Try.prog 18 #[.int .i64 x, .int .i64 y, .slice A a.length c] w (RetTB w (ofM x y a)) := by
  have HNO : Hid ((inB 1 6 x && inB 1 6 y && rowB a && decide ((a.length : Int) = x + y - 1)) = false → ofM x y a = none) := ofM_no
  obtain ⟨W2, hW2⟩ : ∃ W2, (w.alloc (.cells #[.int .i64 x] 3)).alloc (.cells #[.slice A a.length c] 26) = W2 := ⟨_, rfl⟩
  have b3 : Boxed W2 w.heap.size 3 (.int .i64 x) := by rw [← hW2]; exact (Boxed.new w _ _).alloc _
  have b5 : Boxed W2 (w.heap.size + 1) 26 (.slice A a.length c) := by
    rw [← hW2]
    have := Boxed.new (w.alloc (.cells #[.int .i64 x] 3)) 26 (.slice A a.length c)
    rwa [World.size_alloc] at this
  have hB2 : Below w.heap.size w W2 := by rw [← hW2]; exact ((Below.refl _ w).alloc (Nat.le_refl _) _).alloc (by simp) _
  have hs2 : W2.heap.size = w.heap.size + 2 := by rw [← hW2]; simp
  have hIR : IR W2 0 w.heap.size A a := h.below hB2 (Nat.le_refl _)
  have c3 := b3.cell; have c5 := b5.cell
  have HI := Lib.hid hIR
  have HB := Lib.hid hB2; have H3 := Lib.hid b3; have H5 := Lib.hid b5
  have hl := h.1
  clear h hB2 hIR b3 b5
  obtain ⟨p1, hp1⟩ : ∃ p, inB 1 6 x = p := ⟨_, rfl⟩
  have HC1 : Hid (∀ W, Calls Try.prog 53 #[.int .i64 x] W fun e w' => e = .returned (.bool p1) ∧ w' = W) := fun W => by rw [← hp1]; exact isTableCount_any x W
  obtain ⟨p2, hp2⟩ : ∃ p, inB 1 6 y = p := ⟨_, rfl⟩
  have HC2 : Hid (∀ W, Calls Try.prog 53 #[.int .i64 y] W fun e w' => e = .returned (.bool p2) ∧ w' = W) := fun W => by rw [← hp2]; exact isTableCount_any y W
  obtain ⟨p3, hp3⟩ : ∃ p, rowB a = p := ⟨_, rfl⟩
  have HC3 : Hid (Calls Try.prog 54 #[.slice A a.length c] W2 fun e w' => e = .returned (.bool p3) ∧ Below W2.heap.size W2 w') := by
    show Calls _ _ _ _ _
    rw [← hp3]; exact implRowIn_any A c a W2 HI.out.toAll
  have HP1 := Lib.hid hp1; have HP2 := Lib.hid hp2; have HP3 := Lib.hid hp3
  clear hp1 hp2 hp3
  cases p1 with
  | false =>
    have HM := Lib.hid (HNO.out (by rw [HP1.out]; rfl))
    go_enter Try.func18, Try.ntmps18
    go_wp2_with fail
    refine (HC1.out _).mono ?_
    rintro e w' ⟨rfl, rfl⟩
    go_wp2
    go_ret2
    rw [HM.out]
    exact retTB_none HB.out
  | true =>
  cases p2 with
  | false =>
    have HM := Lib.hid (HNO.out (by rw [HP2.out]; simp))
    go_enter Try.func18, Try.ntmps18
    go_wp2_with fail
    refine (HC1.out _).mono ?_
    rintro e w' ⟨rfl, rfl⟩
    go_wp2_with fail
    refine (HC2.out _).mono ?_
    rintro e w' ⟨rfl, rfl⟩
    go_wp2
    go_ret2
    rw [HM.out]
    exact retTB_none HB.out
  | true =>
  have hx := inB_true.1 HP1.out
  have hy := inB_true.1 HP2.out
  cases p3 with
  | false =>
    have HM := Lib.hid (HNO.out (by rw [HP3.out]; simp))
    go_enter Try.func18, Try.ntmps18
    go_wp2_with fail
    refine (HC1.out _).mono ?_
    rintro e w' ⟨rfl, rfl⟩
    go_wp2_with fail
    refine (HC2.out _).mono ?_
    rintro e w' ⟨rfl, rfl⟩
    go_wp2_with fail
    refine HC3.out.mono ?_
    rintro e w3 ⟨rfl, hb3⟩
    replace HB := Lib.hid (HB.out.trans (hb3.mono HB.out.size))
    clear hb3
    go_wp2
    go_ret2
    rw [HM.out]
    exact retTB_none HB.out
  | true =>
    obtain ⟨n, rfl⟩ : ∃ n : Nat, x = (n : Int) := ⟨x.toNat, by omega⟩
    obtain ⟨m, rfl⟩ : ∃ m : Nat, y = (m : Int) := ⟨y.toNat, by omega⟩
    have s1 : IntKind.i64.wrap ((n : Int) + (m : Int)) = (n : Int) + (m : Int) := IntWalk.i64_in _ (by omega)
    have s2 : IntKind.i64.wrap ((n : Int) + (m : Int) - 1) = (n : Int) + (m : Int) - 1 := IntWalk.i64_in _ (by omega)
    by_cases hlen : (a.length : Int) = (n : Int) + (m : Int) - 1
    · have hnm : a.length + 1 = n + m := by omega
      have hn : 1 ≤ n ∧ n ≤ 6 := by omega
      have hm : 1 ≤ m ∧ m ≤ 6 := by omega
      have HM := Lib.hid (ofM_yes hn hm HP3.out hnm)
      have hlen2 : decide ((a.length : Int) = (n : Int) + (m : Int) - 1) = true := decide_eq_true hlen
      go_enter Try.func18, Try.ntmps18
      go_wp2_with fail
      refine (HC1.out _).mono ?_
      rintro e w' ⟨rfl, rfl⟩
      go_wp2_with fail
      refine (HC2.out _).mono ?_
      rintro e w' ⟨rfl, rfl⟩
      go_wp2_with fail
      refine HC3.out.mono ?_
      rintro e w3 ⟨rfl, hb3⟩
      have c3' := (hb3.cell (p := ⟨w.heap.size, 0, none⟩) (by show w.heap.size < _; omega)).trans c3
      have c5' := (hb3.cell (p := ⟨w.heap.size + 1, 0, none⟩) (by show w.heap.size + 1 < _; omega)).trans c5
      have HI3 := Lib.hid (HI.out.below hb3 (by omega))
      have hs3 : w.heap.size + 2 ≤ w3.heap.size := by have := hb3.size; omega
      have HB3 := Lib.hid (HB.out.trans (hb3.mono HB.out.size))
      have hfn : FnT w3 56 #[.pointer (some ⟨w.heap.size + 1, 0, none⟩), .pointer (some ⟨w.heap.size, 0, none⟩)] n m (ofRow a n) := fun i k hi hk W hW =>
        (tableOf1_any (w.heap.size + 1) w.heap.size 0 w.heap.size c n m i k A a hn hm hnm hi hk W ((hW.cell (p := ⟨w.heap.size + 1, 0, none⟩) (by show w.heap.size + 1 < w3.heap.size; omega)).trans c5') ((hW.cell (p := ⟨w.heap.size, 0, none⟩) (by show w.heap.size < w3.heap.size; omega)).trans c3') (HI3.out.below hW (by omega))).mono fun e W' ⟨h1, h2⟩ => ⟨h1, by subst h2; exact Below.refl _ _⟩
      have HTF := Lib.hid (tableFrom_any n m (ofRow a n) _ _ (by omega) (by omega) (fun args w => Try.call56 args w) w3 hfn)
      clear hb3 hfn c3 c5
      have hmf : ∀ (fn : Fn) (first cap : Array Value) (w : World), (Instr.makeFunc fn first cap).run Try.prog w = .ok (.func fn first cap) w := fun _ _ _ _ => rfl
      go_wp2_with fail
      refine HTF.out.mono ?_
      rintro e w4 ⟨g, rfl, hg, hb4⟩
      have HB4 := Lib.hid (HB3.out.trans (hb4.mono HB3.out.size))
      have bT := BT.new w4 0 0 zF
      have bT2 : BT ((w4.alloc (.cells (tabV 0 0 zF) 54)).setRow w4.heap.size (tabV n m g)) w4.heap.size n m g := bT.put
      have HB5 := Lib.hid (below_setRow (HB4.out.alloc HB4.out.size (.cells (tabV 0 0 zF) 54)) HB4.out.size (tabV n m g))
      have HTL : Hid (tabL n m g = tabL n m (ofRow a n)) := by
        show _ = _
        unfold tabL
        refine List.map_congr_left fun i hi => List.map_congr_left fun k hk => ?_
        exact hg i k (List.mem_range.1 hi) (List.mem_range.1 hk)
      have HLI := Lib.hid (fun W => lists_any n m g hn hm (fun i k hi hk => by
        rw [hg i k hi hk]
        have := row_getD HP3.out (n - 1 - i + k) (by omega)
        unfold ofRow
        exact ⟨by omega, by omega⟩) W)
      clear hb4 hmf hlen hlen2 hg
      go_wp2_with (first | (refine wpList_alT rfl rfl ?_) | (refine wpList_stT rfl _ _ rfl rfl rfl bT ?_) | (refine wpList_ldT rfl _ rfl rfl bT2 ?_))
      refine (HLI.out _).mono ?_
      rintro e w6 ⟨A6, c6, rfl, hc6, hi6, hb6⟩
      rw [HTL.out] at hi6 hc6
      rw [HTL.out]
      have HI6 := Lib.hid (hi6.wide HB5.out.size (Nat.le_refl _) (Nat.le_refl _)); have HC6 := Lib.hid hc6
      have HB6 := Lib.hid (HB5.out.trans (hb6.mono HB5.out.size))
      clear hi6 hc6 hb6
      go_wp2
      go_ret2
      rw [HM.out]
      exact ⟨A6, c6, rfl, HC6.out, HI6.out, HB6.out⟩
    · have HM := Lib.hid (HNO.out (by rw [decide_eq_false hlen]; simp))
      go_enter Try.func18, Try.ntmps18
      go_wp2_with fail
      refine (HC1.out _).mono ?_
      rintro e w' ⟨rfl, rfl⟩
      go_wp2_with fail
      refine (HC2.out _).mono ?_
      rintro e w' ⟨rfl, rfl⟩
      go_wp2_with fail
      refine HC3.out.mono ?_
      rintro e w3 ⟨rfl, hb3⟩
      have c3' := (hb3.cell (p := ⟨w.heap.size, 0, none⟩) (by show w.heap.size < _; omega)).trans c3
      have c5' := (hb3.cell (p := ⟨w.heap.size + 1, 0, none⟩) (by show w.heap.size + 1 < _; omega)).trans c5
      replace HB := Lib.hid (HB.out.trans (hb3.mono HB.out.size))
      clear hb3
      go_wp2
      go_ret2
      rw [HM.out]
      exact retTB_none HB.out
end Go.Proofs.Ythkbihkdecjjcaa
