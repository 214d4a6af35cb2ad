/-
  firstExcess and ProofCrossed of the program: the first place where a table is not crossed. Conditions: the table's cells are there.
-/
import Derived.Test.YtanoojpmokbiaaaTbF
import Derived.Test.YtanoojpmokbiaaaPcM
namespace Go.Proofs.Ytanoojpmokbiaaa
open Go.RowKit Go.Shelf

set_option maxRecDepth 100000 in
theorem wpListIn_alX {F : Fence} {N : Nat} {P : Program} {ops : Array Oper} {rest : List Oper} {o : Oper} {a : Act} {w : World} {Q : Exit → Act → World → Prop} (hg : o.guard = none) {T : TypeId} (ho : o.op = .alloc T) {cs : Array Value} (hz : ZeroT P T cs)
    (h : wpListIn F N P ops Q rest (a.put o.dst (.pointer (some ⟨w.heap.size, 0, none⟩))) (w.alloc (.cells cs T))) : wpListIn F N P ops Q (o :: rest) a w :=
  wpListIn_op hg (by rw [ho]; intro c e; cases e) (by unfold Oper.about; rw [ho]) (by
    have hz' := (zero_of_info hz).1
    unfold execOp
    simp [ho, go_sem, hz']) h
set_option maxRecDepth 100000 in
theorem wpListIn_stX {F : Fence} {N : Nat} {P : Program} {ops : Array Oper} {rest : List Oper} {o : Oper} {a : Act} {w : World} {Q : Exit → Act → World → Prop} (hg : o.guard = none) (x y : Operand) {T : TypeId} (ho : o.op = .store T x y) {B k : Nat} {cs cs' : Array Value} (hx : a.eval x = .pointer (some ⟨B, 0, none⟩)) (hy : a.eval y = .agg cs') (hb : BX w B T cs) (hT : RowT P T k) (hk : cs.size = k) (hk' : cs'.size = k) (h1 : cs'.all (·.oneCell') = true)
    (h : wpListIn F N P ops Q rest (a.put o.dst undef) (w.setRow B cs')) : wpListIn F N P ops Q (o :: rest) a w :=
  wpListIn_sk hg (by rw [ho]; intro c e; cases e) (by unfold Oper.about; rw [ho]) (by
    unfold execOp
    simp only [ho, hx, hy, Instr.storeAt, Instr.sureAddr, Sem.run_bind, Sem.run_pure, Result.andThen_ok, run_storeVar_row (P := P) w B T T cs cs' hb (by rw [hk']; exact hT.2) (by rw [hk, hk']) h1]) h

/-- What is held while the places are gone through. -/
def PcI (W : World) (B E n m : Nat) (f : Nat → Nat → Int) : Prop :=
  ((Boxed W (B + 1) 3 (.int .i64 0) ∧ Boxed W (B + 1 + 1) 3 (.int .i64 0)) ∧ (Boxed W (B + 1 + 1 + 1) 4 (.bool false) ∧ BX W E 48 (cellV (exF n m f))))
theorem pcI_own {β : Type} (B E n m : Nat) (f : Nat → Nat → Int) : Own (fun (_ : β) W => PcI W B E n m f) := by
  intro s X Y row h hg hrow
  exact ⟨⟨boxed_own (β := β) _ _ (fun _ => _) s X Y row h.1.1 hg hrow, boxed_own (β := β) _ _ (fun _ => _) s X Y row h.1.2 hg hrow⟩, boxed_own (β := β) _ _ (fun _ => _) s X Y row h.2.1 hg hrow, bx_own (β := β) _ _ (fun _ => _) s X Y row h.2.2 hg hrow⟩
theorem exF_pos {n m : Nat} {f : Nat → Nat → Int} {i k : Nat} : 0 < exF n m f i k ↔ excB n m f i k = true := by
  rw [excB_iff]
  unfold exF
  split
  · next c => omega
  · next c => constructor <;> intro h <;> omega

set_option maxRecDepth 100000 in
set_option maxHeartbeats 2000000 in
theorem firstExcess_any (n m : Nat) (f : Nat → Nat → Int) (hn : 1 ≤ n ∧ n ≤ 6) (hm : 1 ≤ m ∧ m ≤ 6) (hf : ∀ i k, i < n → k < m → -1000 ≤ f i k ∧ f i k ≤ 1000) (w : World) :
    Calls Try.prog 29 #[.agg (tabV n m f)] w fun e w' => e = .returned (.tuple (pcV (exAns n m f))) ∧ Below w.heap.size w w' := by
  obtain ⟨B, hB⟩ : ∃ B, w.heap.size = B := ⟨_, rfl⟩
  obtain ⟨W4, hW4⟩ : ∃ W4, (((w.alloc (.cells (tabV n m f) 50)).alloc (.cells #[.int .i64 0] 3)).alloc (.cells #[.int .i64 0] 3)).alloc (.cells #[.bool false] 4) = W4 := ⟨_, rfl⟩
  have bT : BT W4 B n m f := by rw [← hW4, ← hB]; exact (((BT.new w n m f).alloc _).alloc _).alloc _
  have b1 : Boxed W4 (B + 1) 3 (.int .i64 0) := by
    rw [← hW4, ← hB]
    have := Boxed.new (w.alloc (.cells (tabV n m f) 50)) 3 (.int .i64 0)
    rw [World.size_alloc] at this
    exact (this.alloc _).alloc _
  have b2 : Boxed W4 (B + 1 + 1) 3 (.int .i64 0) := by
    rw [← hW4, ← hB]
    have := Boxed.new ((w.alloc (.cells (tabV n m f) 50)).alloc (.cells #[.int .i64 0] 3)) 3 (.int .i64 0)
    rw [World.size_alloc, World.size_alloc] at this
    exact this.alloc _
  have b3 : Boxed W4 (B + 1 + 1 + 1) 4 (.bool false) := by
    rw [← hW4, ← hB]
    have := Boxed.new (((w.alloc (.cells (tabV n m f) 50)).alloc (.cells #[.int .i64 0] 3)).alloc (.cells #[.int .i64 0] 3)) 4 (.bool false)
    rw [World.size_alloc, World.size_alloc, World.size_alloc] at this
    exact this
  have hB4 : Below B w W4 := by rw [← hW4, ← hB]; exact ((((Below.refl _ w).alloc (Nat.le_refl _) _).alloc (by simp) _).alloc (by simp; omega) _).alloc (by simp; omega) _
  have hsz : W4.heap.size = B + 4 := by rw [← hW4, ← hB]; simp
  have HEX := Lib.hid (excess_any n m f hn hm hf)
  have hzc := zeroT_cells
  have rC := rowT_cells
  have hV := cellV_size (exF n m f)
  have hV1 := cellV_one (exF n m f)
  have hZ := cellV_size zF
  have HB := Lib.hid hB
  refine (callsIn_wide (n := 6)).1 ?_
  refine callsIn_of_wp_marks Try.func29 rfl trivial ?_ rfl
  simp only [Try.ntmps29, List.size_toArray, List.length_cons, List.length_nil, Nat.reduceAdd, Nat.reduceSub, Array.replicate_succ, Array.replicate_zero, List.push_toArray, List.append_toArray, List.nil_append, List.cons_append]
  gi_wp2_with (refine wpListIn_ldT rfl _ rfl rfl bT ?_)
  refine ⟨trivial, ?_⟩
  gi_at_call 48
  refine (callsIn_wide.2 (HEX.out _)).mono ?_
  rintro e w1 ⟨rfl, hb1⟩
  have hEB : B + 4 ≤ w1.heap.size := by have := hb1.size; omega
  have bE := BX.new w1 48 (cellV zF)
  have bV := bE.put (cellV (exF n m f))
  have kp : ∀ k, k < w1.heap.size → ((w1.alloc (.cells (cellV zF) 48)).setRow w1.heap.size (cellV (exF n m f))).heap[k]? = w1.heap[k]? := fun k hk => by
    rw [setRow_other _ _ _ _ (by omega)]; exact Below.heap_alloc _ _ _ hk
  have bT5 : BT ((w1.alloc (.cells (cellV zF) 48)).setRow w1.heap.size (cellV (exF n m f))) B n m f := BT.block (bT.grow hb1) (kp B (by omega))
  have b15 : Boxed ((w1.alloc (.cells (cellV zF) 48)).setRow w1.heap.size (cellV (exF n m f))) (B + 1) 3 (.int .i64 0) := (kp _ (by omega)).trans ((hb1.block _ (by omega)).trans b1)
  have b25 : Boxed ((w1.alloc (.cells (cellV zF) 48)).setRow w1.heap.size (cellV (exF n m f))) (B + 1 + 1) 3 (.int .i64 0) := (kp _ (by omega)).trans ((hb1.block _ (by omega)).trans b2)
  have b35 : Boxed ((w1.alloc (.cells (cellV zF) 48)).setRow w1.heap.size (cellV (exF n m f))) (B + 1 + 1 + 1) 4 (.bool false) := (kp _ (by omega)).trans ((hb1.block _ (by omega)).trans b3)
  have hs5 : ((w1.alloc (.cells (cellV zF) 48)).setRow w1.heap.size (cellV (exF n m f))).heap.size = w1.heap.size + 1 := by rw [setRow_size]; simp
  have hB5 : Below B w ((w1.alloc (.cells (cellV zF) 48)).setRow w1.heap.size (cellV (exF n m f))) := below_setRow ((below_then hB4 (by omega) hb1).alloc (by omega) _) (by omega) _
  have HS5 := Lib.hid hs5; have HEB := Lib.hid hEB; have HB5 := Lib.hid hB5; have H15 := Lib.hid b15; have H25 := Lib.hid b25; have H35 := Lib.hid b35; have HV := Lib.hid bV
  clear bT b1 b2 b3 hB4 hsz HEX hb1 kp hW4 hs5 hEB hB5 b15 b25 b35 bV hB
  gi_wp2_with (first | (refine wpListIn_alX rfl rfl hzc ?_) | (refine wpListIn_stX rfl _ _ rfl rfl rfl bE rC hZ hV hV1 ?_) | (refine wpListIn_ldT rfl _ rfl rfl bT5 ?_) | (refine ⟨trivial, ?_⟩; gi_at_call 49; refine (callsIn_wide.2 (spots_any _ _ _ _)).mono ?_; rintro e w' ⟨rfl, rfl⟩))
  have bS := BT.new ((w1.alloc (.cells (cellV zF) 48)).setRow w1.heap.size (cellV (exF n m f))) n m f
  rw [HS5.out] at bS
  have HS := Lib.hid bS
  obtain ⟨W5, hW5⟩ : ∃ W5, (w1.alloc (.cells (cellV zF) 48)).setRow w1.heap.size (cellV (exF n m f)) = W5 := ⟨_, rfl⟩
  obtain ⟨E, hE⟩ : ∃ E, w1.heap.size = E := ⟨_, rfl⟩
  rw [hW5] at HS5 HB5 H15 H25 H35 HV HS
  rw [hW5]
  rw [hE] at HS5 HEB HV HS
  rw [hE]
  clear bS bE bT5 hW5 hE hzc rC hV hV1 hZ hf
  refine wpIn_rangeFunc_ownF (F := Fence.wide) rfl (by decide) (gf := 60) (lb := #[.pointer (some ⟨E + 1, 0, none⟩)]) rfl trivial (enters_of Try.func60 (by kernel_rfl) rfl)
    (spots_pf Fence.wide (6 - 1) trivial rfl (by decide) (E + 1) B n m f hn.2 hm.2 _ HS.out) (fun h1 h2 => KeepAt.trans h1 h2) (keepAt_b (by simp; have := HS5.out; have := HEB.out; omega) (by simp; have := HS5.out; omega)) (Below.refl _ _) (fun _ => rfl)
    (fun pre W => (PcI W B E n m f ∧ ∀ x, x ∈ pre → excB n m f (x.1 / m) (x.1 % m) = false) ∧ Below B w W)
    (fun cd pre W => ((∃ x : Fin (n * m), (Boxed W (B + 1) 3 (.int .i64 ((x.1 / m : Nat) : Int)) ∧ Boxed W (B + 1 + 1) 3 (.int .i64 ((x.1 % m : Nat) : Int))) ∧ Boxed W (B + 1 + 1 + 1) 4 (.bool true) ∧ ∃ ys, pre = ys ++ [x] ∧ (∀ y, y ∈ ys → excB n m f (y.1 / m) (y.1 % m) = false) ∧ excB n m f (x.1 / m) (x.1 % m) = true) ∧ cd = .ret) ∧ Below B w W)
    (OwnFrom.and (OwnFrom.and (Own.from (pcI_own _ _ _ _ _) _) (ownP _ _)) (ownFrom_below (by have := HB.out; omega) (by have := HS5.out; have := HEB.out; simp; omega)))
    (fun cd => OwnFrom.and (OwnFrom.and (fun s X Y row h hg hr => by
        obtain ⟨x, ⟨h1, h2⟩, h3, h4⟩ := h
        exact ⟨x, ⟨(Own.from (boxed_own (β := Unit) _ _ (fun _ => _)) _) () X Y row h1 hg hr, (Own.from (boxed_own (β := Unit) _ _ (fun _ => _)) _) () X Y row h2 hg hr⟩, (Own.from (boxed_own (β := Unit) _ _ (fun _ => _)) _) () X Y row h3 hg hr, h4⟩) (ownP _ _)) (ownFrom_below (by have := HB.out; omega) (by have := HS5.out; have := HEB.out; simp; omega)))
    ⟨⟨⟨⟨H15.out.alloc _, H25.out.alloc _⟩, H35.out.alloc _, HV.out.alloc _⟩, fun x hx => by cases hx⟩, HB5.out.alloc (by have := HS5.out; have := HEB.out; omega) _⟩ ?a1 ?hassign ?hbody ?hdone ?hstop
  case hassign =>
    intro l x W K hK
    go_simp
    repeat (first | gi_guarded | gi_step | gi_upon | gi_in | gi_back)
    exact hK
  case hbody =>
    rintro l pre x W ⟨⟨⟨⟨hI, hK⟩, hF, hX⟩, hok⟩, hBl⟩ hlt
    obtain ⟨hxi, hxk⟩ := spot_lt x
    obtain ⟨i, hie⟩ : ∃ i, x.1 / m = i := ⟨_, rfl⟩
    obtain ⟨k, hke⟩ : ∃ k, x.1 % m = k := ⟨_, rfl⟩
    have ce := hX.cell (i * 6 + k)
    rw [cellV_get _ (by omega) (by omega)] at ce
    have c1 := hI.cell; have c2 := hK.cell; have c3 := hF.cell
    have f1 := hI.frozen; have f2 := hK.frozen; have f3 := hF.frozen
    obtain ⟨y, hy⟩ : ∃ y, exF n m f i k = y := ⟨_, rfl⟩
    have HP : Hid (0 < y ↔ excB n m f (x.1 / m) (x.1 % m) = true) := by
      show _
      rw [hie, hke, ← hy]; exact exF_pos
    have i6 : (i : Int) < 6 := by omega
    have k6 : (k : Int) < 6 := by omega
    have i0 : (0 : Int) ≤ (i : Int) := by omega
    have k0 : (0 : Int) ≤ (k : Int) := by omega
    rw [hy] at ce
    have hie' : ((x.1 : Nat) : Int) / ((m : Nat) : Int) = ((i : Nat) : Int) := by rw [← hie]; simp
    have hke' : ((x.1 : Nat) : Int) % ((m : Nat) : Int) = ((k : Nat) : Int) := by rw [← hke]; simp
    rw [hie', hke']
    have HIE := Lib.hid hie; have HKE := Lib.hid hke
    clear hie' hke'
    have HI := Lib.hid hI; have HK := Lib.hid hK; have HF := Lib.hid hF; have HX := Lib.hid hX; have HBl := Lib.hid hBl; have HOK := Lib.hid hok
    clear hI hK hF hX hBl hok hie hke hxi hxk hy
    have HKP : Hid (∀ W' : World, KeepsOthers W W' → W'.heap = W.heap → KeepAt B (E + 1) W W') := fun W' _ h => ⟨by rw [h]; exact Nat.le_refl _, fun k _ => by rw [h]⟩
    have hd : ∀ q, KeepsOthers W (W.drewN q) := fun q => ⟨Nat.le_refl _, fun _ _ h _ => h⟩
    have HD := Lib.hid hd
    clear hd
    by_cases h1 : 0 < y
    · have HBAD := Lib.hid (HP.out.1 h1)
      clear HP
      gi_wp2_with (rw [Oper.semAt_some l _ _ (by intro c e; cases e)]; go_simp)
      exact ⟨((KeepsOthers.setCell _ _ _).trans (KeepsOthers.setCell _ _ _)).trans (KeepsOthers.setCell _ _ _), ⟨⟨x, ⟨by rw [HIE.out]; exact ((HI.out.set _).other (by omega) _).other (by omega) _, by rw [HKE.out]; exact ((HK.out.other (by omega) _).set _).other (by omega) _⟩, ((HF.out.other (by omega) _).other (by omega) _).set _, pre, rfl, HOK.out, HBAD.out⟩, rfl⟩, ((HBl.out.setCell (p := ⟨B + 1, 0, none⟩) (by show B ≤ B + 1; omega) _).setCell (p := ⟨B + 1 + 1, 0, none⟩) (by show B ≤ B + 1 + 1; omega) _).setCell (p := ⟨B + 1 + 1 + 1, 0, none⟩) (by show B ≤ B + 1 + 1 + 1; omega) _⟩
    · have HGOOD : Hid (excB n m f (x.1 / m) (x.1 % m) = false) := by
        show _
        cases c : excB n m f (x.1 / m) (x.1 % m) with
        | false => rfl
        | true => exact absurd (HP.out.2 c) h1
      clear HP
      gi_wp2_with (rw [Oper.semAt_some l _ _ (by intro c e; cases e)]; go_simp)
      refine ⟨⟨Nat.le_refl _, fun _ _ h _ => h⟩, HKP.out _ ⟨Nat.le_refl _, fun _ _ h _ => h⟩ rfl, ⟨⟨⟨HI.out, HK.out⟩, HF.out, HX.out⟩, fun y hy => ?_⟩, HBl.out⟩
      rcases List.mem_append.1 hy with hy | hy
      · exact HOK.out y hy
      · obtain rfl := List.mem_singleton.1 hy; exact HGOOD.out
  case hdone =>
    rintro D ys W hD rfl ⟨⟨⟨⟨hI, hK⟩, hF, hX⟩, hok⟩, hBl⟩ hK'
    have HM : Hid (exAns n m f = none) := ex_none fun y => hok y (List.mem_finRange y)
    have c1 := hI.cell; have c2 := hK.cell; have c3 := hF.cell
    have f1 := hI.frozen; have f2 := hK.frozen; have f3 := hF.frozen
    have HI := Lib.hid hI; have HK := Lib.hid hK; have HF := Lib.hid hF; have HX := Lib.hid hX; have HBl := Lib.hid hBl; have HK' := Lib.hid hK'
    clear hI hK hF hX hok hBl hK'
    gi_wp2
    have k3 := ((KeepsOthers.setCell W ⟨B + 1, 0, none⟩ (.int .i64 0)).trans (KeepsOthers.setCell _ ⟨B + 1 + 1, 0, none⟩ (.int .i64 0))).trans (KeepsOthers.setCell _ ⟨B + 1 + 1 + 1, 0, none⟩ (.bool false))
    have hk3 := k3.same D _ HK'.out rfl
    have q1 := ((HI.out.set (.int .i64 0)).other (B' := B + 1 + 1) (by omega) (.int .i64 0)).other (B' := B + 1 + 1 + 1) (by omega) (.bool false)
    have q2 := ((HK.out.other (B' := B + 1) (by omega) (.int .i64 0)).set (.int .i64 0)).other (B' := B + 1 + 1 + 1) (by omega) (.bool false)
    have q3 := ((HF.out.other (B' := B + 1) (by omega) (.int .i64 0)).other (B' := B + 1 + 1) (by omega) (.int .i64 0)).set (.bool false)
    have qB := ((HBl.out.setCell (p := ⟨B + 1, 0, none⟩) (by show B ≤ B + 1; omega) (.int .i64 0)).setCell (p := ⟨B + 1 + 1, 0, none⟩) (by show B ≤ B + 1 + 1; omega) (.int .i64 0)).setCell (p := ⟨B + 1 + 1 + 1, 0, none⟩) (by show B ≤ B + 1 + 1 + 1; omega) (.bool false)
    obtain ⟨W3, hW3⟩ : ∃ W3, ((W.setCell ⟨B + 1, 0, none⟩ (.int .i64 0)).setCell ⟨B + 1 + 1, 0, none⟩ (.int .i64 0)).setCell ⟨B + 1 + 1 + 1, 0, none⟩ (.bool false) = W3 := ⟨_, rfl⟩
    rw [hW3] at hk3 q1 q2 q3 qB
    rw [hW3]
    refine ⟨by simp, .inl ⟨_, _, rfl, run_takeDeferred hk3, ?_⟩⟩
    have kc : ∀ {b : Nat} {t : TypeId} {v : Value}, Boxed W3 b t v → (W3.putObj D (.deferred none)).cell? ⟨b, 0, none⟩ = some v := fun h => cell_kept h.cell (grownBy_putObj' _ D (.deferred none)) (fun r e => by cases e; exact ⟨_, hk3, rfl⟩)
    have r1 := kc q1; have r2 := kc q2; have r3 := kc q3
    refine ⟨.tuple #[.int .i64 0, .int .i64 0, .bool false], ?_, ?_, ?_⟩
    · simp [results, Try.f29, go_sem, r1, r2, r3]
    · rw [HM.out]; rfl
    · rw [HB.out]; exact qB.trans (belowK_b (w := w) (by have := HB.out; omega) _ D _ _ (by have := HS5.out; have := HEB.out; have := HB.out; simp at hD; omega) hk3 rfl rfl)
  case hstop =>
    rintro D cd pre W hD hp ⟨⟨⟨x, ⟨hI, hK⟩, hF, ys, rfl, hys, hx⟩, rfl⟩, hBl⟩ hK'
    have HM : Hid (exAns n m f = some (x.1 / m, x.1 % m)) := ex_first hx fun y hy => hys y (by
      rw [finRange_init hp]
      refine List.mem_iff_getElem.2 ⟨y.1, by simp; omega, by simp⟩)
    have HI := Lib.hid hI; have HK := Lib.hid hK; have HF := Lib.hid hF; have HBl := Lib.hid hBl; have HK' := Lib.hid hK'
    clear hI hK hF hBl hys hx hp hK'
    gi_wp2
    refine ⟨by simp, .inl ⟨_, _, rfl, run_takeDeferred HK'.out, ?_⟩⟩
    have kc : ∀ {b : Nat} {t : TypeId} {v : Value}, Boxed W b t v → (W.putObj D (.deferred none)).cell? ⟨b, 0, none⟩ = some v := fun h => cell_kept h.cell (grownBy_putObj' _ D (.deferred none)) (fun r e => by cases e; exact ⟨_, HK'.out, rfl⟩)
    have r1 := kc HI.out; have r2 := kc HK.out; have r3 := kc HF.out
    refine ⟨.tuple #[.int .i64 ((x.1 / m : Nat) : Int), .int .i64 ((x.1 % m : Nat) : Int), .bool true], ?_, ?_, ?_⟩
    · simp [results, Try.f29, go_sem, r1, r2, r3]
    · rw [HM.out]; rfl
    · rw [HB.out]; exact HBl.out.trans (belowK_b (w := w) (by have := HB.out; omega) _ D _ _ (by have := HS5.out; have := HEB.out; have := HB.out; simp at hD; omega) HK'.out rfl rfl)

set_option maxRecDepth 100000 in
set_option maxHeartbeats 1000000 in
theorem implProofCrossed_any (A : Option Addr) (c : Nat) (t : List (List Int)) (w : World) (h : IRR w 0 w.heap.size A t) :
    Calls Try.prog 11 #[.slice A t.length c] w fun e w' => e = .returned (.tuple (pcV (pcM t))) ∧ Below w.heap.size w w' := by
  have H := Lib.hid h
  clear h
  go_enter Try.func11, Try.ntmps11
  go_wp2_with fail
  refine (tableIn_any A c _ _ t _ H.out).mono ?_
  rintro e w1 ⟨n, m, f, rfl, -, hf, hb1⟩
  have bT := BT.new w1 0 0 zF
  obtain ⟨b, hb⟩ : ∃ b, tableB t = b := ⟨_, rfl⟩
  have HBB := Lib.hid hb
  have HB := Lib.hid hb1
  have HF := Lib.hid hf
  rw [hb]
  clear hb1 hb hf
  have bP : BT ((w1.alloc (.cells (tabV 0 0 zF) 50)).setRow w1.heap.size (tabV n m f)) w1.heap.size n m f := bT.put
  cases b with
  | false =>
    have HX : Hid (pcM t = none) := by show _ = _; unfold pcM; rw [HBB.out]; rfl
    clear bP
    go_wp2_with (first | (refine wpList_alT rfl rfl ?_) | (refine wpList_stT rfl _ _ rfl rfl rfl bT ?_))
    go_ret3
    exact ⟨by rw [HX.out]; rfl, below_setRow (HB.out.alloc HB.out.size _) HB.out.size _⟩
  | true =>
    obtain ⟨hsh, bn, bm, bE⟩ := table_sh HBB.out
    obtain ⟨en, em, ef⟩ := HF.out HBB.out
    have HX : Hid (exAns n m f = pcM t) := by
      show _ = _
      unfold pcM
      rw [if_pos HBB.out, en, em]
      exact ex_congr ef
    have HC := Lib.hid (fun W => firstExcess_any n m f (by omega) (by omega) (fun i k hi hk => by rw [ef i k (by omega) (by omega)]; exact bE i k (by omega) (by omega)) W)
    clear hsh bn bm bE en em ef
    go_wp2_with (first | (refine wpList_alT rfl rfl ?_) | (refine wpList_stT rfl _ _ rfl rfl rfl bT ?_) | (refine wpList_ldT rfl _ rfl rfl bP ?_))
    refine (HC.out _).mono ?_
    rintro e w2 ⟨rfl, hb2⟩
    rw [HX.out]
    have HB2 := Lib.hid (below_then (below_setRow (HB.out.alloc HB.out.size (.cells (tabV 0 0 zF) 50)) HB.out.size (tabV n m f)) (Nat.le_refl _) hb2)
    clear hb2 HC HX HF HBB
    cases ho : pcM t with
    | none =>
      have HO := Lib.hid ho
      clear ho
      unfold pcV
      go_wp2
      go_ret3
      exact ⟨by rw [HO.out]; first | rfl | (simp [pcV]; done), HB2.out⟩
    | some p =>
      have HO := Lib.hid ho
      clear ho
      unfold pcV
      go_wp2
      go_ret3
      exact ⟨by rw [HO.out]; first | rfl | (simp [pcV]; done), HB2.out⟩
set_option maxRecDepth 100000 in
theorem implProofCrossed_b (A : Option Addr) (c : Nat) (t : List (List Int)) (w : World) (h : IRR w 0 w.heap.size A t) :
    Calls Try.prog 11 #[.slice A t.length c] w fun e w' => e = .returned (.tuple #[.int .i64 (pcI t), .int .i64 (pcK t), .bool (pcM t).isSome]) ∧ Below w.heap.size w w' :=
  (implProofCrossed_any A c t w h).mono fun _ _ ⟨e, d⟩ => ⟨by rw [e, pcV_is], d⟩
end Go.Proofs.Ytanoojpmokbiaaa
