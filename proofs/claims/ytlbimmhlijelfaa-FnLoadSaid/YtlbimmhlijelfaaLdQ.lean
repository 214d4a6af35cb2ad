/-
  amountsIn, orderIn, load and TableLoad of the program. Conditions: the cells are there.
-/
import Derived.Test.YtlbimmhlijelfaaLdP
namespace Go.Proofs.Ytlbimmhlijelfaa
open Go.RowKit
attribute [local go_sem] Oper.semAt_some

set_option maxRecDepth 100000 in
theorem resX2 {P : Program} {fn : Func} {p q : Tmp} {T : TypeId} (h : fn.results = #[.cell p T, .tmp q]) (tmps : Array Value) (W : World) {B k : Nat} {cs : Array Value} {v : Value} (hp : tmps.getD p undef = .pointer (some ⟨B, 0, none⟩)) (hq : tmps.getD q undef = v) (hb : BX W B T cs) (hT : RowT P T k) (hk : cs.size = k) :
    (results fn tmps).run P W = .ok (.tuple #[.agg cs, v]) W := by
  have hp' : tmps[p]?.getD undef = .pointer (some ⟨B, 0, none⟩) := by simpa using hp
  have hq' : tmps[q]?.getD undef = v := by simpa using hq
  simp [results, h, hp', hq', asAddr, hb.loadV hT hk]
set_option maxRecDepth 100000 in
theorem resTX3 {fn : Func} {p q r : Tmp} {T : TypeId} (h : fn.results = #[.cell p 56, .cell q T, .tmp r]) (tmps : Array Value) (W : World) {B B2 k n m : Nat} {f : Nat → Nat → Int} {cs : Array Value} {v : Value} (hp : tmps.getD p undef = .pointer (some ⟨B, 0, none⟩)) (hq : tmps.getD q undef = .pointer (some ⟨B2, 0, none⟩)) (hr : tmps.getD r undef = v) (hb : BT W B n m f) (hx : BX W B2 T cs) (hT : RowT Try.prog T k) (hk : cs.size = k) :
    (results fn tmps).run Try.prog W = .ok (.tuple #[.agg (tabV n m f), .agg cs, v]) W := by
  have hp' : tmps[p]?.getD undef = .pointer (some ⟨B, 0, none⟩) := by simpa using hp
  have hq' : tmps[q]?.getD undef = .pointer (some ⟨B2, 0, none⟩) := by simpa using hq
  have hr' : tmps[r]?.getD undef = v := by simpa using hr
  simp [results, h, hp', hq', hr', asAddr, hb.loadV, hx.loadV hT hk]

/-- What amountsIn tells. -/
def amOk (zs : List Int) (n : Int) : Bool := decide ((zs.length : Int) = n) && am9 zs
def AmRet (w : World) (ok : Bool) (zs : List Int) (e : Ending) (w' : World) : Prop :=
  ∃ g, e = .returned (.tuple #[.agg (amV g), .bool ok]) ∧ (ok = true → ∀ j, g j = zs.getD j 0) ∧ Below w.heap.size w w'
def amL (zs : List Int) (k : Nat) : Nat → Int := fun j => if j < k then zs.getD j 0 else 0
theorem amL_zero (zs : List Int) : amL zs 0 = fun _ => 0 := by funext j; exact if_neg (Nat.not_lt_zero _)
theorem amL_step {zs : List Int} {k : Nat} (h : k < zs.length) : amV (fun j => if j = k then zs[k] else amL zs k j) = amV (amL zs (k + 1)) := amV_congr fun j _ => by
  unfold amL
  by_cases e : j = k
  · subst e
    rw [if_pos rfl, if_pos (Nat.lt_succ_self _)]
    simp [List.getD, h]
  · rw [if_neg e]
    by_cases c : j < k
    · rw [if_pos c, if_pos (by omega)]
    · rw [if_neg c, if_neg (by omega)]
theorem amL_all {zs : List Int} (j : Nat) : amL zs zs.length j = zs.getD j 0 := by
  unfold amL
  by_cases c : j < zs.length
  · rw [if_pos c]
  · rw [if_neg c]; simp [List.getD, List.getElem?_eq_none (Nat.le_of_not_lt c)]

set_option maxRecDepth 100000 in
set_option maxHeartbeats 2000000 in
theorem amountsIn_any (A : Option Addr) (c lo hi : Nat) (zs : List Int) (n : Nat) (hn6 : n ≤ 6) (w : World) (h : IR w lo hi A zs) :
    Calls Try.prog 66 #[.slice A zs.length c, .int .i64 (n : Int)] w (AmRet w (amOk zs n) zs) := by
  have hz := zeroT_am
  have b0 : Below w.heap.size w ((w.alloc (.cells (amV fun _ => 0) 57)).alloc (.cells (amV fun _ => 0) 57)) := ((Below.refl _ w).alloc (Nat.le_refl _) _).alloc (by simp) _
  have hbr := (BX.new w 57 (amV fun _ => 0)).alloc (.cells (amV fun _ => 0) 57)
  have hbx := BX.new (w.alloc (.cells (amV fun _ => 0) 57)) 57 (amV fun _ => 0)
  rw [World.size_alloc] at hbx
  obtain ⟨Z, hZ⟩ : ∃ V, (amV fun _ => 0) = V := ⟨_, rfl⟩
  have HZ := Lib.hid hZ
  have HZS : Hid (Z.size = 6) := Lib.hid (by rw [← hZ]; exact amV_size _)
  have HZO : Hid (Z.all (·.oneCell') = true) := Lib.hid (by rw [← hZ]; exact amV_one _)
  rw [hZ] at hz b0 hbr hbx
  obtain ⟨W0, hW0⟩ : ∃ W, (w.alloc (.cells Z 57)).alloc (.cells Z 57) = W := ⟨_, rfl⟩
  rw [hW0] at b0 hbr hbx
  have H := Lib.hid (h.below b0 h.2.2.1)
  have HHI := Lib.hid h.2.2.1
  have HB := Lib.hid b0; have HR := Lib.hid hbr; have HX := Lib.hid hbx
  have hl := h.1
  obtain ⟨N, hN⟩ : ∃ N, zs.length = N := ⟨_, rfl⟩
  have HN := Lib.hid hN
  rw [hN] at hl
  rw [hN]
  clear hZ b0 hbr h hN
  go_enter Try.func66, Try.ntmps66
  by_cases hne : N = n
  · subst hne
    have hss : W0 = W0 := rfl
    go_wp2_with (first | (refine wpList_alX rfl rfl hz ?_; rw [hW0]) | (refine wpList_alX rfl rfl hz ?_))
    clear hW0 hz hbx hss
    go_loopw [7, 8, 16] (fun _ _ x wr => ∃ k : Nat, k ≤ N ∧ x = .int .i64 (k : Int) ∧ BX wr w.heap.size 57 Z ∧ BX wr (w.heap.size + 1) 57 (amV (amL zs k)) ∧ Below w.heap.size w wr ∧ IR wr lo hi A zs ∧ Hid (∀ (j : Nat) (hj : j < zs.length), j < k → inB 0 9 zs[j] = true)) (fun _ _ x _ => N - (intOf x).toNat)
    case atStart => exact ⟨0, Nat.zero_le _, rfl, HR.out, by rw [amL_zero, HZ.out]; exact HX.out, HB.out, H.out, fun j _ h => by omega⟩
    case round =>
      clear HR HX HB H
      obtain ⟨k, hk, rfl, hr, hx, hb, hi', hok⟩ := hrel
      have HR := Lib.hid hr; have HX := Lib.hid hx; have HB := Lib.hid hb; have H := Lib.hid hi'
      clear hr hb hi'
      by_cases hlt : k < N
      · have hlt' : (k : Int) < (N : Int) := by omega
        have k0 : (0 : Int) ≤ (k : Int) := by omega
        have k6 : (k : Int) < 6 := by omega
        have hkz : k < zs.length := by rw [HN.out]; exact hlt
        obtain ⟨b1, o1, hA1, _, _, hci⟩ := H.out.at_ hkz
        have HNO := Lib.hid (am9_no hkz)
        have hst := amL_step hkz
        have hx2 := hx.set_ k (.int .i64 zs[k])
        rw [amV_set, hst] at hx2
        have cX := hx.cell k
        rw [amV_get _ (show k < 6 by omega)] at cX
        have fX := hx.frozen k
        have HZK : Hid (∀ y, zs[k] = y → inB 0 9 y = true → inB 0 9 zs[k] = true) := fun y e h => by rw [e]; exact h
        obtain ⟨z, hz⟩ : ∃ z, zs[k] = z := ⟨_, rfl⟩
        have HZE := Lib.hid hz
        rw [hz] at hci HNO hx2
        have HX2 := Lib.hid hx2
        obtain ⟨y0, hy0⟩ : ∃ y, amL zs k k = y := ⟨_, rfl⟩
        rw [hy0] at cX
        have HOK := hok
        have HX := Lib.hid hx
        clear hz hst hx2 hok hx hy0
        subst hA1
        by_cases hzz : 0 ≤ z ∧ z ≤ 9
        · have z1 : ¬ z < 0 := by omega
          have z2 : ¬ 9 < z := by omega
          have HR2 := Lib.hid (HR.out.other (p := ⟨w.heap.size + 1, k, none⟩) (by simp) (.int .i64 z))
          have HB2 := Lib.hid (HB.out.setCell (p := ⟨w.heap.size + 1, k, none⟩) (Nat.le_add_right _ _) (.int .i64 z))
          have HH2 := Lib.hid (H.out.below ((Below.refl w.heap.size wr).setCell (p := ⟨w.heap.size + 1, k, none⟩) (Nat.le_add_right _ _) (.int .i64 z)) HHI.out)
          go_wp2
          go_roundw
          case rel =>
            refine ⟨k + 1, by omega, by go_num, HR2.out, HX2.out, HB2.out, HH2.out, fun j hj h => ?_⟩
            by_cases e : j = k
            · subst e; exact HZK.out z HZE.out (inB_true.2 hzz)
            · exact HOK.out j hj (by omega)
          case measure => simp [intOf]; omega
        · have HOB := Lib.hid (HNO.out (by
            cases hb : inB 0 9 z with
            | false => rfl
            | true => exact absurd (inB_true.1 hb) hzz))
          have HOO : Hid (amOk zs (N : Int) = false) := by show _ = _; unfold amOk; rw [HOB.out]; simp
          obtain ⟨V, hV⟩ : ∃ V, amV (amL zs k) = V := ⟨_, rfl⟩
          have hxx := HX.out
          rw [hV] at hxx
          have HV := Lib.hid hV
          have HVS : Hid (V.size = 6) := Lib.hid (by rw [← hV]; exact amV_size _)
          have HVO : Hid (V.all (·.oneCell') = true) := Lib.hid (by rw [← hV]; exact amV_one _)
          have hrr := HR.out
          have HBR := Lib.hid (below_setRow HB.out (Nat.le_refl _) V)
          clear hV
          by_cases z1 : z < 0
          · go_wp2_with (first | (refine wpList_ldX rfl _ rfl rfl hxx rowT_am HVS.out ?_) | (refine wpList_stX rfl _ _ rfl rfl rfl hrr rowT_am HZS.out HVS.out HVO.out ?_))
            refine bodyPost_ret (v := .tuple #[.agg V, .bool false]) (resX2 rfl _ _ (by kernel_rfl) (by kernel_rfl) (hrr.put V) rowT_am HVS.out) rfl ?_
            rw [HOO.out, ← HV.out]
            exact ⟨_, rfl, fun e => by simp at e, by rw [HV.out]; exact HBR.out⟩
          · have z2 : 9 < z := by omega
            go_wp2_with (first | (refine wpList_ldX rfl _ rfl rfl hxx rowT_am HVS.out ?_) | (refine wpList_stX rfl _ _ rfl rfl rfl hrr rowT_am HZS.out HVS.out HVO.out ?_))
            refine bodyPost_ret (v := .tuple #[.agg V, .bool false]) (resX2 rfl _ _ (by kernel_rfl) (by kernel_rfl) (hrr.put V) rowT_am HVS.out) rfl ?_
            rw [HOO.out, ← HV.out]
            exact ⟨_, rfl, fun e => by simp at e, by rw [HV.out]; exact HBR.out⟩
      · obtain rfl : k = N := by omega
        have hlt' : ¬ (k : Int) < (k : Int) := by omega
        have HOO : Hid (amOk zs (k : Int) = true) := by
          show _ = _
          unfold amOk
          rw [am9_yes fun j hj => hok.out j hj (by rw [← HN.out]; exact hj), HN.out]; simp
        obtain ⟨V, hV⟩ : ∃ V, amV (amL zs k) = V := ⟨_, rfl⟩
        have hxx := hx
        rw [hV] at hxx
        have HV := Lib.hid hV
        have HVS : Hid (V.size = 6) := Lib.hid (by rw [← hV]; exact amV_size _)
        have HVO : Hid (V.all (·.oneCell') = true) := Lib.hid (by rw [← hV]; exact amV_one _)
        have hrr := HR.out
        have HBR := Lib.hid (below_setRow HB.out (Nat.le_refl _) V)
        clear hV hx hok HX
        go_wp2_with (first | (refine wpList_ldX rfl _ rfl rfl hxx rowT_am HVS.out ?_) | (refine wpList_stX rfl _ _ rfl rfl rfl hrr rowT_am HZS.out HVS.out HVO.out ?_))
        refine bodyPost_ret (v := .tuple #[.agg V, .bool true]) (resX2 rfl _ _ (by kernel_rfl) (by kernel_rfl) (hrr.put V) rowT_am HVS.out) rfl ?_
        rw [HOO.out, ← HV.out]
        exact ⟨_, rfl, fun _ j => by rw [← HN.out]; exact amL_all j, by rw [HV.out]; exact HBR.out⟩
  · have HOO : Hid (amOk zs (n : Int) = false) := by
      show _ = _
      unfold amOk
      rw [HN.out, decide_eq_false (by omega)]; rfl
    have hne' : ¬ (N : Int) = (n : Int) := by omega
    have hneb : ((N : Int) == (n : Int)) = false := by rw [beq_eq_false_iff_ne]; exact hne'
    have hrr := HR.out
    have HBR := Lib.hid (below_setRow HB.out (Nat.le_refl _) Z)
    go_wp2_with (first | (refine wpList_alX rfl rfl hz ?_; rw [hW0]) | (refine wpList_alX rfl rfl hz ?_) | (refine wpList_ldX rfl _ rfl rfl hbx rowT_am HZS.out ?_) | (refine wpList_stX rfl _ _ rfl rfl rfl hrr rowT_am HZS.out HZS.out HZO.out ?_))
    refine bodyPost_ret (v := .tuple #[.agg Z, .bool false]) (resX2 rfl _ _ (by kernel_rfl) (by kernel_rfl) (hrr.put Z) rowT_am HZS.out) rfl ?_
    rw [HOO.out, ← HZ.out]
    exact ⟨_, rfl, fun e => by simp at e, by rw [HZ.out]; exact HBR.out⟩

set_option maxRecDepth 100000 in
theorem wp_stX {P : Program} {o : Oper} {a : Act} {w : World} {K : Act → World → Prop} {Q : Exit → Act → World → Prop} {x y : Operand} {T : TypeId} (ho : o.op = .store T x y) {B k : Nat} {cs cs' : Array Value} (hx : a.eval x = .pointer (some ⟨B, 0, none⟩)) (hy : a.eval y = .agg cs') (hb : BX w B T cs) (hT : RowT P T k) (hk : cs.size = k) (hk' : cs'.size = k) (h1 : cs'.all (·.oneCell') = true)
    (h : K (a.put o.dst undef) (w.setRow B cs')) : WpS P o a w K Q := by
  refine ⟨?_⟩
  exact wp_store_row _ x y ho B _ hx hy _ _ hb (by rw [hk']; exact hT.2) (by rw [hk, hk']) h1 h
set_option maxRecDepth 100000 in
theorem run_bu2X {P : Program} {o : Oper} {ρ : Operand → Value} {w : World} {T : TypeId} {x y : Operand} (ho : o.op = .build T #[(0, x), (1, y)]) {V1 V2 : Value} {U : Array Value} (hx : ρ x = V1) (hy : ρ y = V2) (hb : P.built T [(0, V1), (1, V2)] = some U) : (execOp ρ o).run P w = .ok (.value (.agg U)) w := by
  unfold execOp
  simp only [ho, Sem.run_bind, List.map_toArray, List.map_cons, List.map_nil, hx, hy, run_build w _ _ _ hb, Result.andThen_ok, Sem.run_pure]

/-- What orderIn tells. -/
def OrdRet (w : World) (ok : Bool) (t : List (List Int)) (a b : List Int) (e : Ending) (w' : World) : Prop :=
  ∃ n m f g h, e = .returned (.tuple #[.agg (tabV n m f), .agg (ordV g h), .bool ok]) ∧ (n ≤ 6 ∧ m ≤ 6) ∧ (ok = true → n = t.length ∧ m = colsN t ∧ (∀ i k, i < t.length → k < colsN t → f i k = ent t i k) ∧ (∀ j, g j = a.getD j 0) ∧ ∀ j, h j = b.getD j 0) ∧ Below w.heap.size w w'
theorem sum6 {a : List Int} (h : a.length ≤ 6) : sumN (fun j => a.getD j 0) 6 = a.sum := by
  rw [← sumTo_all]
  unfold sumTo
  have key : ∀ d, sumN (fun j => a.getD j 0) (a.length + d) = sumN (fun j => a.getD j 0) a.length := by
    intro d
    induction d with
    | zero => rfl
    | succ d ih =>
      rw [← Nat.add_assoc, sumN, ih]
      simp [List.getD]
  have := key (6 - a.length)
  rw [show a.length + (6 - a.length) = 6 by omega] at this
  exact this
theorem amounts_ok {t : List (List Int)} {a b : List Int} (ht : tableB t = true) : amountsB t a b = (amOk a (t.length : Int) && amOk b (colsN t : Int) && decide (a.sum = b.sum)) := by
  rw [amountsB_of, ht]
  unfold amOk
  have e1 : decide (a.length = t.length) = decide ((a.length : Int) = (t.length : Int)) := by rw [Bool.eq_iff_iff, decide_eq_true_eq, decide_eq_true_eq]; omega
  have e2 : decide (b.length = colsN t) = decide ((b.length : Int) = (colsN t : Int)) := by rw [Bool.eq_iff_iff, decide_eq_true_eq, decide_eq_true_eq]; omega
  rw [e1, e2]
  cases decide ((a.length : Int) = (t.length : Int)) <;> cases decide ((b.length : Int) = (colsN t : Int)) <;> cases am9 a <;> cases am9 b <;> rfl
theorem amOk_true {zs : List Int} {n : Nat} (h : amOk zs (n : Int) = true) : zs.length = n ∧ ∀ j, 0 ≤ zs.getD j 0 ∧ zs.getD j 0 ≤ 9 := by
  unfold amOk am9 at h
  rw [Bool.and_eq_true, decide_eq_true_eq, List.all_eq_true] at h
  refine ⟨by omega, fun j => ?_⟩
  by_cases e : j < zs.length
  · have := h.2 zs[j] (List.getElem_mem e)
    rw [decide_eq_true_eq] at this
    rw [show zs.getD j 0 = zs[j] by simp [List.getD, e]]; exact this
  · rw [show zs.getD j 0 = 0 by simp [List.getD, List.getElem?_eq_none (Nat.le_of_not_lt e)]]; omega

set_option maxRecDepth 100000 in
set_option maxHeartbeats 4000000 in
theorem orderIn_any (A : Option Addr) (c lo hi : Nat) (t : List (List Int)) (A1 : Option Addr) (c1 lo1 hi1 : Nat) (a : List Int) (A2 : Option Addr) (c2 lo2 hi2 : Nat) (b : List Int) (w : World) (h : IRR w lo hi A t) (h1 : IR w lo1 hi1 A1 a) (h2 : IR w lo2 hi2 A2 b) :
    Calls Try.prog 40 #[.slice A t.length c, .slice A1 a.length c1, .slice A2 b.length c2] w (OrdRet w (amountsB t a b) t a b) := by
  have hzo := zeroT_ord
  obtain ⟨Z, hZ⟩ : ∃ V, (ordV (fun _ => 0) fun _ => 0) = V := ⟨_, rfl⟩
  have HZS : Hid (Z.size = 12) := Lib.hid (by rw [← hZ]; exact ordV_size _ _)
  rw [hZ] at hzo
  have hza := zeroT_am
  obtain ⟨Y, hY⟩ : ∃ V, (amV fun _ => 0) = V := ⟨_, rfl⟩
  have HYS : Hid (Y.size = 6) := Lib.hid (by rw [← hY]; exact amV_size _)
  rw [hY] at hza
  clear hZ hY
  have b0 : Below w.heap.size w ((w.alloc (.cells (tabV 0 0 zF) 56)).alloc (.cells Z 59)) := ((Below.refl _ w).alloc (Nat.le_refl _) _).alloc (by simp) _
  have ht0 := (BT.new w 0 0 zF).alloc (.cells Z 59)
  have hx0 := BX.new (w.alloc (.cells (tabV 0 0 zF) 56)) 59 Z
  rw [World.size_alloc] at hx0
  obtain ⟨W0, hW0⟩ : ∃ W, (w.alloc (.cells (tabV 0 0 zF) 56)).alloc (.cells Z 59) = W := ⟨_, rfl⟩
  rw [hW0] at b0 ht0 hx0
  have H := Lib.hid (h.below b0 h.2.1)
  have HA := Lib.hid (h1.below b0 h1.2.2.1)
  have HBB := Lib.hid (h2.below b0 h2.2.2.1)
  have hs0 : w.heap.size + 2 ≤ W0.heap.size := by rw [← hW0]; simp
  have HB := Lib.hid b0; have HT := Lib.hid ht0; have HX := Lib.hid hx0
  clear b0 ht0 hx0 h h1 h2
  go_enter Try.func40, Try.ntmps40
  go_wp2_with (first | (refine wpList_alX rfl rfl hzo ?_; rw [hW0]) | (refine wpList_alT rfl rfl ?_) | (refine wpList_alX rfl rfl hzo ?_))
  clear hW0 hzo
  refine (tableIn_any A c _ _ t _ H.out).mono ?_
  rintro e w1 ⟨n, m, f, rfl, ⟨hn6, hm6⟩, hf, hb1⟩
  have hs1 := hb1.size
  replace HB := Lib.hid (HB.out.trans (hb1.mono (by omega)))
  replace HT := Lib.hid (HT.out.grow hb1); replace HX := Lib.hid (HX.out.grow hb1); replace HA := Lib.hid (HA.out.grow hb1); replace HBB := Lib.hid (HBB.out.grow hb1)
  have HF := Lib.hid hf
  clear hb1 hf H
  have bT := BT.new w1 0 0 zF
  have bT2 : BT ((w1.alloc (.cells (tabV 0 0 zF) 56)).setRow w1.heap.size (tabV n m f)) w1.heap.size n m f := bT.put
  have bB2 := below_setRow ((Below.refl w1.heap.size w1).alloc (Nat.le_refl _) (.cells (tabV 0 0 zF) 56)) (Nat.le_refl _) (tabV n m f)
  obtain ⟨W2, hW2⟩ : ∃ W2, (w1.alloc (.cells (tabV 0 0 zF) 56)).setRow w1.heap.size (tabV n m f) = W2 := ⟨_, rfl⟩
  rw [hW2] at bT2 bB2
  have hsW2 : w1.heap.size + 1 ≤ W2.heap.size := bT2.lt
  replace HB := Lib.hid (HB.out.trans (bB2.mono (by omega)))
  replace HT := Lib.hid (HT.out.grow bB2); replace HX := Lib.hid (HX.out.grow bB2); replace HA := Lib.hid (HA.out.grow bB2); replace HBB := Lib.hid (HBB.out.grow bB2)
  have r1 := bT2.rows
  have HT2 := Lib.hid bT2
  clear bB2 bT2
  obtain ⟨p, hp⟩ : ∃ p, tableB t = p := ⟨_, rfl⟩
  rw [hp] at HF
  have HP := Lib.hid hp
  rw [hp]
  clear hp
  go_wp2_with (first | (refine wpList_alT rfl rfl ?_) | (refine wpList_stT rfl _ _ rfl rfl rfl bT ?_; rw [hW2]))
  clear hW2 r1 bT
  refine (amountsIn_any A1 c1 _ _ a n hn6 _ HA.out).mono ?_
  rintro e w2 ⟨g, rfl, hg, hb1⟩
  have hs2 := hb1.size
  replace HB := Lib.hid (HB.out.trans (hb1.mono (by omega)))
  replace HT := Lib.hid (HT.out.grow hb1); replace HX := Lib.hid (HX.out.grow hb1); replace HBB := Lib.hid (HBB.out.grow hb1); replace HT2 := Lib.hid (HT2.out.grow hb1)
  have HG := Lib.hid hg
  clear hb1 hg HA
  obtain ⟨V1, hV1⟩ : ∃ V, amV g = V := ⟨_, rfl⟩
  have HV1 := Lib.hid hV1
  have HV1S : Hid (V1.size = 6) := Lib.hid (by rw [← hV1]; exact amV_size _)
  have HV1O : Hid (V1.all (·.oneCell') = true) := Lib.hid (by rw [← hV1]; exact amV_one _)
  rw [hV1]
  clear hV1
  have bY := BX.new w2 57 Y
  have bY2 := bY.put V1
  have bB2 := below_setRow ((Below.refl w2.heap.size w2).alloc (Nat.le_refl _) (.cells Y 57)) (Nat.le_refl _) V1
  obtain ⟨W3, hW3⟩ : ∃ W2, (w2.alloc (.cells Y 57)).setRow w2.heap.size V1 = W2 := ⟨_, rfl⟩
  rw [hW3] at bY2 bB2
  have hsW3 : w2.heap.size + 1 ≤ W3.heap.size := bY2.lt
  replace HB := Lib.hid (HB.out.trans (bB2.mono (by omega)))
  replace HT := Lib.hid (HT.out.grow bB2); replace HX := Lib.hid (HX.out.grow bB2); replace HBB := Lib.hid (HBB.out.grow bB2); replace HT2 := Lib.hid (HT2.out.grow bB2)
  have HY1 := Lib.hid bY2
  have r2 := HT2.out.cols
  clear bB2 bY2
  obtain ⟨q, hq⟩ : ∃ p, amOk a (n : Int) = p := ⟨_, rfl⟩
  rw [hq] at HG
  have HQ := Lib.hid hq
  rw [hq]
  clear hq
  go_wp2_with (first | (refine wpList_alX rfl rfl hza ?_) | (refine wpList_stX rfl _ _ rfl rfl rfl bY rowT_am HYS.out HV1S.out HV1O.out ?_; rw [hW3]))
  clear hW3 r2 bY
  refine (amountsIn_any A2 c2 _ _ b m hm6 _ HBB.out).mono ?_
  rintro e w3 ⟨h, rfl, hh, hb1⟩
  have hs3 := hb1.size
  replace HB := Lib.hid (HB.out.trans (hb1.mono (by omega)))
  replace HT := Lib.hid (HT.out.grow hb1); replace HX := Lib.hid (HX.out.grow hb1); replace HT2 := Lib.hid (HT2.out.grow hb1); replace HY1 := Lib.hid (HY1.out.grow hb1)
  have HH := Lib.hid hh
  clear hb1 hh HBB
  obtain ⟨V2, hV2⟩ : ∃ V, amV h = V := ⟨_, rfl⟩
  have HV2 := Lib.hid hV2
  have HV2S : Hid (V2.size = 6) := Lib.hid (by rw [← hV2]; exact amV_size _)
  have HV2O : Hid (V2.all (·.oneCell') = true) := Lib.hid (by rw [← hV2]; exact amV_one _)
  rw [hV2]
  clear hV2
  have bY := BX.new w3 57 Y
  have bY2 := bY.put V2
  have bB2 := below_setRow ((Below.refl w3.heap.size w3).alloc (Nat.le_refl _) (.cells Y 57)) (Nat.le_refl _) V2
  obtain ⟨W4, hW4⟩ : ∃ W2, (w3.alloc (.cells Y 57)).setRow w3.heap.size V2 = W2 := ⟨_, rfl⟩
  rw [hW4] at bY2 bB2
  have hsW4 : w3.heap.size + 1 ≤ W4.heap.size := bY2.lt
  replace HB := Lib.hid (HB.out.trans (bB2.mono (by omega)))
  replace HT := Lib.hid (HT.out.grow bB2); replace HX := Lib.hid (HX.out.grow bB2); replace HT2 := Lib.hid (HT2.out.grow bB2); replace HY1 := Lib.hid (HY1.out.grow bB2)
  have HY2 := Lib.hid bY2
  clear bB2 bY2
  obtain ⟨r, hr⟩ : ∃ p, amOk b (m : Int) = p := ⟨_, rfl⟩
  rw [hr] at HH
  have HR := Lib.hid hr
  rw [hr]
  clear hr
  go_wp2_with (first | (refine wpList_alX rfl rfl hza ?_) | (refine wpList_stX rfl _ _ rfl rfl rfl bY rowT_am HYS.out HV2S.out HV2O.out ?_; rw [hW4]))
  --TAIL
  cases p with
  | false =>
    go_wp2
    go_quiet (fail)
    obtain ⟨W5, hW5⟩ : ∃ W, W = W4.drewN nq := ⟨_, rfl⟩
    try rw [← hW5]
    have hd5 : Below W4.heap.size W4 W5 := by rw [hW5]; exact below_drawN (Below.refl _ _) _
    have hs5 := hd5.size
    replace HB := Lib.hid (HB.out.trans (hd5.mono (by omega)))
    replace HT := Lib.hid (HT.out.grow hd5); replace HX := Lib.hid (HX.out.grow hd5); replace HT2 := Lib.hid (HT2.out.grow hd5); replace HY1 := Lib.hid (HY1.out.grow hd5); replace HY2 := Lib.hid (HY2.out.grow hd5)
    clear hW5 hd5
    go_wp2
    obtain ⟨V, hV⟩ : ∃ V, tabV n m f = V := ⟨_, rfl⟩
    obtain ⟨U, hU⟩ : ∃ V, ordV g h = V := ⟨_, rfl⟩
    have hUS : U.size = 12 := by rw [← hU]; exact ordV_size _ _
    have hUO : U.all (·.oneCell') = true := by rw [← hU]; exact ordV_one _ _
    have hbu : Try.prog.built 59 [(0, .agg V1), (1, .agg V2)] = some U := by rw [← hU, ← HV1.out, ← HV2.out]; exact built_ord g h
    have hSS : BT W5 w1.heap.size n m f ∧ BX W5 w2.heap.size 57 V1 ∧ BX W5 w3.heap.size 57 V2 := ⟨HT2.out, HY1.out, HY2.out⟩
    refine wp_region_held_drew (S := fun W => BT W w1.heap.size n m f ∧ BX W w2.heap.size 57 V1 ∧ BX W w3.heap.size 57 V2) (by kernel_rfl) hSS (fun hS => ?_)
    refine anyH_take 0 (v := .agg V) rfl (by kernel_rfl) (by kernel_rfl) (by kernel_rfl) (fun _ _ _ h => h) rfl (fun W hW => by rw [← hV]; exact run_ldT rfl (by kernel_rfl) hW.1) hS ?_
    refine anyH_take 1 (v := .agg V1) rfl (by kernel_rfl) (by kernel_rfl) (by kernel_rfl) (fun _ _ _ h => h) rfl (fun W hW => run_ldX rfl (by kernel_rfl) hW.2.1 rowT_am HV1S.out) hS ?_
    refine anyH_take 2 (v := .agg V2) rfl (by kernel_rfl) (by kernel_rfl) (by kernel_rfl) (fun _ _ _ h => h) rfl (fun W hW => run_ldX rfl (by kernel_rfl) hW.2.2 rowT_am HV2S.out) hS ?_
    refine anyH_take 3 (v := .agg U) rfl (by kernel_rfl) (by kernel_rfl) (by kernel_rfl) (fun _ _ _ h => h) rfl (fun W hW => run_bu2X rfl (by kernel_rfl) (by kernel_rfl) hbu) hS ?_
    refine anyH_take 4 (v := .bool false) rfl (by kernel_rfl) (by kernel_rfl) (by kernel_rfl) (fun _ _ _ h => h) rfl (fun W hW => by kernel_rfl) hS ?_
    refine anyH_one 5 rfl (by kernel_rfl) (by kernel_rfl) ?_
    refine wp_stV (x := .tmp 6) (y := .tmp 49) ?ho hV ?hx ?hy (BT.drew HT.out) ?_
    case ho => rfl
    case hx => kernel_rfl
    case hy => kernel_rfl
    have hR6 : BT (W5.drew.setRow w.heap.size V) w.heap.size n m f := by rw [← hV]; exact BT.put (W := W5.drew) HT.out
    have hX6 : BX (W5.drew.setRow w.heap.size V) (w.heap.size + 1) 59 Z := BX.apart (W := W5.drew) HX.out (by omega) V
    have hS6 : BT (W5.drew.setRow w.heap.size V) w1.heap.size n m f ∧ BX (W5.drew.setRow w.heap.size V) w2.heap.size 57 V1 ∧ BX (W5.drew.setRow w.heap.size V) w3.heap.size 57 V2 :=
      ⟨BT.block (W := W5.drew) HT2.out (setRow_other _ _ _ _ (by omega)), BX.apart (W := W5.drew) HY1.out (by omega) V, BX.apart (W := W5.drew) HY2.out (by omega) V⟩
    have hB6 := below_setRow (below_drawN HB.out 1) (Nat.le_refl _) V
    refine ⟨hS6, ?_⟩
    refine anyH_one 6 rfl (by kernel_rfl) (by kernel_rfl) ?_
    refine wp_stX (x := .tmp 7) (y := .tmp 52) ?ho ?hx ?hy hX6 rowT_ord HZS.out hUS hUO ?_
    case ho => rfl
    case hx => kernel_rfl
    case hy => kernel_rfl
    have hX7 := hX6.put U
    have hR7 : BT ((W5.drew.setRow w.heap.size V).setRow (w.heap.size + 1) U) w.heap.size n m f := hR6.block (setRow_other _ _ _ _ (by omega))
    have hS7 : BT ((W5.drew.setRow w.heap.size V).setRow (w.heap.size + 1) U) w1.heap.size n m f ∧ BX ((W5.drew.setRow w.heap.size V).setRow (w.heap.size + 1) U) w2.heap.size 57 V1 ∧ BX ((W5.drew.setRow w.heap.size V).setRow (w.heap.size + 1) U) w3.heap.size 57 V2 :=
      ⟨hS6.1.block (setRow_other _ _ _ _ (by omega)), hS6.2.1.apart (by omega) U, hS6.2.2.apart (by omega) U⟩
    have hB7 := below_setRow hB6 (Nat.le_add_right _ 1) U
    refine ⟨hS7, ?_⟩
    refine anyH_one 7 rfl (by kernel_rfl) (by kernel_rfl) ?_
    refine wp_value (v := .bool false) (by kernel_rfl) ⟨hS7, ?_⟩
    refine wpAnyH_done (by kernel_rfl) ?_ _
    clear hbu
    go_wp2
    refine bodyPost_ret (v := .tuple #[.agg (tabV n m f), .agg U, .bool false]) (resTX3 rfl _ _ (by kernel_rfl) (by kernel_rfl) (by kernel_rfl) hR7 hX7 rowT_ord hUS) rfl ?_
    show OrdRet _ _ _ _ _ _ _
    have HOK : Hid (amountsB t a b = false) := by show _ = _; rw [amountsB_of, HP.out]; rfl
    have HFIN : Hid (false = true → n = t.length ∧ m = colsN t ∧ (∀ i k, i < t.length → k < colsN t → f i k = ent t i k) ∧ (∀ j, g j = a.getD j 0) ∧ ∀ j, h j = b.getD j 0) := fun e => (by cases e)
    rw [HOK.out, ← hU]
    exact ⟨n, m, f, g, h, rfl, ⟨hn6, hm6⟩, HFIN.out, by rw [hU]; exact hB7⟩
  | true =>
    obtain ⟨en, em, ef⟩ := HF.out rfl
    have HNN := Lib.hid en; have HMM := Lib.hid em; have HFF := Lib.hid ef
    have HAO : Hid (amountsB t a b = (q && r && decide (a.sum = b.sum))) := by show _ = _; rw [amounts_ok HP.out, ← en, ← em, HQ.out, HR.out]
    clear en em ef
    cases q with
    | false =>
      go_wp2
      go_quiet (fail)
      obtain ⟨W5, hW5⟩ : ∃ W, W = W4.drewN nq := ⟨_, rfl⟩
      try rw [← hW5]
      have hd5 : Below W4.heap.size W4 W5 := by rw [hW5]; exact below_drawN (Below.refl _ _) _
      have hs5 := hd5.size
      replace HB := Lib.hid (HB.out.trans (hd5.mono (by omega)))
      replace HT := Lib.hid (HT.out.grow hd5); replace HX := Lib.hid (HX.out.grow hd5); replace HT2 := Lib.hid (HT2.out.grow hd5); replace HY1 := Lib.hid (HY1.out.grow hd5); replace HY2 := Lib.hid (HY2.out.grow hd5)
      clear hW5 hd5
      go_wp2
      obtain ⟨V, hV⟩ : ∃ V, tabV n m f = V := ⟨_, rfl⟩
      obtain ⟨U, hU⟩ : ∃ V, ordV g h = V := ⟨_, rfl⟩
      have hUS : U.size = 12 := by rw [← hU]; exact ordV_size _ _
      have hUO : U.all (·.oneCell') = true := by rw [← hU]; exact ordV_one _ _
      have hbu : Try.prog.built 59 [(0, .agg V1), (1, .agg V2)] = some U := by rw [← hU, ← HV1.out, ← HV2.out]; exact built_ord g h
      have hSS : BT W5 w1.heap.size n m f ∧ BX W5 w2.heap.size 57 V1 ∧ BX W5 w3.heap.size 57 V2 := ⟨HT2.out, HY1.out, HY2.out⟩
      refine wp_region_held_drew (S := fun W => BT W w1.heap.size n m f ∧ BX W w2.heap.size 57 V1 ∧ BX W w3.heap.size 57 V2) (by kernel_rfl) hSS (fun hS => ?_)
      refine anyH_take 0 (v := .agg V) rfl (by kernel_rfl) (by kernel_rfl) (by kernel_rfl) (fun _ _ _ h => h) rfl (fun W hW => by rw [← hV]; exact run_ldT rfl (by kernel_rfl) hW.1) hS ?_
      refine anyH_take 1 (v := .agg V1) rfl (by kernel_rfl) (by kernel_rfl) (by kernel_rfl) (fun _ _ _ h => h) rfl (fun W hW => run_ldX rfl (by kernel_rfl) hW.2.1 rowT_am HV1S.out) hS ?_
      refine anyH_take 2 (v := .agg V2) rfl (by kernel_rfl) (by kernel_rfl) (by kernel_rfl) (fun _ _ _ h => h) rfl (fun W hW => run_ldX rfl (by kernel_rfl) hW.2.2 rowT_am HV2S.out) hS ?_
      refine anyH_take 3 (v := .agg U) rfl (by kernel_rfl) (by kernel_rfl) (by kernel_rfl) (fun _ _ _ h => h) rfl (fun W hW => run_bu2X rfl (by kernel_rfl) (by kernel_rfl) hbu) hS ?_
      refine anyH_take 4 (v := .bool false) rfl (by kernel_rfl) (by kernel_rfl) (by kernel_rfl) (fun _ _ _ h => h) rfl (fun W hW => by kernel_rfl) hS ?_
      refine anyH_one 5 rfl (by kernel_rfl) (by kernel_rfl) ?_
      refine wp_stV (x := .tmp 6) (y := .tmp 49) ?ho hV ?hx ?hy (BT.drew HT.out) ?_
      case ho => rfl
      case hx => kernel_rfl
      case hy => kernel_rfl
      have hR6 : BT (W5.drew.setRow w.heap.size V) w.heap.size n m f := by rw [← hV]; exact BT.put (W := W5.drew) HT.out
      have hX6 : BX (W5.drew.setRow w.heap.size V) (w.heap.size + 1) 59 Z := BX.apart (W := W5.drew) HX.out (by omega) V
      have hS6 : BT (W5.drew.setRow w.heap.size V) w1.heap.size n m f ∧ BX (W5.drew.setRow w.heap.size V) w2.heap.size 57 V1 ∧ BX (W5.drew.setRow w.heap.size V) w3.heap.size 57 V2 :=
        ⟨BT.block (W := W5.drew) HT2.out (setRow_other _ _ _ _ (by omega)), BX.apart (W := W5.drew) HY1.out (by omega) V, BX.apart (W := W5.drew) HY2.out (by omega) V⟩
      have hB6 := below_setRow (below_drawN HB.out 1) (Nat.le_refl _) V
      refine ⟨hS6, ?_⟩
      refine anyH_one 6 rfl (by kernel_rfl) (by kernel_rfl) ?_
      refine wp_stX (x := .tmp 7) (y := .tmp 52) ?ho ?hx ?hy hX6 rowT_ord HZS.out hUS hUO ?_
      case ho => rfl
      case hx => kernel_rfl
      case hy => kernel_rfl
      have hX7 := hX6.put U
      have hR7 : BT ((W5.drew.setRow w.heap.size V).setRow (w.heap.size + 1) U) w.heap.size n m f := hR6.block (setRow_other _ _ _ _ (by omega))
      have hS7 : BT ((W5.drew.setRow w.heap.size V).setRow (w.heap.size + 1) U) w1.heap.size n m f ∧ BX ((W5.drew.setRow w.heap.size V).setRow (w.heap.size + 1) U) w2.heap.size 57 V1 ∧ BX ((W5.drew.setRow w.heap.size V).setRow (w.heap.size + 1) U) w3.heap.size 57 V2 :=
        ⟨hS6.1.block (setRow_other _ _ _ _ (by omega)), hS6.2.1.apart (by omega) U, hS6.2.2.apart (by omega) U⟩
      have hB7 := below_setRow hB6 (Nat.le_add_right _ 1) U
      refine ⟨hS7, ?_⟩
      refine anyH_one 7 rfl (by kernel_rfl) (by kernel_rfl) ?_
      refine wp_value (v := .bool false) (by kernel_rfl) ⟨hS7, ?_⟩
      refine wpAnyH_done (by kernel_rfl) ?_ _
      clear hbu
      go_wp2
      refine bodyPost_ret (v := .tuple #[.agg (tabV n m f), .agg U, .bool false]) (resTX3 rfl _ _ (by kernel_rfl) (by kernel_rfl) (by kernel_rfl) hR7 hX7 rowT_ord hUS) rfl ?_
      show OrdRet _ _ _ _ _ _ _
      have HOK : Hid (amountsB t a b = false) := by show _ = _; rw [HAO.out]; rfl
      have HFIN : Hid (false = true → n = t.length ∧ m = colsN t ∧ (∀ i k, i < t.length → k < colsN t → f i k = ent t i k) ∧ (∀ j, g j = a.getD j 0) ∧ ∀ j, h j = b.getD j 0) := fun e => (by cases e)
      rw [HOK.out, ← hU]
      exact ⟨n, m, f, g, h, rfl, ⟨hn6, hm6⟩, HFIN.out, by rw [hU]; exact hB7⟩
    | true =>
      cases r with
      | false =>
        go_wp2
        go_quiet (fail)
        obtain ⟨W5, hW5⟩ : ∃ W, W = W4.drewN nq := ⟨_, rfl⟩
        try rw [← hW5]
        have hd5 : Below W4.heap.size W4 W5 := by rw [hW5]; exact below_drawN (Below.refl _ _) _
        have hs5 := hd5.size
        replace HB := Lib.hid (HB.out.trans (hd5.mono (by omega)))
        replace HT := Lib.hid (HT.out.grow hd5); replace HX := Lib.hid (HX.out.grow hd5); replace HT2 := Lib.hid (HT2.out.grow hd5); replace HY1 := Lib.hid (HY1.out.grow hd5); replace HY2 := Lib.hid (HY2.out.grow hd5)
        clear hW5 hd5
        go_wp2
        obtain ⟨V, hV⟩ : ∃ V, tabV n m f = V := ⟨_, rfl⟩
        obtain ⟨U, hU⟩ : ∃ V, ordV g h = V := ⟨_, rfl⟩
        have hUS : U.size = 12 := by rw [← hU]; exact ordV_size _ _
        have hUO : U.all (·.oneCell') = true := by rw [← hU]; exact ordV_one _ _
        have hbu : Try.prog.built 59 [(0, .agg V1), (1, .agg V2)] = some U := by rw [← hU, ← HV1.out, ← HV2.out]; exact built_ord g h
        have hSS : BT W5 w1.heap.size n m f ∧ BX W5 w2.heap.size 57 V1 ∧ BX W5 w3.heap.size 57 V2 := ⟨HT2.out, HY1.out, HY2.out⟩
        refine wp_region_held_drew (S := fun W => BT W w1.heap.size n m f ∧ BX W w2.heap.size 57 V1 ∧ BX W w3.heap.size 57 V2) (by kernel_rfl) hSS (fun hS => ?_)
        refine anyH_take 0 (v := .agg V) rfl (by kernel_rfl) (by kernel_rfl) (by kernel_rfl) (fun _ _ _ h => h) rfl (fun W hW => by rw [← hV]; exact run_ldT rfl (by kernel_rfl) hW.1) hS ?_
        refine anyH_take 1 (v := .agg V1) rfl (by kernel_rfl) (by kernel_rfl) (by kernel_rfl) (fun _ _ _ h => h) rfl (fun W hW => run_ldX rfl (by kernel_rfl) hW.2.1 rowT_am HV1S.out) hS ?_
        refine anyH_take 2 (v := .agg V2) rfl (by kernel_rfl) (by kernel_rfl) (by kernel_rfl) (fun _ _ _ h => h) rfl (fun W hW => run_ldX rfl (by kernel_rfl) hW.2.2 rowT_am HV2S.out) hS ?_
        refine anyH_take 3 (v := .agg U) rfl (by kernel_rfl) (by kernel_rfl) (by kernel_rfl) (fun _ _ _ h => h) rfl (fun W hW => run_bu2X rfl (by kernel_rfl) (by kernel_rfl) hbu) hS ?_
        refine anyH_take 4 (v := .bool false) rfl (by kernel_rfl) (by kernel_rfl) (by kernel_rfl) (fun _ _ _ h => h) rfl (fun W hW => by kernel_rfl) hS ?_
        refine anyH_one 5 rfl (by kernel_rfl) (by kernel_rfl) ?_
        refine wp_stV (x := .tmp 6) (y := .tmp 49) ?ho hV ?hx ?hy (BT.drew HT.out) ?_
        case ho => rfl
        case hx => kernel_rfl
        case hy => kernel_rfl
        have hR6 : BT (W5.drew.setRow w.heap.size V) w.heap.size n m f := by rw [← hV]; exact BT.put (W := W5.drew) HT.out
        have hX6 : BX (W5.drew.setRow w.heap.size V) (w.heap.size + 1) 59 Z := BX.apart (W := W5.drew) HX.out (by omega) V
        have hS6 : BT (W5.drew.setRow w.heap.size V) w1.heap.size n m f ∧ BX (W5.drew.setRow w.heap.size V) w2.heap.size 57 V1 ∧ BX (W5.drew.setRow w.heap.size V) w3.heap.size 57 V2 :=
          ⟨BT.block (W := W5.drew) HT2.out (setRow_other _ _ _ _ (by omega)), BX.apart (W := W5.drew) HY1.out (by omega) V, BX.apart (W := W5.drew) HY2.out (by omega) V⟩
        have hB6 := below_setRow (below_drawN HB.out 1) (Nat.le_refl _) V
        refine ⟨hS6, ?_⟩
        refine anyH_one 6 rfl (by kernel_rfl) (by kernel_rfl) ?_
        refine wp_stX (x := .tmp 7) (y := .tmp 52) ?ho ?hx ?hy hX6 rowT_ord HZS.out hUS hUO ?_
        case ho => rfl
        case hx => kernel_rfl
        case hy => kernel_rfl
        have hX7 := hX6.put U
        have hR7 : BT ((W5.drew.setRow w.heap.size V).setRow (w.heap.size + 1) U) w.heap.size n m f := hR6.block (setRow_other _ _ _ _ (by omega))
        have hS7 : BT ((W5.drew.setRow w.heap.size V).setRow (w.heap.size + 1) U) w1.heap.size n m f ∧ BX ((W5.drew.setRow w.heap.size V).setRow (w.heap.size + 1) U) w2.heap.size 57 V1 ∧ BX ((W5.drew.setRow w.heap.size V).setRow (w.heap.size + 1) U) w3.heap.size 57 V2 :=
          ⟨hS6.1.block (setRow_other _ _ _ _ (by omega)), hS6.2.1.apart (by omega) U, hS6.2.2.apart (by omega) U⟩
        have hB7 := below_setRow hB6 (Nat.le_add_right _ 1) U
        refine ⟨hS7, ?_⟩
        refine anyH_one 7 rfl (by kernel_rfl) (by kernel_rfl) ?_
        refine wp_value (v := .bool false) (by kernel_rfl) ⟨hS7, ?_⟩
        refine wpAnyH_done (by kernel_rfl) ?_ _
        clear hbu
        go_wp2
        refine bodyPost_ret (v := .tuple #[.agg (tabV n m f), .agg U, .bool false]) (resTX3 rfl _ _ (by kernel_rfl) (by kernel_rfl) (by kernel_rfl) hR7 hX7 rowT_ord hUS) rfl ?_
        show OrdRet _ _ _ _ _ _ _
        have HOK : Hid (amountsB t a b = false) := by show _ = _; rw [HAO.out]; rfl
        have HFIN : Hid (false = true → n = t.length ∧ m = colsN t ∧ (∀ i k, i < t.length → k < colsN t → f i k = ent t i k) ∧ (∀ j, g j = a.getD j 0) ∧ ∀ j, h j = b.getD j 0) := fun e => (by cases e)
        rw [HOK.out, ← hU]
        exact ⟨n, m, f, g, h, rfl, ⟨hn6, hm6⟩, HFIN.out, by rw [hU]; exact hB7⟩
      | true =>
        have hgg := HG.out rfl
        have hhh := HH.out rfl
        obtain ⟨la, ba⟩ := amOk_true HQ.out
        obtain ⟨lb, bb⟩ := amOk_true HR.out
        have HSA : Hid (sumN g 6 = a.sum) := by show _ = _; rw [show g = fun j => a.getD j 0 from funext hgg]; exact sum6 (by omega)
        have HSB : Hid (sumN h 6 = b.sum) := by show _ = _; rw [show h = fun j => b.getD j 0 from funext hhh]; exact sum6 (by omega)
        have HC1 : Hid (∀ W, Calls Try.prog 44 #[.agg V1] W fun e w' => e = .returned (.int .i64 a.sum) ∧ Below W.heap.size W w') := Lib.hid fun W => by
          rw [← HV1.out, ← HSA.out]; exact amSum_any g (fun j _ => by rw [hgg j]; exact ba j) W
        have HC2 : Hid (∀ W, Calls Try.prog 44 #[.agg V2] W fun e w' => e = .returned (.int .i64 b.sum) ∧ Below W.heap.size W w') := Lib.hid fun W => by
          rw [← HV2.out, ← HSB.out]; exact amSum_any h (fun j _ => by rw [hhh j]; exact bb j) W
        have HGG := Lib.hid hgg; have HHH := Lib.hid hhh
        obtain ⟨x, hx⟩ : ∃ x, a.sum = x := ⟨_, rfl⟩
        obtain ⟨y, hy⟩ : ∃ x, b.sum = x := ⟨_, rfl⟩
        rw [hx] at HC1 HAO
        rw [hy] at HC2 HAO
        clear hgg hhh la ba lb bb hx hy
        have hSS : BX W4 w2.heap.size 57 V1 ∧ BX W4 w3.heap.size 57 V2 := ⟨HY1.out, HY2.out⟩
        refine wp_region_held_drew (S := fun W => BX W w2.heap.size 57 V1 ∧ BX W w3.heap.size 57 V2) (by kernel_rfl) hSS (fun hS => ?_)
        refine anyH_take 0 (v := .bool true) rfl (by kernel_rfl) (by kernel_rfl) (by kernel_rfl) (fun _ _ _ h => h) rfl (fun W hW => by kernel_rfl) hS ?_
        refine anyH_take 1 (v := .bool true) rfl (by kernel_rfl) (by kernel_rfl) (by kernel_rfl) (fun _ _ _ h => h) rfl (fun W hW => by kernel_rfl) hS ?_
        refine anyH_takeW 2 (v := .bool true) rfl (by kernel_rfl) (by kernel_rfl) (by kernel_rfl) (fun _ _ _ h => h) (by kernel_rfl) (fun W hW => by kernel_rfl) hS ?_
        refine anyH_take 3 (v := .bool true) rfl (by kernel_rfl) (by kernel_rfl) (by kernel_rfl) (fun _ _ _ h => h) rfl (fun W hW => by kernel_rfl) hS ?_
        refine anyH_take 4 (v := .bool true) rfl (by kernel_rfl) (by kernel_rfl) (by kernel_rfl) (fun _ _ _ h => h) rfl (fun W hW => by kernel_rfl) hS ?_
        refine anyH_takeW 5 (v := .bool true) rfl (by kernel_rfl) (by kernel_rfl) (by kernel_rfl) (fun _ _ _ h => h) (by kernel_rfl) (fun W hW => by kernel_rfl) hS ?_
        refine anyH_take 6 (v := .bool true) rfl (by kernel_rfl) (by kernel_rfl) (by kernel_rfl) (fun _ _ _ h => h) rfl (fun W hW => by kernel_rfl) hS ?_
        refine anyH_take 7 (v := .bool true) rfl (by kernel_rfl) (by kernel_rfl) (by kernel_rfl) (fun _ _ _ h => h) rfl (fun W hW => by kernel_rfl) hS ?_
        refine anyH_takeW 8 (v := .agg V1) rfl (by kernel_rfl) (by kernel_rfl) (by kernel_rfl) (fun _ _ _ h => h) (by kernel_rfl) (fun W hW => run_ldX rfl (by kernel_rfl) hW.1 rowT_am HV1S.out) hS ?_
        refine anyH_takeW 10 (v := .agg V2) rfl (by kernel_rfl) (by kernel_rfl) (by kernel_rfl) (fun _ _ _ h => h) (by kernel_rfl) (fun W hW => run_ldX rfl (by kernel_rfl) hW.2 rowT_am HV2S.out) hS ?_
        refine anyH_one 9 rfl (by kernel_rfl) (by kernel_rfl) ?_
        refine wp_callF (args := #[.agg V1]) rfl Try.call44 (by kernel_rfl) ?_
        refine (HC1.out _).mono ?_
        rintro e w5 ⟨rfl, hb5⟩
        have hS5 : BX w5 w2.heap.size 57 V1 ∧ BX w5 w3.heap.size 57 V2 := ⟨hS.1.grow hb5, hS.2.grow hb5⟩
        refine ⟨_, rfl, hS5, ?_⟩
        refine anyH_one 11 rfl (by kernel_rfl) (by kernel_rfl) ?_
        refine wp_callF (args := #[.agg V2]) rfl Try.call44 (by kernel_rfl) ?_
        refine (HC2.out _).mono ?_
        rintro e W5 ⟨rfl, hb6⟩
        have hS6 : BX W5 w2.heap.size 57 V1 ∧ BX W5 w3.heap.size 57 V2 := ⟨hS5.1.grow hb6, hS5.2.grow hb6⟩
        refine ⟨_, rfl, hS6, ?_⟩
        obtain ⟨z, hz⟩ : ∃ z, (x == y) = z := ⟨_, rfl⟩
        have HZZ : Hid (decide (x = y) = z) := by show _ = _; rw [← hz, Bool.eq_iff_iff, decide_eq_true_eq, beq_iff_eq]
        refine anyH_takeW 12 (v := .bool z) rfl (by kernel_rfl) (by kernel_rfl) (by kernel_rfl) (fun _ _ _ h => h) (by kernel_rfl) (fun W hW => by rw [← hz]; kernel_rfl) hS6 ?_
        refine anyH_take 13 (v := .bool z) rfl (by kernel_rfl) (by kernel_rfl) (by kernel_rfl) (fun _ _ _ h => h) rfl (fun W hW => by kernel_rfl) hS6 ?_
        refine anyH_one 14 rfl (by kernel_rfl) (by kernel_rfl) ?_
        refine wp_value (v := .bool z) (by kernel_rfl) ⟨hS6, ?_⟩
        refine wpAnyH_done (by kernel_rfl) ?_ _
        have hd5 : Below W4.heap.size W4 W5 := (below_drawN (Below.refl _ W4) 1).trans (hb5.trans (hb6.mono hb5.size))
        have hs5 := hd5.size
        replace HB := Lib.hid (HB.out.trans (hd5.mono (by omega)))
        replace HT := Lib.hid (HT.out.grow hd5); replace HX := Lib.hid (HX.out.grow hd5); replace HT2 := Lib.hid (HT2.out.grow hd5); replace HY1 := Lib.hid (HY1.out.grow hd5); replace HY2 := Lib.hid (HY2.out.grow hd5)
        clear hS hS5 hS6 hb5 hb6 hd5 hSS hz
        go_wp2
        obtain ⟨V, hV⟩ : ∃ V, tabV n m f = V := ⟨_, rfl⟩
        obtain ⟨U, hU⟩ : ∃ V, ordV g h = V := ⟨_, rfl⟩
        have hUS : U.size = 12 := by rw [← hU]; exact ordV_size _ _
        have hUO : U.all (·.oneCell') = true := by rw [← hU]; exact ordV_one _ _
        have hbu : Try.prog.built 59 [(0, .agg V1), (1, .agg V2)] = some U := by rw [← hU, ← HV1.out, ← HV2.out]; exact built_ord g h
        have hSS : BT W5 w1.heap.size n m f ∧ BX W5 w2.heap.size 57 V1 ∧ BX W5 w3.heap.size 57 V2 := ⟨HT2.out, HY1.out, HY2.out⟩
        refine wp_region_held_drew (S := fun W => BT W w1.heap.size n m f ∧ BX W w2.heap.size 57 V1 ∧ BX W w3.heap.size 57 V2) (by kernel_rfl) hSS (fun hS => ?_)
        refine anyH_take 0 (v := .agg V) rfl (by kernel_rfl) (by kernel_rfl) (by kernel_rfl) (fun _ _ _ h => h) rfl (fun W hW => by rw [← hV]; exact run_ldT rfl (by kernel_rfl) hW.1) hS ?_
        refine anyH_take 1 (v := .agg V1) rfl (by kernel_rfl) (by kernel_rfl) (by kernel_rfl) (fun _ _ _ h => h) rfl (fun W hW => run_ldX rfl (by kernel_rfl) hW.2.1 rowT_am HV1S.out) hS ?_
        refine anyH_take 2 (v := .agg V2) rfl (by kernel_rfl) (by kernel_rfl) (by kernel_rfl) (fun _ _ _ h => h) rfl (fun W hW => run_ldX rfl (by kernel_rfl) hW.2.2 rowT_am HV2S.out) hS ?_
        refine anyH_take 3 (v := .agg U) rfl (by kernel_rfl) (by kernel_rfl) (by kernel_rfl) (fun _ _ _ h => h) rfl (fun W hW => run_bu2X rfl (by kernel_rfl) (by kernel_rfl) hbu) hS ?_
        refine anyH_take 4 (v := .bool z) rfl (by kernel_rfl) (by kernel_rfl) (by kernel_rfl) (fun _ _ _ h => h) rfl (fun W hW => by kernel_rfl) hS ?_
        refine anyH_one 5 rfl (by kernel_rfl) (by kernel_rfl) ?_
        refine wp_stV (x := .tmp 6) (y := .tmp 49) ?ho hV ?hx ?hy (BT.drew HT.out) ?_
        case ho => rfl
        case hx => kernel_rfl
        case hy => kernel_rfl
        have hR6 : BT (W5.drew.setRow w.heap.size V) w.heap.size n m f := by rw [← hV]; exact BT.put (W := W5.drew) HT.out
        have hX6 : BX (W5.drew.setRow w.heap.size V) (w.heap.size + 1) 59 Z := BX.apart (W := W5.drew) HX.out (by omega) V
        have hS6 : BT (W5.drew.setRow w.heap.size V) w1.heap.size n m f ∧ BX (W5.drew.setRow w.heap.size V) w2.heap.size 57 V1 ∧ BX (W5.drew.setRow w.heap.size V) w3.heap.size 57 V2 :=
          ⟨BT.block (W := W5.drew) HT2.out (setRow_other _ _ _ _ (by omega)), BX.apart (W := W5.drew) HY1.out (by omega) V, BX.apart (W := W5.drew) HY2.out (by omega) V⟩
        have hB6 := below_setRow (below_drawN HB.out 1) (Nat.le_refl _) V
        refine ⟨hS6, ?_⟩
        refine anyH_one 6 rfl (by kernel_rfl) (by kernel_rfl) ?_
        refine wp_stX (x := .tmp 7) (y := .tmp 52) ?ho ?hx ?hy hX6 rowT_ord HZS.out hUS hUO ?_
        case ho => rfl
        case hx => kernel_rfl
        case hy => kernel_rfl
        have hX7 := hX6.put U
        have hR7 : BT ((W5.drew.setRow w.heap.size V).setRow (w.heap.size + 1) U) w.heap.size n m f := hR6.block (setRow_other _ _ _ _ (by omega))
        have hS7 : BT ((W5.drew.setRow w.heap.size V).setRow (w.heap.size + 1) U) w1.heap.size n m f ∧ BX ((W5.drew.setRow w.heap.size V).setRow (w.heap.size + 1) U) w2.heap.size 57 V1 ∧ BX ((W5.drew.setRow w.heap.size V).setRow (w.heap.size + 1) U) w3.heap.size 57 V2 :=
          ⟨hS6.1.block (setRow_other _ _ _ _ (by omega)), hS6.2.1.apart (by omega) U, hS6.2.2.apart (by omega) U⟩
        have hB7 := below_setRow hB6 (Nat.le_add_right _ 1) U
        refine ⟨hS7, ?_⟩
        refine anyH_one 7 rfl (by kernel_rfl) (by kernel_rfl) ?_
        refine wp_value (v := .bool z) (by kernel_rfl) ⟨hS7, ?_⟩
        refine wpAnyH_done (by kernel_rfl) ?_ _
        clear hbu
        go_wp2
        refine bodyPost_ret (v := .tuple #[.agg (tabV n m f), .agg U, .bool z]) (resTX3 rfl _ _ (by kernel_rfl) (by kernel_rfl) (by kernel_rfl) hR7 hX7 rowT_ord hUS) rfl ?_
        show OrdRet _ _ _ _ _ _ _
        have HOK : Hid (amountsB t a b = z) := by show _ = _; rw [HAO.out, HZZ.out]; rfl
        have HFIN : Hid (z = true → n = t.length ∧ m = colsN t ∧ (∀ i k, i < t.length → k < colsN t → f i k = ent t i k) ∧ (∀ j, g j = a.getD j 0) ∧ ∀ j, h j = b.getD j 0) := fun _ => ⟨HNN.out, HMM.out, HFF.out, HGG.out, HHH.out⟩
        rw [HOK.out, ← hU]
        exact ⟨n, m, f, g, h, rfl, ⟨hn6, hm6⟩, HFIN.out, by rw [hU]; exact hB7⟩
end Go.Proofs.Ytlbimmhlijelfaa
