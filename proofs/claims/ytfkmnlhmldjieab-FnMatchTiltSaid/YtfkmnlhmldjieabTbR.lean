/-
  match and TableMatch of the program. Conditions: the table's cells are there.
-/
import Derived.Test.YtfkmnlhmldjieabTbV
import Derived.Test.YtfkmnlhmldjieabCatI
namespace Go.Proofs.Ytfkmnlhmldjieab
open Go.RowKit
attribute [local go_sem] Oper.semAt_some

/-- The cost that is kept: the greatest number as long as there is no list. -/
def costK (s : Int × List Nat) : Int := if s.2 = [] then 9223372036854775807 else s.1
set_option maxRecDepth 100000 in
set_option maxHeartbeats 4000000 in
theorem match_any (n : Nat) (hn6 : n ≤ 6) (f : Nat → Nat → Int) (hf : ∀ i k, i < n → k < n → -1000 ≤ f i k ∧ f i k ≤ 1000) : ∀ (d i : Nat) (us : List Nat) (g : Nat → Bool) (w : World), i + d = n → Used n d us → (∀ k, k < n → (g k = true ↔ k ∈ us)) →
    Calls Try.prog 50 #[.agg (tabV n n f), .int .i64 (i : Int), .agg (boolV g)] w fun e w' => ∃ A' c', e = .returned (.tuple #[.int .i64 (matchM f n d us).1, .slice A' (matchM f n d us).2.length c']) ∧ IW w' w.heap.size w'.heap.size A' ((matchM f n d us).2.map fun k : Nat => (k : Int)) ∧ Below w.heap.size w w' := by
  have HF := Lib.hid hf
  clear hf
  intro d
  induction d with
  | zero => intro i us g w hid _ _; exact match_zero n f i us g w (by omega)
  | succ d ih =>
    intro i us g w hid hu hgu
    have HU := Lib.hid hu; have HG := Lib.hid hgu; have HIH := Lib.hid ih
    have hin : ¬ (i : Int) = (n : Int) := by omega
    have hinb : ((i : Int) == (n : Int)) = false := by rw [beq_eq_false_iff_ne]; exact hin
    obtain ⟨G, hG⟩ : ∃ G : Nat → Int × List Nat, (fun k => matchM f n d (k :: us)) = G := ⟨_, rfl⟩
    obtain ⟨c, hc⟩ : ∃ c : Nat → Int, f i = c := ⟨_, rfl⟩
    have HCF : Hid (∀ k, f i k = c k) := Lib.hid fun k => by rw [hc]
    have HGE : Hid (∀ k, matchM f n d (k :: us) = G k) := Lib.hid fun k => by rw [← hG]
    have hM : matchM f n (d + 1) us = scanM G c us n := by
      show scanM _ _ _ _ = _
      rw [hG, show n - (d + 1) = i by omega, hc]
    have HNE : Hid ((scanM G c us n).2 ≠ []) := Lib.hid fun e => by
      have := (match_is f n (d + 1) us hu).1
      rw [hM, e] at this; simp at this
    rw [hM]
    have hb0 : Below w.heap.size w ((w.alloc (.cells (tabV n n f) 63)).alloc (.cells (boolV g) 76)) := ((Below.refl _ _).alloc (Nat.le_refl _) _).alloc (by simp) _
    have bT0 : BT ((w.alloc (.cells (tabV n n f) 63)).alloc (.cells (boolV g) 76)) w.heap.size n n f := (BT.new w n n f).alloc _
    have bG0 : BX ((w.alloc (.cells (tabV n n f) 63)).alloc (.cells (boolV g) 76)) (w.heap.size + 1) 76 (boolV g) := by
      have := BX.new (w.alloc (.cells (tabV n n f) 63)) 76 (boolV g)
      rwa [World.size_alloc] at this
    have HB0 := Lib.hid hb0; have HT0 := Lib.hid bT0; have HG0 := Lib.hid bG0
    have g0 : (tabV n n f)[0]? = some (.int .i64 (n : Int)) := rfl
    have g1 : (tabV n n f)[1]? = some (.int .i64 (n : Int)) := rfl
    have hID := Lib.hid hid
    obtain ⟨V, hV⟩ : ∃ V, boolV g = V := ⟨_, rfl⟩
    have HV := Lib.hid hV
    clear hb0 bT0 bG0 hu hgu ih hM hG hc hid
    rw [hV] at HB0 HT0 HG0
    rw [hV]
    clear hV
    go_enter Try.func50, Try.ntmps50
    go_wp2
    clear g0 g1
    generalize (w.alloc (.cells (tabV n n f) 63)).alloc (.cells V 76) = W0 at HB0 HT0 HG0
    go_loopw [6, 7, 8, 9, 10, 11, 12, 19] (fun co cl _ _ _ _ _ x wr => ∃ (k : Nat) (A' : Option Addr) (c' : Nat), k ≤ n ∧ x = .int .i64 (k : Int) ∧ co = .int .i64 (costK (scanM G c us k)) ∧ cl = .slice A' (scanM G c us k).2.length c' ∧ IW wr w.heap.size wr.heap.size A' ((scanM G c us k).2.map fun k : Nat => (k : Int)) ∧ BT wr w.heap.size n n f ∧ BX wr (w.heap.size + 1) 76 V ∧ Below w.heap.size w wr) (fun _ _ _ _ _ _ _ x _ => n - (intOf x).toNat)
    case atStart => exact ⟨0, none, 0, Nat.zero_le _, rfl, rfl, rfl, ⟨by simp [scanM], by simp [scanM], Nat.le_refl _, fun h => absurd h (by simp [scanM])⟩, HT0.out, HG0.out, HB0.out⟩
    case round =>
      clear HT0 HG0 HB0
      obtain ⟨k, A', c', hk, rfl, rfl, rfl, hiw, hbt, hbx, hbl⟩ := hrel
      have HW := Lib.hid hiw; have HBT := Lib.hid hbt; have HBX := Lib.hid hbx; have HB := Lib.hid hbl
      clear hiw hbt hbx hbl
      by_cases hlt : k < n
      · have hlt' : (k : Int) < (n : Int) := by omega
        have HKN := Lib.hid hlt
        have hk6 : k < 6 := by omega
        have hk6' : (k : Int) < 6 := by omega
        have hgk := HG.out k hlt
        have hcell : wr.cell? ⟨w.heap.size + 1, k, none⟩ = some (.bool (g k)) := by rw [HBX.out.cell, ← HV.out]; exact boolV_get g hk6
        cases hgb : g k with
        | true =>
          have HSK := Lib.hid (scan_skip (g := G) (c := c) (us := us) (m := k) (hgk.1 hgb))
          rw [hgb] at hcell
          clear hgk hlt hgb
          go_wp2
          go_roundw
          case rel => exact ⟨k + 1, A', c', HKN.out, by go_num, by rw [HSK.out], by rw [HSK.out], by rw [HSK.out]; exact HW.out, HBT.out, HBX.out, HB.out⟩
          case measure => have := HKN.out; simp [intOf]; omega
        | false =>
          have hku : ¬ k ∈ us := fun e => by rw [hgk.2 e] at hgb; cases hgb
          have hur := used_cons HU.out hlt hku
          have hi6 : i < 6 := by have := hID.out; omega
          have hi6' : (i : Int) < 6 := by omega
          have i64a : IntKind.i64.wrap ((i : Int) + 1) = (i : Int) + 1 := IntWalk.i64_in _ (by omega)
          have HUR := Lib.hid hur; have HKU := Lib.hid hku
          rw [hgb] at hcell
          have HZ1 := Lib.hid (BX.new wr 76 (boolV fun _ => false))
          have HBXZ := Lib.hid (HBX.out.alloc (.cells (boolV fun _ => false) 76))
          have HVS : Hid (V.size = 6) := Lib.hid (by rw [← HV.out]; exact boolV_size g)
          have HVO : Hid (V.all (·.oneCell') = true) := Lib.hid (by rw [← HV.out]; exact boolV_one g)
          have bX2 : BX ((wr.alloc (.cells (boolV fun _ => false) 76)).setRow wr.heap.size V) wr.heap.size 76 V := HZ1.out.put V
          have bX3 := bX2.set_ k (.bool true)
          have e3 : V.setIfInBounds k (.bool true) = boolV (fun j => if j = k then true else g j) := by rw [← HV.out]; exact boolV_set g k
          have cX : ((wr.alloc (.cells (boolV fun _ => false) 76)).setRow wr.heap.size V).cell? ⟨wr.heap.size, k, none⟩ = some (.bool false) := by
            rw [bX2.cell, ← HV.out, boolV_get g hk6, hgb]
          have fX := bX2.frozen k
          have hb3 : Below wr.heap.size wr (((wr.alloc (.cells (boolV fun _ => false) 76)).setRow wr.heap.size V).setCell ⟨wr.heap.size, k, none⟩ (.bool true)) := (below_setRow ((Below.refl _ wr).alloc (Nat.le_refl _) _) (Nat.le_refl _) _).setCell (p := ⟨wr.heap.size, k, none⟩) (Nat.le_refl _) _
          rw [e3] at bX3
          have bT3 := HBT.out.grow hb3
          have bX4 := HBX.out.grow hb3
          have HT3 := Lib.hid bT3; have HX3 := Lib.hid bX3; have HX4 := Lib.hid bX4; have HB3 := Lib.hid hb3
          have HW3 := Lib.hid ((HW.out.grow hb3).wide (Nat.le_refl _) hb3.size (Nat.le_refl _))
          have HCALL := Lib.hid (HIH.out (i + 1) (k :: us) (fun j => if j = k then true else g j) (((wr.alloc (.cells (boolV fun _ => false) 76)).setRow wr.heap.size V).setCell ⟨wr.heap.size, k, none⟩ (.bool true)) (by have := hID.out; omega) hur (fun j hj => by
            by_cases e : j = k
            · subst e; simp
            · rw [if_neg e, HG.out j hj]; simp [e]))
          rw [show ((i + 1 : Nat) : Int) = (i : Int) + 1 by omega] at HCALL
          obtain ⟨W3, hW3⟩ : ∃ W3, ((wr.alloc (.cells (boolV fun _ => false) 76)).setRow wr.heap.size V).setCell ⟨wr.heap.size, k, none⟩ (.bool true) = W3 := ⟨_, rfl⟩
          obtain ⟨V3, hV3⟩ : ∃ V3, boolV (fun j => if j = k then true else g j) = V3 := ⟨_, rfl⟩
          have HV3S : Hid (V3.size = 6) := Lib.hid (by rw [← hV3]; exact boolV_size _)
          rw [hW3] at HT3 HX3 HX4 HB3 HW3 HCALL
          rw [hV3] at HX3 HCALL
          have HWW := Lib.hid hW3
          have hbt3 := HT3.out; have hbx3 := HX3.out; have hbxz := HBXZ.out; have hzz := HZ1.out; have hbx0 := HBX.out
          clear hgk hlt hgb hku hur bX2 bX3 e3 hb3 bT3 bX4 hW3 hV3
          go_wp2_with (first | (refine wpList_ldX rfl _ rfl rfl hbx0 rowT_bools HVS.out ?_) | (refine wpList_alX rfl rfl zeroT_bools ?_) | (refine wpList_stX rfl _ _ rfl rfl rfl hzz rowT_bools (boolV_size _) HVS.out HVO.out ?_) | (rw [HWW.out]; refine wpList_ldT rfl _ rfl rfl hbt3 ?_) | (refine wpList_ldX rfl _ rfl rfl hbx3 rowT_bools HV3S.out ?_))
          refine HCALL.out.mono ?_
          rintro e w4 ⟨A3, c3, rfl, hi3, hb4⟩
          rw [HGE.out] at hi3
          rw [HGE.out]
          have hqb := match_bd HF.out d (k :: us) HUR.out
          rw [HGE.out] at hqb
          have hql := (match_is f n d (k :: us) HUR.out).1
          rw [HGE.out] at hql
          have hyb := HF.out i k (by have := hID.out; omega) HKN.out
          have HB4 := Lib.hid ((HB.out.trans (HB3.out.mono HB.out.size)).trans (hb4.mono (Nat.le_trans HB.out.size HB3.out.size)))
          have HW4 := Lib.hid ((HW3.out.grow hb4).wide (Nat.le_refl _) hb4.size (Nat.le_refl _))
          have HT4 := Lib.hid (hbt3.grow hb4); have HX4' := Lib.hid (HX4.out.grow hb4)
          have hent := HT4.out.entry hi6 hk6
          have HI3 := Lib.hid hi3
          have hid := hID.out
          rw [HCF.out] at hyb hent
          have HSN : Hid (((scanM G c us k).2 = [] ∨ (G k).1 + c k < (scanM G c us k).1) → scanM G c us (k + 1) = ((G k).1 + c k, k :: (G k).2)) := Lib.hid fun e => scan_new HKU.out e
          have HSO : Hid (¬ ((scanM G c us k).2 = [] ∨ (G k).1 + c k < (scanM G c us k).1) → scanM G c us (k + 1) = scanM G c us k) := Lib.hid fun e => scan_old HKU.out e
          obtain ⟨s, hs⟩ : ∃ s, scanM G c us k = s := ⟨_, rfl⟩
          obtain ⟨q1, q2, hq⟩ : ∃ q1 q2, G k = (q1, q2) := ⟨_, _, rfl⟩
          obtain ⟨y, hy⟩ : ∃ y, c k = y := ⟨_, rfl⟩
          rw [hs] at HW4 HSN HSO
          rw [hs]
          rw [hq] at HI3 hqb hql HSN HSO
          rw [hq]
          rw [hy] at hyb hent HSN HSO
          dsimp only at HI3 hqb hql HSN HSO
          dsimp only
          have hqb6 : -6000 ≤ q1 ∧ q1 ≤ 6000 := by
            have : (d : Int) ≤ 6 := by omega
            constructor <;> omega
          have v1 : IntKind.i64.wrap (y + q1) = y + q1 := IntWalk.i64_in _ (by omega)
          have HCK : Hid (costK s = if s.2 = [] then 9223372036854775807 else s.1) := Lib.hid rfl
          have HYB := Lib.hid (show y + q1 < 9223372036854775807 by omega)
          have HQL := Lib.hid hql
          have HD6 := Lib.hid (show d ≤ 6 by omega)
          clear hi3 hb4 hqb hql hyb hs hq hy hqb6 hid hcell cX fX hbt3 hbx3 hbxz hzz hbx0 HWW HCALL
          by_cases c1 : y + q1 < costK s
          · have HNEW : Hid (scanM G c us (k + 1) = (q1 + y, k :: q2)) := Lib.hid (HSN.out (by
              have h := HCK.out
              by_cases e : s.2 = []
              · exact .inl e
              · rw [if_neg e] at h; exact .inr (by omega)))
            have HCN : Hid (costK (q1 + y, k :: q2) = y + q1) := Lib.hid (by unfold costK; rw [if_neg (by simp)]; dsimp only; omega)
            have HKI : Hid (I64 (k : Int)) := ⟨by omega, by omega⟩
            have HL2 : Hid (q2.length = (q2.map fun k : Nat => (k : Int)).length) := Lib.hid (by simp)
            have hW5 : Below w4.heap.size w4 ((w4.alloc (.cells #[.int .i64 (k : Int)] 3)).alloc (.cells #[.slice (some ⟨w4.heap.size, 0, none⟩) 1 1, .slice A3 q2.length c3] 26)) := ((Below.refl _ w4).alloc (Nat.le_refl _) _).alloc (by simp) _
            have hz5 : ((w4.alloc (.cells #[.int .i64 (k : Int)] 3)).alloc (.cells #[.slice (some ⟨w4.heap.size, 0, none⟩) 1 1, .slice A3 q2.length c3] 26)).heap.size = w4.heap.size + 2 := by simp
            have gg1 : ((w4.alloc (.cells #[.int .i64 (k : Int)] 3)).alloc (.cells #[.slice (some ⟨w4.heap.size, 0, none⟩) 1 1, .slice A3 q2.length c3] 26)).cell? ⟨w4.heap.size + 1, 0, none⟩ = some (.slice (some ⟨w4.heap.size, 0, none⟩) 1 1) := by
              rw [World.cell?_alloc_at _ _ _ _ (by simp)]; rfl
            have gg2 : ((w4.alloc (.cells #[.int .i64 (k : Int)] 3)).alloc (.cells #[.slice (some ⟨w4.heap.size, 0, none⟩) 1 1, .slice A3 q2.length c3] 26)).cell? ⟨w4.heap.size + 1, 1, none⟩ = some (.slice A3 q2.length c3) := by
              rw [World.cell?_alloc_at _ _ _ _ (by simp)]; rfl
            obtain ⟨A1', c1', e1', i1'⟩ := ((OwnI.one w4 (k : Int) HKI.out).alloc (o := .cells #[.slice (some ⟨w4.heap.size, 0, none⟩) 1 1, .slice A3 q2.length c3] 26)).iw (by simp)
            injection e1' with e1a e1b e1c
            subst e1a; subst e1c
            have HCAT := Lib.hid (concatI_any (some ⟨w4.heap.size, 0, none⟩) A3 1 q2.length 1 c3 _ _ _ _ (w4.heap.size + 1) [(k : Int)] (q2.map fun k : Nat => (k : Int)) _ rfl HL2.out (by omega) (by omega) (by have := HQL.out; have := HD6.out; omega) i1'.toIR (HI3.out.toIR.grow hW5) gg1 gg2 (by rw [hz5]; omega))
            have HB5 := Lib.hid (HB4.out.trans (hW5.mono HB4.out.size))
            have HT5 := Lib.hid (HT4.out.grow hW5); have HX5 := Lib.hid (HX4'.out.grow hW5)
            clear i1' e1b gg1 gg2 hW5 hz5
            go_wp2_with fail
            refine HCAT.out.mono ?_
            rintro e w6 ⟨A6, c6, rfl, hi6', hb6⟩
            have HI6 := Lib.hid (hi6'.wide (lo' := w.heap.size) HB5.out.size (Nat.le_refl _) (Nat.le_refl _))
            have HB6 := Lib.hid (HB5.out.trans (hb6.mono HB5.out.size))
            have HT6 := Lib.hid (HT5.out.grow hb6); have HX6 := Lib.hid (HX5.out.grow hb6)
            have HLL : Hid (([(k : Int)] ++ q2.map fun k : Nat => (k : Int)).length = (k :: q2).length) := Lib.hid (by simp)
            rw [HLL.out]
            clear hi6' hb6 HCAT
            go_wp2
            go_roundw
            case rel => exact ⟨k + 1, A6, c6, HKN.out, by go_num, by rw [HNEW.out, HCN.out], by rw [HNEW.out]; rfl, by rw [HNEW.out]; exact HI6.out, HT6.out, HX6.out, HB6.out⟩
            case measure => have := HKN.out; simp [intOf]; omega
          · have HOLD : Hid (scanM G c us (k + 1) = s) := Lib.hid (HSO.out (fun e => by
              have h := HCK.out
              have hy := HYB.out
              by_cases e2 : s.2 = []
              · rw [if_pos e2] at h; omega
              · rw [if_neg e2] at h
                rcases e with e | e
                · exact e2 e
                · omega))
            have c1d : decide (y + q1 < costK s) = false := decide_eq_false c1
            go_wp2
            go_roundw
            case rel => exact ⟨k + 1, A', c', HKN.out, by go_num, by rw [HOLD.out], by rw [HOLD.out], by rw [HOLD.out]; exact HW4.out, HT4.out, HX4'.out, HB4.out⟩
            case measure => have := HKN.out; simp [intOf]; omega
      · obtain rfl : k = n := by omega
        have hlt' : ¬ (k : Int) < (k : Int) := by omega
        have HCK : Hid (costK (scanM G c us k) = (scanM G c us k).1) := Lib.hid (by unfold costK; rw [if_neg HNE.out])
        rw [HCK.out]
        go_wp2
        go_ret2
        exact ⟨A', ⟨c', rfl⟩, HW.out, HB.out⟩

set_option maxRecDepth 100000 in
theorem built_bools : Try.prog.built 76 [] = some (boolV fun _ => false) := by kernel_rfl
/-- What TableMatch of the program gives: a cost, a list of the call's own, and whether there is one. -/
def RetMW (w : World) (o : Option (Int × List Int)) (e : Ending) (w' : World) : Prop := ∃ A c, e = .returned (.tuple #[.int .i64 (o.getD (0, [])).1, .slice A (o.getD (0, [])).2.length c, .bool o.isSome]) ∧ IW w' w.heap.size w'.heap.size A (o.getD (0, [])).2 ∧ Below w.heap.size w w'
set_option maxRecDepth 100000 in
set_option maxHeartbeats 2000000 in
theorem implTableMatch_any (A : Option Addr) (c : Nat) (t : List (List Int)) (w : World) (h : IRR w 0 w.heap.size A t) :
    Calls Try.prog 21 #[.slice A t.length c] w (RetMW w (matchI t)) := by
  have H := Lib.hid h
  clear h
  go_enter Try.func21, Try.ntmps21
  go_wp2_with fail
  refine (tableIn_any A c _ _ t _ H.out).mono ?_
  rintro e w1 ⟨n, m, f, rfl, -, hf, hb1⟩
  have bT := BT.new w1 0 0 zF
  have HB := Lib.hid (below_setRow (hb1.alloc hb1.size (.cells (tabV 0 0 zF) 63)) hb1.size (tabV n m f))
  have bT2 : BT ((w1.alloc (.cells (tabV 0 0 zF) 63)).setRow w1.heap.size (tabV n m f)) w1.heap.size n m f := bT.put
  obtain ⟨W2, hW2⟩ : ∃ W2, (w1.alloc (.cells (tabV 0 0 zF) 63)).setRow w1.heap.size (tabV n m f) = W2 := ⟨_, rfl⟩
  rw [hW2] at HB bT2
  have HW := Lib.hid hW2
  have none_ : matchI t = none → RetMW w (matchI t) (.returned (.tuple #[.int .i64 0, .slice none 0 0, .bool false])) W2 := fun e => by
    rw [e]; exact ⟨none, 0, rfl, IW.nil' _ _ _, HB.out⟩
  cases hb : tableB t with
  | false =>
    have HM := Lib.hid (none_ (by unfold matchI; rw [hb]; rfl))
    clear hf hb hW2 none_
    go_wp2_with (first | (refine wpList_alT rfl rfl ?_) | (refine wpList_stT rfl _ _ rfl rfl rfl bT ?_; rw [HW.out]))
    go_ret3
    exact HM.out
  | true =>
    obtain ⟨hn0, hn6, hm0, hE⟩ := table_sh hb
    obtain ⟨e1, e2, e3⟩ := hf hb
    have hc0 := bT2.rows; have hc1 := bT2.cols
    by_cases hnm : n = m
    · have hE' : ∀ i k, i < n → k < n → -1000 ≤ f i k ∧ f i k ≤ 1000 := fun i k hi hk => by
        rw [e3 i k (by omega) (by omega)]; exact hE i k (by omega) (by omega)
      have HM : Hid (matchI t = some ((matchM f n n []).1, (matchM f n n []).2.map fun k : Nat => (k : Int))) := Lib.hid (by
        unfold matchI
        rw [hb, show (decide (t.length = colsN t)) = true from decide_eq_true (by omega), if_pos (by rfl), ← e1]
        rw [match_congr (f := ent t) (f' := f) (n := n) (fun i k hi hk => (e3 i k (by omega) (by omega)).symm) n [] (Nat.le_refl _)])
      have HQ := Lib.hid (match_any n (by omega) f hE' n 0 [] (fun _ => false) W2 (by omega) ⟨by simp, by simp, by simp⟩ (fun k _ => by simp))
      have hnmb : ((n : Int) != (m : Int)) = false := by rw [hnm]; simp
      subst hnm
      rw [show ((0 : Nat) : Int) = 0 from rfl] at HQ
      clear hf hb e1 e2 e3 hE hE' hn0 hn6 hm0 none_ hW2
      go_wp2_with (first | (refine wpList_alT rfl rfl ?_) | (refine wpList_stT rfl _ _ rfl rfl rfl bT ?_; rw [HW.out]) | (refine wpList_ldT rfl _ rfl rfl bT2 ?_) | (refine wpList_buX rfl rfl built_bools ?_))
      refine HQ.out.mono ?_
      rintro e w3 ⟨A3, c3, rfl, hi3, hb3⟩
      have HI3 := Lib.hid (hi3.wide (lo' := w.heap.size) HB.out.size (Nat.le_refl _) (Nat.le_refl _))
      have HB3 := Lib.hid (HB.out.trans (hb3.mono HB.out.size))
      generalize matchM f n n [] = s at HM HI3
      obtain ⟨s1, s2⟩ := s
      dsimp only at HM HI3
      dsimp only
      have HL : Hid (s2.length = (s2.map fun k : Nat => (k : Int)).length) := Lib.hid (by simp)
      clear hi3 hb3 HQ hc0 hc1 bT2
      go_wp2
      go_ret3
      rw [HM.out]
      exact ⟨A3, c3, by rw [Option.getD_some, ← HL.out]; rfl, HI3.out, HB3.out⟩
    · have HM := Lib.hid (none_ (by unfold matchI; rw [show (decide (t.length = colsN t)) = false from decide_eq_false (by omega), Bool.and_false]; rfl))
      have hnmb : ((n : Int) != (m : Int)) = true := by simp; omega
      clear hf hb e1 e2 e3 hE hn0 hn6 hm0 none_ hW2 hnm
      go_wp2_with (first | (refine wpList_alT rfl rfl ?_) | (refine wpList_stT rfl _ _ rfl rfl rfl bT ?_; rw [HW.out]))
      go_ret3
      exact HM.out
end Go.Proofs.Ytfkmnlhmldjieab
