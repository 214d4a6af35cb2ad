/-
  merged and TableMerge of the program. Conditions: the lists' cells are there.
-/
import Derived.Test.YtnneopimbffkaaaTbS
import Derived.Test.YtnneopimbffkaaaTbF
namespace Go.Proofs.Ytnneopimbffkaaa
open Go.RowKit Go.Shelf
attribute [local go_sem] Oper.semAt_some

theorem minN_congr {f g : Nat → Int} {n : Nat} (h : ∀ l, l ≤ n → f l = g l) : minN f n = minN g n := by
  induction n with
  | zero => exact h 0 (Nat.le_refl _)
  | succ n ih =>
    show min (minN f n) (f (n + 1)) = min (minN g n) (g (n + 1))
    rw [ih fun l hl => h l (by omega), h (n + 1) (Nat.le_refl _)]
/-- The least of the first ones. -/
def lmN (h : Nat → Int) : Nat → Int
  | 0 => 9223372036854775807
  | j + 1 => minN h j
theorem lmN_step (h : Nat → Int) (hb : ∀ l, h l ≤ 9223372036854775807) (j : Nat) : lmN h (j + 1) = min (lmN h j) (h j) := by
  cases j with
  | zero => have := hb 0; show h 0 = min 9223372036854775807 (h 0); omega
  | succ j => rfl

set_option maxRecDepth 100000 in
set_option maxHeartbeats 1000000 in
theorem merged1_any (b2 b3 n m n' m' i k : Nat) (f g : Nat → Nat → Int) (hn : n ≤ 6) (hm : 1 ≤ m ∧ m ≤ 6) (hn' : n' = m) (hm' : m' ≤ 6) (hf : ∀ i k, i < n → k < m → -1000 ≤ f i k ∧ f i k ≤ 1000) (hg : ∀ i k, i < n' → k < m' → -1000 ≤ g i k ∧ g i k ≤ 1000) (hi : i < n) (hk : k < m') (W : World) (h2 : BT W b2 n m f) (h3 : BT W b3 n' m' g) :
    Calls Try.prog 74 #[.int .i64 (i : Int), .int .i64 (k : Int), .pointer (some ⟨b2, 0, none⟩), .pointer (some ⟨b3, 0, none⟩)] W fun e W' => e = .returned (.int .i64 (mergeT f g m i k)) ∧ Dr W W' := by
  subst hn'
  obtain ⟨h, hh⟩ : ∃ h : Nat → Int, (fun l => if l < n' then f i l + g l k else 0) = h := ⟨_, rfl⟩
  have HH : Hid (∀ l, l < n' → h l = f i l + g l k) := fun l hl => by rw [← hh]; exact if_pos hl
  have HB : Hid (∀ l, -2000 ≤ h l ∧ h l ≤ 2000) := fun l => by
    rw [← hh]
    show -2000 ≤ (if l < n' then f i l + g l k else 0) ∧ (if l < n' then f i l + g l k else 0) ≤ 2000
    split
    · next c => have := hf i l hi c; have := hg l k c hk; omega
    · omega
  have HM : Hid (mergeT f g n' i k = lmN h n') := by
    show _ = _
    obtain ⟨j, rfl⟩ : ∃ j, n' = j + 1 := ⟨n' - 1, by omega⟩
    show minN _ j = minN h j
    exact minN_congr fun l hl => (HH.out l (by omega)).symm
  have c1 := h2.cols
  have HST := Lib.hid (lmN_step h fun l => by have := HB.out l; omega)
  have H2 := Lib.hid h2; have H3 := Lib.hid h3
  clear hh hf hg
  go_enter Try.func74, Try.ntmps74
  go_wp2
  clear c1
  go_loopw [7, 11] (fun v x wr => ∃ j : Nat, j ≤ n' ∧ x = .int .i64 (j : Int) ∧ v = .int .i64 (lmN h j) ∧ Dr W wr) (fun _ x _ => n' - (intOf x).toNat)
  case atStart => exact ⟨0, Nat.zero_le _, rfl, rfl, Dr.refl _⟩
  case round =>
    obtain ⟨j, hj, rfl, rfl, hdr⟩ := hrel
    have HD := Lib.hid hdr
    by_cases hlt : j < n'
    · have hlt' : (j : Int) < (n' : Int) := by omega
      have x1 : wr.cell? ⟨b2, 2 + i * 6 + j, none⟩ = some (.int .i64 (f i j)) := by
        obtain ⟨q, rfl⟩ := hdr; exact h2.entry (by omega) (by omega)
      have x2 : wr.cell? ⟨b3, 2 + j * 6 + k, none⟩ = some (.int .i64 (g j k)) := by
        obtain ⟨q, rfl⟩ := hdr; exact h3.entry (by omega) (by omega)
      have e1 := HH.out j hlt
      have e2 := HB.out j
      have hst := HST.out j
      obtain ⟨y, hy⟩ : ∃ y, f i j = y := ⟨_, rfl⟩
      obtain ⟨z, hz⟩ : ∃ y, g j k = y := ⟨_, rfl⟩
      obtain ⟨u, hu⟩ : ∃ y, h j = y := ⟨_, rfl⟩
      obtain ⟨s, hs⟩ : ∃ s, lmN h j = s := ⟨_, rfl⟩
      rw [hy] at x1 e1
      rw [hz] at x2 e1
      rw [hu] at e1 e2 hst
      rw [hs] at hst
      rw [hs]
      have HSS := Lib.hid hst
      have t1 : IntKind.i64.wrap (y + z) = u := by rw [← e1]; exact IntWalk.i64_in _ (by omega)
      have i6 : (i : Int) < 6 := by omega
      have k6 : (k : Int) < 6 := by omega
      have j6 : (j : Int) < 6 := by omega
      have i0 : (0 : Int) ≤ (i : Int) := by omega
      have k0 : (0 : Int) ≤ (k : Int) := by omega
      have j0 : (0 : Int) ≤ (j : Int) := by omega
      clear hdr hy hz hu hs e1 e2 hst
      go_wp2
      go_quiet (fail)
      go_wp2
      go_roundw
      case rel => exact ⟨j + 1, by omega, by go_num, by rw [HSS.out]; simp; split <;> omega, HD.out.more _⟩
      case measure => simp [intOf]; omega
    · obtain rfl : j = n' := by omega
      have hlt' : ¬ (j : Int) < (j : Int) := by omega
      obtain ⟨s, hs⟩ : ∃ s, lmN h j = s := ⟨_, rfl⟩
      rw [hs] at HM
      rw [hs]
      clear hdr hs
      go_wp2
      go_ret
      exact ⟨by rw [HM.out]; rfl, HD.out⟩

theorem mergeT_bd {f g : Nat → Nat → Int} {n m m' : Nat} (hm : 1 ≤ m) (hf : ∀ i k, i < n → k < m → -1000 ≤ f i k ∧ f i k ≤ 1000) (hg : ∀ i k, i < m → k < m' → -1000 ≤ g i k ∧ g i k ≤ 1000) {i k : Nat} (hi : i < n) (hk : k < m') : -2000 ≤ mergeT f g m i k ∧ mergeT f g m i k ≤ 2000 := by
  obtain ⟨l, h1, h2⟩ := minN_at (fun l => f i l + g l k) (m - 1)
  unfold mergeT
  rw [h2]
  have := hf i l hi (by omega)
  have := hg l k (by omega) hk
  show -2000 ≤ f i l + g l k ∧ f i l + g l k ≤ 2000
  omega

set_option maxRecDepth 100000 in
set_option maxHeartbeats 1000000 in
theorem merged_any (n m m' : Nat) (f g : Nat → Nat → Int) (hn : n ≤ 6) (hm : 1 ≤ m ∧ m ≤ 6) (hm' : m' ≤ 6) (hf : ∀ i k, i < n → k < m → -1000 ≤ f i k ∧ f i k ≤ 1000) (hg : ∀ i k, i < m → k < m' → -1000 ≤ g i k ∧ g i k ≤ 1000) (w : World) :
    Calls Try.prog 52 #[.agg (tabV n m f), .agg (tabV m m' g)] w fun e w' => ∃ q, e = .returned (.agg (tabV n m' q)) ∧ (∀ i k, i < n → k < m' → q i k = mergeT f g m i k) ∧ Below w.heap.size w w' := by
  obtain ⟨W3, hW3⟩ : ∃ W3, ((w.alloc (.cells (tabV n m f) 50)).alloc (.cells (tabV m m' g) 50)).alloc (.cells (tabV 0 0 zF) 50) = W3 := ⟨_, rfl⟩
  have b2 : BT W3 w.heap.size n m f := by rw [← hW3]; exact ((BT.new w n m f).alloc _).alloc _
  have b3 : BT W3 (w.heap.size + 1) m m' g := by
    rw [← hW3]
    have := BT.new (w.alloc (.cells (tabV n m f) 50)) m m' g
    rw [World.size_alloc] at this
    exact this.alloc _
  have bR : BT W3 (w.heap.size + 1 + 1) 0 0 zF := by
    rw [← hW3]
    have := BT.new ((w.alloc (.cells (tabV n m f) 50)).alloc (.cells (tabV m m' g) 50)) 0 0 zF
    rwa [World.size_alloc, World.size_alloc] at this
  have hB3 : Below w.heap.size w W3 := by rw [← hW3]; exact (((Below.refl _ w).alloc (Nat.le_refl _) _).alloc (by simp) _).alloc (by simp; omega) _
  have hs3 : W3.heap.size = w.heap.size + 3 := by rw [← hW3]; simp
  have c1 := b2.rows; have c2 := b3.cols
  have HTF := Lib.hid (tableFrom_any n m' (mergeT f g m) 74 #[.pointer (some ⟨w.heap.size, 0, none⟩), .pointer (some ⟨w.heap.size + 1, 0, none⟩)] hn hm' (fun args w => Try.call74 args w) W3 fun i k hi hk W hW =>
    (merged1_any w.heap.size (w.heap.size + 1) n m m m' i k f g hn hm rfl hm' hf hg hi hk W (b2.below hW (by omega)) (b3.below hW (by omega))).mono fun e W' ⟨h1, h2⟩ => ⟨h1, h2.below⟩)
  have HBR := Lib.hid bR; have HB := Lib.hid hB3
  have hmf : ∀ (fn : Fn) (first cap : Array Value) (w : World), (Instr.makeFunc fn first cap).run Try.prog w = .ok (.func fn first cap) w := fun _ _ _ _ => rfl
  clear hf hg b2 b3 bR hB3 hs3
  subst hW3
  go_enter Try.func52, Try.ntmps52
  go_wp2_with (refine wpList_alT rfl rfl ?_)
  refine HTF.out.mono ?_
  rintro e w4 ⟨q, rfl, hq, hb4⟩
  have bR4 : BT w4 (w.heap.size + 1 + 1) 0 0 zF := HBR.out.grow hb4
  have HB4 := Lib.hid (below_setRow (HB.out.trans (hb4.mono HB.out.size)) (show w.heap.size ≤ w.heap.size + 1 + 1 by omega) (tabV n m' q))
  have HQ := Lib.hid hq
  clear hb4 hq hmf c1 c2
  go_wp2_with (refine wpList_stT rfl _ _ rfl rfl rfl bR4 ?_)
  exact bodyPost_ret (v := .agg (tabV n m' q)) (resX rfl _ _ (by kernel_rfl) bR4.put rowT_table (tabV_size _ _ _)) rfl ⟨q, rfl, HQ.out, HB4.out⟩

set_option maxRecDepth 100000 in
set_option maxHeartbeats 2000000 in
theorem implTableMerge_any (A : Option Addr) (c : Nat) (t : List (List Int)) (A2 : Option Addr) (c2 : Nat) (u : List (List Int)) (w : World) (h : IRR w 0 w.heap.size A t) (h2 : IRR w 0 w.heap.size A2 u) :
    Calls Try.prog 24 #[.slice A t.length c, .slice A2 u.length c2] w (RetTB w (mergeTM t u)) := by
  have H := Lib.hid h; have H2 := Lib.hid h2
  clear h h2
  go_enter Try.func24, Try.ntmps24
  go_wp2_with fail
  refine (tableIn_any A c _ _ t _ H.out).mono ?_
  rintro e w1 ⟨n, m, f, rfl, ⟨hn6, hm6⟩, hf, hb1⟩
  have bT := BT.new w1 0 0 zF
  have bT2 : BT ((w1.alloc (.cells (tabV 0 0 zF) 50)).setRow w1.heap.size (tabV n m f)) w1.heap.size n m f := bT.put
  have bB2 := below_setRow (hb1.alloc hb1.size (.cells (tabV 0 0 zF) 50)) hb1.size (tabV n m f)
  obtain ⟨p, hp⟩ : ∃ p, tableB t = p := ⟨_, rfl⟩
  have HP := Lib.hid hp
  rw [hp] at hf
  rw [hp]
  have HF := Lib.hid hf
  have HB1 := Lib.hid hb1
  clear hp hf hb1
  have hwm := HB1.out.size
  have HI2 := Lib.hid (H2.out.below bB2 (Nat.le_refl _))
  obtain ⟨W2, hW2⟩ : ∃ W2, (w1.alloc (.cells (tabV 0 0 zF) 50)).setRow w1.heap.size (tabV n m f) = W2 := ⟨_, rfl⟩
  rw [hW2] at bT2 bB2 HI2
  go_wp2_with (first | (refine wpList_alT rfl rfl ?_) | (refine wpList_stT rfl _ _ rfl rfl rfl bT ?_))
  try rw [hW2]
  clear hW2
  refine (tableIn_any A2 c2 _ _ u _ HI2.out).mono ?_
  rintro e w3 ⟨n', m', g, rfl, ⟨hn6', hm6'⟩, hg, hb3⟩
  have bU := BT.new w3 0 0 zF
  have bB3 := bB2.trans (hb3.mono bB2.size)
  have bU2 : BT ((w3.alloc (.cells (tabV 0 0 zF) 50)).setRow w3.heap.size (tabV n' m' g)) w3.heap.size n' m' g := bU.put
  have bB4 := below_setRow (bB3.alloc bB3.size (.cells (tabV 0 0 zF) 50)) bB3.size (tabV n' m' g)
  have bT3 : BT w3 w1.heap.size n m f := bT2.grow hb3
  have bT4 : BT ((w3.alloc (.cells (tabV 0 0 zF) 50)).setRow w3.heap.size (tabV n' m' g)) w1.heap.size n m f := (bT3.alloc _).block (setRow_other _ _ _ _ (by have := bT3.lt; omega))
  obtain ⟨q, hq⟩ : ∃ q, tableB u = q := ⟨_, rfl⟩
  have HQ := Lib.hid hq
  rw [hq] at hg
  rw [hq]
  have HG := Lib.hid hg
  obtain ⟨W4, hW4⟩ : ∃ W4, (w3.alloc (.cells (tabV 0 0 zF) 50)).setRow w3.heap.size (tabV n' m' g) = W4 := ⟨_, rfl⟩
  rw [hW4] at bU2 bB4 bT4
  have r2 := bT4.cols; have r3 := bU2.rows
  have HB4 := Lib.hid bB4
  have hcond : (p && q && decide (m = n')) = (tableB t && tableB u && decide (colsN t = u.length)) := by
    rw [HP.out, HQ.out]
    cases p with
    | false => rfl
    | true =>
      cases q with
      | false => rfl
      | true => rw [(HF.out rfl).2.1, (HG.out rfl).1]
  have HNO : Hid ((p && q && decide (m = n')) = false → mergeTM t u = none) := fun e => mergeTM_no (by rw [← hcond]; exact e)
  clear hg hq bB3 bT3 bB2 bT2 bB4 hb3 hcond
  cases p with
  | false =>
    have HM := Lib.hid (HNO.out (by rfl))
    clear HNO
    go_wp2_with (first | (refine wpList_alT rfl rfl ?_) | (refine wpList_stT rfl _ _ rfl rfl rfl bU ?_))
    go_ret2
    rw [HM.out]
    exact retTB_none HB4.out
  | true =>
  cases q with
  | false =>
    have HM := Lib.hid (HNO.out (by rfl))
    clear HNO
    go_wp2_with (first | (refine wpList_alT rfl rfl ?_) | (refine wpList_stT rfl _ _ rfl rfl rfl bU ?_))
    go_ret2
    rw [HM.out]
    exact retTB_none HB4.out
  | true =>
  by_cases k1 : m = n'
  · subst k1
    obtain ⟨a1, a2, a3⟩ := HF.out rfl
    obtain ⟨b1, b2, b3⟩ := HG.out rfl
    have hM := mergeTM_yes HP.out HQ.out (by omega)
    obtain ⟨_, ht1, ht2, hE⟩ := table_sh HP.out
    obtain ⟨_, hu1, hu2, hF⟩ := table_sh HQ.out
    have hfb : ∀ i k, i < n → k < m → -1000 ≤ f i k ∧ f i k ≤ 1000 := fun i k hi hk => by rw [a3 i k (by omega) (by omega)]; exact hE i k (by omega) (by omega)
    have hgb : ∀ i k, i < m → k < m' → -1000 ≤ g i k ∧ g i k ≤ 1000 := fun i k hi hk => by rw [b3 i k (by omega) (by omega)]; exact hF i k (by omega) (by omega)
    have HC := Lib.hid (fun W => merged_any n m m' f g hn6 (by omega) hm6' hfb hgb W)
    have HTL : Hid (mergeTL t u = tabL n m' (mergeT f g m)) := by
      show _ = _
      unfold mergeTL
      rw [← a1, ← b2, ← b1]
      unfold tabL
      refine List.map_congr_left fun i hi => List.map_congr_left fun k hk => ?_
      have hi := List.mem_range.1 hi
      have hk := List.mem_range.1 hk
      unfold mergeT
      exact minN_congr fun l hl => by rw [a3 i l (by omega) (by omega), b3 l k (by omega) (by omega)]
    have HBD := Lib.hid (fun i k (hi : i < n) (hk : k < m') => mergeT_bd (m := m) (by omega) hfb hgb hi hk)
    have HM := Lib.hid hM
    have hnn : 1 ≤ n ∧ n ≤ 6 := by omega
    have hmm : 1 ≤ m' ∧ m' ≤ 6 := by omega
    clear HNO hM a1 a2 a3 b1 b2 b3 hE hF hfb hgb ht1 ht2 hu1 hu2
    go_wp2_with (first | (refine wpList_alT rfl rfl ?_) | (refine wpList_stT rfl _ _ rfl rfl rfl bU ?_) | (refine wpList_ldT rfl _ rfl rfl bT4 ?_) | (refine wpList_ldT rfl _ rfl rfl bU2 ?_))
    refine (HC.out _).mono ?_
    rintro e w5 ⟨x, rfl, hx, hb5⟩
    have HB5 := Lib.hid (HB4.out.trans (hb5.mono HB4.out.size))
    have bX := BT.new w5 0 0 zF
    have bX2 : BT ((w5.alloc (.cells (tabV 0 0 zF) 50)).setRow w5.heap.size (tabV n m' x)) w5.heap.size n m' x := bX.put
    have HB6 := Lib.hid (below_setRow (HB5.out.alloc HB5.out.size (.cells (tabV 0 0 zF) 50)) HB5.out.size (tabV n m' x))
    have HTX : Hid (tabL n m' x = mergeTL t u) := by
      show _ = _
      rw [HTL.out]
      unfold tabL
      refine List.map_congr_left fun i hi => List.map_congr_left fun k hk => ?_
      exact hx i k (List.mem_range.1 hi) (List.mem_range.1 hk)
    have HWI := Lib.hid (fun W => isWithin_any n m' x (-1000) 1000 hnn.2 hmm.2 W)
    have HIN : Hid (inF (-1000) 1000 n m' x = tableB (mergeTL t u)) := by
      show _ = _
      rw [← HTX.out, ← within_table]
      have hsh := tab_sh n m' x
      have hcn : colsN (tabL n m' x) = m' := hsh.row (i := 0) (by omega)
      unfold withinB
      rw [show shB (tabL n m' x) = true from shB_true.2 ⟨by rw [hsh.1]; exact hnn, by rw [hcn]; exact hmm, fun r hr => by rw [hcn]; exact hsh.2 r hr⟩, Bool.true_and, hsh.1, hcn]
      exact inF_congr fun i k hi hk => (tab_ent x hi hk).symm
    have HI64 : Hid (∀ i k, i < n → k < m' → I64 (x i k)) := fun i k hi hk => by
      have := HBD.out i k hi hk
      rw [hx i k hi hk]
      exact ⟨by omega, by omega⟩
    have HLI := Lib.hid (fun W => lists_any n m' x hnn hmm HI64.out W)
    clear hb5 hx
    go_wp2_with (first | (refine wpList_alT rfl rfl ?_) | (refine wpList_stT rfl _ _ rfl rfl rfl bX ?_) | (refine wpList_ldT rfl _ rfl rfl bX2 ?_))
    refine (HWI.out _).mono ?_
    rw [HIN.out]
    cases hin : tableB (mergeTL t u) with
    | false =>
      have HM2 : Hid (mergeTM t u = none) := by show _ = _; rw [HM.out, hin]; rfl
      rintro e w7 ⟨rfl, hb7⟩
      have HB7 := Lib.hid (HB6.out.trans (hb7.mono HB6.out.size))
      clear hb7 hin
      go_wp2
      go_ret2
      rw [HM2.out]
      exact retTB_none HB7.out
    | true =>
      have HM2 : Hid (mergeTM t u = some (mergeTL t u)) := by show _ = _; rw [HM.out, hin]; rfl
      rintro e w7 ⟨rfl, hb7⟩
      have HB7 := Lib.hid (HB6.out.trans (hb7.mono HB6.out.size))
      have bX7 := bX2.grow hb7
      clear hb7 hin
      go_wp2_with (refine wpList_ldT rfl _ rfl rfl bX7 ?_)
      refine (HLI.out _).mono ?_
      rintro e w8 ⟨A8, c8, rfl, hc8, hi8, hb8⟩
      rw [HTX.out] at hc8 hi8
      rw [HTX.out]
      have HI8 := Lib.hid (hi8.wide HB7.out.size (Nat.le_refl _) (Nat.le_refl _)); have HC8 := Lib.hid hc8
      have HB8 := Lib.hid (HB7.out.trans (hb8.mono HB7.out.size))
      clear hi8 hc8 hb8
      go_wp2
      go_ret2
      rw [HM2.out]
      exact ⟨A8, c8, rfl, HC8.out, HI8.out, HB8.out⟩
  · have HM := Lib.hid (HNO.out (by rw [decide_eq_false k1]; rfl))
    have k1' : ¬ (m : Int) = (n' : Int) := by omega
    clear HNO
    go_wp2_with (first | (refine wpList_alT rfl rfl ?_) | (refine wpList_stT rfl _ _ rfl rfl rfl bU ?_))
    go_ret2
    rw [HM.out]
    exact retTB_none HB4.out

end Go.Proofs.Ytnneopimbffkaaa
