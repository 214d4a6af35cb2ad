/-
  l5Match and TableMatch of the model. Conditions: the table's cells are there.
-/
import Derived.Test.YtfkmnlhmldjieabTsA
import Derived.Test.YtfkmnlhmldjieabDraw2
import Derived.Test.YtfkmnlhmldjieabFrom
namespace Go.Proofs.Ytfkmnlhmldjieab
open Go.RowKit

theorem match_bd {f : Nat → Nat → Int} {n : Nat} (hf : ∀ i k, i < n → k < n → -1000 ≤ f i k ∧ f i k ≤ 1000) : ∀ d us, Used n d us → -1000 * (d : Int) ≤ (matchM f n d us).1 ∧ (matchM f n d us).1 ≤ 1000 * (d : Int) := by
  intro d
  induction d with
  | zero => intro us _; exact ⟨Int.le_refl _, Int.le_refl _⟩
  | succ d ih =>
    intro us h
    obtain ⟨k, h1, h2, h3, -, -⟩ := match_found f h
    have := ih _ (used_cons h h1 h2)
    have := hf (n - (d + 1)) k (by have := h.2.2; omega) h1
    rw [h3]
    show -1000 * ((d + 1 : Nat) : Int) ≤ (matchM f n d (k :: us)).1 + f (n - (d + 1)) k ∧ (matchM f n d (k :: us)).1 + f (n - (d + 1)) k ≤ 1000 * ((d + 1 : Nat) : Int)
    omega
theorem bits_all : ((List.range 64).all fun u => (List.range 6).all fun k => ((bits BinOp.and IntKind.i64 ((u : Int) / 2 ^ k) 1 == 1) == u.testBit k) && (bits BinOp.or IntKind.i64 (u : Int) (wrap64 (2 ^ k)) == ((u ||| 2 ^ k : Nat) : Int))) = true := by kernel_rfl
theorem bits_and {u k : Nat} (hu : u < 64) (hk : k < 6) : (bits BinOp.and IntKind.i64 ((u : Int) / 2 ^ k) 1 == 1) = u.testBit k ∧ bits BinOp.or IntKind.i64 (u : Int) (wrap64 (2 ^ k)) = ((u ||| 2 ^ k : Nat) : Int) := by
  have h := List.all_eq_true.1 (List.all_eq_true.1 bits_all u (List.mem_range.2 hu)) k (List.mem_range.2 hk)
  rw [Bool.and_eq_true, beq_iff_eq, beq_iff_eq] at h
  exact h
/-- The columns that are used, as bits. -/
def Bits (u : Nat) (n : Nat) (us : List Nat) : Prop := u < 64 ∧ ∀ k, k < n → (u.testBit k = true ↔ k ∈ us)

theorem Bits.or {u n k : Nat} {us : List Nat} (h : Bits u n us) (hn : n ≤ 6) (hk : k < n) : Bits (u ||| 2 ^ k) n (k :: us) := by
  refine ⟨?_, fun j hj => ?_⟩
  · have : 2 ^ k < 2 ^ 6 := Nat.pow_lt_pow_right (by omega) (by omega)
    exact Nat.or_lt_two_pow (n := 6) h.1 this
  · rw [Nat.testBit_or, Nat.testBit_two_pow, Bool.or_eq_true, h.2 j hj, List.mem_cons, decide_eq_true_eq]
    constructor
    · rintro (h | h)
      · exact .inr h
      · exact .inl h.symm
    · rintro (h | h)
      · exact .inr h.symm
      · exact .inl h

set_option maxRecDepth 100000 in
set_option maxHeartbeats 1000000 in
theorem l5Match_any (A : Option Addr) (c lo hi n : Nat) (t : List (List Int)) (ht : tableB t = true) (hn : t.length = n) (hm : colsN t = n) : ∀ (d i : Nat) (us : List Nat) (u : Nat) (w : World), i + d = n → Used n d us → Bits u n us → IRR w lo hi A t →
    Calls Try.prog 51 #[.slice A n c, .int .i64 (i : Int), .int .i64 (u : Int)] w fun e w' => ∃ A' c', e = .returned (.tuple #[.int .i64 (matchM (ent t) n d us).1, .slice A' (matchM (ent t) n d us).2.length c']) ∧ IW w' w.heap.size w'.heap.size A' ((matchM (ent t) n d us).2.map fun k : Nat => (k : Int)) ∧ Below w.heap.size w w' := by
  have HT := Lib.hid ht; have HN := Lib.hid hn; have HM := Lib.hid hm
  have hn6 : n ≤ 6 := by have := (table_sh ht).2.1; omega
  have hE := (table_sh ht).2.2.2
  rw [hn, hm] at hE
  have HE := Lib.hid hE
  clear ht hn hm hE
  intro d
  induction d with
  | zero =>
    intro i us u w hid hu hb h
    have H := Lib.hid h
    have hin : (i : Int) = (n : Int) := by omega
    clear hu hb h
    go_enter Try.func51, Try.ntmps51
    go_wp2
    go_ret2
    exact ⟨_, 0, rfl, IW.nil' _ _ _, (Below.refl _ _).alloc (Nat.le_refl _) _⟩
  | succ d ih =>
    intro i us u w hid hu hb h
    have H := Lib.hid h; have HU := Lib.hid hu; have HBT := Lib.hid hb; have HIH := Lib.hid ih
    have hin : ¬ (i : Int) = (n : Int) := by omega
    have hinb : ((i : Int) == (n : Int)) = false := by rw [beq_eq_false_iff_ne]; exact hin
    obtain ⟨g, hg⟩ : ∃ g : Nat → Int × List Nat, (fun k => matchM (ent t) n d (k :: us)) = g := ⟨_, rfl⟩
    obtain ⟨f, hf⟩ : ∃ f : Nat → Int, ent t i = f := ⟨_, rfl⟩
    have hM : matchM (ent t) n (d + 1) us = scanM g f us n := by
      show scanM _ _ _ _ = _
      rw [hg, show n - (d + 1) = i by omega, hf]
    have HMM := Lib.hid hM
    rw [hM]
    have h1 := hu; have h2 := hb
    clear hu hb h ih hM h1 h2
    go_enter Try.func51, Try.ntmps51
    go_wp2
    go_loopw [8, 9, 10] (fun b v x wr => ∃ (k : Nat) (A' : Option Addr) (c' : Nat), k ≤ n ∧ x = .int .i64 (k : Int) ∧ b = .int .i64 (scanM g f us k).1 ∧ v = .slice A' (scanM g f us k).2.length c' ∧ IW wr w.heap.size wr.heap.size A' ((scanM g f us k).2.map fun k : Nat => (k : Int)) ∧ Below w.heap.size w wr) (fun _ _ x _ => n - (intOf x).toNat)
    case atStart => exact ⟨0, _, 0, Nat.zero_le _, rfl, rfl, rfl, IW.nil' _ _ _, (Below.refl _ _).alloc (Nat.le_refl _) _⟩
    case round =>
      obtain ⟨k, A', c', hk, rfl, rfl, rfl, hiw, hbl⟩ := hrel
      have HW := Lib.hid hiw; have HB := Lib.hid hbl
      clear hiw hbl
      by_cases hlt : k < n
      · have hlt' : (k : Int) < (n : Int) := by omega
        have k0 : (0 : Int) ≤ (k : Int) := by omega
        obtain ⟨ba, bo⟩ := bits_and HBT.out.1 (show k < 6 by omega)
        have hub := HBT.out.2 k hlt
        by_cases hku : k ∈ us
        · have hsk := scan_skip (g := g) (c := f) (us := us) (m := k) hku
          rw [hub.2 hku] at ba
          have HSK := Lib.hid hsk
          clear hsk hub
          go_wp2
          go_roundw
          case rel => exact ⟨k + 1, A', c', by omega, by go_num, by rw [HSK.out], by rw [HSK.out], by rw [HSK.out]; exact HW.out, HB.out⟩
          case measure => simp [intOf]; omega
        · rw [show u.testBit k = false by cases e : u.testBit k with | false => rfl | true => exact absurd (hub.1 e) hku] at ba
          have hur := used_cons HU.out hlt hku
          have HI := Lib.hid (H.out.below HB.out H.out.2.1)
          have hgk : matchM (ent t) n d (k :: us) = g k := by rw [← hg]
          have HC := Lib.hid (HIH.out (i + 1) (k :: us) (u ||| 2 ^ k) wr (by omega) hur (HBT.out.or hn6 hlt) HI.out)
          have hbd := match_bd HE.out d (k :: us) hur
          rw [hgk] at HC hbd
          rw [show ((i + 1 : Nat) : Int) = (i : Int) + 1 by omega] at HC
          have hit : i < t.length := by rw [HN.out]; omega
          have hef := HE.out i k (by omega) hlt
          rw [hf] at hef
          clear hub hur hgk
          go_wp2_with fail
          refine HC.out.mono ?_
          rintro e w3 ⟨A3, c3, rfl, hi3, hb3⟩
          have HI3 := Lib.hid hi3
          have HB3 := Lib.hid (HB.out.trans (hb3.mono HB.out.size))
          have HW3 := Lib.hid ((HW.out.grow hb3).wide (Nat.le_refl _) hb3.size (Nat.le_refl _))
          obtain ⟨b, off, b0, o0, cc, hA, hcc, hee⟩ := (HI.out.grow hb3).entry HT.out hit
          rw [HM.out] at hcc hee
          have hek := hee k hlt
          rw [hf] at hek
          obtain ⟨s, hs⟩ : ∃ s, scanM g f us k = s := ⟨_, rfl⟩
          obtain ⟨y, hy⟩ : ∃ y, f k = y := ⟨_, rfl⟩
          obtain ⟨q1, q2, hq1⟩ : ∃ q1 q2, g k = (q1, q2) := ⟨_, _, rfl⟩
          rw [hy] at hek hef
          rw [hq1] at hbd HI3
          rw [hq1]
          dsimp only at hbd HI3
          dsimp only
          have hnew1 : s.2 = [] → scanM g f us (k + 1) = (q1 + y, k :: q2) := fun e => by
            rw [scan_new hku (.inl (by rw [hs]; exact e)), hq1, hy]
          have hnew2 : q1 + y < s.1 → scanM g f us (k + 1) = (q1 + y, k :: q2) := fun e => by
            rw [scan_new hku (.inr (by rw [hs, hq1, hy]; exact e)), hq1, hy]
          have hold : ¬ s.2 = [] → ¬ q1 + y < s.1 → scanM g f us (k + 1) = s := fun e1 e2 => by
            rw [scan_old hku (by rw [hs, hq1, hy]; exact fun e => e.elim e1 e2), hs]
          have HN1 := Lib.hid hnew1; have HN2 := Lib.hid hnew2; have HO := Lib.hid hold
          rw [hs] at HW3
          rw [hs]
          have i0 : (0 : Int) ≤ (i : Int) := by omega
          have in' : (i : Int) < (n : Int) := by omega
          have hbd1 := hbd.1; have hbd2 := hbd.2
          have hbd3 : -6000 ≤ q1 ∧ q1 ≤ 6000 := by
            have : (d : Int) ≤ 6 := by omega
            constructor <;> omega
          have t1 : IntKind.i64.wrap (q1 + y) = q1 + y := IntWalk.i64_in _ (by omega)
          have HL2 : Hid (q2.length = (q2.map fun k : Nat => (k : Int)).length) := by show _ = _; simp
          have HK64 : Hid (I64 (k : Int)) := ⟨by omega, by omega⟩
          have HLE : Hid (([(k : Int)]).length + (q2.map fun k : Nat => (k : Int)).length ≤ 17592186044416) := by
            have h1 := (match_is (ent t) n d (k :: us) (used_cons HU.out hlt hku)).1
            rw [show matchM (ent t) n d (k :: us) = g k by rw [← hg], hq1] at h1
            show _ ≤ _
            simp at h1 ⊢; omega
          have HR3 := Lib.hid (HI3.out.toIR.below ((Below.refl w3.heap.size w3).alloc (Nat.le_refl _) (.cells #[.int .i64 (k : Int)] 3)) (Nat.le_refl _))
          clear hee hnew1 hnew2 hold hbd hbd1 hbd2 hbd3 hb3 hi3 hs hy hq1
          subst hA
          by_cases c1 : s.2.length = 0
          · have HNEW := Lib.hid (HN1.out (by simpa using c1))
            have c1' : (s.2.length : Int) = 0 := by omega
            clear HN1 HN2 HO
            go_wp2_with (at_builtin; refine wpList_appendsI rfl _ _ rfl w3.heap.size _ [(k : Int)] (q2.map fun k : Nat => (k : Int)) A3 _ _ _ c3 HL2.out rfl rfl (OwnI.one w3 _ HK64.out) HR3.out HLE.out ?_; intro v4 w4 ho4 hb4; have HO4 := Lib.hid ho4; have HB4 := Lib.hid hb4; clear ho4 hb4; obtain ⟨A4, c4, rfl, hi4⟩ := HO4.out.iw (by have := HLE.out; simp at this ⊢; omega); have HI4 := Lib.hid hi4; clear hi4 HO4)
            go_roundw
            case rel =>
              refine ⟨k + 1, A4, c4, by omega, by go_num, by rw [HNEW.out], by rw [HNEW.out]; rfl, ?_, HB3.out.trans ((((Below.refl _ w3).alloc (Nat.le_refl _) _).trans HB4.out).mono HB3.out.size)⟩
              rw [HNEW.out]
              exact HI4.out.wide HB3.out.size (Nat.le_refl _) (Nat.le_refl _)
            case measure => simp [intOf]; omega
          · have c1' : ¬ (s.2.length : Int) = 0 := by omega
            have c1'' : ((s.2.length : Int) == 0) = false := by rw [beq_eq_false_iff_ne]; exact c1'
            by_cases c2 : q1 + y < s.1
            · have HNEW := Lib.hid (HN2.out c2)
              clear HN1 HN2 HO
              go_wp2_with (at_builtin; refine wpList_appendsI rfl _ _ rfl w3.heap.size _ [(k : Int)] (q2.map fun k : Nat => (k : Int)) A3 _ _ _ c3 HL2.out rfl rfl (OwnI.one w3 _ HK64.out) HR3.out HLE.out ?_; intro v4 w4 ho4 hb4; have HO4 := Lib.hid ho4; have HB4 := Lib.hid hb4; clear ho4 hb4; obtain ⟨A4, c4, rfl, hi4⟩ := HO4.out.iw (by have := HLE.out; simp at this ⊢; omega); have HI4 := Lib.hid hi4; clear hi4 HO4)
              go_roundw
              case rel =>
                refine ⟨k + 1, A4, c4, by omega, by go_num, by rw [HNEW.out], by rw [HNEW.out]; rfl, ?_, HB3.out.trans ((((Below.refl _ w3).alloc (Nat.le_refl _) _).trans HB4.out).mono HB3.out.size)⟩
                rw [HNEW.out]
                exact HI4.out.wide HB3.out.size (Nat.le_refl _) (Nat.le_refl _)
              case measure => simp [intOf]; omega
            · have HOLD := Lib.hid (HO.out (by intro e; rw [e] at c1; exact c1 rfl) c2)
              have c2' : decide (q1 + y < s.1) = false := decide_eq_false c2
              clear HN1 HN2 HO
              go_wp2
              go_roundw
              case rel => exact ⟨k + 1, A', c', by omega, by go_num, by rw [HOLD.out], by rw [HOLD.out], by rw [HOLD.out]; exact HW3.out, HB3.out⟩
              case measure => simp [intOf]; omega
      · obtain rfl : k = n := by omega
        have hlt' : ¬ (k : Int) < (k : Int) := by omega
        go_wp2
        go_ret2
        exact ⟨A', ⟨c', rfl⟩, HW.out, HB.out⟩

/-- What TableMatch gives: a cost, a list of the call's own, and whether there is one. -/
def RetMB (w : World) (o : Option (Int × List Int)) (e : Ending) (w' : World) : Prop := ∃ A c, e = .returned (.tuple #[.int .i64 (o.getD (0, [])).1, .slice A (o.getD (0, [])).2.length c, .bool o.isSome]) ∧ IR w' 0 w'.heap.size A (o.getD (0, [])).2 ∧ Below w.heap.size w w'
theorem retMB_none {w w1 : World} (hb : Below w.heap.size w w1) : RetMB w none (.returned (.tuple #[.int .i64 0, .slice (some ⟨w1.heap.size, 0, none⟩) 0 0, .bool false])) (w1.alloc (.cells #[] 3)) :=
  ⟨_, 0, rfl, ⟨by simp, by simp, Nat.le_refl _, fun h => absurd h (by simp)⟩, below_then hb (Nat.le_refl _) ((Below.refl _ _).alloc (Nat.le_refl _) _)⟩

set_option maxRecDepth 100000 in
set_option maxHeartbeats 1000000 in
theorem specTableMatch_any (A : Option Addr) (c lo hi : Nat) (t : List (List Int)) (w : World) (h : IRR w lo hi A t) :
    Calls Try.prog 22 #[.slice A t.length c] w (RetMB w (matchI t)) := by
  have H := Lib.hid h
  clear h
  go_enter Try.func22, Try.ntmps22
  go_wp2_with fail
  refine (l5Table_any A c lo hi t _ H.out).mono ?_
  rintro e w1 ⟨rfl, hd⟩
  cases ht : tableB t with
  | false =>
    have HB := Lib.hid hd.below
    have HM : Hid (matchI t = none) := by show _ = _; unfold matchI; rw [ht]; rfl
    clear hd ht
    go_wp2
    go_ret3
    rw [HM.out]
    exact retMB_none HB.out
  | true =>
    obtain ⟨n0, n6, m0, _⟩ := table_sh ht
    have HT := Lib.hid ht
    have HB := Lib.hid hd.below
    have H1 := Lib.hid (hd.irr H.out)
    have h0t : 0 < t.length := by omega
    obtain ⟨b, off, A0, c0, hA, -, hc0, -, -⟩ := H1.out.at_ (k := 0) h0t
    rw [Nat.add_zero] at hc0
    rw [table_row HT.out h0t] at hc0
    obtain ⟨n, hnn⟩ : ∃ n, t.length = n := ⟨_, rfl⟩
    obtain ⟨m, hmm⟩ : ∃ m, colsN t = m := ⟨_, rfl⟩
    have HN := Lib.hid hnn; have HMM := Lib.hid hmm
    rw [hmm] at hc0
    rw [hnn]
    have q0 : 0 < n := by omega
    clear hd ht hnn hmm
    by_cases hq : n = m
    · have HM : Hid (matchI t = some ((matchM (ent t) n n []).1, (matchM (ent t) n n []).2.map fun k : Nat => (k : Int))) := by
        show _ = _
        unfold matchI
        rw [HT.out, HN.out, HMM.out, hq]
        simp
      have HQ := Lib.hid (l5Match_any A c lo hi n t HT.out HN.out (by rw [HMM.out, hq]) n 0 [] 0 w1 (by omega) ⟨by simp, by simp, by simp⟩ ⟨by omega, fun k _ => by simp⟩ H1.out)
      have hq' : (n : Int) = (m : Int) := by omega
      subst hA
      clear hq
      go_wp2_with fail
      refine HQ.out.mono ?_
      rintro e w2 ⟨A2, c2, rfl, hi2, hb2⟩
      have HI := Lib.hid hi2; have HB2 := Lib.hid hb2
      obtain ⟨s, hs⟩ : ∃ s, matchM (ent t) n n [] = s := ⟨_, rfl⟩
      rw [hs] at HI HM
      rw [hs]
      clear hi2 hb2 HQ hs
      go_wp2
      go_ret3
      rw [HM.out]
      exact ⟨A2, c2, by simp, HI.out.toIR.wide (Nat.zero_le _) (Nat.le_refl _) (Nat.le_refl _), HB.out.trans (HB2.out.mono HB.out.size)⟩
    · have HM : Hid (matchI t = none) := by
        show _ = _
        unfold matchI
        rw [HT.out, HN.out, HMM.out]
        simp [hq]
      have hq' : ¬ (n : Int) = (m : Int) := by omega
      subst hA
      clear hq
      go_wp2
      go_ret3
      rw [HM.out]
      exact retMB_none HB.out
end Go.Proofs.Ytfkmnlhmldjieab
