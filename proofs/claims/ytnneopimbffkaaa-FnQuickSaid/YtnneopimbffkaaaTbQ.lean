/-
  quickColumns and TableQuick of the program. Conditions: the lists' cells are there.
-/
import Derived.Test.YtnneopimbffkaaaTbL
namespace Go.Proofs.Ytnneopimbffkaaa
open Go.RowKit Go.Shelf
attribute [local go_sem] Oper.semAt_some

/-- xs with the first columns put at the rows from a on, len of them (rows told by f). -/
def putQ (_n m : Nat) (f : Nat → Nat → Int) (xs : List Int) (a len : Nat) : List Int := (List.range xs.length).map fun i => if a ≤ i ∧ i < a + len then (fstTo (f i) 0 (m - 1) : Int) else xs.getD i 0
theorem putQ_len (n m : Nat) (f : Nat → Nat → Int) (xs : List Int) (a len : Nat) : (putQ n m f xs a len).length = xs.length := by simp [putQ]
theorem putQ_get (n m : Nat) (f : Nat → Nat → Int) (xs : List Int) (a len i : Nat) (h : i < (putQ n m f xs a len).length) : (putQ n m f xs a len)[i] = if a ≤ i ∧ i < a + len then (fstTo (f i) 0 (m - 1) : Int) else xs.getD i 0 := by simp [putQ]
theorem putQ_zero (n m : Nat) (f : Nat → Nat → Int) (xs : List Int) (a : Nat) : putQ n m f xs a 0 = xs := by
  apply List.ext_getElem
  · exact putQ_len _ _ _ _ _ _
  · intro i h1 h2
    rw [putQ_get, if_neg (by omega), getD_in h2]
theorem putQ_getD (n m : Nat) (f : Nat → Nat → Int) (xs : List Int) (a len i : Nat) (h : i < xs.length) : (putQ n m f xs a len).getD i 0 = if a ≤ i ∧ i < a + len then (fstTo (f i) 0 (m - 1) : Int) else xs.getD i 0 := by
  rw [getD_in (show i < (putQ n m f xs a len).length by rw [putQ_len]; exact h), putQ_get]
/-- The middle one, those ahead of it, those behind it. -/
theorem putQ_step (n m : Nat) (f : Nat → Nat → Int) (xs : List Int) (a h d : Nat) :
    putQ n m f (putQ n m f (xs.set (a + h) (fstTo (f (a + h)) 0 (m - 1) : Int)) a h) (a + h + 1) d = putQ n m f xs a (h + 1 + d) := by
  apply List.ext_getElem
  · simp [putQ_len]
  · intro i h1 h2
    rw [putQ_get, putQ_get]
    have hi : i < xs.length := by rw [putQ_len] at h2; exact h2
    rw [putQ_getD _ _ _ _ _ _ _ (by simpa using hi), set_at _ _ _ _ hi]
    by_cases c1 : a + h + 1 ≤ i ∧ i < a + h + 1 + d
    · rw [if_pos c1, if_pos (by omega)]
    · rw [if_neg c1]
      by_cases c2 : a ≤ i ∧ i < a + h
      · rw [if_pos c2, if_pos (by omega)]
      · rw [if_neg c2]
        by_cases c3 : i = a + h
        · rw [if_pos c3, if_pos (by omega), c3]
        · rw [if_neg c3, if_neg (by omega)]
/-- Only the cells of block P lie otherwise, and new blocks have been laid. -/
structure OnlyB (P : Nat) (w w' : World) : Prop where
  os : w'.os = w.os
  tape : w'.tape = w.tape
  output : w'.output = w.output
  size : w.heap.size ≤ w'.heap.size
  block : ∀ k, k < w.heap.size → k ≠ P → w'.heap[k]? = w.heap[k]?
theorem OnlyB.refl (P : Nat) (w : World) : OnlyB P w w := ⟨rfl, rfl, rfl, Nat.le_refl _, fun _ _ _ => rfl⟩
theorem OnlyB.trans {P : Nat} {a b c : World} (h : OnlyB P a b) (k : OnlyB P b c) : OnlyB P a c := ⟨k.os.trans h.os, k.tape.trans h.tape, k.output.trans h.output, Nat.le_trans h.size k.size, fun i hi hne => (k.block i (Nat.lt_of_lt_of_le hi h.size) hne).trans (h.block i hi hne)⟩
theorem OnlyB.of {P : Nat} {a b : World} (h : Below a.heap.size a b) : OnlyB P a b := ⟨h.os, h.tape, h.output, h.size, fun k hk _ => h.block k hk⟩
theorem OnlyB.drew {P : Nat} {a b : World} (h : OnlyB P a b) : OnlyB P a b.drew := ⟨h.os, h.tape, h.output, h.size, h.block⟩
theorem OnlyB.set_ {P : Nat} {a b : World} (h : OnlyB P a b) (o : Nat) (v : Value) : OnlyB P a (b.setCell ⟨P, o, none⟩ v) :=
  h.trans ⟨rfl, rfl, rfl, by simp [World.setCell], fun k _ hne => Below.heap_setCell b ⟨P, o, none⟩ v k hne⟩
theorem OnlyB.bt {P : Nat} {a b : World} (h : OnlyB P a b) {B n m : Nat} {f : Nat → Nat → Int} (hb : BT a B n m f) (hne : B ≠ P) : BT b B n m f := hb.block (h.block B hb.lt hne)
theorem OnlyB.below {P C : Nat} {w a b : World} (h : OnlyB P a b) (hb : Below C w a) (hC : C ≤ P) (hs : C ≤ a.heap.size) : Below C w b :=
  ⟨h.os.trans hb.os, h.tape.trans hb.tape, h.output.trans hb.output, Nat.le_trans hb.size h.size, fun k hk => (h.block k (by omega) (by omega)).trans (hb.block k hk)⟩

theorem elemInts : Try.prog.underlying 26 = some (.slice (Try.prog.elem 26)) := by kernel_rfl
theorem sizeElem (W : World) : (sizeOf (Try.prog.elem 26)).run Try.prog W = .ok 1 W := by
  rw [show Try.prog.elem 26 = 3 by kernel_rfl]
  exact Try.sizeOf3 W
theorem run_sliceTo {o : Oper} {ρ : Operand → Value} {W : World} {x y : Operand} {ad : Option Addr} {len cap h : Nat} (ho : o.op = .slice 26 x none (some y) none) (hx : ρ x = .slice ad len cap) (hy : ρ y = .int .i64 (h : Int)) (hh : h ≤ cap) :
    (execOp ρ o).run Try.prog W = .ok (.value (.slice ad h cap)) W := by
  unfold execOp
  have h1 := run_slice_h (P := Try.prog) W 26 ad len cap elemInts .i64 (h : Int) (by omega) (by omega)
  simp only [ho, Sem.run_bind, Option.map_none, Option.map_some, hx, hy, run_sliceAt_slice (P := Try.prog) W 26 _ _ _ _ elemInts, h1, sizeElem, Result.andThen_ok, Sem.run_pure, sliced]
  cases ad <;> simp [Addr.add]
theorem run_sliceFrom {o : Oper} {ρ : Operand → Value} {W : World} {x y : Operand} {b a len cap l : Nat} (ho : o.op = .slice 26 x (some y) none none) (hx : ρ x = .slice (some ⟨b, a, none⟩) len cap) (hy : ρ y = .int .i64 (l : Int)) (hl : l ≤ len) (h0 : 0 < l) :
    (execOp ρ o).run Try.prog W = .ok (.value (.slice (if cap = l then some ⟨b, a, none⟩ else some ⟨b, a + l, none⟩) (len - l) (cap - l))) W := by
  unfold execOp
  have h1 := run_slice_l (P := Try.prog) W 26 (some ⟨b, a, none⟩) len cap elemInts .i64 (l : Int) (by omega) (by omega)
  simp only [ho, Sem.run_bind, Option.map_none, Option.map_some, hx, hy, run_sliceAt_slice (P := Try.prog) W 26 _ _ _ _ elemInts, h1, sizeElem, Result.andThen_ok, Sem.run_pure, sliced]
  simp only [Int.toNat_natCast, Nat.mul_one]
  try simp only [Option.map_some]
  rw [show (⟨b, a, none⟩ : Addr).add l = ⟨b, a + l, none⟩ by unfold Addr.add; rw [if_neg (by omega)]]
set_option maxRecDepth 100000 in
set_option maxHeartbeats 1000000 in
theorem quick_any (P n m : Nat) (f : Nat → Nat → Int) (hn6 : n ≤ 6) (hm6 : m ≤ 6) (hcr : Cr f n m) (hb : ∀ i k, i < n → k < m → -1000 ≤ f i k ∧ f i k ≤ 1000) : ∀ (N len a lo hi cap : Nat) (A : Option Addr) (xs : List Int) (w : World), len ≤ N → a + len ≤ n → lo ≤ hi → hi < m → len ≤ cap → cap ≤ 9223372036854775807 →
      (0 < len → A = some ⟨P, a, none⟩) → (∀ i, a ≤ i → i < a + len → lo ≤ fstTo (f i) 0 (m - 1) ∧ fstTo (f i) 0 (m - 1) ≤ hi) → Cells w P 0 xs → xs.length = n → P < w.heap.size →
      Calls Try.prog 47 #[.agg (tabV n m f), .slice A len cap, .int .i64 (a : Int), .int .i64 (lo : Int), .int .i64 (hi : Int)] w
        fun e w' => (∃ v, e = .returned v) ∧ Cells w' P 0 (putQ n m f xs a len) ∧ OnlyB P w w' := by
  have HBD := Lib.hid hb; have HCR := Lib.hid hcr
  clear hb hcr
  intro N
  induction N with
  | zero =>
    intro len a lo hi cap A xs w hl hal hlh hhm hcap hcap2 hA hf hcs hx hP
    obtain rfl : len = 0 := by omega
    have HC := Lib.hid hcs
    have HO := Lib.hid (OnlyB.of (P := P) ((Below.refl w.heap.size w).alloc (Nat.le_refl _) (.cells (tabV n m f) 50)))
    have HC2 := Lib.hid (Cells.grow HC.out ((Below.refl w.heap.size w).alloc (Nat.le_refl _) (.cells (tabV n m f) 50)) hP)
    clear hf hcs hA
    go_enter Try.func47, Try.ntmps47
    go_wp2
    refine bodyPost_ret (results_none rfl _ _ _) rfl ?_
    exact ⟨⟨_, rfl⟩, by rw [putQ_zero]; exact HC2.out, HO.out⟩
  | succ N ih =>
    intro len a lo hi cap A xs w hl hal hlh hhm hcap hcap2 hA hf hcs hx hP
    have HC := Lib.hid hcs; have HIH := Lib.hid ih
    have HO := Lib.hid (OnlyB.of (P := P) ((Below.refl w.heap.size w).alloc (Nat.le_refl _) (.cells (tabV n m f) 50)))
    have HC2 := Lib.hid (Cells.grow HC.out ((Below.refl w.heap.size w).alloc (Nat.le_refl _) (.cells (tabV n m f) 50)) hP)
    clear hcs ih
    by_cases h0 : len = 0
    · subst h0
      clear hf hA HIH
      go_enter Try.func47, Try.ntmps47
      go_wp2
      refine bodyPost_ret (results_none rfl _ _ _) rfl ?_
      exact ⟨⟨_, rfl⟩, by rw [putQ_zero]; exact HC2.out, HO.out⟩
    · obtain rfl := hA (by omega)
      obtain ⟨p, d, hlen, hpd⟩ : ∃ p d : Nat, len = p + 1 + d ∧ p = (len - 1) / 2 := ⟨(len - 1) / 2, len - 1 - (len - 1) / 2, by omega, rfl⟩
      have hM := hf (a + p) (by omega) (by omega)
      have mono : ∀ {i j : Nat}, i ≤ j → j < n → fstTo (f i) 0 (m - 1) ≤ fstTo (f j) 0 (m - 1) := fun {i j} h1 h2 => by
        have g1 := fstTo_is (f i) 0 (m - 1)
        have g2 := fstTo_is (f j) 0 (m - 1)
        rw [Nat.zero_add] at g1 g2
        exact cr_fst HCR.out h1 h2 (by omega) g1 g2
      have HF1 : Hid (∀ i, a ≤ i → i < a + p → lo ≤ fstTo (f i) 0 (m - 1) ∧ fstTo (f i) 0 (m - 1) ≤ fstTo (f (a + p)) 0 (m - 1)) := fun i h1 h2 => ⟨(hf i h1 (by omega)).1, mono (by omega) (by omega)⟩
      have HF2 : Hid (∀ i, a + p + 1 ≤ i → i < a + p + 1 + d → fstTo (f (a + p)) 0 (m - 1) ≤ fstTo (f i) 0 (m - 1) ∧ fstTo (f i) 0 (m - 1) ≤ hi) := fun i h1 h2 => ⟨mono (by omega) (by omega), (hf i (by omega) (by omega)).2⟩
      have hps := putQ_step n m f xs a p d
      rw [← hlen] at hps
      have hLC := fun W => leastColumn_any n m f (a + p) lo (hi - lo) (by omega) (by omega) (fun k _ hk => HBD.out _ k (by omega) (by omega)) W
      have hfp : fstTo (f (a + p)) lo (hi - lo) = fstTo (f (a + p)) 0 (m - 1) := by
        have g1 := fstTo_is (f (a + p)) 0 (m - 1)
        rw [Nat.zero_add] at g1
        have g2 := fstTo_is (f (a + p)) lo (hi - lo)
        rw [show lo + (hi - lo) = hi by omega] at g2
        exact g2.uniq (g1.part (Nat.zero_le _) (by omega) hM.1 hM.2)
      rw [hfp, show lo + (hi - lo) = hi by omega, show ((a + p : Nat) : Int) = (a : Int) + (p : Int) by omega] at hLC
      obtain ⟨F, hF⟩ : ∃ F, fstTo (f (a + p)) 0 (m - 1) = F := ⟨_, rfl⟩
      rw [hF] at hLC hps HF1 HF2 hM
      have HLC := Lib.hid hLC; have HPS := Lib.hid hps; have HM := Lib.hid hM; have HLN := Lib.hid hlen
      have s1 : IntKind.i64.wrap ((len : Int) - 1) = (len : Int) - 1 := IntWalk.i64_in _ (by omega)
      have s2 : ((len : Int) - 1).tdiv 2 = (p : Int) := by rw [Int.tdiv_eq_ediv_of_nonneg (by omega)]; omega
      have s3 : IntKind.i64.wrap (p : Int) = (p : Int) := IntWalk.i64_in _ (by omega)
      have s4 : IntKind.i64.wrap ((a : Int) + (p : Int)) = (a : Int) + (p : Int) := IntWalk.i64_in _ (by omega)
      have s5 : IntKind.i64.wrap ((p : Int) + 1) = (p : Int) + 1 := IntWalk.i64_in _ (by omega)
      have s6 : IntKind.i64.wrap ((a : Int) + (p : Int) + 1) = (a : Int) + (p : Int) + 1 := IntWalk.i64_in _ (by omega)
      have p0 : (0 : Int) ≤ (p : Int) := by omega
      have hpl : p < len := by omega
      have hpl' : (p : Int) < (len : Int) := by omega
      have h0' : ¬ (len : Int) = 0 := by omega
      have bT := BT.new w n m f
      clear hf hpd hLC hps hfp hF mono hM hlen
      go_enter Try.func47, Try.ntmps47
      go_wp2_with (refine wpList_ldT rfl _ rfl rfl bT ?_)
      refine (HLC.out _).mono ?_
      rintro e w1 ⟨rfl, hb1⟩
      have bT1 := bT.grow hb1
      have hP1 : P < (w.alloc (.cells (tabV n m f) 50)).heap.size := by simp; omega
      have hC1 := Cells.grow HC2.out hb1 hP1
      have hax : a + p < xs.length := by omega
      obtain ⟨cc, ff⟩ := hC1 (a + p) hax
      rw [Nat.zero_add] at cc ff
      have hC2 := hC1.set_ (a + p) hax (F : Int)
      rw [Nat.zero_add] at hC2
      have HO1 := Lib.hid (HO.out.trans (OnlyB.of hb1))
      obtain ⟨v, hv⟩ : ∃ v, xs[a + p] = v := ⟨_, rfl⟩
      rw [hv] at cc
      have hne : w.heap.size ≠ P := by omega
      have bT2 : BT (w1.setCell ⟨P, a + p, none⟩ (.int .i64 (F : Int))) w.heap.size n m f := bT1.other hne _
      have HO2 := Lib.hid (HO1.out.set_ (a + p) (.int .i64 (F : Int)))
      have HC3 := Lib.hid hC2
      clear hb1 hC1 hC2 hv bT bT1
      have hpc : p ≤ cap := by omega
      have hpc' : (p : Int) ≤ (cap : Int) := by omega
      have hpn : (p : Int).toNat = p := by omega
      have q1 : (0 : Int) ≤ (p : Int) + 1 := by omega
      have q2 : (p : Int) + 1 ≤ (len : Int) := by omega
      have q3 : ((p : Int) + 1).toNat = p + 1 := by omega
      have q4 : (len : Int) ≤ (cap : Int) := by omega
      go_wp2
      obtain ⟨V, hV⟩ : ∃ V, tabV n m f = V := ⟨_, rfl⟩
      rw [hV] at HIH
      rw [hV]
      obtain ⟨W2, hW2⟩ : ∃ W2, w1.setCell ⟨P, a + p, none⟩ (.int .i64 (F : Int)) = W2 := ⟨_, rfl⟩
      rw [hW2] at bT2 HO2 HC3
      rw [hW2]
      clear hW2
      refine wp_region_held_drew (S := fun W => BT W w.heap.size n m f) (by kernel_rfl) bT2 (fun hS => ?_)
      refine anyH_take 0 (v := .agg V) rfl (by kernel_rfl) (by kernel_rfl) (by kernel_rfl) (fun _ _ _ h => h) rfl (fun W hW => by rw [← hV]; exact run_ldT rfl (by kernel_rfl) hW) hS ?_
      refine anyH_take 1 (v := .slice (some ⟨P, a, none⟩) len cap) rfl (by kernel_rfl) (by kernel_rfl) (by kernel_rfl) (fun _ _ _ h => h) rfl (fun W hW => by kernel_rfl) hS ?_
      refine anyH_take 2 (v := .int .i64 (p : Int)) rfl (by kernel_rfl) (by kernel_rfl) (by kernel_rfl) (fun _ _ _ h => h) rfl (fun W hW => by kernel_rfl) hS ?_
      refine anyH_take 3 (v := .slice (some ⟨P, a, none⟩) p cap) rfl (by kernel_rfl) (by kernel_rfl) (by kernel_rfl) (fun _ _ _ h => h) rfl (fun W hW => run_sliceTo (h := p) (len := len) rfl (by kernel_rfl) (by kernel_rfl) hpc) hS ?_
      refine anyH_take 4 (v := .int .i64 (a : Int)) rfl (by kernel_rfl) (by kernel_rfl) (by kernel_rfl) (fun _ _ _ h => h) rfl (fun W hW => by kernel_rfl) hS ?_
      refine anyH_take 5 (v := .int .i64 (lo : Int)) rfl (by kernel_rfl) (by kernel_rfl) (by kernel_rfl) (fun _ _ _ h => h) rfl (fun W hW => by kernel_rfl) hS ?_
      refine anyH_take 6 (v := .int .i64 (F : Int)) rfl (by kernel_rfl) (by kernel_rfl) (by kernel_rfl) (fun _ _ _ h => h) rfl (fun W hW => by kernel_rfl) hS ?_
      refine anyH_one 7 rfl (by kernel_rfl) (by kernel_rfl) ?_
      refine wp_callF (args := #[.agg V, .slice (some ⟨P, a, none⟩) p cap, .int .i64 (a : Int), .int .i64 (lo : Int), .int .i64 (F : Int)]) rfl Try.call47 (by kernel_rfl) ?_
      have hP2 : P < W2.drew.heap.size := Nat.lt_of_lt_of_le hP HO2.out.size
      refine (HIH.out p a lo F cap _ _ W2.drew (by omega) (by omega) HM.out.1 (by have := HM.out.2; omega) hpc hcap2 (fun _ => rfl) HF1.out HC3.out (by rw [List.length_set]; exact hx) hP2).mono ?_
      rintro e w3 ⟨⟨v3, rfl⟩, hcs3, ho3⟩
      have hS3 : BT w3 w.heap.size n m f := ho3.bt (BT.drew bT2) hne
      have HO3 := Lib.hid (HO2.out.drew.trans ho3)
      refine ⟨_, rfl, hS3, ?_⟩
      refine wpAnyH_done (by kernel_rfl) ?_ _
      have HC4 := Lib.hid hcs3
      have hl3 : (putQ n m f (xs.set (a + p) (F : Int)) a p).length = n := by rw [putQ_len, List.length_set]; exact hx
      have HL3 := Lib.hid hl3
      clear hcs3 ho3 hl3 hS bT2
      have hP3 : P < w3.heap.size := Nat.lt_of_lt_of_le hP HO3.out.size
      obtain ⟨A', hA'⟩ : ∃ A', (if cap = p + 1 then some (⟨P, a, none⟩ : Addr) else some ⟨P, a + (p + 1), none⟩) = A' := ⟨_, rfl⟩
      have hd : len - (p + 1) = d := by have := HLN.out; omega
      have HA' : Hid (0 < d → A' = some ⟨P, a + p + 1, none⟩) := fun h => by
        rw [← hA', if_neg (by omega)]; rfl
      have HF2' : Hid (∀ i, a + p + 1 ≤ i → i < a + p + 1 + d → F ≤ fstTo (f i) 0 (m - 1) ∧ fstTo (f i) 0 (m - 1) ≤ hi) := HF2.out
      have HIH2 := Lib.hid (HIH.out d (a + p + 1) F hi (cap - (p + 1)) A' (putQ n m f (xs.set (a + p) (F : Int)) a p) w3.drew (by omega) (by omega) HM.out.2 hhm (by omega) (by omega) HA'.out HF2'.out HC4.out HL3.out hP3)
      rw [show ((a + p + 1 : Nat) : Int) = (a : Int) + (p : Int) + 1 by omega] at HIH2
      have hsl : ∀ (o : Oper) (ρ : Operand → Value) (W : World) (x l : Operand), o.op = .slice 26 x (some l) none none → ρ x = .slice (some ⟨P, a, none⟩) len cap → ρ l = .int .i64 ((p : Int) + 1) → (execOp ρ o).run Try.prog W = .ok (.value (.slice A' d (cap - (p + 1)))) W := fun o ρ W x l h1 h2 h3 => by
        rw [← hA', ← hd]
        exact run_sliceFrom (l := p + 1) h1 h2 (by rw [h3]; simp) (by omega) (by omega)
      clear HIH
      go_wp2
      refine wp_region_held_drew (S := fun W => BT W w.heap.size n m f) (by kernel_rfl) hS3 (fun hS => ?_)
      refine anyH_take 0 (v := .agg V) rfl (by kernel_rfl) (by kernel_rfl) (by kernel_rfl) (fun _ _ _ h => h) rfl (fun W hW => by rw [← hV]; exact run_ldT rfl (by kernel_rfl) hW) hS ?_
      refine anyH_take 1 (v := .slice (some ⟨P, a, none⟩) len cap) rfl (by kernel_rfl) (by kernel_rfl) (by kernel_rfl) (fun _ _ _ h => h) rfl (fun W hW => by kernel_rfl) hS ?_
      refine anyH_take 2 (v := .int .i64 (p : Int)) rfl (by kernel_rfl) (by kernel_rfl) (by kernel_rfl) (fun _ _ _ h => h) rfl (fun W hW => by kernel_rfl) hS ?_
      refine anyH_take 3 (v := .int .i64 ((p : Int) + 1)) rfl (by kernel_rfl) (by kernel_rfl) (by kernel_rfl) (fun _ _ _ h => h) rfl (fun W hW => by go_simp) hS ?_
      refine anyH_take 4 (v := (.slice A' d (cap - (p + 1)))) rfl (by kernel_rfl) (by kernel_rfl) (by kernel_rfl) (fun _ _ _ h => h) rfl (fun W hW => hsl _ _ W _ _ rfl (by kernel_rfl) (by kernel_rfl)) hS ?_
      refine anyH_take 5 (v := .int .i64 (a : Int)) rfl (by kernel_rfl) (by kernel_rfl) (by kernel_rfl) (fun _ _ _ h => h) rfl (fun W hW => by kernel_rfl) hS ?_
      refine anyH_take 6 (v := .int .i64 (p : Int)) rfl (by kernel_rfl) (by kernel_rfl) (by kernel_rfl) (fun _ _ _ h => h) rfl (fun W hW => by kernel_rfl) hS ?_
      refine anyH_take 7 (v := .int .i64 ((a : Int) + (p : Int))) rfl (by kernel_rfl) (by kernel_rfl) (by kernel_rfl) (fun _ _ _ h => h) rfl (fun W hW => by go_simp) hS ?_
      refine anyH_take 8 (v := .int .i64 ((a : Int) + (p : Int) + 1)) rfl (by kernel_rfl) (by kernel_rfl) (by kernel_rfl) (fun _ _ _ h => h) rfl (fun W hW => by go_simp) hS ?_
      refine anyH_take 9 (v := .int .i64 (F : Int)) rfl (by kernel_rfl) (by kernel_rfl) (by kernel_rfl) (fun _ _ _ h => h) rfl (fun W hW => by kernel_rfl) hS ?_
      refine anyH_take 10 (v := .int .i64 (hi : Int)) rfl (by kernel_rfl) (by kernel_rfl) (by kernel_rfl) (fun _ _ _ h => h) rfl (fun W hW => by kernel_rfl) hS ?_
      refine anyH_one 11 rfl (by kernel_rfl) (by kernel_rfl) ?_
      refine wp_callF (args := #[.agg V, .slice A' d (cap - (p + 1)), .int .i64 ((a : Int) + (p : Int) + 1), .int .i64 (F : Int), .int .i64 (hi : Int)]) rfl Try.call47 (by kernel_rfl) ?_
      refine HIH2.out.mono ?_
      rintro e w4 ⟨⟨v4, rfl⟩, hcs4, ho4⟩
      have hS4 : BT w4 w.heap.size n m f := ho4.bt hS hne
      rw [HPS.out] at hcs4
      have HC5 := Lib.hid hcs4
      have HO5 := Lib.hid (HO3.out.drew.trans ho4)
      refine ⟨_, rfl, hS4, ?_⟩
      refine wpAnyH_done (by kernel_rfl) ?_ _
      clear hcs4 ho4 hsl HIH2
      go_wp2
      go_end0
      exact ⟨⟨_, rfl⟩, HC5.out, HO5.out⟩

theorem putQ_all (n m : Nat) (f : Nat → Nat → Int) (xs : List Int) (h : xs.length = n) : putQ n m f xs 0 n = colsL n m f := by
  apply List.ext_getElem
  · rw [putQ_len, colsL_len, h]
  · intro i h1 h2
    rw [putQ_get, if_pos (by rw [putQ_len] at h1; omega)]
    simp [colsL]

set_option maxRecDepth 100000 in
set_option maxHeartbeats 1000000 in
theorem implTableQuick_any (A : Option Addr) (c : Nat) (t : List (List Int)) (w : World) (h : IRR w 0 w.heap.size A t) :
    Calls Try.prog 21 #[.slice A t.length c] w (RetSB w (quickM t)) := by
  have H := Lib.hid h
  clear h
  go_enter Try.func21, Try.ntmps21
  go_wp2_with fail
  refine (crossedIn_any A c _ _ t _ H.out).mono ?_
  rintro e w1 ⟨n, m, f, rfl, -, hf, hb1⟩
  have bT := BT.new w1 0 0 zF
  have HB := Lib.hid (below_setRow (hb1.alloc hb1.size (.cells (tabV 0 0 zF) 50)) hb1.size (tabV n m f))
  have bT2 : BT ((w1.alloc (.cells (tabV 0 0 zF) 50)).setRow w1.heap.size (tabV n m f)) w1.heap.size n m f := bT.put
  have hsz : ((w1.alloc (.cells (tabV 0 0 zF) 50)).setRow w1.heap.size (tabV n m f)).heap.size = w1.heap.size + 1 := by simp
  obtain ⟨W2, hW2⟩ : ∃ W2, (w1.alloc (.cells (tabV 0 0 zF) 50)).setRow w1.heap.size (tabV n m f) = W2 := ⟨_, rfl⟩
  rw [hW2] at HB bT2 hsz
  have HW := Lib.hid hW2
  cases hb : crossedB t with
  | false =>
    have HM : Hid (quickM t = none) := by show _ = _; unfold quickM; rw [hb]; rfl
    clear hf hb hW2
    go_wp2_with (first | (refine wpList_alT rfl rfl ?_) | (refine wpList_stT rfl _ _ rfl rfl rfl bT ?_))
    rw [HW.out]
    go_ret2
    rw [HM.out]
    exact retSB_none HB.out
  | true =>
    obtain ⟨ht, hcr⟩ := crossed_true hb
    obtain ⟨hsh, hn, hm, hE⟩ := table_sh ht
    obtain ⟨e1, e2, e3⟩ := hf hb
    have HM : Hid (quickM t = some (colsL n m f)) := by show _ = _; unfold quickM; rw [hb, cols_table ht e1 e2 e3]; rfl
    have hmk : (Instr.makeSlice 26 (.int .i64 (n : Int)) (.int .i64 (n : Int))).run Try.prog W2 = .ok (.slice (some ⟨W2.heap.size, 0, none⟩) n n) (W2.alloc (.cells (madeCells #[.int .i64 0] n) 3)) := run_makeInts n (by omega) W2
    have hC0 := Cells.made W2 n 3
    have bT3 := bT2.alloc (.cells (madeCells #[.int .i64 0] n) 3)
    have c0 := bT2.rows
    have c1 := bT3.cols
    have hwm := HB.out.size
    have HQ := Lib.hid (quick_any W2.heap.size n m f (by omega) (by omega) (by rw [e1, e2]; exact cr_congr hcr fun i k hi hk => (e3 i k hi hk).symm) (fun i k hi hk => by rw [e3 i k (by omega) (by omega)]; exact hE i k (by omega) (by omega)) n n 0 0 (m - 1) n (some ⟨W2.heap.size, 0, none⟩) (List.replicate n 0) (W2.alloc (.cells (madeCells #[.int .i64 0] n) 3)) (Nat.le_refl _) (by omega) (by omega) (by omega) (Nat.le_refl _) (by omega) (fun _ => rfl)
      (fun i _ _ => ⟨Nat.zero_le _, by have := (fstTo_is (f i) 0 (m - 1)).2.1; omega⟩) hC0 (by simp) (by simp))
    rw [putQ_all n m f _ (by simp), show ((m - 1 : Nat) : Int) = (m : Int) - 1 by omega] at HQ
    have s1 : IntKind.i64.wrap ((m : Int) - 1) = (m : Int) - 1 := IntWalk.i64_in _ (by omega)
    have hn64 : n ≤ 6 := by omega
    have HI64 : Hid (∀ z, z ∈ colsL n m f → I64 z) := fun z hz => by
      obtain ⟨j, hj, rfl⟩ := List.getElem_of_mem hz
      simp only [colsL, List.getElem_map, List.getElem_range]
      have := (fstTo_is (f j) 0 (m - 1)).2.1
      exact ⟨by omega, by omega⟩
    rw [hsz] at hmk HQ
    clear hf hb hsh hn hm hE e1 e2 e3 ht hcr hC0
    go_wp2_with (first | (refine wpList_alT rfl rfl ?_) | (refine wpList_stT rfl _ _ rfl rfl rfl bT ?_) | (refine wpList_ldT rfl _ rfl rfl bT3 ?_))
    refine HQ.out.mono ?_
    rintro e w3 ⟨⟨v3, rfl⟩, hcs, ho⟩
    have hB3 : Below w.heap.size w w3 := ho.below (HB.out.alloc hwm _) (by omega) (by simp; omega)
    have hs3 : w1.heap.size + 2 ≤ w3.heap.size := by have := ho.size; simp at this; omega
    have hwm2 : w.heap.size ≤ w1.heap.size + 1 := by omega
    have HIW := Lib.hid (hcs.iw (lo := w.heap.size) (hi := w3.heap.size) (colsL_len n m f) hwm2 (by omega) (Nat.le_refl _) (by omega) HI64.out)
    have HB3 := Lib.hid hB3
    have HLN := Lib.hid (colsL_len n m f)
    clear hcs ho hB3 hs3 hmk c0 c1
    go_wp2
    go_ret2
    rw [HM.out]
    exact retSB_some HLN.out.symm HIW.out HB3.out
end Go.Proofs.Ytnneopimbffkaaa
