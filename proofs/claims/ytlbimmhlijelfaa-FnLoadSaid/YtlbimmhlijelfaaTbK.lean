/-
  cost and TableCost of the program. Conditions: the lists' cells are there.
-/
import Derived.Test.YtlbimmhlijelfaaTbA
import Derived.Test.YtlbimmhlijelfaaTsA
import Derived.Test.YtlbimmhlijelfaaHeldE
namespace Go.Proofs.Ytlbimmhlijelfaa
open Go.RowKit Go.Shelf
attribute [local go_sem] Oper.semAt_some

/-- The cost of the first spots. -/
def costP (n m : Nat) (f g : Nat → Nat → Int) (pre : List (Fin (n * m))) : Int := pre.foldl (fun s x => s + g (x.1 / m) (x.1 % m) * f (x.1 / m) (x.1 % m)) 0
theorem costP_snoc (n m : Nat) (f g : Nat → Nat → Int) (pre : List (Fin (n * m))) (x : Fin (n * m)) : costP n m f g (pre ++ [x]) = costP n m f g pre + g (x.1 / m) (x.1 % m) * f (x.1 / m) (x.1 % m) := by simp [costP]
theorem costP_bd {n m : Nat} {f g : Nat → Nat → Int} (hf : ∀ i k, i < n → k < m → -1000 ≤ f i k ∧ f i k ≤ 1000) (hg : ∀ i k, i < n → k < m → 0 ≤ g i k ∧ g i k ≤ 9) (pre : List (Fin (n * m))) : -9000 * (pre.length : Int) ≤ costP n m f g pre ∧ costP n m f g pre ≤ 9000 * (pre.length : Int) := by
  unfold costP
  suffices h : ∀ (pre : List (Fin (n * m))) (s : Int), s - 9000 * (pre.length : Int) ≤ pre.foldl (fun s x => s + g (x.1 / m) (x.1 % m) * f (x.1 / m) (x.1 % m)) s ∧ pre.foldl (fun s x => s + g (x.1 / m) (x.1 % m) * f (x.1 / m) (x.1 % m)) s ≤ s + 9000 * (pre.length : Int) by
    have := h pre 0; omega
  intro pre
  induction pre with
  | nil => intro s; simp
  | cons x pre ih =>
    intro s
    obtain ⟨h1, h2⟩ := spot_lt x
    have a := hf _ _ h1 h2
    have b := hg _ _ h1 h2
    have c : -9000 ≤ g (x.1 / m) (x.1 % m) * f (x.1 / m) (x.1 % m) ∧ g (x.1 / m) (x.1 % m) * f (x.1 / m) (x.1 % m) ≤ 9000 := by
      obtain ⟨y, hy⟩ : ∃ y, g (x.1 / m) (x.1 % m) = y := ⟨_, rfl⟩
      obtain ⟨z, hz⟩ : ∃ z, f (x.1 / m) (x.1 % m) = z := ⟨_, rfl⟩
      rw [hy] at b ⊢; rw [hz] at a ⊢
      constructor
      · have := Int.mul_le_mul_of_nonneg_left (c := y) a.1 b.1; have := b.2; omega
      · have := Int.mul_le_mul_of_nonneg_left (c := y) a.2 b.1; have := b.2; omega
    have := ih (s + g (x.1 / m) (x.1 % m) * f (x.1 / m) (x.1 % m))
    simp only [List.foldl_cons, List.length_cons]
    omega

theorem costP_take (n m : Nat) (f g : Nat → Nat → Int) : ∀ i, i < n → ∀ k, k ≤ m → costP n m f g ((List.finRange (n * m)).take (i * m + k)) = sumN (fun i => sumN (fun k => f i k * g i k) m) i + sumN (fun q => f i q * g i q) k := by
  intro i
  induction i with
  | zero =>
    intro hi k
    induction k with
    | zero => intro _; simp [costP, sumN]
    | succ k ih =>
      intro hk
      obtain ⟨hx, hs⟩ := spots_snoc hi (show k < m by omega)
      rw [show 0 * m + (k + 1) = 0 * m + k + 1 by omega, ← hs, costP_snoc, ih (by omega)]
      simp only [spot_row (show k < m by omega), spot_col (show k < m by omega)]
      rw [sumN, Int.mul_comm, Int.add_assoc]
      rfl
  | succ i ihi =>
    intro hi k
    induction k with
    | zero =>
      intro _
      rw [show (i + 1) * m + 0 = i * m + m by rw [Nat.succ_mul]; omega, ihi (by omega) m (Nat.le_refl _), sumN, sumN]
      omega
    | succ k ih =>
      intro hk
      obtain ⟨hx, hs⟩ := spots_snoc hi (show k < m by omega)
      rw [show (i + 1) * m + (k + 1) = (i + 1) * m + k + 1 by omega, ← hs, costP_snoc, ih (by omega)]
      simp only [spot_row (show k < m by omega), spot_col (show k < m by omega)]
      rw [sumN, Int.mul_comm, Int.add_assoc]
      rfl
theorem costP_all (n m : Nat) (f g : Nat → Nat → Int) : costP n m f g (List.finRange (n * m)) = costF f g n m := by
  cases n with
  | zero =>
    have : (List.finRange (0 * m)) = [] := List.eq_nil_of_length_eq_zero (by simp)
    rw [this]; rfl
  | succ i =>
    have := costP_take (i + 1) m f g i (by omega) m (Nat.le_refl _)
    rw [List.take_of_length_le (by simp [Nat.succ_mul])] at this
    rw [this]; rfl

set_option maxRecDepth 100000 in
set_option maxHeartbeats 2000000 in
theorem cost_any (n m n' m' : Nat) (f g : Nat → Nat → Int) (hn6 : n ≤ 6) (hm6 : m ≤ 6) (hf : ∀ i k, i < n → k < m → -1000 ≤ f i k ∧ f i k ≤ 1000) (hg : ∀ i k, i < n → k < m → 0 ≤ g i k ∧ g i k ≤ 9) (w : World) :
    Calls Try.prog 58 #[.agg (tabV n m f), .agg (tabV n' m' g)] w fun e w' => e = .returned (.int .i64 (costF f g n m)) ∧ Below w.heap.size w w' := by
  have HFB := Lib.hid hf; have HGB := Lib.hid hg
  have HPB := Lib.hid (costP_bd hf hg)
  have HPA := Lib.hid (costP_all n m f g)
  clear hf hg
  obtain ⟨W3, hW3⟩ : ∃ W3, ((w.alloc (.cells (tabV n m f) 56)).alloc (.cells (tabV n' m' g) 56)).alloc (.cells #[.int .i64 0] 3) = W3 := ⟨_, rfl⟩
  have bT : BT W3 w.heap.size n m f := by rw [← hW3]; exact ((BT.new w n m f).alloc _).alloc _
  have bL : BT W3 (w.heap.size + 1) n' m' g := by
    rw [← hW3]
    have := BT.new (w.alloc (.cells (tabV n m f) 56)) n' m' g
    rw [World.size_alloc] at this
    exact this.alloc _
  have bS : Boxed W3 (w.heap.size + 1 + 1) 3 (.int .i64 0) := by
    rw [← hW3]
    have := Boxed.new ((w.alloc (.cells (tabV n m f) 56)).alloc (.cells (tabV n' m' g) 56)) 3 (.int .i64 0)
    rw [World.size_alloc, World.size_alloc] at this
    exact this
  have hsz : W3.heap.size = w.heap.size + 3 := by rw [← hW3]; simp
  have hB3 : Below w.heap.size w W3 := by rw [← hW3]; exact (((Below.refl _ w).alloc (Nat.le_refl _) _).alloc (by simp) _).alloc (by simp; omega) _
  have c3 := bS.cell; have f3 := bS.frozen
  have bT4 : BT (W3.setCell ⟨w.heap.size + 1 + 1, 0, none⟩ (.int .i64 0)) w.heap.size n m f := bT.other (by show w.heap.size ≠ w.heap.size + 1 + 1; omega) _
  have bL4 : BT (W3.setCell ⟨w.heap.size + 1 + 1, 0, none⟩ (.int .i64 0)) (w.heap.size + 1) n' m' g := bL.other (by show w.heap.size + 1 ≠ w.heap.size + 1 + 1; omega) _
  have bS4 : Boxed (W3.setCell ⟨w.heap.size + 1 + 1, 0, none⟩ (.int .i64 0)) (w.heap.size + 1 + 1) 3 (.int .i64 0) := bS.set _
  have hB4 : Below w.heap.size w (W3.setCell ⟨w.heap.size + 1 + 1, 0, none⟩ (.int .i64 0)) := hB3.setCell (p := ⟨w.heap.size + 1 + 1, 0, none⟩) (by show w.heap.size ≤ w.heap.size + 1 + 1; omega) _
  have hsz4 : (W3.setCell ⟨w.heap.size + 1 + 1, 0, none⟩ (.int .i64 0)).heap.size = w.heap.size + 3 := by simpa [World.setCell] using hsz
  clear bT bL bS hB3
  refine (callsIn_wide (n := 6)).1 ?_
  refine callsIn_of_wp_marks Try.func58 rfl trivial ?_ rfl
  simp only [Try.ntmps58, List.size_toArray, List.length_cons, List.length_nil, Nat.reduceAdd, Nat.reduceSub, Array.replicate_succ, Array.replicate_zero, List.push_toArray, List.append_toArray, List.nil_append, List.cons_append]
  gi_wp2_with (first | (refine wpListIn_ldT rfl _ rfl rfl bT4 ?_) | (refine ⟨trivial, ?_⟩; gi_at_call 84; refine (callsIn_wide.2 (spots_any _ _ _ _)).mono ?_; rintro e w' ⟨rfl, rfl⟩))
  clear c3 f3
  obtain ⟨W4, hW4⟩ : ∃ W4, W3.setCell ⟨w.heap.size + 1 + 1, 0, none⟩ (.int .i64 0) = W4 := ⟨_, rfl⟩
  rw [hW4] at bT4 bL4 bS4 hB4 hsz4
  rw [hW4]
  clear hW4 hW3
  have bP : BT (W4.alloc (.cells (tabV n m f) 56)) W4.heap.size n m f := BT.new W4 n m f
  obtain ⟨B, hB⟩ : ∃ B, w.heap.size = B := ⟨_, rfl⟩
  rw [hB] at bT4 bL4 bS4 hB4 hsz4 hsz
  have HB := Lib.hid hB
  rw [hB]
  rw [hsz4] at bP
  clear hB
  refine wpIn_rangeFunc_ownF (F := Fence.wide) rfl (by decide) (gf := 98) (lb := #[.pointer (some ⟨B + 3, 0, none⟩)]) rfl trivial (enters_of Try.func98 (by kernel_rfl) rfl)
    (spots_pf Fence.wide (6 - 1) trivial rfl (by decide) (B + 3) B n m f hn6 hm6 _ bP) (fun h1 h2 => KeepAt.trans h1 h2) (keepAt_b (by simp; omega) (by simp; omega)) (Below.refl _ _) (fun _ => rfl)
    (fun pre W => ((BT W B n m f ∧ BT W (B + 1) n' m' g) ∧ Boxed W (B + 1 + 1) 3 (.int .i64 (costP n m f g pre))) ∧ Below B w W)
    (fun _ _ _ => False)
    (OwnFrom.and (OwnFrom.and (OwnFrom.and (Own.from (bt_own _ _ _ (fun _ => f)) _) (Own.from (bt_own _ _ _ (fun _ => g)) _)) (Own.from (boxed_own _ _ _) _)) (ownFrom_below (by have := HB.out; omega) (by simp; omega)))
    (fun _ _ _ _ _ hs _ _ => hs)
    ⟨⟨⟨bT4.alloc _, bL4.alloc _⟩, bS4.alloc _⟩, hB4.alloc (by omega) _⟩ ?a1 ?hassign ?hbody ?hdone ?hstop
  case hassign =>
    intro l x W K hK
    gi_wp2
    exact hK
  case hbody =>
    rintro l pre x W ⟨⟨⟨hT, hL⟩, hSum⟩, hBl⟩ hlt
    obtain ⟨hxi, hxk⟩ := spot_lt x
    have hpb := HPB.out pre
    have hsn := costP_snoc n m f g pre x
    obtain ⟨i, hie⟩ : ∃ i, x.1 / m = i := ⟨_, rfl⟩
    obtain ⟨k, hke⟩ : ∃ k, x.1 % m = k := ⟨_, rfl⟩
    rw [hie, hke] at hsn
    rw [hie] at hxi
    rw [hke] at hxk
    have ce := hT.entry (i := i) (k := k) (by omega) (by omega)
    have cg := hL.entry (i := i) (k := k) (by omega) (by omega)
    have bf := HFB.out i k hxi hxk
    have bg := HGB.out i k hxi hxk
    have c3 := hSum.cell; have f3 := hSum.frozen
    obtain ⟨y, hy⟩ : ∃ e, f i k = e := ⟨_, rfl⟩
    obtain ⟨z, hz⟩ : ∃ e, g i k = e := ⟨_, rfl⟩
    rw [hy] at ce bf hsn
    rw [hz] at cg bg hsn
    have hpl : (pre.length : Int) ≤ 36 := by
      have := Nat.mul_le_mul hn6 hm6; omega
    obtain ⟨s, hs⟩ : ∃ s, costP n m f g pre = s := ⟨_, rfl⟩
    rw [hs] at hpb c3 hsn
    have hmul : -9000 ≤ z * y ∧ z * y ≤ 9000 := by
      constructor
      · have := Int.mul_le_mul_of_nonneg_left (c := z) bf.1 bg.1; have := bg.2; omega
      · have := Int.mul_le_mul_of_nonneg_left (c := z) bf.2 bg.1; have := bg.2; omega
    have t1 : IntKind.i64.wrap (z * y) = z * y := IntWalk.i64_in _ (by omega)
    have t2 : IntKind.i64.wrap (s + z * y) = s + z * y := IntWalk.i64_in _ (by omega)
    have i6 : (i : Int) < 6 := by omega
    have k6 : (k : Int) < 6 := by omega
    have i0 : (0 : Int) ≤ (i : Int) := by omega
    have k0 : (0 : Int) ≤ (k : Int) := by omega
    have hie' : ((x.1 : Nat) : Int) / ((m : Nat) : Int) = ((i : Nat) : Int) := by rw [← hie]; simp
    have hke' : ((x.1 : Nat) : Int) % ((m : Nat) : Int) = ((k : Nat) : Int) := by rw [← hke]; simp
    rw [hie', hke']
    have HT := Lib.hid hT; have HL := Lib.hid hL; have HSU := Lib.hid hSum; have HBl := Lib.hid hBl; have HSN := Lib.hid hsn
    have hS : W.drew.cell? ⟨B, 2 + i * 6 + k, none⟩ = some (.int .i64 y) ∧ W.drew.cell? ⟨B + 1, 2 + i * 6 + k, none⟩ = some (.int .i64 z) ∧ W.drew.cell? ⟨B + 1 + 1, 0, none⟩ = some (.int .i64 s) := ⟨ce, cg, c3⟩
    clear hT hL hSum hBl hsn hie hke hie' hke' hxi hxk hpb bf bg hmul hy hz hs ce cg hpl
    gi_wp2
    refine region_anyE (fun W' => W'.cell? ⟨B, 2 + i * 6 + k, none⟩ = some (.int .i64 y) ∧ W'.cell? ⟨B + 1, 2 + i * 6 + k, none⟩ = some (.int .i64 z) ∧ W'.cell? ⟨B + 1 + 1, 0, none⟩ = some (.int .i64 s)) 15 (by kernel_rfl) ?_
    refine anyE_first 0 (v := .int .i64 s) rfl (by kernel_rfl) (by kernel_rfl) (by kernel_rfl) (by kernel_rfl) (fun _ _ _ h => h) hS (by kernel_rfl) (fun _ => by kernel_rfl) (fun W hW => by obtain ⟨h1, h2, h3⟩ := hW; go_simp) ?_
    refine anyE_first 1 (v := .int .i64 (i : Int)) rfl (by kernel_rfl) (by kernel_rfl) (by kernel_rfl) (by kernel_rfl) (fun _ _ _ h => h) hS (by kernel_rfl) (fun _ => by kernel_rfl) (fun W hW => by kernel_rfl) ?_
    refine anyE_first 2 (v := .int .i64 (k : Int)) rfl (by kernel_rfl) (by kernel_rfl) (by kernel_rfl) (by kernel_rfl) (fun _ _ _ h => h) hS (by kernel_rfl) (fun _ => by kernel_rfl) (fun W hW => by kernel_rfl) ?_
    refine anyE_first 3 (v := .pointer (some ⟨B + 1, 2, none⟩)) rfl (by kernel_rfl) (by kernel_rfl) (by kernel_rfl) (by kernel_rfl) (fun _ _ _ h => h) hS (by kernel_rfl) (fun _ => by kernel_rfl) (fun W hW => by obtain ⟨h1, h2, h3⟩ := hW; go_simp) ?_
    refine anyE_first 4 (v := .pointer (some ⟨B + 1, 2 + i * 6, none⟩)) rfl (by kernel_rfl) (by kernel_rfl) (by kernel_rfl) (by kernel_rfl) (fun _ _ _ h => h) hS (by kernel_rfl) (fun _ => by kernel_rfl) (fun W hW => by obtain ⟨h1, h2, h3⟩ := hW; go_simp) ?_
    refine anyE_first 5 (v := .pointer (some ⟨B + 1, 2 + i * 6 + k, none⟩)) rfl (by kernel_rfl) (by kernel_rfl) (by kernel_rfl) (by kernel_rfl) (fun _ _ _ h => h) hS (by kernel_rfl) (fun _ => by kernel_rfl) (fun W hW => by obtain ⟨h1, h2, h3⟩ := hW; go_simp) ?_
    refine anyE_first 6 (v := .int .i64 z) rfl (by kernel_rfl) (by kernel_rfl) (by kernel_rfl) (by kernel_rfl) (fun _ _ _ h => h) hS (by kernel_rfl) (fun _ => by kernel_rfl) (fun W hW => by obtain ⟨h1, h2, h3⟩ := hW; go_simp) ?_
    refine anyE_first 7 (v := .int .i64 (i : Int)) rfl (by kernel_rfl) (by kernel_rfl) (by kernel_rfl) (by kernel_rfl) (fun _ _ _ h => h) hS (by kernel_rfl) (fun _ => by kernel_rfl) (fun W hW => by kernel_rfl) ?_
    refine anyE_first 8 (v := .int .i64 (k : Int)) rfl (by kernel_rfl) (by kernel_rfl) (by kernel_rfl) (by kernel_rfl) (fun _ _ _ h => h) hS (by kernel_rfl) (fun _ => by kernel_rfl) (fun W hW => by kernel_rfl) ?_
    refine anyE_first 9 (v := .pointer (some ⟨B, 2, none⟩)) rfl (by kernel_rfl) (by kernel_rfl) (by kernel_rfl) (by kernel_rfl) (fun _ _ _ h => h) hS (by kernel_rfl) (fun _ => by kernel_rfl) (fun W hW => by obtain ⟨h1, h2, h3⟩ := hW; go_simp) ?_
    refine anyE_first 10 (v := .pointer (some ⟨B, 2 + i * 6, none⟩)) rfl (by kernel_rfl) (by kernel_rfl) (by kernel_rfl) (by kernel_rfl) (fun _ _ _ h => h) hS (by kernel_rfl) (fun _ => by kernel_rfl) (fun W hW => by obtain ⟨h1, h2, h3⟩ := hW; go_simp) ?_
    refine anyE_first 11 (v := .pointer (some ⟨B, 2 + i * 6 + k, none⟩)) rfl (by kernel_rfl) (by kernel_rfl) (by kernel_rfl) (by kernel_rfl) (fun _ _ _ h => h) hS (by kernel_rfl) (fun _ => by kernel_rfl) (fun W hW => by obtain ⟨h1, h2, h3⟩ := hW; go_simp) ?_
    refine anyE_first 12 (v := .int .i64 y) rfl (by kernel_rfl) (by kernel_rfl) (by kernel_rfl) (by kernel_rfl) (fun _ _ _ h => h) hS (by kernel_rfl) (fun _ => by kernel_rfl) (fun W hW => by obtain ⟨h1, h2, h3⟩ := hW; go_simp) ?_
    refine anyE_first 13 (v := .int .i64 (z * y)) rfl (by kernel_rfl) (by kernel_rfl) (by kernel_rfl) (by kernel_rfl) (fun _ _ _ h => h) hS (by kernel_rfl) (fun _ => by kernel_rfl) (fun W hW => by obtain ⟨h1, h2, h3⟩ := hW; go_simp) ?_
    refine anyE_first 14 (v := .int .i64 (s + z * y)) rfl (by kernel_rfl) (by kernel_rfl) (by kernel_rfl) (by kernel_rfl) (fun _ _ _ h => h) hS (by kernel_rfl) (fun _ => by kernel_rfl) (fun W hW => by obtain ⟨h1, h2, h3⟩ := hW; go_simp) ?_
    refine anyE_one 15 rfl (by kernel_rfl) (by kernel_rfl) (fun _ => hS) ?_
    refine wpI_store (v := s + z * y) rfl (by kernel_rfl) (by kernel_rfl) c3 f3 ?_
    refine anyE_done (by kernel_rfl) (fun h => absurd h (by decide)) ?_
    have HW5 : Hid (KeepsOthers W (W.drew.setCell ⟨B + 1 + 1, 0, none⟩ (.int .i64 (s + z * y))) ∧ KeepAt B (B + 3) W (W.drew.setCell ⟨B + 1 + 1, 0, none⟩ (.int .i64 (s + z * y)))) :=
      ⟨KeepsOthers.trans (B := W.drew) ⟨Nat.le_refl _, fun _ _ h _ => h⟩ (KeepsOthers.setCell _ _ _), ⟨by simp only [World.setCell, Array.size_modify]; exact Nat.le_refl _, fun k hk => Below.heap_setCell W.drew ⟨B + 1 + 1, 0, none⟩ _ k (by show k ≠ B + 1 + 1; omega)⟩⟩
    clear hS c3 f3
    gi_wp2
    refine ⟨HW5.out.1, HW5.out.2, ⟨⟨BT.other (W := W.drew) HT.out (by show B ≠ B + 1 + 1; omega) _, BT.other (W := W.drew) HL.out (by show B + 1 ≠ B + 1 + 1; omega) _⟩, ?_⟩, (below_drawN HBl.out 1).setCell (p := ⟨B + 1 + 1, 0, none⟩) (by show B ≤ B + 1 + 1; omega) _⟩
    rw [HSN.out]
    exact (show Boxed W.drew _ _ _ from HSU.out).set _
  case hdone =>
    rintro D ys W hD rfl ⟨⟨⟨hT, hL⟩, hSum⟩, hBl⟩ hK
    rw [HPA.out] at hSum
    have c3 := hSum.cell
    have HBl := Lib.hid hBl
    obtain ⟨s, hs⟩ : ∃ s, costF f g n m = s := ⟨_, rfl⟩
    have HS := Lib.hid hs
    rw [hs] at c3
    clear hT hL hSum hBl hs
    gi_wp2
    refine ⟨by simp, .inl ⟨_, _, rfl, run_takeDeferred hK, ?_⟩⟩
    refine ⟨.int .i64 s, ?_, ?_⟩
    · simp [results, Try.f58, go_sem]
    · exact ⟨by rw [HS.out], by rw [HB.out]; exact HBl.out.trans (belowK_b (w := w) (by have := HB.out; omega) _ D _ _ (by simp at hD; have := HB.out; omega) hK rfl rfl)⟩
  case hstop =>
    rintro D cd pre W hD hp h hK
    exact h.elim

theorem within_load (l : List (List Int)) : withinB 0 9 l = (tableB l && l.all fun r => r.all fun x => decide (0 ≤ x ∧ x ≤ 9)) := by
  rw [Bool.eq_iff_iff, Bool.and_eq_true]
  unfold withinB
  rw [Bool.and_eq_true, inF_true]
  simp only [List.all_eq_true, decide_eq_true_eq]
  constructor
  · rintro ⟨h1, h2⟩
    have h3 := shB_true.1 h1
    refine ⟨?_, fun r hr x hx => ?_⟩
    · rw [← within_table]
      unfold withinB
      rw [Bool.and_eq_true, inF_true]
      exact ⟨h1, fun i k hi hk => by have := h2 i k hi hk; omega⟩
    · obtain ⟨i, hi, rfl⟩ := List.getElem_of_mem hr
      obtain ⟨k, hk, rfl⟩ := List.getElem_of_mem hx
      have hl := h3.2.2 _ hr
      have := h2 i k hi (by rw [← hl]; exact hk)
      rwa [ent_get hi hk] at this
  · rintro ⟨h1, h2⟩
    obtain ⟨g1, g2, g3, _⟩ := table_sh h1
    refine ⟨shB_true.2 ⟨g2, g3, g1.2⟩, fun i k hi hk => ?_⟩
    have hl := table_row h1 hi
    rw [ent_get hi (by rw [hl]; exact hk)]
    exact h2 _ (List.getElem_mem hi) _ (List.getElem_mem _)
theorem costF_congr {f f' g g' : Nat → Nat → Int} {n m : Nat} (hf : ∀ i k, i < n → k < m → f i k = f' i k) (hg : ∀ i k, i < n → k < m → g i k = g' i k) : costF f g n m = costF f' g' n m :=
  sumN_congr fun i hi => sumN_congr fun k hk => by rw [hf i k hi hk, hg i k hi hk]
set_option maxRecDepth 100000 in
set_option maxHeartbeats 2000000 in
theorem implTableCost_any (A : Option Addr) (c : Nat) (t : List (List Int)) (A2 : Option Addr) (c2 : Nat) (l : List (List Int)) (w : World) (h : IRR w 0 w.heap.size A t) (h2 : IRR w 0 w.heap.size A2 l) :
    Calls Try.prog 31 #[.slice A t.length c, .slice A2 l.length c2] w fun e w' => e = .returned (.tuple #[.int .i64 ((costTM t l).getD 0), .bool (costTM t l).isSome]) ∧ Below w.heap.size w w' := by
  have H := Lib.hid h; have H2 := Lib.hid h2
  clear h h2
  go_enter Try.func31, Try.ntmps31
  go_wp2_with fail
  refine (tableIn_any A c _ _ t _ H.out).mono ?_
  rintro e w1 ⟨n, m, f, rfl, ⟨hn6, hm6⟩, hf, hb1⟩
  have bT := BT.new w1 0 0 zF
  have bT2 : BT ((w1.alloc (.cells (tabV 0 0 zF) 56)).setRow w1.heap.size (tabV n m f)) w1.heap.size n m f := bT.put
  have bB2 := below_setRow (hb1.alloc hb1.size (.cells (tabV 0 0 zF) 56)) hb1.size (tabV n m f)
  obtain ⟨p, hp⟩ : ∃ p, tableB t = p := ⟨_, rfl⟩
  have HP := Lib.hid hp
  rw [hp] at hf
  rw [hp]
  have HF := Lib.hid hf
  have HB1 := Lib.hid hb1
  clear hp hf hb1
  have hwm := HB1.out.size
  have HI2 := Lib.hid (H2.out.below bB2 (Nat.le_refl _))
  obtain ⟨W2, hW2⟩ : ∃ W2, (w1.alloc (.cells (tabV 0 0 zF) 56)).setRow w1.heap.size (tabV n m f) = W2 := ⟨_, rfl⟩
  rw [hW2] at bT2 bB2 HI2
  go_wp2_with (first | (refine wpList_alT rfl rfl ?_) | (refine wpList_stT rfl _ _ rfl rfl rfl bT ?_))
  try rw [hW2]
  clear hW2
  refine (tableWithin_any A2 c2 _ _ l 0 9 _ HI2.out).mono ?_
  rintro e w3 ⟨n', m', g, rfl, ⟨hn6', hm6'⟩, hg, hb3⟩
  have bU := BT.new w3 0 0 zF
  have bB3 := bB2.trans (hb3.mono bB2.size)
  have bU2 : BT ((w3.alloc (.cells (tabV 0 0 zF) 56)).setRow w3.heap.size (tabV n' m' g)) w3.heap.size n' m' g := bU.put
  have bB4 := below_setRow (bB3.alloc bB3.size (.cells (tabV 0 0 zF) 56)) bB3.size (tabV n' m' g)
  have bT3 : BT w3 w1.heap.size n m f := bT2.grow hb3
  have bT4 : BT ((w3.alloc (.cells (tabV 0 0 zF) 56)).setRow w3.heap.size (tabV n' m' g)) w1.heap.size n m f := (bT3.alloc _).block (setRow_other _ _ _ _ (by have := bT3.lt; omega))
  obtain ⟨q, hq⟩ : ∃ q, withinB 0 9 l = q := ⟨_, rfl⟩
  have HQ := Lib.hid hq
  rw [hq]
  have HG : Hid (q = true → n' = l.length ∧ m' = colsN l ∧ ∀ i k, i < l.length → k < colsN l → g i k = ent l i k) := fun e => hg (by
    rw [← hq] at e
    unfold withinB at e
    exact (Bool.and_eq_true_iff.1 e).1)
  obtain ⟨W4, hW4⟩ : ∃ W4, (w3.alloc (.cells (tabV 0 0 zF) 56)).setRow w3.heap.size (tabV n' m' g) = W4 := ⟨_, rfl⟩
  rw [hW4] at bU2 bB4 bT4
  have r1 := bT4.rows; have r2 := bT4.cols; have r3 := bU2.rows; have r4 := bU2.cols
  have HB4 := Lib.hid bB4
  have hcond : (p && q && decide (n = n') && decide (m = m')) = (tableB t && tableB l && decide (l.length = t.length) && decide (colsN l = colsN t) && l.all fun r => r.all fun x => decide (0 ≤ x ∧ x ≤ 9)) := by
    have e1 := HP.out
    have e2 := HQ.out
    rw [within_load] at e2
    cases p with
    | false => rw [e1]; simp
    | true =>
      obtain ⟨a1, a2, _⟩ := HF.out rfl
      cases q with
      | false =>
        rw [e1]
        cases hl : tableB l with
        | false => simp
        | true => rw [hl, Bool.true_and] at e2; rw [e2]; simp
      | true =>
        obtain ⟨b1, b2, _⟩ := HG.out rfl
        rw [Bool.and_eq_true] at e2
        rw [e1, e2.1, e2.2, a1, a2, b1, b2]
        simp only [Bool.true_and, Bool.and_true]
        congr 1
        · rw [Bool.eq_iff_iff, decide_eq_true_eq, decide_eq_true_eq]; exact eq_comm
        · rw [Bool.eq_iff_iff, decide_eq_true_eq, decide_eq_true_eq]; exact eq_comm
  have HNO : Hid ((p && q && decide (n = n') && decide (m = m')) = false → costTM t l = none) := fun e => costTM_no (by rw [← hcond]; exact e)
  have HYES : Hid ((p && q && decide (n = n') && decide (m = m')) = true → costTM t l = some (costF f g n m) ∧ (∀ i k, i < n → k < m → -1000 ≤ f i k ∧ f i k ≤ 1000) ∧ (∀ i k, i < n → k < m → 0 ≤ g i k ∧ g i k ≤ 9)) := fun e => by
    have e3 := e
    rw [hcond] at e3
    rw [Bool.and_eq_true, Bool.and_eq_true, Bool.and_eq_true, decide_eq_true_eq, decide_eq_true_eq] at e
    obtain ⟨⟨⟨e1, e2⟩, rfl⟩, rfl⟩ := e
    obtain ⟨a1, a2, a3⟩ := HF.out e1
    obtain ⟨b1, b2, b3⟩ := HG.out e2
    have hq2 := HQ.out
    rw [e2] at hq2
    unfold withinB at hq2
    rw [Bool.and_eq_true, inF_true] at hq2
    have ht := HP.out
    rw [e1] at ht
    obtain ⟨_, _, _, hE⟩ := table_sh ht
    refine ⟨?_, fun i k hi hk => ?_, fun i k hi hk => ?_⟩
    · unfold costTM
      rw [if_pos e3, ← a1, ← a2]
      exact congrArg some (costF_congr (fun i k hi hk => (a3 i k (by omega) (by omega)).symm) fun i k hi hk => (b3 i k (by omega) (by omega)).symm)
    · rw [a3 i k (by omega) (by omega)]; exact hE i k (by omega) (by omega)
    · rw [b3 i k (by omega) (by omega)]; exact hq2.2 i k (by omega) (by omega)
  clear hg hb3 hq bB3 bT3 bB2 bT2 bB4 hcond
  cases p with
  | false =>
    have HM := Lib.hid (HNO.out (by rfl))
    clear HNO HYES
    go_wp2_with (first | (refine wpList_alT rfl rfl ?_) | (refine wpList_stT rfl _ _ rfl rfl rfl bU ?_))
    go_ret2
    exact ⟨by rw [HM.out]; rfl, HB4.out⟩
  | true =>
  cases q with
  | false =>
    have HM := Lib.hid (HNO.out (by rfl))
    clear HNO HYES
    go_wp2_with (first | (refine wpList_alT rfl rfl ?_) | (refine wpList_stT rfl _ _ rfl rfl rfl bU ?_))
    go_ret2
    exact ⟨by rw [HM.out]; rfl, HB4.out⟩
  | true =>
  by_cases k1 : n = n'
  · by_cases k2 : m = m'
    · subst k1; subst k2
      obtain ⟨hM, hb1, hb2⟩ := HYES.out (by simp)
      have HM := Lib.hid hM
      have HC := Lib.hid (fun W => cost_any n m n m f g hn6 hm6 hb1 hb2 W)
      clear HNO HYES hM hb1 hb2
      go_wp2_with (first | (refine wpList_alT rfl rfl ?_) | (refine wpList_stT rfl _ _ rfl rfl rfl bU ?_) | (refine wpList_ldT rfl _ rfl rfl bT4 ?_) | (refine wpList_ldT rfl _ rfl rfl bU2 ?_))
      refine (HC.out _).mono ?_
      rintro e w5 ⟨rfl, hb5⟩
      obtain ⟨s, hs⟩ : ∃ s, costF f g n m = s := ⟨_, rfl⟩
      rw [hs] at HM
      rw [hs]
      have HB5 := Lib.hid (HB4.out.trans (hb5.mono HB4.out.size))
      clear hb5 hs
      go_wp2
      go_ret2
      exact ⟨by rw [HM.out]; rfl, HB5.out⟩
    · have HM := Lib.hid (HNO.out (by rw [decide_eq_false k2]; simp))
      have k2' : ¬ (m : Int) = (m' : Int) := by omega
      subst k1
      clear HNO HYES
      go_wp2_with (first | (refine wpList_alT rfl rfl ?_) | (refine wpList_stT rfl _ _ rfl rfl rfl bU ?_))
      go_ret2
      exact ⟨by rw [HM.out]; rfl, HB4.out⟩
  · have HM := Lib.hid (HNO.out (by rw [decide_eq_false k1]; simp))
    have k1' : ¬ (n : Int) = (n' : Int) := by omega
    clear HNO HYES
    go_wp2_with (first | (refine wpList_alT rfl rfl ?_) | (refine wpList_stT rfl _ _ rfl rfl rfl bU ?_))
    go_ret2
    exact ⟨by rw [HM.out]; rfl, HB4.out⟩
end Go.Proofs.Ytlbimmhlijelfaa
