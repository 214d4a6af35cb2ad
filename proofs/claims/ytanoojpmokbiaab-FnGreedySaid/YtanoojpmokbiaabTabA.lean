/-
  Lists of lists of integers in memory: words, append, arguments that come in. Conditions: the lists stay short.
-/
import Derived.Test.YtanoojpmokbiaabMem
import Derived.Test.YtanoojpmokbiaabBase
import Derived.Test.YtanoojpmokbiaabPush
import Derived.Test.YtanoojpmokbiaabClose
import Derived.Deep.Matrix
/-
  Plain words for lists of lists of integers in memory: a slice of slices that reads as a list of lists (IRR), one of the call's own whose rows may be written (IWW), and what happens to both when the world grows or a row is written. Conditions: none.
-/
namespace Go.Proofs.Ytanoojpmokbiaab
open Go.RowKit

/-- The slice's rows read as the lists; all cells lie in blocks from lo up to below hi. -/
def IRR (w : World) (lo hi : Nat) (A : Option Addr) (zss : List (List Int)) : Prop :=
  zss.length ≤ 17592186044416 ∧ hi ≤ w.heap.size ∧ ∀ (k : Nat) (hk : k < zss.length), ∃ b off Ak ck, A = some ⟨b, off, none⟩ ∧ lo ≤ b ∧ b < hi ∧
    w.cell? ⟨b, off + k, none⟩ = some (.slice Ak zss[k].length ck) ∧ (zss[k].length ≤ ck ∧ ck ≤ 9223372036854775807) ∧ IR w lo hi Ak zss[k]

/-- Two slices whose cells are apart. -/
def Apart (A : Option Addr) (n : Nat) (A' : Option Addr) (n' : Nat) : Prop :=
  ∀ b o b' o', A = some ⟨b, o, none⟩ → A' = some ⟨b', o', none⟩ → 0 < n → 0 < n' → b ≠ b' ∨ o + n ≤ o' ∨ o' + n' ≤ o

/-- The rows b, off, F, C: row k's cell lies in block b at off + k, it is the slice at F k of capacity C k; its own cells may be written, and no two rows share any. -/
structure Rows_ (w : World) (lo hi : Nat) (A : Option Addr) (zss : List (List Int)) (b off : Nat) (F : Nat → Option Addr) (C : Nat → Nat) : Prop where
  top : 0 < zss.length → A = some ⟨b, off, none⟩ ∧ lo ≤ b ∧ b < hi
  row : ∀ (k : Nat) (hk : k < zss.length), w.cell? ⟨b, off + k, none⟩ = some (.slice (F k) zss[k].length (C k)) ∧ (zss[k].length ≤ C k ∧ C k ≤ 9223372036854775807) ∧ IW w lo hi (F k) zss[k] ∧
    ∀ b' o', F k = some ⟨b', o', none⟩ → 0 < zss[k].length → b' ≠ b
  apart : ∀ (j k : Nat) (hj : j < k) (hk : k < zss.length), Apart (F j) (zss[j]'(by omega)).length (F k) zss[k].length

/-- The same, and the rows may be written, one by one. -/
def IWW (w : World) (lo hi : Nat) (A : Option Addr) (zss : List (List Int)) : Prop :=
  zss.length ≤ 17592186044416 ∧ hi ≤ w.heap.size ∧ ∃ b off F C, Rows_ w lo hi A zss b off F C

section
variable {w w' : World} {lo hi lo' hi' : Nat} {A : Option Addr} {zss : List (List Int)}
theorem IRR.at_ {k : Nat} (h : IRR w lo hi A zss) (hk : k < zss.length) : ∃ b off Ak ck, A = some ⟨b, off, none⟩ ∧ b < w.heap.size ∧
    w.cell? ⟨b, off + k, none⟩ = some (.slice Ak zss[k].length ck) ∧ (zss[k].length ≤ ck ∧ ck ≤ 9223372036854775807) ∧ IR w lo hi Ak zss[k] := by
  obtain ⟨b, off, Ak, ck, e, h1, h2, h3, h4, h5⟩ := h.2.2 k hk
  have := h.2.1
  exact ⟨b, off, Ak, ck, e, by omega, h3, h4, h5⟩
theorem IRR.keep (h : IRR w lo hi A zss) (hs : w.heap.size ≤ w'.heap.size) (hk : ∀ p : Addr, lo ≤ p.block → p.block < hi → w'.cell? p = w.cell? p) : IRR w' lo hi A zss :=
  ⟨h.1, Nat.le_trans h.2.1 hs, fun k hk' => by
    obtain ⟨b, off, Ak, ck, e, h1, h2, h3, h4, h5⟩ := h.2.2 k hk'
    exact ⟨b, off, Ak, ck, e, h1, h2, (hk _ h1 h2).trans h3, h4, h5.keep hs hk⟩⟩
theorem IRR.wide (h : IRR w lo hi A zss) (hl : lo' ≤ lo) (hh : hi ≤ hi') (hs : hi' ≤ w.heap.size) : IRR w lo' hi' A zss :=
  ⟨h.1, hs, fun k hk' => by
    obtain ⟨b, off, Ak, ck, e, h1, h2, h3, h4, h5⟩ := h.2.2 k hk'
    exact ⟨b, off, Ak, ck, e, by omega, by omega, h3, h4, h5.wide hl hh hs⟩⟩
theorem IRR.toAll (h : IRR w lo hi A zss) : IRR w 0 w.heap.size A zss := h.wide (Nat.zero_le _) h.2.1 (Nat.le_refl _)
theorem IRR.below {C : Nat} (h : IRR w lo hi A zss) (hb : Below C w w') (hC : hi ≤ C) : IRR w' lo hi A zss :=
  h.keep hb.size fun p _ h2 => hb.cell (p := p) (by omega)
theorem IRR.grow (h : IRR w lo hi A zss) (hb : Below w.heap.size w w') : IRR w' lo hi A zss := h.below hb h.2.1
theorem IRR.drewN (h : IRR w lo hi A zss) (k : Nat) : IRR (w.drewN k) lo hi A zss := h
theorem IRR.only (h : IRR w lo hi A zss) (ho : Only lo' hi' w w') (hd : hi ≤ lo' ∨ hi' ≤ lo) : IRR w' lo hi A zss :=
  h.keep (by rw [ho.size]; exact Nat.le_refl _) fun p h1 h2 => World.cell?_of_block (ho.block p.block (by omega))
theorem IRR.nil (w : World) (A : Option Addr) : IRR w 0 0 A [] := ⟨by simp, Nat.zero_le _, fun k hk => absurd hk (by simp)⟩
theorem IRR.i64 (h : IRR w lo hi A zss) {k : Nat} (hk : k < zss.length) {z : Int} (hz : z ∈ zss[k]) : I64 z := by
  obtain ⟨_, _, _, _, _, _, _, _, _, h5⟩ := h.2.2 k hk
  exact h5.2.1 z hz
theorem IRR.len (h : IRR w lo hi A zss) {k : Nat} (hk : k < zss.length) : zss[k].length ≤ 17592186044416 := by
  obtain ⟨_, _, _, _, _, _, _, _, _, h5⟩ := h.2.2 k hk
  exact h5.1
theorem Rows_.toIRR {b off : Nat} {F : Nat → Option Addr} {C : Nat → Nat} (h : Rows_ w lo hi A zss b off F C) (k : Nat) (hk : k < zss.length) : ∃ b off Ak ck, A = some ⟨b, off, none⟩ ∧ lo ≤ b ∧ b < hi ∧
    w.cell? ⟨b, off + k, none⟩ = some (.slice Ak zss[k].length ck) ∧ (zss[k].length ≤ ck ∧ ck ≤ 9223372036854775807) ∧ IR w lo hi Ak zss[k] := by
  obtain ⟨e, h1, h2⟩ := h.top (by omega)
  obtain ⟨h3, h4, h5, _⟩ := h.row k hk
  exact ⟨b, off, F k, C k, e, h1, h2, h3, h4, h5.toIR⟩
theorem IWW.toIRR (h : IWW w lo hi A zss) : IRR w lo hi A zss := by
  obtain ⟨h1, h2, b, off, F, C, hr⟩ := h
  exact ⟨h1, h2, fun k hk => hr.toIRR k hk⟩
theorem IWW.toAll (h : IWW w lo hi A zss) : IRR w 0 w.heap.size A zss := h.toIRR.toAll
theorem Rows_.keep {b off : Nat} {F : Nat → Option Addr} {C : Nat → Nat} (h : Rows_ w lo hi A zss b off F C) (hs : w.heap.size ≤ w'.heap.size) (hk : ∀ k, lo ≤ k → k < hi → w'.heap[k]? = w.heap[k]?) : Rows_ w' lo hi A zss b off F C :=
  ⟨h.top, fun k hk' => by
    obtain ⟨e, h1, h2⟩ := h.top (by omega)
    obtain ⟨h3, h4, h5, h6⟩ := h.row k hk'
    exact ⟨(World.cell?_of_block (hk b h1 h2)).trans h3, h4, h5.keep hs hk, h6⟩, h.apart⟩
theorem IWW.keep (h : IWW w lo hi A zss) (hs : w.heap.size ≤ w'.heap.size) (hk : ∀ k, lo ≤ k → k < hi → w'.heap[k]? = w.heap[k]?) : IWW w' lo hi A zss := by
  obtain ⟨h1, h2, b, off, F, C, hr⟩ := h
  exact ⟨h1, Nat.le_trans h2 hs, b, off, F, C, hr.keep hs hk⟩
theorem IWW.below {C : Nat} (h : IWW w lo hi A zss) (hb : Below C w w') (hC : hi ≤ C) : IWW w' lo hi A zss :=
  h.keep hb.size fun k _ h2 => hb.block k (by omega)
theorem IWW.grow (h : IWW w lo hi A zss) (hb : Below w.heap.size w w') : IWW w' lo hi A zss := h.below hb h.2.1
theorem IWW.only (h : IWW w lo hi A zss) (ho : Only lo' hi' w w') (hd : hi ≤ lo' ∨ hi' ≤ lo) : IWW w' lo hi A zss :=
  h.keep (by rw [ho.size]; exact Nat.le_refl _) fun k h1 h2 => ho.block k (by omega)
theorem IWW.drewN (h : IWW w lo hi A zss) (k : Nat) : IWW (w.drewN k) lo hi A zss := h.keep (Nat.le_refl _) fun _ _ _ => rfl
theorem IWW.wide (h : IWW w lo hi A zss) (hl : lo' ≤ lo) (hh : hi ≤ hi') (hs : hi' ≤ w.heap.size) : IWW w lo' hi' A zss := by
  obtain ⟨h1, h2, b, off, F, C, hr⟩ := h
  exact ⟨h1, hs, b, off, F, C, fun h0 => by obtain ⟨e, g1, g2⟩ := hr.top h0; exact ⟨e, by omega, by omega⟩, fun k hk => by
    obtain ⟨h3, h4, h5, h6⟩ := hr.row k hk
    exact ⟨h3, h4, h5.wide hl hh hs, h6⟩, hr.apart⟩
theorem IWW.nil (w : World) (A : Option Addr) : IWW w w.heap.size w.heap.size A [] := ⟨by simp, Nat.le_refl _, 0, 0, fun _ => none, fun _ => 0, fun h => absurd h (by simp), fun k hk => absurd hk (by simp), fun j k _ hk => absurd hk (by simp)⟩
end

/-- Only the cells of the slice have been written. -/
structure Chg1 (w w' : World) (A : Option Addr) (n : Nat) : Prop where
  cell : ∀ p : Addr, (∀ b o, A = some ⟨b, o, none⟩ → ∀ j, j < n → p ≠ ⟨b, o + j, none⟩) → w'.cell? p = w.cell? p
  frozen : ∀ p : Addr, w'.frozen? p = w.frozen? p
theorem Chg1.refl (w : World) (A : Option Addr) (n : Nat) : Chg1 w w A n := ⟨fun _ _ => rfl, fun _ => rfl⟩
theorem Chg1.set_ {a w : World} {b o n : Nat} (h : Chg1 a w (some ⟨b, o, none⟩) n) {j : Nat} (hj : j < n) (v : Value) : Chg1 a (w.setCell ⟨b, o + j, none⟩ v) (some ⟨b, o, none⟩) n :=
  ⟨fun p hp => (World.cell?_setCell_other _ _ _ _ (Ne.symm (hp b o rfl j hj))).trans (h.cell p hp), fun p => (World.frozen?_setCell _ _ _ _).trans (h.frozen p)⟩

/-- A row that has been written: the others stand. -/
theorem Rows_.set_ {w w' : World} {lo hi : Nat} {A : Option Addr} {zss : List (List Int)} {b off : Nat} {F : Nat → Option Addr} {C : Nat → Nat} (h : Rows_ w lo hi A zss b off F C) {i : Nat} (hi' : i < zss.length) {ys : List Int}
    (hl : ys.length = zss[i].length) (hc : Chg1 w w' (F i) zss[i].length) (hs : w.heap.size ≤ w'.heap.size) (hw : IW w' lo hi (F i) ys) : Rows_ w' lo hi A (zss.set i ys) b off F C := by
  have same : ∀ (k : Nat) (hk : k < zss.length), ((zss.set i ys)[k]'(by simpa using hk)).length = zss[k].length := by
    intro k hk
    rw [List.getElem_set]
    by_cases e : i = k
    · subst e; rw [if_pos rfl]; exact hl
    · rw [if_neg e]
  refine ⟨fun h0 => h.top (by simpa using h0), fun k hk => ?_, fun j k hj hk => ?_⟩
  · have hk2 : k < zss.length := by simpa using hk
    obtain ⟨h3, h4, h5, h6⟩ := h.row k hk2
    obtain ⟨e, t1, t2⟩ := h.top (by omega)
    refine ⟨?_, by rw [same k hk2]; exact h4, ?_, fun b' o' e h0 => h6 b' o' e (by rw [same k hk2] at h0; exact h0)⟩
    · rw [same k hk2]
      refine (hc.cell _ fun b1 o1 e1 j hj e2 => ?_).trans h3
      injection e2 with e3 _ _
      exact (h.row i hi').2.2.2 b1 o1 e1 (by omega) e3.symm
    · by_cases e : i = k
      · subst e
        rw [show (zss.set i ys)[i] = ys by simp]
        exact hw
      · rw [show (zss.set i ys)[k] = zss[k] by rw [List.getElem_set, if_neg e]]
        refine ⟨h5.1, h5.2.1, Nat.le_trans h5.2.2.1 hs, fun h0 => ?_⟩
        obtain ⟨b1, o1, e1, g1, g2, g3⟩ := h5.2.2.2 h0
        refine ⟨b1, o1, e1, g1, g2, fun j hj => ⟨(hc.cell _ fun b2 o2 e2 j2 hj2 e3 => ?_).trans (g3 j hj).1, (hc.frozen _).trans (g3 j hj).2⟩⟩
        injection e3 with e4 e5 _
        rcases Nat.lt_or_gt_of_ne e with hlt | hgt
        · rcases h.apart i k hlt hk2 b2 o2 b1 o1 e2 e1 (by omega) h0 with g | g | g
          · exact g e4.symm
          · omega
          · omega
        · rcases h.apart k i hgt hi' b1 o1 b2 o2 e1 e2 h0 (by omega) with g | g | g
          · exact g e4
          · omega
          · omega
  · have hk2 : k < zss.length := by simpa using hk
    rw [same j (by omega), same k hk2]
    exact h.apart j k hj hk2

theorem IW.setOut {w : World} {lo hi : Nat} {A : Option Addr} {zs : List Int} (h : IW w lo hi A zs) {b off : Nat} (hn : ∀ b' o', A = some ⟨b', o', none⟩ → 0 < zs.length → b' ≠ b) (v : Value) : IW (w.setCell ⟨b, off, none⟩ v) lo hi A zs :=
  ⟨h.1, h.2.1, by simpa [World.setCell] using h.2.2.1, fun h0 => by
    obtain ⟨b', o', e, h1, h2, h3⟩ := h.2.2.2 h0
    have hb := Below.heap_setCell w ⟨b, off, none⟩ v b' (fun e2 => hn b' o' e h0 e2)
    exact ⟨b', o', e, h1, h2, fun j hj => ⟨(World.cell?_of_block hb).trans (h3 j hj).1, (World.frozen?_of_block hb).trans (h3 j hj).2⟩⟩⟩
theorem IW.at_ {w : World} {lo hi : Nat} {A : Option Addr} {zs : List Int} (h : IW w lo hi A zs) {b o : Nat} (e : A = some ⟨b, o, none⟩) (h0 : 0 < zs.length) : lo ≤ b ∧ b < hi := by
  obtain ⟨b', o', e', h1, h2, _⟩ := h.2.2.2 h0
  rw [e'] at e
  injection e with e
  injection e with e _ _
  omega
/-- An empty row is put: a list that was made just now. -/
theorem Rows_.put {w w1 : World} {lo hi : Nat} {A : Option Addr} {zss : List (List Int)} {b off : Nat} {F : Nat → Option Addr} {C : Nat → Nat} (h : Rows_ w lo hi A zss b off F C) (hh : hi ≤ w.heap.size) {j : Nat} (hj : j < zss.length)
    (hb : Below w.heap.size w w1) {A' : Option Addr} {ys : List Int} {n c : Nat} (hn : n = ys.length) (hy : IW w1 w.heap.size w1.heap.size A' ys) (hc : n ≤ c ∧ c ≤ 9223372036854775807) :
    Rows_ (w1.setCell ⟨b, off + j, none⟩ (.slice A' n c)) lo w1.heap.size A (zss.set j ys) b off (fun k => if k = j then A' else F k) (fun k => if k = j then c else C k) := by
  subst hn
  obtain ⟨ea, t1, t2⟩ := h.top (by omega)
  have hs := hb.size
  refine ⟨fun _ => ⟨ea, t1, by omega⟩, fun k hk => ?_, fun i k hi hk => ?_⟩
  · have hk2 : k < zss.length := by simpa using hk
    by_cases e : k = j
    · subst e
      rw [show (zss.set k ys)[k] = ys by simp]
      simp only [if_true]
      refine ⟨World.cell?_setCell_same' _ _ _ ?_, hc, (hy.setOut (fun b' o' e h0 => ?_) _).wide (by omega) (Nat.le_refl _) (by simp [World.setCell]), fun b' o' e h0 => ?_⟩
      · rw [hb.cell (p := ⟨b, off + k, none⟩) (by simp; omega), (h.row k hk2).1]; rfl
      · have := hy.at_ e h0; omega
      · have := hy.at_ e h0; omega
    · rw [show (zss.set j ys)[k] = zss[k] by rw [List.getElem_set, if_neg (Ne.symm e)]]
      simp only [if_neg e]
      obtain ⟨h3, h4, h5, h6⟩ := h.row k hk2
      refine ⟨?_, h4, ?_, h6⟩
      · rw [World.cell?_setCell_other _ _ _ _ (by intro e'; injection e' with _ e' _; omega)]
        exact (hb.cell (p := ⟨b, off + k, none⟩) (by simp; omega)).trans h3
      · exact (((h5.below hb hh).wide (Nat.le_refl _) (by omega) (Nat.le_refl _)).setOut h6 _).wide (Nat.le_refl _) (Nat.le_refl _) (by simp [World.setCell])
  · have hk2 : k < zss.length := by simpa using hk
    by_cases e : i = j
    · subst e
      rw [show (zss.set i ys)[i]'(by simpa using hj) = ys by simp, show (zss.set i ys)[k] = zss[k] by rw [List.getElem_set, if_neg (by omega)]]
      simp only [if_true, if_neg (show ¬ k = i by omega)]
      intro b1 o1 b2 o2 e1 e2 n1 n2
      have g1 := hy.at_ e1 n1
      have g2 := (h.row k hk2).2.2.1.at_ e2 n2
      exact .inl (by omega)
    · by_cases e2 : k = j
      · subst e2
        rw [show (zss.set k ys)[k] = ys by simp, show (zss.set k ys)[i]'(by simp; omega) = zss[i] by rw [List.getElem_set, if_neg (by omega)]]
        simp only [if_true, if_neg e]
        intro b1 o1 b2 o2 e1 e2 n1 n2
        have g1 := hy.at_ e2 n2
        have g2 := (h.row i (by omega)).2.2.1.at_ e1 n1
        exact .inl (by omega)
      · rw [show (zss.set j ys)[k] = zss[k] by rw [List.getElem_set, if_neg (Ne.symm e2)], show (zss.set j ys)[i]'(by simp; omega) = zss[i] by rw [List.getElem_set, if_neg (Ne.symm e)]]
        simp only [if_neg e, if_neg e2]
        exact h.apart i k hi hk2

/-- The call returns a list of lists of its own. -/
def RetT (w : World) (zss : List (List Int)) (e : Ending) (w' : World) : Prop := ∃ A c, e = .returned (.slice A zss.length c) ∧ zss.length ≤ c ∧ IWW w' w.heap.size w'.heap.size A zss ∧ Below w.heap.size w w'
/-- The call returns a list of lists of its own and true, or an empty one and false. -/
def RetTB (w : World) (o : Option (List (List Int))) (e : Ending) (w' : World) : Prop := ∃ A c, e = .returned (.tuple #[.slice A (o.getD []).length c, .bool o.isSome]) ∧ (o.getD []).length ≤ c ∧ IWW w' w.heap.size w'.heap.size A (o.getD []) ∧ Below w.heap.size w w'
/-- The same, of lists that may be arguments. -/
def RetTR (w : World) (o : Option (List (List Int))) (e : Ending) (w' : World) : Prop := ∃ A c, e = .returned (.tuple #[.slice A (o.getD []).length c, .bool o.isSome]) ∧ IRR w' 0 w'.heap.size A (o.getD []) ∧ Below w.heap.size w w'
end Go.Proofs.Ytanoojpmokbiaab

/-
  'out = append(out, row)' on a list of lists of the call's own: one step of the walk. Conditions: the list stays short.
-/
namespace Go.Proofs.Ytanoojpmokbiaab
open Go.RowKit

theorem info_row : (Try.prog.info? 24).map (fun i => (i.zero, i.size, i.bytes)) = some (some (.slice none 0 0), 1, 24) := by kernel_rfl

/-- The slices F, C as values. -/
def rowsV (zss : List (List Int)) (F : Nat → Option Addr) (C : Nat → Nat) : List Value := (List.range zss.length).map fun k => Value.slice (F k) (zss.getD k []).length (C k)
theorem rowsV_len (zss : List (List Int)) (F : Nat → Option Addr) (C : Nat → Nat) : (rowsV zss F C).length = zss.length := by simp [rowsV]
theorem rowsV_get (zss : List (List Int)) (F : Nat → Option Addr) (C : Nat → Nat) (k : Nat) (h : k < zss.length) : (rowsV zss F C)[k]? = some (.slice (F k) zss[k].length (C k)) := by
  simp [rowsV, h, List.getD]
/-- The value is a list of lists of the call's own (blocks from base up to below hi). -/
def OwnT (w : World) (base hi : Nat) (v : Value) (zss : List (List Int)) : Prop :=
  base ≤ hi ∧ hi ≤ w.heap.size ∧ ∃ (F : Nat → Option Addr) (C : Nat → Nat), w.ownsRow base 24 1 v zss.length (rowsV zss F C) ∧ (∀ g, v.ownBlock = some g → g < hi) ∧
    (∀ (k : Nat) (hk : k < zss.length), (zss[k].length ≤ C k ∧ C k ≤ 9223372036854775807) ∧ IW w base hi (F k) zss[k] ∧ ∀ b' o', F k = some ⟨b', o', none⟩ → 0 < zss[k].length → v.ownBlock ≠ some b') ∧
    ∀ (j k : Nat) (hj : j < k) (hk : k < zss.length), Apart (F j) (zss[j]'(by omega)).length (F k) zss[k].length

theorem OwnT.made (w : World) : OwnT (w.alloc (.cells #[] 24)) w.heap.size (w.heap.size + 1) (.slice (some ⟨w.heap.size, 0, none⟩) 0 0) [] :=
  ⟨by omega, by simp, fun _ => none, fun _ => 0, World.ownsRow_made w #[] 0 (Nat.le_refl _) (by unfold maxLen; omega) rfl, fun g e => by simp only [Value.ownBlock] at e; injection e with e; omega, fun k hk => absurd hk (by simp), fun j k _ hk => absurd hk (by simp)⟩
theorem OwnT.nil (w : World) (base : Nat) (h : base ≤ w.heap.size) : OwnT w base base (.slice none 0 0) [] :=
  ⟨Nat.le_refl _, h, fun _ => none, fun _ => 0, World.ownsRow_nil _ _ _ _, fun g e => by simp [Value.ownBlock] at e, fun k hk => absurd hk (by simp), fun j k _ hk => absurd hk (by simp)⟩
theorem OwnT.below {w w' : World} {base hi C : Nat} {v : Value} {zss : List (List Int)} (h : OwnT w base hi v zss) (hb : Below C w w') (hC : hi ≤ C) : OwnT w' base hi v zss := by
  obtain ⟨h1, h2, F, K, ho, hg, hr, ha⟩ := h
  refine ⟨h1, Nat.le_trans h2 hb.size, F, K, ⟨ho.1, ?_⟩, hg, fun k hk => ⟨(hr k hk).1, (hr k hk).2.1.below hb hC, (hr k hk).2.2⟩, ha⟩
  rcases ho.2 with h0 | ⟨g, cap, cur, e, hg2, hh, r⟩
  · exact .inl h0
  · exact .inr ⟨g, cap, cur, e, hg2, (hb.block g (Nat.lt_of_lt_of_le (hg g (by rw [e]; rfl)) hC)).trans hh, r⟩
theorem OwnT.grow {w w' : World} {base hi : Nat} {v : Value} {zss : List (List Int)} (h : OwnT w base hi v zss) (hb : Below w.heap.size w w') : OwnT w' base hi v zss := h.below hb h.2.1
theorem OwnT.drewN {w : World} {base hi : Nat} {v : Value} {zss : List (List Int)} (h : OwnT w base hi v zss) (n : Nat) : OwnT (w.drewN n) base hi v zss :=
  h.below (C := hi) ⟨rfl, rfl, rfl, Nat.le_refl _, fun _ _ => rfl⟩ (Nat.le_refl _)
theorem OwnT.up {w : World} {base hi hi' : Nat} {v : Value} {zss : List (List Int)} (h : OwnT w base hi v zss) (hh : hi ≤ hi') (hs : hi' ≤ w.heap.size) : OwnT w base hi' v zss := by
  obtain ⟨h1, h2, F, K, ho, hg, hr, ha⟩ := h
  exact ⟨by omega, hs, F, K, ho, fun g e => by have := hg g e; omega, fun k hk => ⟨(hr k hk).1, (hr k hk).2.1.wide (Nat.le_refl _) hh hs, (hr k hk).2.2⟩, ha⟩
theorem OwnT.iww {w : World} {base hi : Nat} {v : Value} {zss : List (List Int)} (h : OwnT w base hi v zss) (hl : zss.length ≤ 17592186044416) :
    ∃ A c, v = .slice A zss.length c ∧ zss.length ≤ c ∧ c ≤ 9223372036854775807 ∧ IWW w base hi A zss := by
  obtain ⟨h1, h2, F, K, ho, hg, hr, ha⟩ := h
  have hcell := ho
  rcases ho.2 with ⟨rfl, h0⟩ | ⟨g, cap, cur, rfl, hgb, hh, hn, hcap, hs, ht⟩
  · have : zss = [] := List.eq_nil_of_length_eq_zero h0
    subst this
    exact ⟨none, 0, rfl, Nat.le_refl _, by omega, by simp, h2, 0, 0, F, K, fun h => absurd h (by simp), fun k hk => absurd hk (by simp), fun j k _ hk => absurd hk (by simp)⟩
  · refine ⟨some ⟨g, 0, none⟩, cap, rfl, hn, by unfold maxLen at hcap; omega, hl, h2, g, 0, F, K, fun _ => ⟨rfl, hgb, hg g rfl⟩, fun k hk => ⟨?_, (hr k hk).1, (hr k hk).2.1, fun b' o' e h0 e2 => (hr k hk).2.2 b' o' e h0 (by rw [e2]; rfl)⟩, ha⟩
    have := hcell.cellAt k (by simpa using hk)
    rw [rowsV_get _ _ _ _ hk] at this
    simpa using this

theorem run_pushT (w : World) (base hi lo2 : Nat) (v : Value) (zss : List (List Int)) (hown : OwnT w base hi v zss) (G : Nat) (A : Option Addr) (n c : Nat) (ys : List Int) (hc : w.cell? ⟨G, 0, none⟩ = some (.slice A n c)) (hn : n = ys.length) (hcap : n ≤ c ∧ c ≤ 9223372036854775807)
    (hlo : hi ≤ lo2) (hr : IW w lo2 w.heap.size A ys) (hl : zss.length < 1000000) (ty : TypeId) :
    ∃ v' w', (Builtin.append_ #[22, 22] ty #[v, .slice (some ⟨G, 0, none⟩) 1 1]).run Try.prog w = .ok v' w' ∧ OwnT w' base w'.heap.size v' (zss ++ [ys]) ∧ Below base w w' := by
  subst hn
  obtain ⟨h1, h2, F, K, ho, hg, hrr, ha⟩ := hown
  obtain ⟨i0, hi0, hz0, hz1, hz2⟩ := info_parts info_row
  obtain ⟨v', w', hrun, e2, e3, _, e5⟩ := run_append_own_at (P := Try.prog) w base 22 ty 24 i0 (.slice none 0 0) 1 24 Try.underlying22 hi0 hz0 hz1 hz2 rfl (by decide) v zss.length (rowsV zss F K) ho ⟨G, 0, none⟩ 1 1 [.slice A ys.length c] rfl
    (fun j u hj => by
      match j, hj with
      | 0, hj => simp at hj; subst hj; simpa [Addr.add] using hc) (by simp [Value.oneCell']) (by unfold maxLen; omega) (by omega) (by omega)
  have hB : Below base w w' := (Below.refl base w).grown e3 (by omega) fun k hk => (ho.lt k hk).1
  have hBk : ∀ k, k < w.heap.size → v.ownBlock ≠ some k → w'.heap[k]? = w.heap[k]? := fun k hk hne => e3.block k hk (Ne.symm hne)
  have hlen : (zss ++ [ys]).length = zss.length + 1 := by simp
  refine ⟨v', w', hrun, ⟨by have := e3.size; omega, Nat.le_refl _, fun k => if k = zss.length then A else F k, fun k => if k = zss.length then c else K k, ?_, ?_, ?_, ?_⟩, hB⟩
  · rw [hlen]
    have e : rowsV (zss ++ [ys]) (fun k => if k = zss.length then A else F k) (fun k => if k = zss.length then c else K k) = rowsV zss F K ++ [.slice A ys.length c] := by
      apply List.ext_getElem?
      intro k
      by_cases hk : k < zss.length
      · rw [rowsV_get _ _ _ _ (by rw [hlen]; omega), List.getElem?_append_left (by rw [rowsV_len]; exact hk), rowsV_get _ _ _ _ hk, if_neg (by omega), if_neg (by omega), List.getElem_append_left hk]
      · by_cases hk2 : k = zss.length
        · subst hk2
          rw [rowsV_get _ _ _ _ (by rw [hlen]; omega), List.getElem?_append_right (by rw [rowsV_len]; exact Nat.le_refl _), rowsV_len, if_pos rfl, if_pos rfl]
          simp
        · rw [List.getElem?_eq_none (by rw [rowsV_len, hlen]; omega), List.getElem?_eq_none (by simp [rowsV_len]; omega)]
    rw [e]
    exact e2
  · intro g eg
    rcases e2.2 with ⟨rfl, h0⟩ | ⟨g', cap, cur, rfl, _, hh, _⟩
    · omega
    · simp only [Value.ownBlock] at eg
      injection eg with eg
      rw [← eg]
      exact (Array.getElem?_eq_some_iff.1 hh).1
  · intro k hk
    rw [hlen] at hk
    by_cases hk2 : k = zss.length
    · subst hk2
      simp only [if_true]
      rw [show (zss ++ [ys])[zss.length]'(by rw [hlen]; omega) = ys by simp]
      refine ⟨hcap, ?_, fun b' o' e h0 => ?_⟩
      · refine (hr.keep e3.size fun k g1 g2 => hBk k g2 fun e => ?_).wide (by omega) e3.size (Nat.le_refl _)
        have := hg k e
        omega
      · obtain ⟨b, o, e', g1, g2, _⟩ := hr.2.2.2 h0
        rw [e'] at e
        injection e with e
        injection e with eb _ _
        intro e6
        rcases e5 with e5 | e5
        · rw [e5] at e6
          have := hg b' e6
          omega
        · rw [e5] at e6
          injection e6 with e6
          omega
    · have hk3 : k < zss.length := by omega
      simp only [if_neg hk2]
      rw [show (zss ++ [ys])[k]'(by rw [hlen]; omega) = zss[k] from List.getElem_append_left hk3]
      obtain ⟨r1, r2, r3⟩ := hrr k hk3
      refine ⟨r1, ?_, fun b' o' e h0 => ?_⟩
      · rcases Nat.eq_zero_or_pos zss[k].length with h0 | h0
        · exact ⟨r2.1, r2.2.1, Nat.le_refl _, fun h => absurd h (by omega)⟩
        · obtain ⟨b, o, e', g1, g2, g3⟩ := r2.2.2.2 h0
          have hne := r3 b o e' h0
          have hbk := hBk b (by omega) hne
          have := e3.size
          exact ⟨r2.1, r2.2.1, Nat.le_refl _, fun _ => ⟨b, o, e', g1, by omega, fun j hj => ⟨(World.cell?_of_block hbk).trans (g3 j hj).1, (World.frozen?_of_block hbk).trans (g3 j hj).2⟩⟩⟩
      · obtain ⟨b, o, e', g1, g2, _⟩ := r2.2.2.2 h0
        have hne := r3 b' o' e h0
        rw [e'] at e
        injection e with e
        injection e with eb _ _
        intro e6
        rcases e5 with e5 | e5
        · rw [e5] at e6
          exact hne e6
        · rw [e5] at e6
          injection e6 with e6
          omega
  · intro j k hj hk
    rw [hlen] at hk
    have hj3 : j < zss.length := by omega
    rw [show (zss ++ [ys])[j]'(by rw [hlen]; omega) = zss[j] from List.getElem_append_left hj3]
    simp only [if_neg (show ¬ j = zss.length by omega)]
    by_cases hk2 : k = zss.length
    · subst hk2
      simp only [if_true]
      rw [show (zss ++ [ys])[zss.length]'(by rw [hlen]; omega) = ys by simp]
      intro b o b' o' ea eb n1 n2
      obtain ⟨b1, o1, e', g1, g2, _⟩ := (hrr j hj3).2.1.2.2.2 n1
      obtain ⟨b2, o2, e'', g3, g4, _⟩ := hr.2.2.2 n2
      rw [e'] at ea
      rw [e''] at eb
      injection ea with ea
      injection eb with eb
      injection ea with ea _ _
      injection eb with eb _ _
      exact .inl (by omega)
    · have hk3 : k < zss.length := by omega
      simp only [if_neg hk2]
      rw [show (zss ++ [ys])[k]'(by rw [hlen]; omega) = zss[k] from List.getElem_append_left hk3]
      exact ha j k hj hk3

theorem wp_pushT {o : Oper} {a : Act} {w : World} {K : Act → World → Prop} {Q : Exit → Act → World → Prop} (s x : Operand)
    (ho : o.op = .call { callee := .builtin .append, args := #[s, x], argTypes := #[22, 22] })
    (base hi lo2 : Nat) (v : Value) (zss : List (List Int)) (hs : a.eval s = v) (G : Nat) (hx : a.eval x = .slice (some ⟨G, 0, none⟩) 1 1) (hown : OwnT w base hi v zss) (A : Option Addr) (n c : Nat) (ys : List Int) (hc : w.cell? ⟨G, 0, none⟩ = some (.slice A n c)) (hn : n = ys.length)
    (hcap : n ≤ c ∧ c ≤ 9223372036854775807) (hlo : hi ≤ lo2) (hr : IW w lo2 w.heap.size A ys) (hl : zss.length < 1000000)
    (h : ∀ v' w', OwnT w' base w'.heap.size v' (zss ++ [ys]) → Below base w w' → K (a.put o.dst v') w') : o.wp Try.prog a w K Q := by
  obtain ⟨v', w', hrun, h2, h3⟩ := run_pushT w base hi lo2 v zss hown G A n c ys hc hn hcap hlo hr hl o.type
  unfold Oper.wp execOp
  simp only [ho, resolve, invoke, builtin, Sem.run_bind, Sem.run_pure, Result.andThen_ok, List.map_toArray, List.map_cons, List.map_nil, hs, hx, hrun]
  exact h v' w' h2 h3

/-- In a plain region. -/
theorem wpList_pushT {ops : Array Oper} {rest : List Oper} {o : Oper} {a : Act} {W : World} {Q : Exit → Act → World → Prop} {A : Option Addr} {n c : Nat} (hgd : o.guard = none) (s x : Operand)
    (ho : o.op = .call { callee := .builtin .append, args := #[s, x], argTypes := #[22, 22] })
    (base hi lo2 : Nat) (v : Value) (zss : List (List Int)) (hs : a.eval s = v) (hx : a.eval x = .slice (some ⟨W.heap.size, 0, none⟩) 1 1) (hown : OwnT W base hi v zss) (ys : List Int) (hn : n = ys.length)
    (hcap : n ≤ c ∧ c ≤ 9223372036854775807) (hlo : hi ≤ lo2) (hr : IW W lo2 W.heap.size A ys) (hl : zss.length < 1000000)
    (h : ∀ v' w', OwnT w' base w'.heap.size v' (zss ++ [ys]) → Below base W w' → wpList Try.prog ops Q rest (a.put o.dst v') w') : wpList Try.prog ops Q (o :: rest) a (W.alloc (.cells #[.slice A n c] 24)) := by
  have hb : Below W.heap.size W (W.alloc (.cells #[.slice A n c] 24)) := (Below.refl _ W).alloc (Nat.le_refl _) _
  exact wpList_plain hgd fun _ hK => wp_pushT s x ho base hi lo2 v zss hs W.heap.size hx (hown.grow hb) A n c ys (by rw [World.cell?_alloc_at _ _ _ _ rfl]; rfl) hn hcap hlo ((hr.grow hb).wide (Nat.le_refl _) hb.size (Nat.le_refl _)) hl
    fun v' w' h2 h3 => hK _ _ (h v' w' h2 (OwnI.push_of (by have := hown.1; have := hown.2.1; omega) h3))
end Go.Proofs.Ytanoojpmokbiaab

/-
  How the rows open and shut a list of lists of integers that comes in. Conditions: none.
-/
namespace Go.Proofs.Ytanoojpmokbiaab
open Go.ChangeShapes Go.WideShapes Go.ChangeAt Go.RowKit Go.Deep

theorem Try.cellsRow : Try.prog.cellsOf 24 = 1 := by kernel_rfl
theorem Try.bytesRow : Try.prog.bytesOf 24 = 24 := by kernel_rfl

theorem weights_in {H : Type} {P : Program} {e : TypeId} {l : List (DataW H)} {d : DataW H} (hd : d ∈ l) {n : Nat} (hn : n ∈ d.weights P e) : n ∈ DataW.weightsAll P e l := by
  induction l with
  | nil => cases hd
  | cons d' r ih =>
    simp only [DataW.weightsAll, List.mem_append]
    cases hd with
    | head => exact .inl hn
    | tail _ h => exact .inr (ih h)
/-- How long a row of a list of lists that comes in may be. -/
theorem row_reach {H : Type} {P : Program} {ts : List TypeId} {ds : List (DataW H)} (h : (DataW.weightsEach P ts ds).all (· ≤ reachBytes) = true) {j : Nat} {t e q : TypeId} {rows spare r s : List (DataW H)}
    (ht : ts[j]? = some t) (hd : ds[j]? = some (.slice rows spare)) (hu : P.underlying t = some (.slice e)) (hu2 : P.underlying e = some (.slice q)) (hx : DataW.slice r s ∈ rows) : (r.length + s.length) * P.bytesOf q ≤ reachBytes := by
  have hw : (r.length + s.length) * P.bytesOf q ∈ (DataW.slice r s).weights P e := by simp [DataW.weights, hu2]
  have hm : (r.length + s.length) * P.bytesOf q ∈ (DataW.slice rows spare).weights P t := by
    simp only [DataW.weights, hu, List.mem_cons, List.mem_append]
    exact .inr (.inl (weights_in hx hw))
  exact of_decide_eq_true (List.all_eq_true.1 h _ (DataW.weights_mem_each ht hd _ hm))

set_option maxRecDepth 100000 in
theorem open_IRR {H : Type} {enc : TypeId × Value → H} {W : World} {base : Nat} {ts : List TypeId} {ds : List (DataW H)} {v : Value} {d : DataW H} {ps : List MemPlace} {j : Nat}
    (hsz : (DataW.weightsEach Try.prog ts ds).all (· ≤ reachBytes) = true) (ht : ts[j]? = some 22) (hd : ds[j]? = some d)
    (hv : Value.okWide Try.prog W .any base 22 v) (h : DataW.Trod enc Try.prog W 0 (fun _ => true) true 22 v d ps) (hlt : ∀ x, x ∈ ps → x.block < W.heap.size) :
    ∃ (A : Option Addr) (zss : List (List Int)) (cap : Nat), v = .slice A zss.length cap ∧ IRR W 0 W.heap.size A zss ∧
      (∀ W' : World, Below W.heap.size W W' → DataW.Trod enc Try.prog W' 0 (fun b => decide (b < W.heap.size)) true 22 v d ps) := by
  have hk := h
  have hargs : ∀ W' : World, Below W.heap.size W W' → DataW.Trod enc Try.prog W' 0 (fun b => decide (b < W.heap.size)) true 22 v d ps :=
    fun W' hn => Below.trod Try.laidOut (by kernel_rfl) (of_decide_eq_true (by kernel_rfl)) hk hn hlt
  obtain ⟨a0, len, cap, rfl⟩ := okWide_slice Try.underlying22 hv
  obtain ⟨fuel, hf⟩ := h
  rcases open_int_rows Try.underlying22 Try.underlying24 Try.underlying3 Try.cellsRow Try.cellsInt hf with ⟨hcs, hx⟩ | ⟨a, len', cap', A, L, C, Z, hcs, _, hl, hm, hx, hrow⟩
  · simp [Value.cells] at hcs
    obtain ⟨rfl, rfl, rfl⟩ := hcs
    exact ⟨none, [], 0, rfl, ⟨by simp, Nat.le_refl _, fun k hk => absurd hk (by simp)⟩, hargs⟩
  · simp [Value.cells] at hcs
    obtain ⟨rfl, rfl, rfl⟩ := hcs
    simp only [Prod.mk.injEq] at hx
    obtain ⟨rfl, rfl⟩ := hx
    have hreach : len * 24 ≤ 140737488351232 := by
      have := sized_slice hsz ht hd Try.underlying22
      rw [Try.bytesRow] at this
      simp only [List.length_map, List.length_range, reachBytes] at this
      omega
    have hin : ∀ r, r < len → L r ≤ 17592186044416 := fun r hr => by
      cases hA : A r with
      | none =>
        have h1 := (hrow r (by omega)).2.2.2.2.2.1 hA
        have h2 := (hrow r (by omega)).2.1
        omega
      | some a' =>
        have hmem : (DataW.slice (lits .i64 ((Z r).take (L r))) (lits .i64 ((Z r).drop (L r))) : DataW H) ∈ (List.range len).map fun r => intRow .i64 (A r) (L r) (Z r) :=
          List.mem_map.2 ⟨r, List.mem_range.2 hr, by simp only [intRow, hA]⟩
        have h3 := row_reach hsz ht hd Try.underlying22 Try.underlying24 hmem
        rw [Try.bytesInt] at h3
        have h4 := (hrow r (by omega)).2.2.2.1
        have h5 := (hrow r (by omega)).2.1
        simp only [lits, List.length_map, List.length_take, List.length_drop, reachBytes] at h3
        omega
    have hlen : ((List.range len).map fun r => (Z r).take (L r)).length = len := by simp
    refine ⟨some a, (List.range len).map fun r => (Z r).take (L r), cap, by rw [hlen], ⟨by omega, Nat.le_refl _, fun k hk2 => ?_⟩, hargs⟩
    rw [hlen] at hk2
    obtain ⟨b, off, spot⟩ := a
    obtain ⟨r1, r2, r3, r4, r5, r6, r7⟩ := hrow k (by omega)
    have hspot : spot = none := by simpa [Addr.add] using World.cell?_spot (hrow 0 (by omega)).1
    subst hspot
    have hbW : b < W.heap.size := hlt (.cell b off) (List.mem_append_left _ (MemPlace.mem_row.2 ⟨0, by omega, by simp⟩))
    have hrl : ((List.range len).map fun r => (Z r).take (L r))[k]'(by rw [hlen]; exact hk2) = (Z k).take (L k) := by simp
    have hll : ((Z k).take (L k)).length = L k := by simp; omega
    refine ⟨b, off, A k, C k, rfl, Nat.zero_le _, hbW, ?_, ?_, ?_⟩
    · rw [hrl, hll, ← r1, add_plain]
    · rw [hrl, hll]; exact ⟨r2, by unfold maxLen at r3; omega⟩
    · rw [hrl]
      have hin2 := hin k hk2
      refine ⟨by omega, fun z hz' => i64_of_wf (r5 z (List.mem_of_mem_take hz')), Nat.le_refl _, fun h0 => ?_⟩
      cases hA : A k with
      | none => have := r6 hA; omega
      | some a' =>
        obtain ⟨_, hc⟩ := r7 a' hA
        obtain ⟨b', off', spot'⟩ := a'
        have hspot' : spot' = none := by simpa [Addr.add] using World.cell?_spot (hc 0 (by omega))
        subst hspot'
        have hbW' : b' < W.heap.size := hlt (.cell b' off') (List.mem_append_right _ (List.mem_flatMap.2 ⟨k, List.mem_range.2 (by omega), by simp only [intRowPlaces, hA]; exact MemPlace.mem_row.2 ⟨0, by omega, by simp⟩⟩))
        refine ⟨b', off', rfl, Nat.zero_le _, hbW', fun i hi => ?_⟩
        have hi2 : i < (Z k).length := by omega
        have h9 := hc i (by omega)
        rw [add_plain] at h9
        rw [h9]
        simp [List.getD, hi2]
end Go.Proofs.Ytanoojpmokbiaab
