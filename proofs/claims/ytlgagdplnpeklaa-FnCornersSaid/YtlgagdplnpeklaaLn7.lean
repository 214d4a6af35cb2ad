/-
  The program's books of falls: what a book holds, keep, tell. Conditions: the book's block is there.
-/
import Derived.Test.YtlgagdplnpeklaaLn5
import Derived.Maps.RangeWalk
namespace Go.Proofs.Ytlgagdplnpeklaa
open Go.RowKit Go.ChangeMaps Go.MapKept
open Go.WideElems (Fit rd rg pl rd_val elemAt)

theorem keyInt : Maps.Keyed Try.prog 3 := Maps.int_keyed Try.underlying3
theorem zeroInt (w : World) : (zeroValue 3).run Try.prog w = .ok (.int .i64 0) w := by kernel_rfl
theorem wf_i64 {x : Int} (h : I64 x) : (Lit.int .i64 x).wf = true := WalkArith.wf_i64 h
theorem i64_wf {x : Int} (h : (Lit.int .i64 x).wf = true) : I64 x := by
  simp [Lit.wf, IntKind.min, IntKind.max, IntKind.signed, IntKind.bits] at h
  unfold I64
  omega

/-- Block b is a map of at most n numbers: a key for each s of T, and there F s. -/
def Bk (w : World) (b n : Nat) (T : Int → Prop) (F : Int → Int) : Prop :=
  ∃ D : DataW Unit, w.ownsMap Try.prog 3 (plainElem Try.prog 3) b n D ∧ (∀ s, Maps.has D (.int .i64 s) = true ↔ T s) ∧ ∀ s z, T s → D.atKey (.int .i64 s) z = .lit (.int .i64 (F s))
theorem Bk.lt {w : World} {b n : Nat} {T : Int → Prop} {F : Int → Int} (h : Bk w b n T F) : b < w.heap.size := by obtain ⟨D, h, _⟩ := h; exact h.lt
theorem Bk.kept {w w' : World} {row : Option Nat} {b n : Nat} {T : Int → Prop} {F : Int → Int} (h : Bk w b n T F) (hg : w.grownBy w' row) (hne : some b ≠ row) : Bk w' b n T F := by
  obtain ⟨D, h, r⟩ := h; exact ⟨D, h.kept hg hne, r⟩
theorem below_grown {w w' : World} (h : Below w.heap.size w w') (row : Option Nat) : w.grownBy w' row := ⟨h.os, h.tape, h.output, h.size, fun k hk _ => h.block k hk⟩
theorem grown_below {w w' : World} {B b : Nat} (h : w.grownBy w' (some b)) (hB : B ≤ b) (hs : B ≤ w.heap.size) : Below B w w' :=
  ⟨h.os, h.tape, h.output, h.size, fun k hk => h.block k (by omega) (by simp; omega)⟩
theorem grown_trans {a b' c : World} {r : Nat} (h : a.grownBy b' (some r)) (k : b'.grownBy c (some r)) : a.grownBy c (some r) := h.andThen k (fun _ hj => .inr hj)
theorem Bk.below {w w' : World} {b n : Nat} {T : Int → Prop} {F : Int → Int} (h : Bk w b n T F) (hb : Below w.heap.size w w') : Bk w' b n T F := h.kept (below_grown hb none) (by simp)
theorem Bk.mono {w : World} {b n n' : Nat} {T : Int → Prop} {F : Int → Int} (h : Bk w b n T F) (hn : n ≤ n') : Bk w b n' T F := by obtain ⟨D, h, r⟩ := h; exact ⟨D, h.mono hn, r⟩
theorem Bk.congr {w : World} {b n : Nat} {T T' : Int → Prop} {F F' : Int → Int} (h : Bk w b n T F) (hT : ∀ s, T' s ↔ T s) (hF : ∀ s, T s → F' s = F s) : Bk w b n T' F' := by
  obtain ⟨D, h, h1, h2⟩ := h
  exact ⟨D, h, fun s => (h1 s).trans (hT s).symm, fun s z ht => by rw [hF s ((hT s).1 ht)]; exact h2 s z ((hT s).1 ht)⟩
theorem Bk.made (w : World) (F : Int → Int) : Bk (w.alloc (.map #[] 0)) w.heap.size 0 (fun _ => False) F :=
  ⟨.map [], World.ownsMap_made _ _ _ _, fun s => by simp [Maps.has], fun _ _ h => h.elim⟩
theorem keyNe {s x : Int} (h : s ≠ x) : (Lit.int .i64 s) ≠ .int .i64 x := fun e => h (by cases e; rfl)
theorem sameKey_self (x : Int) : (Lit.int .i64 x).sameKey (.int .i64 x) = true := by simp [Lit.sameKey]
theorem keyLit (x : Int) : WideAt.IsKeyLit (.int .i64 x) := trivial
theorem Bk.put {w w' : World} {b n n' : Nat} {T : Int → Prop} {F : Int → Int} {D : DataW Unit} {x : Int} (hx : w.ownsMap Try.prog 3 (plainElem Try.prog 3) b n' D) (h1 : ∀ s, Maps.has D (.int .i64 s) = true ↔ T s) (h2 : ∀ s z, T s → D.atKey (.int .i64 s) z = .lit (.int .i64 (F s)))
    (h : w'.ownsMap Try.prog 3 (plainElem Try.prog 3) b n (D.put (.int .i64 x) (.lit (.int .i64 (F x))))) : Bk w' b n (fun s => T s ∨ s = x) F := by
  have hD := hx.isMap
  refine ⟨_, h, fun s => ?_, fun s z hs => ?_⟩
  · by_cases e : s = x
    · subst e; rw [Maps.has_put_same hD (keyLit s)]; simp
    · rw [Maps.has_put_other (keyNe e), h1 s]; simp [e]
  · by_cases e : s = x
    · subst e; rw [Maps.atKey_put_same hD (keyLit s)]
    · rw [Maps.atKey_put_other (keyNe e)]; exact h2 s z (hs.resolve_right e)
/-- 'clear'. -/
theorem Bk.clear {w : World} {b n : Nat} {T : Int → Prop} {F : Int → Int} (h : Bk w b n T F) (F' : Int → Int) :
    ∃ w1, (∀ ty, (Builtin.clear_ #[67] ty #[.map (some b)]).run Try.prog w = .ok (.tuple #[]) w1) ∧ Bk w1 b 0 (fun _ => False) F' ∧ w.grownBy w1 (some b) := by
  obtain ⟨D, ⟨es, clock, hb, F0, hs, hD⟩, _⟩ := h
  refine ⟨setBlock w b (.map #[] clock), fun ty => ?_, ⟨.map [], ⟨#[], clock, heap_setBlock_same hb _, ⟨by simp, stamped_empty clock, by simp⟩, Nat.le_refl _, rfl⟩, fun s => by simp [Maps.has], fun _ _ h => h.elim⟩, ⟨rfl, rfl, rfl, by simp [setBlock], fun i _ hi => heap_setBlock_other hb _ (fun e => hi (by rw [e]))⟩⟩
  simp [Builtin.clear_, run_underlying Try.underlying67, MapKept.run_getObj_map hb, MapKept.run_setObj_map _ hb, Result.andThen, setBlock]

set_option maxRecDepth 100000 in
set_option maxHeartbeats 1000000 in
theorem keep_any (A : Option Addr) (c m hi : Nat) (zs : List Int) (s : Int) (b n : Nat) (T : Int → Prop) (w : World) (h : IR w 0 hi A zs) (hr : rowB zs = true) (hs1 : -3000 ≤ s) (hs2 : s ≤ 3000) (hm : m = zs.length) (hb : Bk w b n T (fallL zs)) (hn : n < 1000) :
    Calls Try.prog 98 #[.map (some b), .slice A m c, .int .i64 s] w fun e w' => e = .returned (.tuple #[]) ∧ Bk w' b (n + 1) (fun x => T x ∨ x = s) (fallL zs) ∧ w.grownBy w' (some b) := by
  subst hm
  obtain ⟨D, hown, h1, h2⟩ := hb
  have hkey : keyOf Try.prog 3 (.int .i64 s) = some (.int .i64 s) := Maps.keyOf_int_mk Try.underlying3 (wf_i64 (by unfold I64; omega))
  have HR := Lib.hid hr; have H := Lib.hid h.toAll; have H1 := Lib.hid h1; have H2 := Lib.hid h2
  clear hr h h1 h2
  cases hh : Maps.has D (.int .i64 s) with
  | true =>
    have HH := Lib.hid hh
    go_enter Try.func98, Try.ntmps98
    go_wp2_with (at_lookup; refine wpList_lookup_own_ok_int _ rfl _ _ 67 rfl 3 3 .i64 keyInt Try.underlying67 Try.underlying3 (zeroInt _) b n D rfl hown _ _ rfl hkey ?_; intro c hat hwc; rw [hh])
    go_end0
    refine ⟨rfl, ⟨D, hown.mono (Nat.le_succ _), fun x => ?_, fun x z hx => ?_⟩, World.grownBy.but ⟨rfl, rfl, rfl, Nat.le_refl _, fun _ _ _ => rfl⟩ _⟩
    · rw [H1.out x]
      exact ⟨.inl, fun h => h.elim id (fun e => by rw [e]; exact (H1.out s).1 HH.out)⟩
    · refine H2.out x z (hx.elim id (fun e => by rw [e]; exact (H1.out s).1 HH.out))
  | false =>
    have HH := Lib.hid hh
    have HI := Lib.hid (fall_i64 HR.out hs1 hs2)
    go_enter Try.func98, Try.ntmps98
    go_wp2_with (first
      | (at_lookup; refine wpList_lookup_own_ok_int _ rfl _ _ 67 rfl 3 3 .i64 keyInt Try.underlying67 Try.underlying3 (zeroInt _) b n D rfl hown _ _ rfl hkey ?_; intro c hat hwc; rw [hh])
      | fail)
    refine (fall_any _ _ _ zs s _ H.out HR.out hs1 hs2 rfl).mono ?_; rintro e w1 ⟨rfl, bb⟩
    have hown1 := hown.kept (below_grown bb none) (by simp)
    have BB := Lib.hid bb
    clear bb
    go_wp2_with (at_mapUpdate; refine wpList_mapUpdate_own _ rfl _ _ _ 67 rfl 3 3 keyInt Try.underlying67 _ b n D rfl hown1 (by unfold maxLen; omega) _ _ _ rfl rfl hkey _ [] (plainElem_int Try.underlying3 (wf_i64 HI.out)) ?_; intro w2 hown2 hg2)
    go_end0
    exact ⟨rfl, Bk.put hown H1.out H2.out hown2, grown_trans (below_grown BB.out _) hg2⟩

theorem IR.grown {w w' : World} {lo hi b : Nat} {A : Option Addr} {zs : List Int} (h : IR w lo hi A zs) (hg : w.grownBy w' (some b)) (hb : hi ≤ b) : IR w' lo hi A zs :=
  h.keep hg.size fun p _ h2 => World.cell?_of_block (hg.block p.block (by have := h.2.2.1; omega) (by simp; omega))
theorem toldF_snoc (fs : List Int) (f : Int) (k : Nat) (hk : k < fs.length) : (fun s => fs.getD (s - f).toNat 0) (f + (k : Int)) = fs[k] := by
  show fs.getD (f + (k : Int) - f).toNat 0 = _
  rw [show (f + (k : Int) - f).toNat = k by omega, getD_in hk]

set_option maxRecDepth 100000 in
set_option maxHeartbeats 1000000 in
theorem tell_any (A : Option Addr) (c hi : Nat) (fs : List Int) (f : Int) (b n : Nat) (T : Int → Prop) (F0 : Int → Int) (w : World) (h : IR w 0 hi A fs) (hib : hi ≤ b) (hf1 : -100 ≤ f) (hf2 : f ≤ 100) (hl : fs.length ≤ 201) (hb : Bk w b n T F0) :
    Calls Try.prog 74 #[.map (some b), .int .i64 f, .slice A fs.length c] w fun e w' => e = .returned (.tuple #[]) ∧ Bk w' b fs.length (fun s => f ≤ s ∧ s < f + (fs.length : Int)) (fun s => fs.getD (s - f).toNat 0) ∧ w.grownBy w' (some b) := by
  obtain ⟨w1, hcl, hb1, hg1⟩ := hb.clear (fun s => fs.getD (s - f).toNat 0)
  have H := Lib.hid h; have HB1 := Lib.hid hb1; have HG1 := Lib.hid hg1
  clear h hb hb1 hg1
  go_enter Try.func74, Try.ntmps74
  go_wp2
  go_loopw [11] (fun i wr => ∃ k : Nat, k ≤ fs.length ∧ i = .int .i64 k ∧ Bk wr b k (fun s => f ≤ s ∧ s < f + (k : Int)) (fun s => fs.getD (s - f).toNat 0) ∧ w.grownBy wr (some b)) (fun i _ => fs.length - (intOf i).toNat)
  case atStart => exact ⟨0, Nat.zero_le _, rfl, HB1.out.congr (fun s => by simp <;> omega) (fun _ h => h.elim), HG1.out⟩
  case round =>
    obtain ⟨k, hk, rfl, hb, hg⟩ := hrel
    by_cases hlt : k < fs.length
    · obtain ⟨D, hown, h1, h2⟩ := hb
      have hI := H.out.i64 hlt
      obtain ⟨b0, off, rfl, hbh, hbs, hc⟩ := (H.out.grown hg hib).at_ hlt
      have hkey : keyOf Try.prog 3 (.int .i64 (f + (k : Int))) = some (.int .i64 (f + (k : Int))) := Maps.keyOf_int_mk Try.underlying3 (wf_i64 (by unfold I64; omega))
      have hkl : (k : Int) < (fs.length : Int) := by omega
      have H1 := Lib.hid h1; have H2 := Lib.hid h2; have HG := Lib.hid hg; have HIV := Lib.hid hI
      clear h1 h2 hg hI
      go_wp2_with (at_mapUpdate; refine wpList_mapUpdate_own _ rfl _ _ _ 67 rfl 3 3 keyInt Try.underlying67 _ b k D rfl hown (by unfold maxLen; omega) _ _ _ rfl rfl hkey _ [] (plainElem_int Try.underlying3 (wf_i64 HIV.out)) ?_; intro w2 hown2 hg2)
      rw [← toldF_snoc fs f k hlt] at hown2
      have hb2 := Bk.put hown H1.out H2.out hown2
      go_roundw
      case rel => exact ⟨k + 1, by omega, by go_num, hb2.congr (fun s => by simp; omega) (fun _ _ => rfl), grown_trans HG.out hg2⟩
      case measure => simp [intOf]; omega
    · obtain rfl : k = fs.length := by omega
      have HB := Lib.hid hb; have HG := Lib.hid hg
      clear hb hg
      go_wp2
      go_end0
      exact ⟨rfl, HB.out, HG.out⟩
end Go.Proofs.Ytlgagdplnpeklaa
