/-
  The draws of chapter 8: a letter, a row with a letter and a number. Conditions: the code's bytes are there.
-/
import Derived.Test.YtfkmnlhmldjieaaDrawOne
import Derived.Test.YtfkmnlhmldjieaaDrawHill
import Derived.Test.YtfkmnlhmldjieaaScA
namespace Go.Proofs.Ytfkmnlhmldjieaa
open Go.RowKit

theorem Rd.put8 {w : World} {R p : Nat} (h : Rd w R p) (q : Nat) : Rd (w.setCell ⟨R, 1, none⟩ (.int .i64 (q : Int))) R q := by
  obtain ⟨A, c, bs, h1, h2, h3, h4, h5⟩ := h
  refine ⟨A, c, bs, by simpa [World.setCell] using h1, ?_, ?_, (World.frozen?_setCell _ _ _ _).trans h4, h5.but ((But.refl R R w).set_ 1 _) (Nat.le_refl _) (Nat.le_refl _)⟩
  · rw [World.cell?_setCell_other _ _ _ _ (by simp)]; exact h2
  · rw [World.cell?_setCell_same' _ _ _ (by rw [h3]; rfl)]
/-- The call draws a text, and asks the reader once. -/
def LetPost (w : World) (R p : Nat) (e : Ending) (w' : World) : Prop :=
  ∃ s : ByteArray, e = .returned (.string s) ∧ s.size ≤ 1 ∧ But w.heap.size R w w' ∧ Rd w' R (p + 1) ∧ w.heap.size ≤ w'.heap.size
def lets : List ByteArray := [⟨#[119]⟩, ⟨#[115]⟩, ⟨#[119]⟩, ⟨#[115]⟩, ⟨#[119]⟩, ⟨#[115]⟩, ⟨#[119]⟩, ⟨#[115]⟩, ⟨#[120]⟩, ⟨#[]⟩]

set_option maxRecDepth 100000 in
set_option maxHeartbeats 1000000 in
theorem of_any (R p G : Nat) (w : World) (h : Rd w R p) (hp : p ≤ 900000000) (hG : ∀ j (hj : j < lets.length), w.cell? ⟨G, j, none⟩ = some (.string lets[j])) (hGs : G < w.heap.size) (hGR : G ≠ R) :
    Calls Try.prog 79 #[.pointer (some ⟨R, 0, none⟩), .slice (some ⟨G, 0, none⟩) 10 10] w (LetPost w R p) := by
  have H := Lib.hid h; have HG := Lib.hid hG
  clear h hG
  go_enter Try.func79, Try.ntmps79
  go_wp2_with fail
  refine (pick_any R p 10 _ H.out (by omega) (by omega)).mono ?_
  rintro e w1 ⟨v, rfl, v0, v1, -, hb, hs, hr⟩
  have v2 := v1 (by omega)
  obtain ⟨j, rfl⟩ := Int.eq_ofNat_of_zero_le v0
  have hj : j < lets.length := by show j < 10; omega
  have hc := (World.cell?_of_block (a := ⟨G, j, none⟩) (hb.block G hGs hGR)).trans (HG.out j hj)
  have HB := Lib.hid hb; have HR := Lib.hid hr; have HS := Lib.hid hs
  have HSZ : Hid (lets[j].size ≤ 1) := Lib.hid (by
    have : ∀ s, s ∈ lets → s.size ≤ 1 := by decide
    exact this _ (List.getElem_mem hj))
  generalize lets[j] = s at hc HSZ
  clear hb hr hs v1
  go_wp2
  go_ret
  exact ⟨s, rfl, HSZ.out, HB.out, HR.out, Nat.le_of_eq HS.out.symm⟩
set_option maxRecDepth 100000 in
set_option maxHeartbeats 1000000 in
theorem l92Letter_any (R p : Nat) (w : World) (h : Rd w R p) (hp : p ≤ 900000000) :
    Calls Try.prog 70 #[.pointer (some ⟨R, 0, none⟩)] w (LetPost w R p) := by
  have H := Lib.hid h
  have hR := h.lt
  clear h
  have hb := (Below.refl w.heap.size w).alloc (Nat.le_refl _) (.cells #[.string { data := #[119] }, .string { data := #[115] }, .string { data := #[119] }, .string { data := #[115] }, .string { data := #[119] }, .string { data := #[115] }, .string { data := #[119] }, .string { data := #[115] }, .string { data := #[120] }, .string { data := #[] }] 9)
  have HB := Lib.hid hb
  have HC := Lib.hid (of_any R p w.heap.size _ (H.out.below hb hR) hp (fun j hj => by
    rw [World.cell?_alloc_at _ _ _ _ rfl]
    have : j < 10 := hj
    match j, this with
    | 0, _ => rfl | 1, _ => rfl | 2, _ => rfl | 3, _ => rfl | 4, _ => rfl | 5, _ => rfl | 6, _ => rfl | 7, _ => rfl | 8, _ => rfl | 9, _ => rfl) (by simp) (by omega))
  clear hb
  go_enter Try.func70, Try.ntmps70
  go_wp2_with fail
  refine HC.out.mono ?_
  rintro e w1 ⟨s, rfl, hs, hb, hr, hsz⟩
  have HSZ := Lib.hid hs; have HR := Lib.hid hr
  have HBB := Lib.hid ((But.of HB.out).trans (hb.mono (by simp)))
  have HSS := Lib.hid (Nat.le_trans HB.out.size hsz)
  clear hs hb hr hsz HC
  go_wp2
  go_ret
  exact ⟨s, rfl, HSZ.out, HBB.out, HR.out, HSS.out⟩
end Go.Proofs.Ytfkmnlhmldjieaa
