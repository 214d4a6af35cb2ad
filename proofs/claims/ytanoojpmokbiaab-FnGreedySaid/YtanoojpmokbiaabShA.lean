/-
  Sharing an amount among rows: the mathematics, what the functions answer, results of trying brought together. No program here. Conditions: none.
-/
import Derived.Test.YtanoojpmokbiaabMathA
import Derived.Test.YtanoojpmokbiaabHvMath
namespace Go.Proofs.Ytanoojpmokbiaab
open Go.RowKit

/-- A place of each row. -/
def Pl : List (List Int) → List Int → Prop
  | [], [] => True
  | r :: rs, x :: l => 0 ≤ x ∧ x < (r.length : Int) ∧ Pl rs l
  | _, _ => False
def costS : List (List Int) → List Int → Int
  | r :: rs, x :: l => r.getD x.toNat 0 + costS rs l
  | _, _ => 0
def totL : List Int → Int
  | [] => 0
  | x :: l => x + totL l
/-- No later than, as lists are compared. -/
def Lx : List Int → List Int → Prop
  | x :: l, y :: m => x < y ∨ (x = y ∧ Lx l m)
  | [], [] => True
  | _, _ => False
theorem Lx.refl : ∀ l : List Int, Lx l l
  | [] => trivial
  | _ :: l => .inr ⟨rfl, Lx.refl l⟩
theorem Lx.anti : ∀ {l m : List Int}, Lx l m → Lx m l → l = m
  | [], [], _, _ => rfl
  | x :: l, y :: m, h, h' => by
    rcases h with h | ⟨rfl, h⟩
    · rcases h' with h' | ⟨h', -⟩ <;> omega
    · rcases h' with h' | ⟨-, h'⟩
      · omega
      · rw [Lx.anti h h']
  | [], _ :: _, h, _ => h.elim
  | _ :: _, [], h, _ => h.elim
theorem Pl.len : ∀ {rs : List (List Int)} {l : List Int}, Pl rs l → l.length = rs.length
  | [], [], _ => rfl
  | _ :: rs, _ :: l, h => by rw [List.length_cons, List.length_cons, h.2.2.len]
  | [], _ :: _, h => h.elim
  | _ :: _, [], h => h.elim
theorem Pl.nonneg : ∀ {rs : List (List Int)} {l : List Int}, Pl rs l → 0 ≤ totL l
  | [], [], _ => Int.le_refl _
  | _ :: rs, x :: l, h => by have := h.2.2.nonneg; have := h.1; simp only [totL]; omega
  | [], _ :: _, h => h.elim
  | _ :: _, [], h => h.elim

/-- How many sharings have a sum and a cost. -/
def cnt : List (List Int) → Int → Int → Int
  | [], n, c => if n = 0 ∧ c = 0 then 1 else 0
  | r :: rs, n, c => sumN (fun x => cnt rs (n - (x : Int)) (c - r.getD x 0)) r.length
theorem cnt_nonneg : ∀ (rs : List (List Int)) (n c : Int), 0 ≤ cnt rs n c
  | [], n, c => by unfold cnt; split <;> omega
  | r :: rs, n, c => sumN_nonneg fun x _ => cnt_nonneg rs _ _
theorem cnt_neg : ∀ (rs : List (List Int)) {n : Int} (c : Int), n < 0 → cnt rs n c = 0
  | [], n, c, h => by unfold cnt; rw [if_neg (by omega)]
  | r :: rs, n, c, h => by
    have e : sumN (fun x => cnt rs (n - (x : Int)) (c - r.getD x 0)) r.length = sumN (fun _ => 0) r.length := sumN_congr fun x _ => cnt_neg rs _ (by omega)
    show sumN (fun x => cnt rs (n - (x : Int)) (c - r.getD x 0)) r.length = 0
    rw [e, sumN_zero]
theorem sumN_one {f : Nat → Int} {n k : Nat} (h : ∀ j, j < n → 0 ≤ f j) (hk : k < n) : f k ≤ sumN f n := by
  induction n with
  | zero => omega
  | succ n ih =>
    have p := sumN_nonneg (f := f) (n := n) fun j hj => h j (by omega)
    have q := h n (by omega)
    by_cases e : k = n
    · subst e; show _ ≤ sumN f k + f k; omega
    · have := ih (fun j hj => h j (by omega)) (by omega)
      show _ ≤ sumN f n + f n; omega
theorem sumN_pos {f : Nat → Int} {n : Nat} (h : ∀ j, j < n → 0 ≤ f j) (hp : 0 < sumN f n) : ∃ k, k < n ∧ 0 < f k := by
  induction n with
  | zero => simp [sumN] at hp
  | succ n ih =>
    have q := h n (by omega)
    by_cases c : 0 < f n
    · exact ⟨n, by omega, c⟩
    · have hp' : 0 < sumN f n + f n := hp
      obtain ⟨k, h1, h2⟩ := ih (fun j hj => h j (by omega)) (by omega)
      exact ⟨k, by omega, h2⟩
theorem cnt_pos : ∀ {rs : List (List Int)} {n c : Int}, 0 < cnt rs n c ↔ ∃ l, Pl rs l ∧ totL l = n ∧ costS rs l = c
  | [], n, c => by
    unfold cnt
    constructor
    · intro h
      split at h
      · rename_i e; exact ⟨[], trivial, by simp [totL, e.1], by simp [costS, e.2]⟩
      · omega
    · rintro ⟨l, h1, h2, h3⟩
      cases l with
      | nil => rw [if_pos ⟨by simpa [totL] using h2.symm, by simpa [costS] using h3.symm⟩]; omega
      | cons x l => exact h1.elim
  | r :: rs, n, c => by
    constructor
    · intro h
      obtain ⟨x, h1, h2⟩ := sumN_pos (fun x _ => cnt_nonneg rs _ _) h
      obtain ⟨l, p1, p2, p3⟩ := cnt_pos.1 h2
      refine ⟨(x : Int) :: l, ⟨by omega, by omega, p1⟩, by simp only [totL]; omega, by simp only [costS, Int.toNat_natCast]; omega⟩
    · rintro ⟨l, h1, h2, h3⟩
      cases l with
      | nil => exact h1.elim
      | cons x l =>
        obtain ⟨p1, p2, p3⟩ := h1
        simp only [totL] at h2
        simp only [costS] at h3
        have q : 0 < cnt rs (n - (x.toNat : Int)) (c - r.getD x.toNat 0) := cnt_pos.2 ⟨l, p3, by omega, by omega⟩
        have := sumN_one (f := fun x => cnt rs (n - (x : Int)) (c - r.getD x 0)) (n := r.length) (k := x.toNat) (fun j _ => cnt_nonneg rs _ _) (by omega)
        exact Int.lt_of_lt_of_le q this
theorem cnt_turn (r s : List Int) (rs : List (List Int)) (n c : Int) : cnt (r :: s :: rs) n c = cnt (s :: r :: rs) n c := by
  show sumN (fun x => sumN (fun y => cnt rs (n - (x : Int) - (y : Int)) (c - r.getD x 0 - s.getD y 0)) s.length) r.length = sumN (fun x => sumN (fun y => cnt rs (n - (x : Int) - (y : Int)) (c - s.getD x 0 - r.getD y 0)) r.length) s.length
  rw [sumN_swap]
  refine sumN_congr fun x _ => sumN_congr fun y _ => ?_
  rw [show n - (y : Int) - (x : Int) = n - (x : Int) - (y : Int) by omega, show c - r.getD y 0 - s.getD x 0 = c - s.getD x 0 - r.getD y 0 by omega]
theorem cnt_perm {rs ss : List (List Int)} (h : rs.Perm ss) : ∀ n c, cnt rs n c = cnt ss n c := by
  induction h with
  | nil => intro n c; rfl
  | cons r _ ih => intro n c; exact sumN_congr fun x _ => ih _ _
  | swap r s l => intro n c; exact cnt_turn s r l n c
  | trans _ _ ih1 ih2 => intro n c; rw [ih1, ih2]

theorem sumN_more' {f : Nat → Int} {n m : Nat} (h : ∀ k, n ≤ k → f k = 0) (hm : n ≤ m) : sumN f m = sumN f n := sumN_more h hm
/-- One entry more is tried. -/
def stepT (acc : Int × List Int × Int) (x : Nat) (q : Int × List Int × Int) (e : Int) : Int × List Int × Int :=
  if q.2.2 = 0 then acc
  else if acc.2.2 = 0 ∨ q.1 + e < acc.1 then (q.1 + e, (x : Int) :: q.2.1, q.2.2)
  else if q.1 + e = acc.1 then (acc.1, acc.2.1, acc.2.2 + q.2.2)
  else acc
def tryTo (rec : Int → Int × List Int × Int) (r : List Int) (n : Int) : Nat → Int × List Int × Int
  | 0 => (0, [], 0)
  | m + 1 => stepT (tryTo rec r n m) m (rec (n - (m : Int))) (r.getD m 0)
/-- The least cost of an amount, the first sharing that has it, and how many have it. -/
def tryL : List (List Int) → Int → Int × List Int × Int
  | [], n => if n = 0 then (0, [], 1) else (0, [], 0)
  | r :: rs, n => tryTo (tryL rs) r n (min r.length (n.toNat + 1))
/-- What is found: nothing, or the least cost, the first sharing and their number. -/
def Sol (S : List Int → Prop) (cost : List Int → Int) (num : Int → Int) (q : Int × List Int × Int) : Prop :=
  (q.2.2 = 0 ∧ ∀ l, ¬ S l) ∨ (0 < q.2.2 ∧ S q.2.1 ∧ cost q.2.1 = q.1 ∧ (∀ l, S l → q.1 ≤ cost l) ∧ (∀ l, S l → cost l = q.1 → Lx q.2.1 l) ∧ q.2.2 = num q.1)
def Shr (rs : List (List Int)) (n : Int) (l : List Int) : Prop := Pl rs l ∧ totL l = n
def ShrTo (r : List Int) (rs : List (List Int)) (n : Int) (m : Nat) (l : List Int) : Prop := Shr (r :: rs) n l ∧ ∀ x l', l = x :: l' → x < (m : Int)
def cntTo (r : List Int) (rs : List (List Int)) (n : Int) (m : Nat) (c : Int) : Int := sumN (fun x => cnt rs (n - (x : Int)) (c - r.getD x 0)) m
theorem cntTo_zero {r : List Int} {rs : List (List Int)} {n : Int} {m : Nat} {c : Int} (hm : m ≤ r.length) (h : ∀ l, ShrTo r rs n m l → costS (r :: rs) l ≠ c) : cntTo r rs n m c = 0 := by
  have p : 0 ≤ cntTo r rs n m c := sumN_nonneg fun x _ => cnt_nonneg rs _ _
  by_cases e : cntTo r rs n m c = 0
  · exact e
  · obtain ⟨x, h1, h2⟩ := sumN_pos (fun x _ => cnt_nonneg rs _ _) (show 0 < cntTo r rs n m c by omega)
    obtain ⟨l, p1, p2, p3⟩ := cnt_pos.1 h2
    exfalso
    refine h ((x : Int) :: l) ⟨⟨⟨by omega, by omega, p1⟩, by simp only [totL]; omega⟩, fun y l' e => ?_⟩ (by simp only [costS, Int.toNat_natCast]; omega)
    injection e with e1 e2; omega
theorem tryTo_sol {r : List Int} {rs : List (List Int)} {n : Int} (hrec : ∀ k : Int, Sol (Shr rs k) (costS rs) (cnt rs k) (tryL rs k)) :
    ∀ m : Nat, m ≤ r.length → Sol (ShrTo r rs n m) (costS (r :: rs)) (cntTo r rs n m) (tryTo (tryL rs) r n m) := by
  intro m
  induction m with
  | zero =>
    intro _
    refine .inl ⟨rfl, ?_⟩
    rintro l ⟨⟨h1, -⟩, h2⟩
    cases l with
    | nil => exact h1
    | cons x l => have := h2 x l rfl; have := h1.1; omega
  | succ m ih =>
    intro hm
    have old := ih (by omega)
    have new := hrec (n - (m : Int))
    -- a sharing up to m + 1 is one up to m, or begins with m
    have split : ∀ l, ShrTo r rs n (m + 1) l → ShrTo r rs n m l ∨ ∃ l', l = (m : Int) :: l' ∧ Shr rs (n - (m : Int)) l' := by
      rintro l ⟨⟨h1, h2⟩, h3⟩
      cases l with
      | nil => exact h1.elim
      | cons x l =>
        have hx := h3 x l rfl
        by_cases e : x = (m : Int)
        · exact .inr ⟨l, by rw [e], h1.2.2, by simp only [totL] at h2; omega⟩
        · exact .inl ⟨⟨h1, h2⟩, fun y l' e2 => by injection e2 with e3 e4; omega⟩
    have up : ∀ l, ShrTo r rs n m l → ShrTo r rs n (m + 1) l := fun l h => ⟨h.1, fun x l' e => by have := h.2 x l' e; omega⟩
    have put : ∀ l', Shr rs (n - (m : Int)) l' → ShrTo r rs n (m + 1) ((m : Int) :: l') := fun l' h => ⟨⟨⟨by omega, by omega, h.1⟩, by have := h.2; simp only [totL]; omega⟩, fun x l'' e => by injection e with e1 e2; omega⟩
    have cput : ∀ l', costS (r :: rs) ((m : Int) :: l') = r.getD m 0 + costS rs l' := fun l' => by simp only [costS, Int.toNat_natCast]
    have hct : ∀ c, cntTo r rs n (m + 1) c = cntTo r rs n m c + cnt rs (n - (m : Int)) (c - r.getD m 0) := fun c => rfl
    have cz : ∀ c, (∀ l', Shr rs (n - (m : Int)) l' → costS rs l' ≠ c) → cnt rs (n - (m : Int)) c = 0 := fun c h => by
      have := cnt_nonneg rs (n - (m : Int)) c
      by_cases e : cnt rs (n - (m : Int)) c = 0
      · exact e
      · obtain ⟨l, p1, p2, p3⟩ := cnt_pos.1 (show 0 < cnt rs (n - (m : Int)) c by omega)
        exact absurd p3 (h l ⟨p1, p2⟩)
    show Sol _ _ _ (stepT (tryTo (tryL rs) r n m) m (tryL rs (n - (m : Int))) (r.getD m 0))
    generalize tryTo (tryL rs) r n m = acc at old
    generalize tryL rs (n - (m : Int)) = q at new
    obtain ⟨a1, a2, a3⟩ := acc
    obtain ⟨q1, q2, q3⟩ := q
    simp only [Sol] at old new
    unfold stepT
    simp only []
    by_cases c0 : q3 = 0
    · rw [if_pos c0]
      have hno : ∀ l, ¬ Shr rs (n - (m : Int)) l := by
        rcases new with ⟨-, h⟩ | ⟨h, -⟩
        · exact h
        · omega
      rcases old with ⟨h1, h2⟩ | ⟨h1, h2, h3, h4, h5, h6⟩
      · refine .inl ⟨h1, fun l hl => ?_⟩
        rcases split l hl with h | ⟨l', -, h⟩
        · exact h2 l h
        · exact hno l' h
      · refine .inr ⟨h1, up _ h2, h3, fun l hl => ?_, fun l hl hc => ?_, ?_⟩
        · rcases split l hl with h | ⟨l', -, h⟩
          · exact h4 l h
          · exact absurd h (hno l')
        · rcases split l hl with h | ⟨l', -, h⟩
          · exact h5 l h hc
          · exact absurd h (hno l')
        · show a3 = _
          rw [hct, cz _ fun l' h => absurd h (hno l')]
          show a3 = cntTo r rs n m a1 + 0
          have : a3 = cntTo r rs n m a1 := h6
          omega
    · rw [if_neg c0]
      obtain ⟨n1, n2, n3, n4, n5, n6⟩ : 0 < q3 ∧ Shr rs (n - (m : Int)) q2 ∧ costS rs q2 = q1 ∧ (∀ l, Shr rs (n - (m : Int)) l → q1 ≤ costS rs l) ∧ (∀ l, Shr rs (n - (m : Int)) l → costS rs l = q1 → Lx q2 l) ∧ q3 = cnt rs (n - (m : Int)) q1 := by
        rcases new with ⟨h, -⟩ | h
        · exact absurd h c0
        · exact h
      by_cases c1 : a3 = 0 ∨ q1 + r.getD m 0 < a1
      · rw [if_pos c1]
        have lo : ∀ l, ShrTo r rs n m l → q1 + r.getD m 0 < costS (r :: rs) l := by
          intro l hl
          rcases old with ⟨h1, h2⟩ | ⟨h1, h2, h3, h4, h5, h6⟩
          · exact absurd hl (h2 l)
          · have := h4 l hl
            rcases c1 with c1 | c1
            · omega
            · omega
        refine .inr ⟨n1, put _ n2, by show costS (r :: rs) ((m : Int) :: q2) = _; rw [cput]; omega, fun l hl => ?_, fun l hl hc => ?_, ?_⟩
        · show q1 + r.getD m 0 ≤ _
          rcases split l hl with h | ⟨l', rfl, h⟩
          · have := lo l h; omega
          · rw [cput]; have := n4 l' h; omega
        · have hc' : costS (r :: rs) l = q1 + r.getD m 0 := hc
          rcases split l hl with h | ⟨l', rfl, h⟩
          · have := lo l h; omega
          · rw [cput] at hc'; exact .inr ⟨rfl, n5 l' h (by omega)⟩
        · show q3 = _
          rw [hct, cntTo_zero (by omega) fun l hl => by have := lo l hl; show _ ≠ q1 + r.getD m 0; omega]
          show q3 = 0 + cnt rs (n - (m : Int)) (q1 + r.getD m 0 - r.getD m 0)
          rw [show q1 + r.getD m 0 - r.getD m 0 = q1 by omega]; omega
      · rw [if_neg c1]
        obtain ⟨h1, h2, h3, h4, h5, h6⟩ : 0 < a3 ∧ ShrTo r rs n m a2 ∧ costS (r :: rs) a2 = a1 ∧ (∀ l, ShrTo r rs n m l → a1 ≤ costS (r :: rs) l) ∧ (∀ l, ShrTo r rs n m l → costS (r :: rs) l = a1 → Lx a2 l) ∧ a3 = cntTo r rs n m a1 := by
          rcases old with ⟨h, -⟩ | h
          · exact absurd (.inl h) c1
          · exact h
        have hle : a1 ≤ q1 + r.getD m 0 := by
          rcases Int.lt_or_le (q1 + r.getD m 0) a1 with h | h
          · exact absurd (.inr h) c1
          · exact h
        have first : ∀ l l' : List Int, ShrTo r rs n m l → Lx l ((m : Int) :: l') := by
          intro l l' hl
          cases l with
          | nil => exact hl.1.1.elim
          | cons x l => exact .inl (hl.2 x l rfl)
        by_cases c2 : q1 + r.getD m 0 = a1
        · rw [if_pos c2]
          refine .inr ⟨by show 0 < a3 + q3; omega, up _ h2, h3, fun l hl => ?_, fun l hl hc => ?_, ?_⟩
          · show a1 ≤ _
            rcases split l hl with h | ⟨l', rfl, h⟩
            · exact h4 l h
            · rw [cput]; have := n4 l' h; omega
          · rcases split l hl with h | ⟨l', rfl, h⟩
            · exact h5 l h hc
            · exact first _ _ h2
          · show a3 + q3 = _
            rw [hct]
            show a3 + q3 = cntTo r rs n m a1 + cnt rs (n - (m : Int)) (a1 - r.getD m 0)
            rw [show a1 - r.getD m 0 = q1 by omega, ← h6, ← n6]
        · rw [if_neg c2]
          refine .inr ⟨h1, up _ h2, h3, fun l hl => ?_, fun l hl hc => ?_, ?_⟩
          · show a1 ≤ _
            rcases split l hl with h | ⟨l', rfl, h⟩
            · exact h4 l h
            · rw [cput]; have := n4 l' h; omega
          · have hc' : costS (r :: rs) l = a1 := hc
            rcases split l hl with h | ⟨l', rfl, h⟩
            · exact h5 l h hc
            · rw [cput] at hc'; have := n4 l' h; omega
          · show a3 = _
            rw [hct]
            show a3 = cntTo r rs n m a1 + cnt rs (n - (m : Int)) (a1 - r.getD m 0)
            rw [cz _ fun l' h => by have := n4 l' h; omega, ← h6]; omega
theorem Sol.same {S S' : List Int → Prop} {cost : List Int → Int} {num num' : Int → Int} {q : Int × List Int × Int} (h : Sol S cost num q) (hS : ∀ l, S l ↔ S' l) (hn : ∀ c, num c = num' c) : Sol S' cost num' q := by
  rcases h with ⟨h1, h2⟩ | ⟨h1, h2, h3, h4, h5, h6⟩
  · exact .inl ⟨h1, fun l hl => h2 l ((hS l).2 hl)⟩
  · exact .inr ⟨h1, (hS _).1 h2, h3, fun l hl => h4 l ((hS l).2 hl), fun l hl => h5 l ((hS l).2 hl), by rw [h6, hn]⟩
theorem tryL_sol : ∀ (rs : List (List Int)) (n : Int), Sol (Shr rs n) (costS rs) (cnt rs n) (tryL rs n)
  | [], n => by
    unfold tryL
    by_cases e : n = 0
    · rw [if_pos e]
      refine .inr ⟨by show (0 : Int) < 1; omega, ⟨trivial, by show (0 : Int) = n; omega⟩, rfl, fun l hl => ?_, fun l hl _ => ?_, ?_⟩
      · cases l with
        | nil => exact Int.le_refl _
        | cons x l => exact hl.1.elim
      · cases l with
        | nil => trivial
        | cons x l => exact hl.1.elim
      · show (1 : Int) = cnt [] n 0
        unfold cnt; rw [if_pos ⟨e, rfl⟩]
    · rw [if_neg e]
      refine .inl ⟨rfl, fun l hl => ?_⟩
      cases l with
      | nil => exact e hl.2.symm
      | cons x l => exact hl.1.elim
  | r :: rs, n => by
    have h := tryTo_sol (r := r) (n := n) (fun k => tryL_sol rs k) (min r.length (n.toNat + 1)) (by omega)
    refine h.same (fun l => ⟨fun hl => hl.1, fun hl => ⟨hl, fun x l' e => ?_⟩⟩) fun c => ?_
    · subst e
      have p1 := hl.1.1; have p2 := hl.1.2.1; have p3 := hl.1.2.2.nonneg
      have p4 := hl.2
      simp only [totL] at p4
      omega
    · by_cases e : r.length ≤ n.toNat + 1
      · rw [Nat.min_eq_left e]; rfl
      · rw [Nat.min_eq_right (by omega)]
        refine (sumN_more' (f := fun x => cnt rs (n - (x : Int)) (c - r.getD x 0)) (fun k hk => cnt_neg rs _ (by omega)) (by omega)).symm

/- Row by row. -/
def rowAt (rs : List (List Int)) (i : Nat) : List Int := rs.getD i []
def plAt (l : List Int) (i : Nat) : Nat := (l.getD i 0).toNat
theorem pl_iff : ∀ {rs : List (List Int)} {l : List Int}, Pl rs l ↔ l.length = rs.length ∧ ∀ i, i < rs.length → 0 ≤ l.getD i 0 ∧ l.getD i 0 < ((rowAt rs i).length : Int)
  | [], [] => ⟨fun _ => ⟨rfl, fun i hi => by simp at hi⟩, fun _ => trivial⟩
  | [], _ :: _ => ⟨fun h => h.elim, fun h => by simp at h⟩
  | _ :: _, [] => ⟨fun h => h.elim, fun h => by simp at h⟩
  | r :: rs, x :: l => by
    constructor
    · rintro ⟨h1, h2, h3⟩
      obtain ⟨h4, h5⟩ := pl_iff.1 h3
      refine ⟨by simp [h4], fun i hi => ?_⟩
      cases i with
      | zero => exact ⟨by simpa using h1, by simpa [rowAt] using h2⟩
      | succ i => have := h5 i (by simpa using hi); simpa [rowAt] using this
    · rintro ⟨h1, h2⟩
      have h0 := h2 0 (by simp)
      refine ⟨by simpa using h0.1, by simpa [rowAt] using h0.2, pl_iff.2 ⟨by simpa using h1, fun i hi => ?_⟩⟩
      have := h2 (i + 1) (by simpa using hi)
      simpa [rowAt] using this
theorem cost_sum : ∀ {rs : List (List Int)} {l : List Int}, l.length = rs.length → costS rs l = sumN (fun i => (rowAt rs i).getD (plAt l i) 0) rs.length
  | [], [], _ => rfl
  | [], _ :: _, h => by simp at h
  | _ :: _, [], h => by simp at h
  | r :: rs, x :: l, h => by
    rw [List.length_cons, sumN_first]
    have e := cost_sum (rs := rs) (l := l) (by simpa using h)
    simp only [costS]
    rw [e]
    rfl
theorem tot_sum : ∀ l : List Int, totL l = sumN (fun i => l.getD i 0) l.length
  | [] => rfl
  | x :: l => by rw [List.length_cons, sumN_first]; simp only [totL]; rw [tot_sum l]; rfl
theorem sumN_le {f g : Nat → Int} {n : Nat} (h : ∀ k, k < n → f k ≤ g k) : sumN f n ≤ sumN g n := by
  induction n with
  | zero => exact Int.le_refl _
  | succ n ih =>
    have p := ih fun k hk => h k (by omega)
    have q := h n (by omega)
    show sumN f n + f n ≤ sumN g n + g n
    omega
theorem sumN_alter {f g : Nat → Int} {n i : Nat} (hi : i < n) (h : ∀ k, k < n → k ≠ i → g k = f k) : sumN g n = sumN f n + (g i - f i) := by
  induction n with
  | zero => omega
  | succ n ih =>
    show sumN g n + g n = sumN f n + f n + (g i - f i)
    by_cases e : i = n
    · subst e
      rw [sumN_congr fun k hk => h k (by omega) (by omega)]; omega
    · rw [ih (by omega) fun k hk => h k (by omega), h n (by omega) (Ne.symm e)]; omega
theorem sumN_alter2 {f g : Nat → Int} {n i k : Nat} (hi : i < n) (hk : k < n) (hik : i ≠ k) (h : ∀ m, m < n → m ≠ i → m ≠ k → g m = f m) : sumN g n = sumN f n + (g i - f i) + (g k - f k) := by
  have e1 : sumN (fun m => if m = i then g i else f m) n = sumN f n + (g i - f i) := by
    rw [sumN_alter (f := f) hi fun m _ hm => by rw [if_neg hm], if_pos rfl]
  have e2 := sumN_alter (f := fun m => if m = i then g i else f m) (g := g) hk fun m h1 h2 => by
    show g m = if m = i then g i else f m
    by_cases e : m = i
    · rw [if_pos e, e]
    · rw [if_neg e]; exact h m h1 e h2
  rw [e2, e1]
  show _ + (g k - if k = i then g i else f k) = _
  rw [if_neg (Ne.symm hik)]

/- Slopes at places. -/
def toS (rs : List (List Int)) (l : List Int) (i : Nat) : Int := (rowAt rs i).getD (plAt l i) 0 - (rowAt rs i).getD (plAt l i - 1) 0
def frS (rs : List (List Int)) (l : List Int) (i : Nat) : Int := (rowAt rs i).getD (plAt l i + 1) 0 - (rowAt rs i).getD (plAt l i) 0
def room (rs : List (List Int)) (l : List Int) (i : Nat) : Prop := plAt l i + 1 < (rowAt rs i).length
instance (rs : List (List Int)) (l : List Int) (i : Nat) : Decidable (room rs l i) := inferInstanceAs (Decidable (_ < _))
/-- Every slope that leads to a place is at most every one that leads from one. -/
def Priced (rs : List (List Int)) (l : List Int) : Prop := ∀ i k, i < rs.length → k < rs.length → 0 < plAt l i → room rs l k → toS rs l i ≤ frS rs l k
def PriceAt (rs : List (List Int)) (l : List Int) (p : Int) : Prop := ∀ i, i < rs.length → (0 < plAt l i → toS rs l i ≤ p) ∧ (room rs l i → p ≤ frS rs l i)
theorem bent_slp {zs : List Int} (hb : bentB zs = true) {i j : Nat} (hij : i ≤ j) (hj : j + 1 < zs.length) : zs.getD (i + 1) 0 - zs.getD i 0 ≤ zs.getD (j + 1) 0 - zs.getD j 0 := by
  have := bent_steps hb i (j - i) (by omega)
  rwa [show i + (j - i) + 1 = j + 1 by omega, show i + (j - i) = j by omega] at this
theorem bent_rises {zs : List Int} (hb : bentB zs = true) {p : Int} {x : Nat} (hp : x + 1 < zs.length → p ≤ zs.getD (x + 1) 0 - zs.getD x 0) : ∀ d : Nat, x + d < zs.length → p * (d : Int) ≤ zs.getD (x + d) 0 - zs.getD x 0
  | 0, _ => by simp
  | d + 1, h => by
    have ih := bent_rises hb hp d (by omega)
    have s := bent_slp hb (i := x) (j := x + d) (by omega) (by omega)
    have := hp (by omega)
    have e : p * ((d + 1 : Nat) : Int) = p * (d : Int) + p := by rw [Int.natCast_add]; simp [Int.mul_add]
    rw [e, show x + (d + 1) = x + d + 1 by omega]; omega
theorem bent_sinks {zs : List Int} (hb : bentB zs = true) {p : Int} {x : Nat} (hx : x < zs.length) (hp : 0 < x → zs.getD x 0 - zs.getD (x - 1) 0 ≤ p) : ∀ d : Nat, d ≤ x → zs.getD x 0 - zs.getD (x - d) 0 ≤ p * (d : Int)
  | 0, _ => by simp
  | d + 1, h => by
    have ih := bent_sinks hb hx hp d (by omega)
    have s := bent_slp hb (i := x - (d + 1)) (j := x - 1) (by omega) (by omega)
    have := hp (by omega)
    rw [show x - (d + 1) + 1 = x - d by omega, show x - 1 + 1 = x by omega] at s
    have e : p * ((d + 1 : Nat) : Int) = p * (d : Int) + p := by rw [Int.natCast_add]; simp [Int.mul_add]
    rw [e]; omega
theorem bent_leans {zs : List Int} (hb : bentB zs = true) {p : Int} {x y : Nat} (hx : x < zs.length) (hy : y < zs.length) (h1 : 0 < x → zs.getD x 0 - zs.getD (x - 1) 0 ≤ p) (h2 : x + 1 < zs.length → p ≤ zs.getD (x + 1) 0 - zs.getD x 0) :
    p * ((y : Int) - (x : Int)) ≤ zs.getD y 0 - zs.getD x 0 := by
  rcases Nat.le_total x y with h | h
  · have := bent_rises hb h2 (y - x) (by omega)
    rw [show x + (y - x) = y by omega] at this
    rw [show ((y : Int) - (x : Int)) = ((y - x : Nat) : Int) by omega]; exact this
  · have := bent_sinks hb hx h1 (x - y) (by omega)
    rw [show x - (x - y) = y by omega] at this
    have e : p * ((y : Int) - (x : Int)) = -(p * ((x - y : Nat) : Int)) := by
      rw [← Int.mul_neg, show ((y : Int) - (x : Int)) = -((x - y : Nat) : Int) by omega]
    rw [e]; omega
theorem plAt_is {rs : List (List Int)} {l : List Int} (h : Pl rs l) {i : Nat} (hi : i < rs.length) : (plAt l i : Int) = l.getD i 0 ∧ plAt l i < (rowAt rs i).length := by
  have := (pl_iff.1 h).2 i hi
  unfold plAt; omega
/-- A SHARING WITH A PRICE IS LEAST. -/
theorem price_least {rs : List (List Int)} {l m : List Int} {p : Int} (hb : ∀ r, r ∈ rs → bentB r = true) (hl : Pl rs l) (hp : PriceAt rs l p) (hm : Pl rs m) (ht : totL m = totL l) : costS rs l ≤ costS rs m := by
  have el := hl.len; have em := hm.len
  have rowb : ∀ i, i < rs.length → bentB (rowAt rs i) = true := fun i hi => by
    unfold rowAt; rw [List.getD_eq_getElem?_getD, List.getElem?_eq_getElem hi]; exact hb _ (List.getElem_mem hi)
  have each : sumN (fun i => p * (m.getD i 0 - l.getD i 0)) rs.length ≤ sumN (fun i => (rowAt rs i).getD (plAt m i) 0 - (rowAt rs i).getD (plAt l i) 0) rs.length := by
    refine sumN_le fun i hi => ?_
    obtain ⟨a1, a2⟩ := plAt_is hl hi
    obtain ⟨b1, b2⟩ := plAt_is hm hi
    rw [← a1, ← b1]
    exact bent_leans (rowb i hi) a2 b2 (hp i hi).1 (hp i hi).2
  rw [sumN_mul, sumN_sub, sumN_sub, ← cost_sum em, ← cost_sum el] at each
  have t1 := tot_sum m; have t2 := tot_sum l
  rw [em] at t1; rw [el] at t2
  rw [← t1, ← t2, ht, Int.sub_self, Int.mul_zero] at each
  omega

/- The price as it is found. -/
def lowTo (rs : List (List Int)) (l : List Int) : Nat → Int
  | 0 => -3000
  | i + 1 => if 0 < plAt l i then max (lowTo rs l i) (toS rs l i) else lowTo rs l i
def highTo (rs : List (List Int)) (l : List Int) : Nat → Int
  | 0 => 3000
  | i + 1 => if room rs l i then min (highTo rs l i) (frS rs l i) else highTo rs l i
theorem lowTo_ge (rs : List (List Int)) (l : List Int) : ∀ n i, i < n → 0 < plAt l i → toS rs l i ≤ lowTo rs l n
  | n + 1, i, h, hx => by
    unfold lowTo
    by_cases e : i = n
    · subst e; rw [if_pos hx]; omega
    · have := lowTo_ge rs l n i (by omega) hx
      split <;> omega
theorem lowTo_at (rs : List (List Int)) (l : List Int) : ∀ n, lowTo rs l n = -3000 ∨ ∃ i, i < n ∧ 0 < plAt l i ∧ lowTo rs l n = toS rs l i
  | 0 => .inl rfl
  | n + 1 => by
    unfold lowTo
    have ih := lowTo_at rs l n
    split
    · rename_i h
      by_cases c : lowTo rs l n ≤ toS rs l n
      · exact .inr ⟨n, by omega, h, by omega⟩
      · rcases ih with ih | ⟨i, h1, h2, h3⟩
        · exact .inl (by omega)
        · exact .inr ⟨i, by omega, h2, by omega⟩
    · rcases ih with ih | ⟨i, h1, h2, h3⟩
      · exact .inl ih
      · exact .inr ⟨i, by omega, h2, h3⟩
theorem highTo_le (rs : List (List Int)) (l : List Int) : ∀ n i, i < n → room rs l i → highTo rs l n ≤ frS rs l i
  | n + 1, i, h, hx => by
    unfold highTo
    by_cases e : i = n
    · subst e; rw [if_pos hx]; omega
    · have := highTo_le rs l n i (by omega) hx
      split <;> omega
theorem highTo_at (rs : List (List Int)) (l : List Int) : ∀ n, highTo rs l n = 3000 ∨ ∃ i, i < n ∧ room rs l i ∧ highTo rs l n = frS rs l i
  | 0 => .inl rfl
  | n + 1 => by
    unfold highTo
    have ih := highTo_at rs l n
    split
    · rename_i h
      by_cases c : frS rs l n ≤ highTo rs l n
      · exact .inr ⟨n, by omega, h, by omega⟩
      · rcases ih with ih | ⟨i, h1, h2, h3⟩
        · exact .inl (by omega)
        · exact .inr ⟨i, by omega, h2, by omega⟩
    · rcases ih with ih | ⟨i, h1, h2, h3⟩
      · exact .inl ih
      · exact .inr ⟨i, by omega, h2, h3⟩
def lowL (rs : List (List Int)) (l : List Int) : Int := lowTo rs l rs.length
def highL (rs : List (List Int)) (l : List Int) : Int := highTo rs l rs.length
theorem slope_bd {rs : List (List Int)} {l : List Int} (hr : ∀ r, r ∈ rs → rowB r = true) (hl : Pl rs l) {i : Nat} (hi : i < rs.length) : (0 < plAt l i → -2000 ≤ toS rs l i ∧ toS rs l i ≤ 2000) ∧ (room rs l i → -2000 ≤ frS rs l i ∧ frS rs l i ≤ 2000) := by
  have rowr : rowB (rowAt rs i) = true := by
    unfold rowAt; rw [List.getD_eq_getElem?_getD, List.getElem?_eq_getElem hi]; exact hr _ (List.getElem_mem hi)
  obtain ⟨a1, a2⟩ := plAt_is hl hi
  have b := row_getD rowr (plAt l i) a2
  refine ⟨fun h => ?_, fun h => ?_⟩
  · have c := row_getD rowr (plAt l i - 1) (by omega)
    unfold toS; omega
  · have c := row_getD rowr (plAt l i + 1) h
    unfold frS; omega
theorem priced_iff {rs : List (List Int)} {l : List Int} (hr : ∀ r, r ∈ rs → rowB r = true) (hl : Pl rs l) : lowL rs l ≤ highL rs l ↔ Priced rs l := by
  constructor
  · intro h i k hi hk h1 h2
    have a := lowTo_ge rs l rs.length i hi h1
    have b := highTo_le rs l rs.length k hk h2
    unfold lowL highL at h; omega
  · intro h
    unfold lowL highL
    rcases lowTo_at rs l rs.length with e1 | ⟨i, h1, h2, e1⟩
    · rcases highTo_at rs l rs.length with e2 | ⟨k, h3, h4, e2⟩
      · omega
      · have := (slope_bd hr hl h3).2 h4; omega
    · rcases highTo_at rs l rs.length with e2 | ⟨k, h3, h4, e2⟩
      · have := (slope_bd hr hl h1).1 h2; omega
      · have := h i k h1 h3 h2 h4; omega
theorem priced_at {rs : List (List Int)} {l : List Int} (hr : ∀ r, r ∈ rs → rowB r = true) (hl : Pl rs l) (h : Priced rs l) : PriceAt rs l (lowL rs l) := by
  have hle := (priced_iff hr hl).2 h
  refine fun i hi => ⟨fun h1 => lowTo_ge rs l rs.length i hi h1, fun h2 => ?_⟩
  have := highTo_le rs l rs.length i hi h2
  unfold highL at hle; omega

/- Moves. -/
def moveD (rs : List (List Int)) (l : List Int) (i k : Nat) : Int := frS rs l k - toS rs l i
def Better (rs : List (List Int)) (l : List Int) (i k : Nat) : Prop := i ≠ k ∧ 0 < plAt l i ∧ room rs l k ∧ moveD rs l i k < 0
instance (rs : List (List Int)) (l : List Int) (i k : Nat) : Decidable (Better rs l i k) := inferInstanceAs (Decidable (_ ∧ _ ∧ _ ∧ _))
def movesL (rs : List (List Int)) (l : List Int) : Int := sumN (fun i => sumN (fun k => if Better rs l i k then 1 else 0) rs.length) rs.length
theorem moves_zero {rs : List (List Int)} {l : List Int} : movesL rs l = 0 ↔ ∀ i k, i < rs.length → k < rs.length → ¬ Better rs l i k := by
  have nn : ∀ i k, 0 ≤ (if Better rs l i k then (1 : Int) else 0) := fun i k => by split <;> omega
  constructor
  · intro h i k hi hk hb
    have a := sumN_one (f := fun i => sumN (fun k => if Better rs l i k then 1 else 0) rs.length) (n := rs.length) (k := i) (fun j _ => sumN_nonneg fun k _ => nn j k) hi
    have b := sumN_one (f := fun k => if Better rs l i k then (1 : Int) else 0) (n := rs.length) (k := k) (fun j _ => nn i j) hk
    have c : (if Better rs l i k then (1 : Int) else 0) = 1 := if_pos hb
    unfold movesL at h
    omega
  · intro h
    unfold movesL
    rw [sumN_congr (g := fun _ => 0) fun i hi => ?_, sumN_zero]
    rw [sumN_congr (g := fun _ => 0) fun k hk => if_neg (h i k hi hk), sumN_zero]
/-- The sharing behind a move. -/
def moved (l : List Int) (i k : Nat) : List Int := (l.set i (l.getD i 0 - 1)).set k (l.getD k 0 + 1)
theorem getD_set_at (l : List Int) (i : Nat) (v : Int) (j : Nat) (hi : i < l.length) : (l.set i v).getD j 0 = if j = i then v else l.getD j 0 := by
  by_cases e : j = i
  · subst e; simp [List.getD, hi]
  · simp [List.getD, e, Ne.symm e]
theorem moved_getD {l : List Int} {i k : Nat} (hi : i < l.length) (hk : k < l.length) (j : Nat) : (moved l i k).getD j 0 = if j = k then l.getD k 0 + 1 else if j = i then l.getD i 0 - 1 else l.getD j 0 := by
  unfold moved
  rw [getD_set_at _ _ _ _ (by simpa using hk)]
  split
  · rfl
  · rw [getD_set_at _ _ _ _ hi]
theorem moved_is {rs : List (List Int)} {l : List Int} (hl : Pl rs l) {i k : Nat} (hi : i < rs.length) (hk : k < rs.length) (hik : i ≠ k) (h1 : 0 < plAt l i) (h2 : room rs l k) :
    Pl rs (moved l i k) ∧ totL (moved l i k) = totL l ∧ costS rs (moved l i k) = costS rs l + moveD rs l i k := by
  have el := hl.len
  have em : (moved l i k).length = rs.length := by simp [moved, el]
  have g := moved_getD (l := l) (by omega : i < l.length) (by omega : k < l.length)
  obtain ⟨p1, p2⟩ := plAt_is hl hi
  obtain ⟨q1, q2⟩ := plAt_is hl hk
  have hroom : plAt l k + 1 < (rowAt rs k).length := h2
  refine ⟨pl_iff.2 ⟨em, fun j hj => ?_⟩, ?_, ?_⟩
  · rw [g j]
    split
    · rename_i e; subst e; omega
    · split
      · rename_i e; subst e; omega
      · exact (pl_iff.1 hl).2 j hj
  · rw [tot_sum, tot_sum, em, el]
    rw [sumN_alter2 (f := fun j => l.getD j 0) (g := fun j => (moved l i k).getD j 0) hi hk hik fun m _ h3 h4 => by rw [g m, if_neg h4, if_neg h3]]
    have gi := g i
    rw [if_neg hik, if_pos rfl] at gi
    have gk := g k
    rw [if_pos rfl] at gk
    rw [gi, gk]; omega
  · rw [cost_sum em, cost_sum el]
    rw [sumN_alter2 (f := fun j => (rowAt rs j).getD (plAt l j) 0) (g := fun j => (rowAt rs j).getD (plAt (moved l i k) j) 0) hi hk hik fun m _ h3 h4 => by
      show (rowAt rs m).getD (plAt (moved l i k) m) 0 = _
      unfold plAt; rw [g m, if_neg h4, if_neg h3]]
    have e1 : plAt (moved l i k) i = plAt l i - 1 := by unfold plAt; rw [g i, if_neg hik, if_pos rfl]; omega
    have e2 : plAt (moved l i k) k = plAt l k + 1 := by
      have : (moved l i k).getD k 0 = l.getD k 0 + 1 := by rw [g k, if_pos rfl]
      unfold plAt at q1 ⊢; rw [this]; omega
    simp only [e1, e2]
    unfold moveD frS toS; omega
/-- No move makes a least sharing less. -/
theorem least_moves {rs : List (List Int)} {l : List Int} (hl : Pl rs l) (h : ∀ m, Pl rs m → totL m = totL l → costS rs l ≤ costS rs m) : movesL rs l = 0 := by
  refine moves_zero.2 fun i k hi hk hb => ?_
  obtain ⟨h0, h1, h2, h3⟩ := hb
  obtain ⟨m1, m2, m3⟩ := moved_is hl hi hk h0 h1 h2
  have := h _ m1 m2
  omega
theorem moves_priced {rs : List (List Int)} {l : List Int} (hb : ∀ r, r ∈ rs → bentB r = true) (_hl : Pl rs l) (h : movesL rs l = 0) : Priced rs l := by
  intro i k hi hk h1 h2
  by_cases e : i = k
  · subst e
    have hbi : bentB (rowAt rs i) = true := by
      unfold rowAt; rw [List.getD_eq_getElem?_getD, List.getElem?_eq_getElem hi]; exact hb _ (List.getElem_mem hi)
    have s := bent_slp hbi (i := plAt l i - 1) (j := plAt l i) (by omega) h2
    rw [show plAt l i - 1 + 1 = plAt l i by omega] at s
    exact s
  · have := moves_zero.1 h i k hi hk
    unfold Better moveD at this
    rcases Int.lt_or_le (frS rs l k) (toS rs l i) with c | c
    · exact absurd ⟨e, h1, h2, by omega⟩ this
    · exact c
theorem priced_least {rs : List (List Int)} {l : List Int} (hr : ∀ r, r ∈ rs → rowB r = true) (hb : ∀ r, r ∈ rs → bentB r = true) (hl : Pl rs l) (h : Priced rs l) : ∀ m, Pl rs m → totL m = totL l → costS rs l ≤ costS rs m :=
  fun _ hm ht => price_least hb hl (priced_at hr hl h) hm ht

/- There is a sharing. -/
def mostL : List (List Int) → Int
  | [] => 0
  | r :: rs => (r.length : Int) - 1 + mostL rs
theorem most_nonneg : ∀ {rs : List (List Int)}, (∀ r, r ∈ rs → 0 < r.length) → 0 ≤ mostL rs
  | [], _ => Int.le_refl _
  | r :: rs, h => by
    have a := h r (by simp)
    have b := most_nonneg (rs := rs) fun s hs => h s (by simp [hs])
    simp only [mostL]; omega
theorem share_some : ∀ {rs : List (List Int)} {n : Int}, (∀ r, r ∈ rs → 0 < r.length) → 0 ≤ n → n ≤ mostL rs → ∃ l, Shr rs n l
  | [], n, _, h1, h2 => ⟨[], trivial, by simp only [mostL] at h2; show (0 : Int) = n; omega⟩
  | r :: rs, n, h, h1, h2 => by
    have a := h r (by simp)
    have hrs : ∀ s, s ∈ rs → 0 < s.length := fun s hs => h s (by simp [hs])
    have b := most_nonneg hrs
    simp only [mostL] at h2
    obtain ⟨l, p1, p2⟩ := share_some (rs := rs) (n := n - min n ((r.length : Int) - 1)) hrs (by omega) (by omega)
    exact ⟨min n ((r.length : Int) - 1) :: l, ⟨by omega, by omega, p1⟩, by simp only [totL]; omega⟩
theorem share_most : ∀ {rs : List (List Int)} {l : List Int}, Pl rs l → totL l ≤ mostL rs
  | [], [], _ => Int.le_refl _
  | r :: rs, x :: l, h => by have := share_most h.2.2; have := h.2.1; simp only [totL, mostL]; omega
  | [], _ :: _, h => h.elim
  | _ :: _, [], h => h.elim
theorem try_some {rs : List (List Int)} {n : Int} (h : ∀ r, r ∈ rs → 0 < r.length) (h1 : 0 ≤ n) (h2 : n ≤ mostL rs) :
    0 < (tryL rs n).2.2 ∧ Shr rs n (tryL rs n).2.1 ∧ costS rs (tryL rs n).2.1 = (tryL rs n).1 ∧ (∀ l, Shr rs n l → (tryL rs n).1 ≤ costS rs l) ∧ (∀ l, Shr rs n l → costS rs l = (tryL rs n).1 → Lx (tryL rs n).2.1 l) ∧ (tryL rs n).2.2 = cnt rs n (tryL rs n).1 := by
  rcases tryL_sol rs n with ⟨-, h3⟩ | h3
  · obtain ⟨l, hl⟩ := share_some h h1 h2
    exact absurd hl (h3 l)
  · exact h3
/-- A sharing that costs least and is first is the one that is found. -/
theorem try_uniq {rs : List (List Int)} {n : Int} {l : List Int} (h : ∀ r, r ∈ rs → 0 < r.length) (h1 : 0 ≤ n) (h2 : n ≤ mostL rs) (hl : Shr rs n l) (hc : ∀ m, Shr rs n m → costS rs l ≤ costS rs m) (hf : ∀ m, Shr rs n m → costS rs m = costS rs l → Lx l m) :
    (tryL rs n).1 = costS rs l ∧ (tryL rs n).2.1 = l := by
  obtain ⟨-, q1, q2, q3, q4, -⟩ := try_some h h1 h2
  have e : (tryL rs n).1 = costS rs l := Int.le_antisymm (q3 l hl) (by rw [← q2]; exact hc _ q1)
  exact ⟨e, Lx.anti (q4 l hl e.symm) (hf _ q1 (q2.trans e))⟩
/-- In any order the least cost and how many have it are the same. -/
theorem try_perm {rs ss : List (List Int)} {n : Int} (hp : rs.Perm ss) (h : ∀ r, r ∈ rs → 0 < r.length) (h1 : 0 ≤ n) (h2 : n ≤ mostL rs) (h3 : n ≤ mostL ss) : (tryL ss n).1 = (tryL rs n).1 ∧ (tryL ss n).2.2 = (tryL rs n).2.2 := by
  obtain ⟨p0, p1, p2, p3, -, p5⟩ := try_some h h1 h2
  obtain ⟨q0, q1, q2, q3, -, q5⟩ := try_some (rs := ss) (fun r hr => h r (hp.mem_iff.2 hr)) h1 h3
  have c := cnt_perm hp n
  have e : (tryL ss n).1 = (tryL rs n).1 := by
    apply Int.le_antisymm
    · have : 0 < cnt ss n (tryL rs n).1 := by rw [← c, ← p5]; exact p0
      obtain ⟨l, a1, a2, a3⟩ := cnt_pos.1 this
      have := q3 l ⟨a1, a2⟩; omega
    · have : 0 < cnt rs n (tryL ss n).1 := by rw [c, ← q5]; exact q0
      obtain ⟨l, a1, a2, a3⟩ := cnt_pos.1 this
      have := p3 l ⟨a1, a2⟩; omega
  exact ⟨e, by rw [q5, p5, e, c]⟩
theorem most_perm {rs ss : List (List Int)} (hp : rs.Perm ss) : mostL rs = mostL ss := by
  induction hp with
  | nil => rfl
  | cons r _ ih => simp only [mostL]; rw [ih]
  | swap r s l => simp only [mostL]; omega
  | trans _ _ ih1 ih2 => rw [ih1, ih2]

/- Greedy sharings. -/
/-- The first place with room whose slope is least, and that slope; -1: none. -/
def pickTo (rs : List (List Int)) (l : List Int) : Nat → Int × Int
  | 0 => (-1, 0)
  | i + 1 => if room rs l i ∧ ((pickTo rs l i).1 < 0 ∨ frS rs l i < (pickTo rs l i).2) then ((i : Int), frS rs l i) else pickTo rs l i
theorem pickTo_spec (rs : List (List Int)) (l : List Int) : ∀ n, ((pickTo rs l n).1 = -1 ∧ ∀ i, i < n → ¬ room rs l i) ∨ (∃ a : Nat, a < n ∧ (pickTo rs l n).1 = (a : Int) ∧ room rs l a ∧ (pickTo rs l n).2 = frS rs l a ∧ ∀ i, i < n → room rs l i → frS rs l a ≤ frS rs l i)
  | 0 => .inl ⟨rfl, fun i hi => by omega⟩
  | n + 1 => by
    have ih := pickTo_spec rs l n
    unfold pickTo
    split
    · rename_i h
      obtain ⟨h1, h2⟩ := h
      refine .inr ⟨n, by omega, rfl, h1, rfl, fun i hi hr => ?_⟩
      by_cases e : i = n
      · subst e; exact Int.le_refl _
      · rcases ih with ⟨-, h3⟩ | ⟨a, h3, h4, h5, h6, h7⟩
        · exact absurd hr (h3 i (by omega))
        · have := h7 i (by omega) hr
          rcases h2 with h2 | h2 <;> omega
    · rename_i h
      rcases ih with ⟨h3, h4⟩ | ⟨a, h3, h4, h5, h6, h7⟩
      · refine .inl ⟨h3, fun i hi hr => ?_⟩
        by_cases e : i = n
        · subst e; exact h ⟨hr, .inl (by omega)⟩
        · exact h4 i (by omega) hr
      · refine .inr ⟨a, by omega, h4, h5, h6, fun i hi hr => ?_⟩
        by_cases e : i = n
        · subst e
          rcases Int.lt_or_le (frS rs l i) (frS rs l a) with c | c
          · exact absurd ⟨hr, .inr (by omega)⟩ h
          · exact c
        · exact h7 i (by omega) hr
def pickL (rs : List (List Int)) (l : List Int) : Nat := (pickTo rs l rs.length).1.toNat
def growL (rs : List (List Int)) (l : List Int) : List Int := l.set (pickL rs l) (l.getD (pickL rs l) 0 + 1)
def greedyTo (rs : List (List Int)) : Nat → List Int
  | 0 => List.replicate rs.length 0
  | k + 1 => growL rs (greedyTo rs k)
theorem room_some : ∀ {rs : List (List Int)} {l : List Int}, Pl rs l → totL l < mostL rs → ∃ i, i < rs.length ∧ room rs l i
  | [], [], _, h => by simp [totL, mostL] at h
  | [], _ :: _, h, _ => h.elim
  | _ :: _, [], h, _ => h.elim
  | r :: rs, x :: l, h, h' => by
    by_cases c : x + 1 < (r.length : Int)
    · refine ⟨0, by simp, ?_⟩
      show plAt (x :: l) 0 + 1 < (rowAt (r :: rs) 0).length
      have e1 : plAt (x :: l) 0 = x.toNat := rfl
      have e2 : rowAt (r :: rs) 0 = r := rfl
      have := h.1
      rw [e1, e2]; omega
    · simp only [totL, mostL] at h'
      have := h.2.1
      obtain ⟨i, h1, h2⟩ := room_some h.2.2 (by omega)
      exact ⟨i + 1, by simpa using h1, h2⟩
theorem grow_pick {rs : List (List Int)} {l : List Int} (hl : Pl rs l) (ht : totL l < mostL rs) : pickL rs l < rs.length ∧ (pickTo rs l rs.length).1 = (pickL rs l : Int) ∧ room rs l (pickL rs l) ∧ ∀ i, i < rs.length → room rs l i → frS rs l (pickL rs l) ≤ frS rs l i := by
  obtain ⟨j, h1, h2⟩ := room_some hl ht
  rcases pickTo_spec rs l rs.length with ⟨-, h3⟩ | ⟨a, h3, h4, h5, h6, h7⟩
  · exact absurd h2 (h3 j h1)
  · have e : pickL rs l = a := by unfold pickL; rw [h4]; rfl
    rw [e]; exact ⟨h3, h4, h5, h7⟩
theorem grow_getD {rs : List (List Int)} {l : List Int} (hl : Pl rs l) (hp : pickL rs l < rs.length) (j : Nat) : (growL rs l).getD j 0 = if j = pickL rs l then l.getD (pickL rs l) 0 + 1 else l.getD j 0 := by
  unfold growL
  rw [getD_set_at _ _ _ _ (by have := hl.len; omega)]
theorem grow_is {rs : List (List Int)} {l : List Int} (hb : ∀ r, r ∈ rs → bentB r = true) (hl : Pl rs l) (ht : totL l < mostL rs) (hp : Priced rs l) : Pl rs (growL rs l) ∧ totL (growL rs l) = totL l + 1 ∧ Priced rs (growL rs l) := by
  obtain ⟨a1, -, a2, a3⟩ := grow_pick hl ht
  have g := grow_getD hl a1
  have el := hl.len
  have em : (growL rs l).length = rs.length := by simp [growL, el]
  generalize pickL rs l = a at a1 a2 a3 g
  obtain ⟨p1, p2⟩ := plAt_is hl a1
  have hroom : plAt l a + 1 < (rowAt rs a).length := a2
  have pa : plAt (growL rs l) a = plAt l a + 1 := by
    have : (growL rs l).getD a 0 = l.getD a 0 + 1 := by rw [g a, if_pos rfl]
    unfold plAt at p1 ⊢; rw [this]; omega
  have po : ∀ j, j ≠ a → plAt (growL rs l) j = plAt l j := fun j hj => by unfold plAt; rw [g j, if_neg hj]
  have hba : bentB (rowAt rs a) = true := by
    unfold rowAt; rw [List.getD_eq_getElem?_getD, List.getElem?_eq_getElem a1]; exact hb _ (List.getElem_mem a1)
  refine ⟨pl_iff.2 ⟨em, fun j hj => ?_⟩, ?_, ?_⟩
  · rw [g j]
    split
    · rename_i e; subst e; omega
    · exact (pl_iff.1 hl).2 j hj
  · rw [tot_sum, tot_sum, em, el]
    rw [sumN_alter (f := fun j => l.getD j 0) (g := fun j => (growL rs l).getD j 0) a1 fun m _ h3 => by rw [g m, if_neg h3]]
    have ga := g a
    rw [if_pos rfl] at ga
    rw [ga]; omega
  · intro i k hi hk h1 h2
    have to' : ∀ j, j ≠ a → toS rs (growL rs l) j = toS rs l j := fun j hj => by unfold toS; rw [po j hj]
    have fr' : ∀ j, j ≠ a → frS rs (growL rs l) j = frS rs l j := fun j hj => by unfold frS; rw [po j hj]
    have ta : toS rs (growL rs l) a = frS rs l a := by unfold toS frS; rw [pa]; rfl
    have fa : room rs (growL rs l) a → frS rs l a ≤ frS rs (growL rs l) a := fun hr => by
      have hr' : plAt (growL rs l) a + 1 < (rowAt rs a).length := hr
      rw [pa] at hr'
      unfold frS; rw [pa]
      exact bent_slp hba (i := plAt l a) (j := plAt l a + 1) (by omega) hr'
    by_cases ei : i = a
    · rw [ei, ta]
      by_cases ek : k = a
      · rw [ek] at h2 ⊢; exact fa h2
      · rw [fr' k ek]
        exact a3 k hk (by unfold room at h2 ⊢; rw [po k ek] at h2; exact h2)
    · rw [to' i ei]
      rw [po i ei] at h1
      by_cases ek : k = a
      · rw [ek] at h2 ⊢
        exact Int.le_trans (hp i a hi a1 h1 a2) (fa h2)
      · rw [fr' k ek]
        exact hp i k hi hk h1 (by unfold room at h2 ⊢; rw [po k ek] at h2; exact h2)
theorem greedy_is {rs : List (List Int)} (hn : ∀ r, r ∈ rs → 0 < r.length) (hb : ∀ r, r ∈ rs → bentB r = true) : ∀ k : Nat, (k : Int) ≤ mostL rs → Pl rs (greedyTo rs k) ∧ totL (greedyTo rs k) = (k : Int) ∧ Priced rs (greedyTo rs k)
  | 0, _ => by
    have z : ∀ i, (List.replicate rs.length (0 : Int)).getD i 0 = 0 := fun i => by
      rw [List.getD_eq_getElem?_getD, List.getElem?_replicate]; split <;> rfl
    refine ⟨pl_iff.2 ⟨by simp [greedyTo], fun i hi => ?_⟩, ?_, fun i k _ _ h1 _ => ?_⟩
    · show 0 ≤ (List.replicate rs.length (0 : Int)).getD i 0 ∧ _
      have hr : 0 < (rowAt rs i).length := by
        unfold rowAt; rw [List.getD_eq_getElem?_getD, List.getElem?_eq_getElem hi]; exact hn _ (List.getElem_mem hi)
      show 0 ≤ (List.replicate rs.length (0 : Int)).getD i 0 ∧ (List.replicate rs.length (0 : Int)).getD i 0 < _
      rw [z]; omega
    · rw [tot_sum]
      show sumN (fun i => (List.replicate rs.length (0 : Int)).getD i 0) _ = _
      rw [sumN_congr (g := fun _ => 0) fun i _ => z i, sumN_zero]; rfl
    · have : plAt (greedyTo rs 0) i = 0 := by show ((List.replicate rs.length (0 : Int)).getD i 0).toNat = 0; rw [z]; rfl
      omega
  | k + 1, h => by
    obtain ⟨h1, h2, h3⟩ := greedy_is hn hb k (by omega)
    obtain ⟨q1, q2, q3⟩ := grow_is hb h1 (by omega) h3
    exact ⟨q1, by show totL (growL rs (greedyTo rs k)) = _; rw [q2, h2]; omega, q3⟩
theorem greedy_le {rs : List (List Int)} (hn : ∀ r, r ∈ rs → 0 < r.length) (hb : ∀ r, r ∈ rs → bentB r = true) {k : Nat} (hk : ((k + 1 : Nat) : Int) ≤ mostL rs) (j : Nat) : (greedyTo rs k).getD j 0 ≤ (greedyTo rs (k + 1)).getD j 0 := by
  obtain ⟨h1, h2, -⟩ := greedy_is hn hb k (by omega)
  obtain ⟨a1, -, -, -⟩ := grow_pick h1 (by omega)
  show _ ≤ (growL rs (greedyTo rs k)).getD j 0
  rw [grow_getD h1 a1 j]
  split
  · rename_i e; subst e; omega
  · exact Int.le_refl _

/- Costs of all amounts. -/
/-- v is the least sum of an entry of z and the cost of a sharing, together k. -/
def LeS (z : List Int) (rs : List (List Int)) (k : Int) (v : Int) : Prop :=
  (∀ (i : Nat) l, i < z.length → Pl rs l → (i : Int) + totL l = k → v ≤ z.getD i 0 + costS rs l) ∧ ∃ (i : Nat) (l : List Int), i < z.length ∧ Pl rs l ∧ (i : Int) + totL l = k ∧ v = z.getD i 0 + costS rs l
theorem fold_cost : ∀ {rs : List (List Int)} {z : List Int} {B : Int}, BdU B z → 0 < z.length → 0 ≤ B → (∀ r, r ∈ rs → BdU 1000 r ∧ 0 < r.length) → B + 1000 * (rs.length : Int) ≤ 40000 →
    (rs.foldl mergeL z).length = z.length + (mostL rs).toNat ∧ ∀ k : Nat, k < (rs.foldl mergeL z).length → LeS z rs (k : Int) ((rs.foldl mergeL z).getD k 0)
  | [], z, B, hz, h0, _, _, _ => by
    refine ⟨by simp [mostL], fun k hk => ⟨fun i l hi hl ht => ?_, k, [], hk, trivial, by simp [totL], by simp [costS]⟩⟩
    cases l with
    | nil =>
      have : i = k := by simp only [totL] at ht; omega
      subst this; simp [costS]
    | cons x l => exact hl.elim
  | r :: rs, z, B, hz, h0, hB, hr, hBl => by
    obtain ⟨hr1, hr0⟩ := hr r (by simp)
    have hlen : ((r :: rs).length : Int) = (rs.length : Int) + 1 := by simp
    rw [hlen] at hBl
    have hmb := merge_bdU hz hr1 (by omega) h0 hr0
    have hml : (mergeL z r).length = z.length + r.length - 1 := merge_len z r
    have hrs0 : ∀ s, s ∈ rs → 0 < s.length := fun s hs => (hr s (by simp [hs])).2
    obtain ⟨e1, e2⟩ := fold_cost (rs := rs) (z := mergeL z r) (B := B + 1000) hmb (by omega) (by omega) (fun s hs => hr s (by simp [hs])) (by omega)
    have hm := most_nonneg hrs0
    refine ⟨by simp only [List.foldl_cons]; rw [e1, hml]; simp only [mostL]; omega, fun k hk => ?_⟩
    simp only [List.foldl_cons] at hk ⊢
    obtain ⟨f1, i, l, g1, g2, g3, g4⟩ := e2 k hk
    refine ⟨fun i' l' h1 h2 h3 => ?_, ?_⟩
    · cases l' with
      | nil => exact h2.elim
      | cons x l' =>
        obtain ⟨p1, p2, p3⟩ := h2
        simp only [totL] at h3
        have b := f1 (i' + x.toNat) l' (by rw [hml]; omega) p3 (by omega)
        have m := (merge_le hz hr1 (by omega) h0 hr0 (k := i' + x.toNat) (by omega)).1 i' x.toNat h1 (by omega) rfl
        simp only [costS]; omega
    · rw [hml] at g1
      obtain ⟨-, a, b, q1, q2, q3, q4⟩ := merge_le hz hr1 (by omega) h0 hr0 (k := i) (by omega)
      refine ⟨a, (b : Int) :: l, q1, ⟨by omega, by omega, g2⟩, by simp only [totL]; omega, ?_⟩
      simp only [costS, Int.toNat_natCast]
      rw [g4, q4]; omega
def costsL (rs : List (List Int)) : List Int := rs.foldl mergeL [0]
theorem costs_is {rs : List (List Int)} (hr : ∀ r, r ∈ rs → rowB r = true) (h4 : rs.length ≤ 4) : (costsL rs).length = (mostL rs).toNat + 1 ∧ ∀ k : Nat, k < (costsL rs).length → (costsL rs).getD k 0 = (tryL rs (k : Int)).1 := by
  have hn : ∀ r, r ∈ rs → 0 < r.length := fun r h => row_pos (hr r h)
  obtain ⟨e1, e2⟩ := fold_cost (rs := rs) (z := [0]) (B := 0) (fun k hk => by simp at hk; subst hk; simp) (by simp) (by omega) (fun r h => ⟨row_bdU (hr r h), hn r h⟩) (by omega)
  have hl : (costsL rs).length = (mostL rs).toNat + 1 := by unfold costsL; rw [e1]; simp; omega
  refine ⟨hl, fun k hk => ?_⟩
  have hm := most_nonneg hn
  obtain ⟨-, q1, q2, q3, -, -⟩ := try_some hn (n := (k : Int)) (by omega) (by omega)
  obtain ⟨f1, i, l, g1, g2, g3, g4⟩ := e2 k hk
  have i0 : i = 0 := by simpa using g1
  subst i0
  apply Int.le_antisymm
  · have := f1 0 _ (by simp) q1.1 (by rw [q1.2]; simp)
    rw [← q2]; unfold costsL; simpa using this
  · have := q3 l ⟨g2, by simpa using g3⟩
    unfold costsL; rw [g4]; simpa using this
theorem fold_bent : ∀ {rs : List (List Int)} {z : List Int} {B : Int}, BdU B z → 0 < z.length → 0 ≤ B → bentB z = true → (∀ r, r ∈ rs → BdU 1000 r ∧ 0 < r.length ∧ bentB r = true) → B + 1000 * (rs.length : Int) ≤ 40000 → bentB (rs.foldl mergeL z) = true
  | [], _, _, _, _, _, hb, _, _ => hb
  | r :: rs, z, B, hz, h0, hB, hb, hr, hBl => by
    obtain ⟨hr1, hr0, hr2⟩ := hr r (by simp)
    have hlen : ((r :: rs).length : Int) = (rs.length : Int) + 1 := by simp
    rw [hlen] at hBl
    have hml : (mergeL z r).length = z.length + r.length - 1 := merge_len z r
    exact fold_bent (rs := rs) (merge_bdU hz hr1 (by omega) h0 hr0) (by omega) (by omega) (merge_bent hz hr1 (by omega) h0 hr0 hb hr2) (fun s hs => hr s (by simp [hs])) (by omega)
theorem costs_bent {rs : List (List Int)} (hr : ∀ r, r ∈ rs → rowB r = true) (hb : ∀ r, r ∈ rs → bentB r = true) (h4 : rs.length ≤ 4) : bentB (costsL rs) = true :=
  fold_bent (z := [0]) (B := 0) (fun k hk => by simp at hk; subst hk; simp) (by simp) (by omega) (by decide) (fun r h => ⟨row_bdU (hr r h), row_pos (hr r h), hb r h⟩) (by omega)

/- What the functions answer. -/
def givenB (rs : List (List Int)) : Bool := rs.all rowB && inB 1 4 (rs.length : Int)
def shareOk (rs : List (List Int)) (n : Int) : Bool := givenB rs && inB 0 (mostL rs) n
def shareC (rs : List (List Int)) (n : Int) : Int := if shareOk rs n then (tryL rs n).1 else 0
def shareM (rs : List (List Int)) (n : Int) : Option (List Int) := if shareOk rs n then some (tryL rs n).2.1 else none
def shareAllL (rs : List (List Int)) (n : Int) : Int := if shareOk rs n then (tryL rs n).2.2 else 0
def bentsB (rs : List (List Int)) : Bool := rs.all bentB
def greedyM (rs : List (List Int)) (n : Int) : Option (List Int) := if shareOk rs n && bentsB rs then some (greedyTo rs n.toNat) else none
def placesB (rs : List (List Int)) (l : List Int) : Bool := givenB rs && decide (l.length = rs.length) && (List.range l.length).all fun i => inB 0 (((rowAt rs i).length : Int) - 1) (l.getD i 0)
def shareCostL (rs : List (List Int)) (l : List Int) : Int := if placesB rs l then costS rs l else 0
def pricesB (rs : List (List Int)) (l : List Int) : Bool := placesB rs l && decide (lowL rs l ≤ highL rs l)
def shareMovesL (rs : List (List Int)) (l : List Int) : Int := if placesB rs l then movesL rs l else 0
def costsM (rs : List (List Int)) : Option (List Int) := if givenB rs && decide (mostL rs + 1 ≤ 12) then doneM (costsL rs) else none
theorem given_true {rs : List (List Int)} : givenB rs = true ↔ (∀ r, r ∈ rs → rowB r = true) ∧ 1 ≤ rs.length ∧ rs.length ≤ 4 := by
  unfold givenB
  rw [Bool.and_eq_true, List.all_eq_true, inB_true]
  constructor
  · rintro ⟨h1, h2, h3⟩; exact ⟨h1, by omega, by omega⟩
  · rintro ⟨h1, h2, h3⟩; exact ⟨h1, by omega, by omega⟩
theorem share_true {rs : List (List Int)} {n : Int} (h : shareOk rs n = true) : (∀ r, r ∈ rs → rowB r = true) ∧ rs.length ≤ 4 ∧ (∀ r, r ∈ rs → 0 < r.length) ∧ 0 ≤ n ∧ n ≤ mostL rs := by
  unfold shareOk at h
  rw [Bool.and_eq_true] at h
  obtain ⟨h1, h2, h3⟩ := given_true.1 h.1
  have := inB_true.1 h.2
  exact ⟨h1, h3, fun r hr => row_pos (h1 r hr), this.1, this.2⟩
theorem places_true {rs : List (List Int)} {l : List Int} : placesB rs l = true ↔ givenB rs = true ∧ Pl rs l := by
  unfold placesB
  rw [Bool.and_eq_true, Bool.and_eq_true, decide_eq_true_iff, List.all_eq_true, pl_iff]
  constructor
  · rintro ⟨⟨h1, h2⟩, h3⟩
    refine ⟨h1, h2, fun i hi => ?_⟩
    have := inB_true.1 (h3 i (List.mem_range.2 (by omega)))
    omega
  · rintro ⟨h1, h2, h3⟩
    refine ⟨⟨h1, h2⟩, fun i hi => inB_true.2 ?_⟩
    have := h3 i (by have := List.mem_range.1 hi; omega)
    omega
theorem places_share {rs : List (List Int)} {l : List Int} (h : placesB rs l = true) : shareOk rs (totL l) = true ∧ Shr rs (totL l) l := by
  obtain ⟨h1, h2⟩ := places_true.1 h
  refine ⟨?_, h2, rfl⟩
  unfold shareOk
  rw [h1, Bool.true_and]
  exact inB_true.2 ⟨h2.nonneg, share_most h2⟩
/-- P55. -/
theorem try_law {rs : List (List Int)} {n : Int} (h : shareOk rs n = true) : placesB rs (tryL rs n).2.1 = true ∧ costS rs (tryL rs n).2.1 = (tryL rs n).1 ∧ totL (tryL rs n).2.1 = n ∧ movesL rs (tryL rs n).2.1 = 0 ∧ (bentsB rs = true → pricesB rs (tryL rs n).2.1 = true) := by
  obtain ⟨h1, -, h3, h4, h5⟩ := share_true h
  obtain ⟨-, q1, q2, q3, -, -⟩ := try_some h3 h4 h5
  have hg : givenB rs = true := by unfold shareOk at h; rw [Bool.and_eq_true] at h; exact h.1
  have hp : placesB rs (tryL rs n).2.1 = true := places_true.2 ⟨hg, q1.1⟩
  have hm := least_moves q1.1 fun m hm ht => by rw [q2]; exact q3 m ⟨hm, ht.trans q1.2⟩
  refine ⟨hp, q2, q1.2, hm, fun hb => ?_⟩
  unfold bentsB at hb
  rw [List.all_eq_true] at hb
  unfold pricesB
  rw [hp, Bool.true_and, decide_eq_true_iff]
  exact (priced_iff h1 q1.1).2 (moves_priced hb q1.1 hm)
/-- P56. -/
theorem greedy_law {rs : List (List Int)} {n : Int} (h : shareOk rs n = true) (hb : bentsB rs = true) : placesB rs (greedyTo rs n.toNat) = true ∧ costS rs (greedyTo rs n.toNat) = (tryL rs n).1 ∧ totL (greedyTo rs n.toNat) = n := by
  obtain ⟨h1, -, h3, h4, h5⟩ := share_true h
  have hb' := hb
  unfold bentsB at hb'
  rw [List.all_eq_true] at hb'
  have hg : givenB rs = true := by unfold shareOk at h; rw [Bool.and_eq_true] at h; exact h.1
  obtain ⟨g1, g2, g3⟩ := greedy_is h3 hb' n.toNat (by omega)
  obtain ⟨-, q1, q2, q3, -, -⟩ := try_some h3 h4 h5
  have e : totL (greedyTo rs n.toNat) = n := by omega
  refine ⟨places_true.2 ⟨hg, g1⟩, Int.le_antisymm ?_ (q3 _ ⟨g1, e⟩), e⟩
  rw [← q2]
  exact priced_least h1 hb' g1 g3 _ q1.1 (by rw [q1.2, e])
/-- P57. -/
theorem cost_law {rs : List (List Int)} {l : List Int} (h : placesB rs l = true) : (tryL rs (totL l)).1 ≤ costS rs l := by
  obtain ⟨h0, hs⟩ := places_share h
  obtain ⟨-, -, h3, h4, h5⟩ := share_true h0
  exact (try_some h3 h4 h5).2.2.2.1 l hs
theorem least_law {rs : List (List Int)} {l : List Int} (h : placesB rs l = true) : (∀ m, Pl rs m → totL m = totL l → costS rs l ≤ costS rs m) ↔ costS rs l = (tryL rs (totL l)).1 := by
  obtain ⟨h0, hs⟩ := places_share h
  obtain ⟨-, -, h3, h4, h5⟩ := share_true h0
  obtain ⟨-, q1, q2, q3, -, -⟩ := try_some h3 h4 h5
  constructor
  · intro hc
    exact Int.le_antisymm (by rw [← q2]; exact hc _ q1.1 q1.2) (q3 l hs)
  · intro e m hm ht
    rw [e]; exact q3 m ⟨hm, ht⟩
/-- P58. -/
theorem price_law {rs : List (List Int)} {l : List Int} (h : pricesB rs l = true) (hb : bentsB rs = true) : costS rs l = (tryL rs (totL l)).1 := by
  unfold pricesB at h
  rw [Bool.and_eq_true, decide_eq_true_iff] at h
  obtain ⟨hg, hp⟩ := places_true.1 h.1
  have hr := (given_true.1 hg).1
  unfold bentsB at hb
  rw [List.all_eq_true] at hb
  exact (least_law h.1).1 (priced_least hr hb hp ((priced_iff hr hp).1 h.2))
/-- P59. -/
theorem moves_law {rs : List (List Int)} {l : List Int} (h : placesB rs l = true) (hb : bentsB rs = true) : movesL rs l = 0 ↔ costS rs l = (tryL rs (totL l)).1 := by
  obtain ⟨hg, hp⟩ := places_true.1 h
  have hr := (given_true.1 hg).1
  unfold bentsB at hb
  rw [List.all_eq_true] at hb
  constructor
  · intro hm
    exact (least_law h).1 (priced_least hr hb hp (moves_priced hb hp hm))
  · intro e
    exact least_moves hp ((least_law h).2 e)
/-- P61. -/
theorem all_law {rs : List (List Int)} {n : Int} (h : shareOk rs n = true) : shareOk rs.reverse n = true ∧ (tryL rs.reverse n).2.2 = (tryL rs n).2.2 ∧ 1 ≤ (tryL rs n).2.2 := by
  obtain ⟨h1, h2, h3, h4, h5⟩ := share_true h
  have hp := (List.reverse_perm rs).symm
  have hm := most_perm hp
  have hg : givenB rs = true := by unfold shareOk at h; rw [Bool.and_eq_true] at h; exact h.1
  obtain ⟨g1, g2, g3⟩ := given_true.1 hg
  refine ⟨?_, (try_perm hp h3 h4 h5 (by omega)).2, by have := (try_some h3 h4 h5).1; omega⟩
  unfold shareOk
  rw [Bool.and_eq_true]
  exact ⟨given_true.2 ⟨fun r hr => g1 r (by simpa using hr), by simpa using g2, by simpa using g3⟩, inB_true.2 ⟨h4, by omega⟩⟩

end Go.Proofs.Ytanoojpmokbiaab

namespace Go.Proofs.Ytanoojpmokbiaab
open Go.RowKit

/-- A cost, a sharing that has it, how many have it. -/
abbrev Res := Int × List Int × Int
/-- Two results brought together; the first one has been tried ahead. -/
def comb (a b : Res) : Res :=
  if b.2.2 = 0 then a
  else if a.2.2 = 0 ∨ b.1 < a.1 then b
  else if b.1 = a.1 then (a.1, a.2.1, a.2.2 + b.2.2)
  else a
/-- A result behind some places and their cost. -/
def shiftT (c : Int) (p : List Int) (q : Res) : Res := (q.1 + c, p ++ q.2.1, q.2.2)
theorem stepT_comb (acc : Res) (x : Nat) (q : Res) (e : Int) : stepT acc x q e = comb acc (shiftT e [(x : Int)] q) := rfl
theorem comb_none {a b : Res} (h : b.2.2 = 0) : comb a b = a := by unfold comb; rw [if_pos h]
theorem comb_assoc {a b c : Res} (ha : 0 ≤ a.2.2) (hb : 0 ≤ b.2.2) (hc : 0 ≤ c.2.2) : comb (comb a b) c = comb a (comb b c) := by
  obtain ⟨a1, a2, a3⟩ := a; obtain ⟨b1, b2, b3⟩ := b; obtain ⟨c1, c2, c3⟩ := c
  dsimp only at ha hb hc
  by_cases h1 : c3 = 0
  · simp [comb, h1]
  by_cases h2 : b3 = 0
  · simp [comb, h1, h2]
  by_cases h3 : a3 = 0
  · simp only [comb, h1, h2, h3, if_false, true_or, if_true, false_or]
    split
    · rfl
    · split
      · simp [show ¬ (b3 + c3 = 0) by omega]
      · simp
  · rcases Int.lt_trichotomy b1 a1 with h4 | h4 | h4
    · simp only [comb, h1, h2, h3, h4, if_false, or_true, if_true, false_or]
      rcases Int.lt_trichotomy c1 b1 with h5 | h5 | h5
      · simp [h1, h5, show c1 < a1 by omega]
      · subst h5
        simp [h4, show ¬ (b3 + c3 = 0) by omega]
      · simp [show ¬ c1 < b1 by omega, show ¬ c1 = b1 by omega, h2, h4]
    · subst h4
      simp only [comb, h1, h2, h3, Int.lt_irrefl, if_false, or_self, false_or, if_true]
      simp only [show ¬ (a3 + b3 = 0) by omega, false_or]
      rcases Int.lt_trichotomy c1 b1 with h5 | h5 | h5
      · simp [h1, h5]
      · subst h5
        simp [show ¬ (b3 + c3 = 0) by omega, Int.add_assoc]
      · simp [show ¬ c1 < b1 by omega, show ¬ c1 = b1 by omega, h2]
    · simp only [comb, h1, h2, h3, show ¬ b1 < a1 by omega, show ¬ b1 = a1 by omega, if_false, false_or]
      rcases Int.lt_trichotomy c1 b1 with h5 | h5 | h5
      · simp [h1, h5]
      · subst h5
        simp [show ¬ (b3 + c3 = 0) by omega, show ¬ c1 < a1 by omega, show ¬ c1 = a1 by omega]
      · simp [show ¬ c1 < b1 by omega, show ¬ c1 = b1 by omega, h2, show ¬ b1 < a1 by omega, show ¬ b1 = a1 by omega, show ¬ c1 < a1 by omega, show ¬ c1 = a1 by omega]
theorem comb_shift (c : Int) (p : List Int) (a b : Res) : comb (shiftT c p a) (shiftT c p b) = shiftT c p (comb a b) := by
  obtain ⟨a1, a2, a3⟩ := a; obtain ⟨b1, b2, b3⟩ := b
  simp only [comb, shiftT]
  by_cases h1 : b3 = 0
  · simp [h1]
  by_cases h2 : a3 = 0
  · simp [h1, h2]
  rcases Int.lt_trichotomy b1 a1 with h | h | h
  · simp [h1, h2, h, show b1 + c < a1 + c by omega]
  · simp [h1, h2, h]
  · simp [h1, h2, show ¬ b1 + c < a1 + c by omega, show ¬ b1 < a1 by omega, show ¬ b1 = a1 by omega, show ¬ b1 + c = a1 + c by omega]
theorem shift_shift (c e : Int) (p : List Int) (x : Int) (q : Res) : shiftT c p (shiftT e [x] q) = shiftT (c + e) (p ++ [x]) q := by
  obtain ⟨q1, q2, q3⟩ := q
  simp only [shiftT, List.append_assoc, Prod.mk.injEq, and_true]
  omega
theorem shift_nil (q : Res) : shiftT 0 [] q = q := by
  obtain ⟨q1, q2, q3⟩ := q
  simp [shiftT]
theorem comb_start (q : Res) : comb (0, [], 0) q = if q.2.2 = 0 then (0, [], 0) else q := by
  unfold comb
  simp

/- How many, how dear, how long. -/
theorem comb_cnt {a b : Res} {A B : Int} (ha : 0 ≤ a.2.2 ∧ a.2.2 ≤ A) (hb : 0 ≤ b.2.2 ∧ b.2.2 ≤ B) : 0 ≤ (comb a b).2.2 ∧ (comb a b).2.2 ≤ A + B := by
  obtain ⟨a1, a2, a3⟩ := a; obtain ⟨b1, b2, b3⟩ := b
  dsimp only at ha hb
  unfold comb
  dsimp only
  split
  · dsimp only; omega
  · split
    · dsimp only; omega
    · split
      · dsimp only; omega
      · dsimp only; omega
theorem comb_bd {a b : Res} {B : Int} (ha : -B ≤ a.1 ∧ a.1 ≤ B) (hb : -B ≤ b.1 ∧ b.1 ≤ B) : -B ≤ (comb a b).1 ∧ (comb a b).1 ≤ B := by
  obtain ⟨a1, a2, a3⟩ := a; obtain ⟨b1, b2, b3⟩ := b
  dsimp only at ha hb
  unfold comb
  dsimp only
  split
  · exact ha
  · split
    · exact hb
    · split
      · exact ha
      · exact ha
theorem comb_len {a b : Res} {n : Nat} (ha : a.2.1.length ≤ n) (hb : b.2.1.length ≤ n) : (comb a b).2.1.length ≤ n := by
  obtain ⟨a1, a2, a3⟩ := a; obtain ⟨b1, b2, b3⟩ := b
  dsimp only at ha hb
  unfold comb
  dsimp only
  split
  · exact ha
  · split
    · exact hb
    · split
      · exact ha
      · exact ha
/-- A result of few rows. -/
def Small (d : Nat) (m : Int) (q : Res) : Prop := (0 ≤ q.2.2 ∧ q.2.2 ≤ m) ∧ (-(1000 * (d : Int)) ≤ q.1 ∧ q.1 ≤ 1000 * (d : Int)) ∧ q.2.1.length ≤ d
theorem small_zero (d : Nat) {m : Int} (hm : 0 ≤ m) : Small d m (0, [], 0) := ⟨⟨Int.le_refl _, hm⟩, ⟨by dsimp only; omega, by dsimp only; omega⟩, Nat.zero_le _⟩
theorem small_step {d : Nat} {k m e : Int} {x : Nat} {acc q : Res} (ha : Small (d + 1) k acc) (hq : Small d m q) (he : -1000 ≤ e ∧ e ≤ 1000) : Small (d + 1) (k + m) (stepT acc x q e) := by
  rw [stepT_comb]
  refine ⟨comb_cnt ha.1 hq.1, comb_bd ha.2.1 ?_, comb_len ha.2.2 ?_⟩
  · have h2 := hq.2.1
    have h : (shiftT e [(x : Int)] q).1 = q.1 + e := rfl
    rw [h]
    omega
  · have := hq.2.2
    simp [shiftT]; omega
theorem getD_fits {r : List Int} (h : ∀ z, z ∈ r → -1000 ≤ z ∧ z ≤ 1000) (k : Nat) : -1000 ≤ r.getD k 0 ∧ r.getD k 0 ≤ 1000 := by
  by_cases hk : k < r.length
  · have := h (r[k]) (List.getElem_mem hk)
    simpa [List.getD, hk] using this
  · simp [List.getD, hk]
theorem small_to {rs : List (List Int)} {m : Int} (hm : 0 ≤ m) (hrec : ∀ n, Small rs.length m (tryL rs n)) {r : List Int} (hr : ∀ z, z ∈ r → -1000 ≤ z ∧ z ≤ 1000) (n : Int) : ∀ j : Nat, Small (rs.length + 1) ((j : Int) * m) (tryTo (tryL rs) r n j)
  | 0 => small_zero _ (by simp)
  | j + 1 => by
    have h := small_step (x := j) (small_to hm hrec hr n j) (hrec (n - (j : Int))) (getD_fits hr j)
    have e : ((j + 1 : Nat) : Int) * m = (j : Int) * m + m := by rw [Int.natCast_succ, Int.add_mul, Int.one_mul]
    rw [e]
    exact h
theorem Small.more {d : Nat} {m k : Int} {q : Res} (h : Small d m q) (hm : m ≤ k) : Small d k q := ⟨⟨h.1.1, Int.le_trans h.1.2 hm⟩, h.2⟩
/-- 12 to the number of rows. -/
def pow12 : Nat → Int
  | 0 => 1
  | d + 1 => 12 * pow12 d
theorem pow12_pos : ∀ d, 1 ≤ pow12 d
  | 0 => Int.le_refl _
  | d + 1 => by have := pow12_pos d; show 1 ≤ 12 * pow12 d; omega
theorem try_small : ∀ {rs : List (List Int)}, (∀ r, r ∈ rs → (∀ z, z ∈ r → -1000 ≤ z ∧ z ≤ 1000) ∧ r.length ≤ 12) → ∀ n, Small rs.length (pow12 rs.length) (tryL rs n)
  | [], _ => fun n => by
    unfold tryL
    split
    · exact ⟨⟨by dsimp only; omega, Int.le_refl _⟩, ⟨by simp, by simp⟩, Nat.le_refl _⟩
    · exact small_zero _ (by decide)
  | r :: rs, h => fun n => by
    have hp := pow12_pos rs.length
    have h1 := h r List.mem_cons_self
    have h2 := small_to (by omega) (try_small fun s hs => h s (List.mem_cons_of_mem _ hs)) h1.1 n (min r.length (n.toNat + 1))
    refine Small.more h2 ?_
    show _ ≤ 12 * pow12 rs.length
    exact Int.mul_le_mul_of_nonneg_right (by have := h1.2; omega) (by omega)
theorem small_len {rs : List (List Int)} (hr : ∀ r, r ∈ rs → (∀ z, z ∈ r → -1000 ≤ z ∧ z ≤ 1000) ∧ r.length ≤ 12) {r : List Int} (h : ∀ z, z ∈ r → -1000 ≤ z ∧ z ≤ 1000) (n : Int) (j : Nat) : Small (rs.length + 1) ((j : Int) * pow12 rs.length) (tryTo (tryL rs) r n j) :=
  small_to (by have := pow12_pos rs.length; omega) (try_small hr) h n j

/- Too much is shared in no way. -/
theorem try_neg : ∀ (rs : List (List Int)) {n : Int}, n < 0 → (tryL rs n).2.2 = 0
  | [], n, h => by unfold tryL; rw [if_neg (by omega)]
  | r :: rs, n, h => by
    unfold tryL
    have hn : n.toNat = 0 := by omega
    rw [hn]
    by_cases h0 : r.length = 0
    · rw [h0]; rfl
    · rw [show min r.length (0 + 1) = 1 by omega]
      show (stepT (0, [], 0) 0 (tryL rs (n - 0)) _).2.2 = 0
      unfold stepT
      rw [if_pos (try_neg rs (by omega))]
theorem tryTo_more {rs : List (List Int)} {r : List Int} {n : Int} : ∀ {d m : Nat}, n < (m : Int) → tryTo (tryL rs) r n (m + d) = tryTo (tryL rs) r n m
  | 0, _, _ => rfl
  | d + 1, m, h => by
    show stepT (tryTo (tryL rs) r n (m + d)) (m + d) (tryL rs (n - ((m + d : Nat) : Int))) _ = _
    unfold stepT
    rw [if_pos (try_neg rs (by omega)), tryTo_more h]
/-- All places tried: as many as are left would do. -/
theorem tryTo_all (rs : List (List Int)) (r : List Int) (n : Int) : tryTo (tryL rs) r n r.length = tryL (r :: rs) n := by
  show _ = tryTo (tryL rs) r n (min r.length (n.toNat + 1))
  by_cases h : r.length ≤ n.toNat + 1
  · rw [Nat.min_eq_left h]
  · rw [Nat.min_eq_right (by omega)]
    have := tryTo_more (rs := rs) (r := r) (n := n) (d := r.length - (n.toNat + 1)) (m := n.toNat + 1) (by omega)
    rwa [show n.toNat + 1 + (r.length - (n.toNat + 1)) = r.length by omega] at this
/-- One place more, tried behind the places ahead. -/
theorem comb_next {st : Res} {cost : Int} {pre : List Int} {rs : List (List Int)} {r : List Int} {left : Int} {m : Nat} (hs : 0 ≤ st.2.2) (hr : ∀ r, r ∈ rs → (∀ z, z ∈ r → -1000 ≤ z ∧ z ≤ 1000) ∧ r.length ≤ 12) (h : ∀ z, z ∈ r → -1000 ≤ z ∧ z ≤ 1000) :
    comb (comb st (shiftT cost pre (tryTo (tryL rs) r left m))) (shiftT (cost + r.getD m 0) (pre ++ [(m : Int)]) (tryL rs (left - (m : Int)))) = comb st (shiftT cost pre (tryTo (tryL rs) r left (m + 1))) := by
  show _ = comb st (shiftT cost pre (stepT (tryTo (tryL rs) r left m) m (tryL rs (left - (m : Int))) (r.getD m 0)))
  rw [stepT_comb, ← comb_shift, shift_shift]
  exact comb_assoc hs (small_len hr h left m).1.1 (try_small hr _).1.1
end Go.Proofs.Ytanoojpmokbiaab
