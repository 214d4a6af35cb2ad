/-
  The law FnShareAll walked: for all codes it returns true, and nothing that lay before has turned. Conditions: none but those of its row.
-/
import Derived.Test.YtanmjaljcnihlaaDS
import Derived.Test.YtanmjaljcnihlaaSgA
import Derived.Test.YtanmjaljcnihlaaSame
import Derived.Test.YtanmjaljcnihlaaMathA
namespace Go.Proofs.Ytanmjaljcnihlaa
open Go.RowKit

/-- A list of rows of the call's own (its cells lie from base on) whose rows are read only and lie below base. -/
def OwnR (w : World) (base : Nat) (v : Value) (zss : List (List Int)) : Prop :=
  base ≤ w.heap.size ∧ ∃ (F : Nat → Option Addr) (C : Nat → Nat), w.ownsRow base 26 1 v zss.length (rowsV zss F C) ∧
    ∀ (k : Nat) (hk : k < zss.length), (zss[k].length ≤ C k ∧ C k ≤ 9223372036854775807) ∧ IR w 0 base (F k) zss[k]
theorem OwnR.made (w : World) : OwnR (w.alloc (.cells #[] 26)) w.heap.size (.slice (some ⟨w.heap.size, 0, none⟩) 0 0) [] :=
  ⟨by simp, fun _ => none, fun _ => 0, World.ownsRow_made w #[] 0 (Nat.le_refl _) (by unfold maxLen; omega) rfl, fun k hk => absurd hk (by simp)⟩
theorem OwnR.grow {w w' : World} {base : Nat} {v : Value} {zss : List (List Int)} (h : OwnR w base v zss) (hb : Below w.heap.size w w') : OwnR w' base v zss := by
  obtain ⟨h1, F, K, ho, hr⟩ := h
  refine ⟨Nat.le_trans h1 hb.size, F, K, ⟨ho.1, ?_⟩, fun k hk => ⟨(hr k hk).1, (hr k hk).2.below hb h1⟩⟩
  rcases ho.2 with h0 | ⟨g, cap, cur, e, hg2, hh, r⟩
  · exact .inl h0
  · exact .inr ⟨g, cap, cur, e, hg2, (hb.block g (Array.getElem?_eq_some_iff.1 hh).1).trans hh, r⟩
theorem OwnR.irr {w : World} {base : Nat} {v : Value} {zss : List (List Int)} (h : OwnR w base v zss) (hl : zss.length ≤ 17592186044416) : ∃ A c, v = .slice A zss.length c ∧ IRR w 0 w.heap.size A zss := by
  obtain ⟨h1, F, K, ho, hr⟩ := h
  have hcell := ho
  rcases ho.2 with ⟨rfl, h0⟩ | ⟨g, cap, cur, rfl, hgb, hh, hn, hcap, hs, ht⟩
  · have : zss = [] := List.eq_nil_of_length_eq_zero h0
    subst this
    exact ⟨none, 0, rfl, by simp, Nat.le_refl _, fun k hk => absurd hk (by simp)⟩
  · refine ⟨some ⟨g, 0, none⟩, cap, rfl, hl, Nat.le_refl _, fun k hk => ⟨g, 0, F k, K k, rfl, Nat.zero_le _, (Array.getElem?_eq_some_iff.1 hh).1, ?_, (hr k hk).1, (hr k hk).2.wide (Nat.le_refl _) h1 (Nat.le_refl _)⟩⟩
    have := hcell.cellAt k (by simpa using hk)
    rw [rowsV_get _ _ _ _ hk] at this
    simpa using this
theorem run_pushR (w : World) (base : Nat) (v : Value) (zss : List (List Int)) (hown : OwnR w base v zss) (G : Nat) (A : Option Addr) (n c : Nat) (ys : List Int) (hc : w.cell? ⟨G, 0, none⟩ = some (.slice A n c)) (hn : n = ys.length) (hcap : n ≤ c ∧ c ≤ 9223372036854775807)
    (hr : IR w 0 base A ys) (hl : zss.length < 1000000) (ty : TypeId) :
    ∃ v' w', (Builtin.append_ #[23, 23] ty #[v, .slice (some ⟨G, 0, none⟩) 1 1]).run Try.prog w = .ok v' w' ∧ OwnR w' base v' (zss ++ [ys]) ∧ Below base w w' := by
  subst hn
  obtain ⟨h1, F, K, ho, hrr⟩ := hown
  obtain ⟨i0, hi0, hz0, hz1, hz2⟩ := info_parts info_row
  obtain ⟨v', w', hrun, e2, e3, _, e5⟩ := run_append_own_at (P := Try.prog) w base 23 ty 26 i0 (.slice none 0 0) 1 24 Try.underlying23 hi0 hz0 hz1 hz2 rfl (by decide) v zss.length (rowsV zss F K) ho ⟨G, 0, none⟩ 1 1 [.slice A ys.length c] rfl
    (fun j u hj => by
      match j, hj with
      | 0, hj => simp at hj; subst hj; simpa [Addr.add] using hc) (by simp [Value.oneCell']) (by unfold maxLen; omega) (by omega) (by omega)
  have hB : Below base w w' := (Below.refl base w).grown e3 (by omega) fun k hk => (ho.lt k hk).1
  have hlen : (zss ++ [ys]).length = zss.length + 1 := by simp
  refine ⟨v', w', hrun, ⟨Nat.le_trans h1 e3.size, fun k => if k = zss.length then A else F k, fun k => if k = zss.length then c else K k, ?_, ?_⟩, hB⟩
  · rw [hlen]
    have e : rowsV (zss ++ [ys]) (fun k => if k = zss.length then A else F k) (fun k => if k = zss.length then c else K k) = rowsV zss F K ++ [.slice A ys.length c] := by
      apply List.ext_getElem?
      intro k
      by_cases hk : k < zss.length
      · rw [rowsV_get _ _ _ _ (by rw [hlen]; omega), List.getElem?_append_left (by rw [rowsV_len]; exact hk), rowsV_get _ _ _ _ hk, if_neg (by omega), if_neg (by omega), List.getElem_append_left hk]
      · by_cases hk2 : k = zss.length
        · subst hk2
          rw [rowsV_get _ _ _ _ (by rw [hlen]; omega), List.getElem?_append_right (by rw [rowsV_len]; exact Nat.le_refl _), rowsV_len, if_pos rfl, if_pos rfl]
          simp
        · rw [List.getElem?_eq_none (by rw [rowsV_len, hlen]; omega), List.getElem?_eq_none (by simp [rowsV_len]; omega)]
    rw [e]
    exact e2
  · intro k hk
    rw [hlen] at hk
    by_cases hk2 : k = zss.length
    · subst hk2
      simp only [if_true]
      rw [show (zss ++ [ys])[zss.length]'(by rw [hlen]; omega) = ys by simp]
      exact ⟨hcap, hr.below hB (Nat.le_refl _)⟩
    · have hk3 : k < zss.length := by omega
      simp only [if_neg hk2]
      rw [show (zss ++ [ys])[k]'(by rw [hlen]; omega) = zss[k] from List.getElem_append_left hk3]
      exact ⟨(hrr k hk3).1, (hrr k hk3).2.below hB (Nat.le_refl _)⟩
theorem wpList_pushR {ops : Array Oper} {rest : List Oper} {o : Oper} {a : Act} {W : World} {Q : Exit → Act → World → Prop} {A : Option Addr} {n c : Nat} (hgd : o.guard = none) (s x : Operand)
    (ho : o.op = .call { callee := .builtin .append, args := #[s, x], argTypes := #[23, 23] })
    (base : Nat) (v : Value) (zss : List (List Int)) (hs : a.eval s = v) (hx : a.eval x = .slice (some ⟨W.heap.size, 0, none⟩) 1 1) (hown : OwnR W base v zss) (ys : List Int) (hn : n = ys.length)
    (hcap : n ≤ c ∧ c ≤ 9223372036854775807) (hr : IR W 0 base A ys) (hl : zss.length < 1000000)
    (h : ∀ v' w', OwnR w' base v' (zss ++ [ys]) → Below base W w' → wpList Try.prog ops Q rest (a.put o.dst v') w') : wpList Try.prog ops Q (o :: rest) a (W.alloc (.cells #[.slice A n c] 26)) := by
  have hb : Below W.heap.size W (W.alloc (.cells #[.slice A n c] 26)) := (Below.refl _ W).alloc (Nat.le_refl _) _
  refine wpList_plain hgd fun _ hK => ?_
  obtain ⟨v', w', hrun, h2, h3⟩ := run_pushR _ base v zss (hown.grow hb) W.heap.size A n c ys (by rw [World.cell?_alloc_at _ _ _ _ rfl]; rfl) hn hcap (hr.below hb hown.1) hl o.type
  unfold Oper.wp execOp
  simp only [ho, resolve, invoke, builtin, Sem.run_bind, Sem.run_pure, Result.andThen_ok, List.map_toArray, List.map_cons, List.map_nil, hs, hx, hrun]
  exact hK _ _ (h v' w' h2 (OwnI.push_of hown.1 h3))
theorem rev_snoc {rs : List (List Int)} {k m : Nat} (h : k < rs.length) (hm : m = rs.length - 1 - k) : rs.reverse.take k ++ [rs[m]'(by omega)] = rs.reverse.take (k + 1) := by
  subst hm
  rw [List.take_add_one, List.getElem?_eq_getElem (by rw [List.length_reverse]; exact h), List.getElem_reverse]; rfl
theorem rev_law {rs : List (List Int)} {n : Int} (h : shareOk rs n = true) : shareOk rs.reverse n = true ∧ shareAllL rs.reverse n = shareAllL rs n ∧ 1 ≤ shareAllL rs n := by
  obtain ⟨h1, h2, h3⟩ := all_law h
  unfold shareAllL
  rw [h1, h, if_pos rfl, if_pos rfl]
  exact ⟨rfl, h2, h3⟩

set_option maxHeartbeats 1500000 in
set_option maxRecDepth 100000 in
theorem lawFnShareAll_any (A0 : Option Addr) (c0 : Nat) (bs : List Int) (w : World) (h0 : BR w w.heap.size A0 bs) (hc : bs.length ≤ c0) (hc2 : c0 ≤ 9000000000000000000) :
    Calls Try.prog 9 #[.slice A0 bs.length c0] w fun e w' => e = .returned (.bool true) ∧ Below w.heap.size w w' := by
  by_cases hbig : (1048576 : Int) < (bs.length : Int)
  · clear h0
    go_enter Try.func9, Try.ntmps9
    go_wp2
    go_ret
    exact ⟨rfl, Below.refl _ _⟩
  have H0 := Lib.hid h0
  clear h0
  have BB := Lib.hid (Below.refl w.heap.size w)
  go_enter Try.func9, Try.ntmps9
  go_wp2_with fail
  refine (DrawShareAll_any _ _ bs _ H0.out hc hc2).mono ?_
  rintro e w1 ⟨A, c, rs, n, rfl, -, hn, iw, bb⟩
  replace BB := Lib.hid (below_then BB.out (Nat.le_refl _) bb)
  have Z := Lib.hid iw.toAll
  clear bb
  clear iw
  obtain ⟨q, hq⟩ : ∃ q, shareOk rs n = q := ⟨_, rfl⟩
  obtain ⟨x, hx⟩ : ∃ x, shareAllL rs n = x := ⟨_, rfl⟩
  have HQ := Lib.hid hq; have HX := Lib.hid hx; have HN := Lib.hid hn
  clear hq hx hn
  go_wp2_with fail
  refine (implShareAll_any _ _ rs n _ Z.out.toAll).mono ?_
  rintro e w2 ⟨rfl, bb⟩
  replace BB := Lib.hid (below_then BB.out (Nat.le_refl _) bb)
  replace Z := Lib.hid (Z.out.grow bb)
  clear bb
  rw [HX.out, HQ.out]
  go_wp2_with fail
  refine (specShareAll_any _ _ _ _ rs n _ Z.out.toAll).mono ?_
  rintro e w3 ⟨rfl, bb⟩
  replace BB := Lib.hid (below_then BB.out (Nat.le_refl _) bb)
  replace Z := Lib.hid (Z.out.grow bb)
  clear bb
  rw [HX.out, HQ.out]
  cases q with
  | false =>
    go_wp2
    go_ret
    exact ⟨rfl, BB.out⟩
  | true =>
    obtain ⟨f1, f2, f3⟩ := rev_law HQ.out
    rw [HX.out] at f2 f3
    have HR1 := Lib.hid f1; have HR2 := Lib.hid f2; have HX1 := Lib.hid f3
    clear f1 f2 f3
    have hl4 : rs.length ≤ 4 := (share_facts HQ.out).2.2.1
    go_wp2
    go_loopw [9, 10] (fun v x wr => ∃ k : Nat, k ≤ rs.length ∧ x = .int .i64 ((rs.length : Int) - 1 - (k : Int)) ∧ OwnR wr w3.heap.size v (rs.reverse.take k) ∧ Below w3.heap.size w3 wr) (fun _ x _ => (intOf x + 1).toNat)
    case atStart => exact ⟨0, Nat.zero_le _, by go_num, OwnR.made _, (Below.refl _ _).alloc (Nat.le_refl _) _⟩
    case round =>
      obtain ⟨W, hW⟩ : ∃ W, W = wr := ⟨_, rfl⟩
      subst hW
      obtain ⟨k, hk, rfl, ho, hbl⟩ := hrel
      have HO := Lib.hid ho; have HBL := Lib.hid hbl
      clear ho hbl
      by_cases hkr : k < rs.length
      · obtain ⟨m, hm⟩ : ∃ m, m = rs.length - 1 - k := ⟨_, rfl⟩
        have hmr : m < rs.length := by omega
        have HSN : Hid (rs.reverse.take k ++ [rs[m]'hmr] = rs.reverse.take (k + 1)) := rev_snoc hkr hm
        have e1 : (rs.length : Int) - 1 - (k : Int) = (m : Int) := by omega
        rw [e1]
        have m0 : (0 : Int) ≤ (m : Int) := by omega
        have hmr' : (m : Int) < (rs.length : Int) := by omega
        obtain ⟨b, off, Ak, ck, rfl, _, hcell, hcp, hrow⟩ := (Z.out.toAll.grow HBL.out).at_ hmr
        have HROW := Lib.hid hrow; have HCP := Lib.hid hcp
        clear hrow hcp
        have HM := Lib.hid hm
        clear hm e1
        have HTL : Hid ((rs.reverse.take k).length < 1000000) := by show _ < _; rw [List.length_take, List.length_reverse]; omega
        go_wp2_with (at_builtin; refine wpList_pushR rfl _ _ rfl w3.heap.size _ (rs.reverse.take k) rfl rfl HO.out rs[m] rfl HCP.out HROW.out HTL.out ?_; intro v2 w6 ho2 hb2)
        have HO2 := Lib.hid ho2; have HB2 := Lib.hid (HBL.out.trans hb2)
        clear ho2 hb2
        rw [HSN.out] at HO2
        go_wp2
        go_roundw
        case rel => exact ⟨k + 1, by omega, by have hm := HM.out; go_num, HO2.out, HB2.out⟩
        case measure => simp [intOf]
      · obtain rfl : k = rs.length := by omega
        have e1 : (rs.length : Int) - 1 - (rs.length : Int) = -1 := by omega
        have e2 : rs.reverse.take rs.length = rs.reverse := by rw [← List.length_reverse, List.take_length]
        rw [e1]
        rw [e2] at HO
        have hv4 : rs.reverse.length ≤ 4 := by rw [List.length_reverse]; exact hl4
        obtain ⟨rv, hrv⟩ : ∃ rv, rs.reverse = rv := ⟨_, rfl⟩
        rw [hrv] at HO HR1 HR2 hv4
        clear hrv
        obtain ⟨A9, c9, rfl, hirr⟩ := HO.out.irr (by omega)
        have HI := Lib.hid hirr
        replace BB := Lib.hid (below_then BB.out (Nat.le_refl _) HBL.out)
        clear hirr HO HBL e1 e2
        go_wp2_with fail
        refine (implShareAll_any _ _ rv n _ HI.out).mono ?_
        rintro e w0 ⟨rfl, bb⟩
        replace BB := Lib.hid (below_then BB.out (Nat.le_refl _) bb)
        clear bb
        rw [HR1.out, HR2.out]
        have hx1 := HX1.out
        go_wp2
        go_ret
        exact ⟨rfl, BB.out⟩
end Go.Proofs.Ytanmjaljcnihlaa
