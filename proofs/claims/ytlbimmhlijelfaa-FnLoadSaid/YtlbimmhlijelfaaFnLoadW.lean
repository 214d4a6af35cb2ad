/-
  The law FnLoad walked: for all codes it returns true, and nothing that lay before has turned. Conditions: none but those of its row.
-/
import Derived.Test.YtlbimmhlijelfaaDTl
import Derived.Test.YtlbimmhlijelfaaLdX
import Derived.Test.YtlbimmhlijelfaaLdR
import Derived.Test.YtlbimmhlijelfaaTbK
import Derived.Test.YtlbimmhlijelfaaLawR
import Derived.Test.YtlbimmhlijelfaaSame
import Derived.Test.YtlbimmhlijelfaaTotal
namespace Go.Proofs.Ytlbimmhlijelfaa
open Go.RowKit

theorem tot_few {zs : List Int} (h : ∀ z, z ∈ zs → 0 ≤ z ∧ z ≤ 1000) (hl : zs.length ≤ 1000000) : totW zs = zs.sum := by
  have key : ∀ k, k ≤ zs.length → totW (zs.take k) = (zs.take k).sum ∧ 0 ≤ (zs.take k).sum ∧ (zs.take k).sum ≤ 1000 * (k : Int) := by
    intro k
    induction k with
    | zero => intro _; simp [totW]
    | succ k ih =>
      intro hk
      obtain ⟨i1, i2, i3⟩ := ih (by omega)
      have hb := h zs[k] (List.getElem_mem (by omega))
      rw [← take_snoc zs k (by omega), totW_snoc, List.sum_append, i1]
      simp only [List.sum_cons, List.sum_nil, Int.add_zero]
      refine ⟨?_, by omega, by push_cast; omega⟩
      unfold wrap64
      omega
  have := (key zs.length (Nat.le_refl _)).1
  rwa [List.take_length] at this
theorem sum_range (f : Nat → Int) : ∀ m, ((List.range m).map f).sum = sumN f m := by
  intro m
  induction m with
  | zero => rfl
  | succ m ih => rw [List.range_succ, List.map_append, List.sum_append, ih, sumN]; simp
theorem sumTo_le {a : List Int} (h : Up (sumTo a)) {i : Nat} (hi : i ≤ a.length) : sumTo a i ≤ sumTo a a.length := h.le hi
theorem load_tots {t : List (List Int)} {a b : List Int} (h : amountsB t a b = true) : (∀ i (hi : i < (loadL a b).length) (hj : i < a.length), totW (loadL a b)[i] = a[i]) ∧
    ∀ k (hk : k < (acrossL (loadL a b) t.length (colsN t)).length) (hj : k < b.length), totW (acrossL (loadL a b) t.length (colsN t))[k] = b[k] := by
  obtain ⟨tt, ea, eb, fa, fb, es⟩ := amounts_true h
  obtain ⟨-, bn, bm, -⟩ := table_sh tt
  obtain ⟨upA, dA⟩ := am9_up fa
  obtain ⟨upB, dB⟩ := am9_up fb
  have hbd : ∀ i k, 0 ≤ loadF (sumTo a) (sumTo b) i k ∧ loadF (sumTo a) (sumTo b) i k ≤ 9 := fun i k => by
    have := loadF_bd upA upB i k; have := dA i; omega
  refine ⟨fun i hi hj => ?_, fun k hk hj => ?_⟩
  · have e : (loadL a b)[i] = (List.range b.length).map (loadF (sumTo a) (sumTo b) i) := by simp [loadL, tabL]
    rw [e, tot_few (fun z hz => by
      obtain ⟨k, -, rfl⟩ := List.mem_map.1 hz
      have := hbd i k; omega) (by simp; omega), sum_range, load_rows upA upB (by exact Int.le_refl _) (by
      rw [show sumTo b b.length = sumTo a a.length by rw [sumTo_all, sumTo_all, es]]
      exact upA.le (show i + 1 ≤ a.length by omega)), sumTo_succ a i hj]
    omega
  · have e : (acrossL (loadL a b) t.length (colsN t))[k] = (List.range t.length).map (fun i => ent (loadL a b) i k) := by simp [acrossL, tabL]
    have e2 : (List.range t.length).map (fun i => ent (loadL a b) i k) = (List.range a.length).map (loadF (sumTo b) (sumTo a) k) := by
      rw [ea]
      refine List.map_congr_left fun i hi => ?_
      have := List.mem_range.1 hi
      unfold loadL
      rw [tab_ent _ (by omega) hj, load_turn]
    rw [e, e2, tot_few (fun z hz => by
      obtain ⟨i, -, rfl⟩ := List.mem_map.1 hz
      rw [load_turn]; have := hbd i k; omega) (by simp; omega), sum_range, load_rows upB upA (by exact Int.le_refl _) (by
      rw [show sumTo a a.length = sumTo b b.length by rw [sumTo_all, sumTo_all, es]]
      exact upB.le (show k + 1 ≤ b.length by omega)), sumTo_succ b k hj]
    omega
theorem load_cost {t : List (List Int)} {a b : List Int} (h : amountsB t a b = true) : ∃ x, costTM t (loadL a b) = some x := by
  obtain ⟨h1, h2, h3⟩ := load_table h
  obtain ⟨tt, -, -, -, -, -⟩ := amounts_true h
  obtain ⟨-, bn, bm, -⟩ := table_sh tt
  refine ⟨costF (ent t) (ent (loadL a b)) t.length (colsN t), ?_⟩
  unfold costTM
  rw [if_pos]
  have hc : colsN (loadL a b) = colsN t := h2.row (by omega)
  have h6 : ((loadL a b).all fun r => r.all fun x => decide (0 ≤ x ∧ x ≤ 9)) = true := by
    rw [List.all_eq_true]
    intro r hr
    obtain ⟨i, hi, rfl⟩ := List.getElem_of_mem hr
    rw [List.all_eq_true]
    intro x hx
    obtain ⟨k, hk, rfl⟩ := List.getElem_of_mem hx
    have := h3 i k (by rw [← h2.1]; exact hi) (by rw [← h2.2 _ hr]; exact hk)
    rw [ent_get hi hk] at this
    rw [decide_eq_true_eq]; exact this
  rw [tt, h1, h6, h2.1, hc]
  simp
theorem implCost_of {o : Option Int} {n m lo hi lo' hi' : Nat} (A : Option Addr) (c : Nat) (t : List (List Int)) (A2 : Option Addr) (c2 : Nat) (l : List (List Int)) (w : World) (h : IRR w lo hi A t) (h2 : IRR w lo' hi' A2 l) (ho : costTM t l = o) (hn : n = t.length) (hm : m = l.length) :
    Calls Try.prog 31 #[.slice A n c, .slice A2 m c2] w fun e w' => e = .returned (.tuple #[.int .i64 (o.getD 0), .bool o.isSome]) ∧ Below w.heap.size w w' := by subst hn; subst hm; subst ho; exact implTableCost_any A c t A2 c2 l w h.toAll h2.toAll

set_option maxHeartbeats 3000000 in
set_option maxRecDepth 100000 in
theorem lawFnLoad_any (A0 : Option Addr) (c0 : Nat) (bs : List Int) (w : World) (h0 : BR w w.heap.size A0 bs) (hc : bs.length ≤ c0) (hc2 : c0 ≤ 9000000000000000000) :
    Calls Try.prog 8 #[.slice A0 bs.length c0] w fun e w' => e = .returned (.bool true) ∧ Below w.heap.size w w' := by
  by_cases hbig : (1048576 : Int) < (bs.length : Int)
  · clear h0
    go_enter Try.func8, Try.ntmps8
    go_wp2
    go_ret
    exact ⟨rfl, Below.refl _ _⟩
  have H0 := Lib.hid h0
  clear h0
  have BB := Lib.hid (Below.refl w.heap.size w)
  go_enter Try.func8, Try.ntmps8
  go_wp2_with fail
  refine (DrawTableLoad_any _ _ bs _ H0.out hc hc2).mono ?_
  rintro e w1 ⟨A, n1, c, t, A2, n2, c2, xs, A3, n3, c3, ys, rfl, l1, l2, l3, -, -, -, i1, i2, i3, bb⟩
  subst l1; subst l2; subst l3
  replace BB := Lib.hid (below_then BB.out (Nat.le_refl _) bb)
  have Z := Lib.hid i1; have X := Lib.hid i2; have Y := Lib.hid i3
  clear bb i1 i2 i3
  go_wp2_with fail
  refine (implTableLoad_any _ _ t _ _ xs _ _ ys _ Z.out X.out Y.out).mono ?_
  rintro e w2 ⟨A4, c4, rfl, -, iw, bb⟩
  replace BB := Lib.hid (below_then BB.out (Nat.le_refl _) bb)
  replace Z := Lib.hid (Z.out.grow bb).toAll; replace X := Lib.hid (X.out.grow bb); replace Y := Lib.hid (Y.out.grow bb)
  have G := Lib.hid iw.toIRR.toAll
  clear bb iw
  go_wp2_with fail
  refine (specTableLoad_any _ _ _ _ t _ _ _ _ xs _ _ _ _ ys _ Z.out X.out Y.out).mono ?_
  rintro e w3 ⟨A5, c5, rfl, -, iw, bb⟩
  replace BB := Lib.hid (below_then BB.out (Nat.le_refl _) bb)
  replace Z := Lib.hid (Z.out.grow bb).toAll; replace X := Lib.hid (X.out.grow bb); replace Y := Lib.hid (Y.out.grow bb); replace G := Lib.hid (G.out.grow bb).toAll
  have V := Lib.hid iw.toIRR.toAll
  clear bb iw
  obtain ⟨p, hp⟩ : ∃ p, amountsB t xs ys = p := ⟨_, rfl⟩
  cases p with
  | false =>
    have hm' : loadM t xs ys = none := by unfold loadM; rw [hp]; rfl
    rw [hm'] at G V
    rw [hm']
    clear hp hm'
    replace G : Hid (IRR w3 _ _ A4 []) := G
    replace V : Hid (IRR w3 _ _ A5 []) := V
    go_wp2_with fail
    refine (sameRows_b _ _ _ _ _ _ _ _ _ _ [] _ G.out V.out rfl rfl).mono ?_
    rintro e w4 ⟨rfl, bb⟩
    replace BB := Lib.hid (below_then BB.out (Nat.le_refl _) bb)
    replace G := Lib.hid (G.out.grow bb)
    replace V := Lib.hid (V.out.grow bb)
    clear bb
    go_wp2_with fail
    refine (sameRows_b _ _ _ _ _ _ _ _ _ _ [] _ G.out V.out rfl rfl).mono ?_
    rintro e w5 ⟨rfl, bb⟩
    replace BB := Lib.hid (below_then BB.out (Nat.le_refl _) bb)
    clear bb
    go_wp2
    go_ret
    exact ⟨rfl, BB.out⟩
  | true =>
    have hm' : loadM t xs ys = some (loadL xs ys) := by unfold loadM; rw [if_pos hp]
    obtain ⟨tots, totc⟩ := load_tots hp
    obtain ⟨h1, h2, h3⟩ := load_table hp
    obtain ⟨tt, ea, eb, -, -, -⟩ := amounts_true hp
    obtain ⟨-, bn, bm, -⟩ := table_sh tt
    obtain ⟨cst, hcst⟩ := load_cost hp
    rw [hm'] at G V
    rw [hm']
    rw [show (some (loadL xs ys)).getD [] = loadL xs ys from rfl] at G V
    rw [show (some (loadL xs ys)).getD [] = loadL xs ys from rfl]
    obtain ⟨out, hout⟩ : ∃ o, loadL xs ys = o := ⟨_, rfl⟩
    rw [hout] at G V tots totc h1 h2 h3 hcst
    rw [hout]
    obtain ⟨n, hn⟩ : ∃ n, t.length = n := ⟨_, rfl⟩
    obtain ⟨m, hm⟩ : ∃ m, colsN t = m := ⟨_, rfl⟩
    rw [hn, hm] at totc h2
    rw [hn] at ea bn
    rw [hm] at eb bm
    have HOL := Lib.hid h2.1
    have HOC : Hid (colsN out = m) := Lib.hid (h2.row (by omega))
    have HEA := Lib.hid ea; have HEB := Lib.hid eb; have HTS := Lib.hid tots; have HTC := Lib.hid totc; have HTO := Lib.hid h1; have HCS := Lib.hid hcst; have HN := Lib.hid hn
    obtain ⟨ao, hao⟩ : ∃ x, acrossL out n m = x := ⟨_, rfl⟩
    rw [hao] at HTC
    have HAL : Hid (ao.length = m) := Lib.hid (by rw [← hao]; exact (tab_sh _ _ _).1)
    have HAO := Lib.hid hao
    clear hp hm' tots totc h1 h2 h3 tt hcst hout hn hm hao ea eb
    go_wp2_with fail
    refine (sameRows_b _ _ _ _ _ _ _ _ _ _ out _ G.out V.out rfl rfl).mono ?_
    rintro e w4 ⟨rfl, bb⟩
    replace BB := Lib.hid (below_then BB.out (Nat.le_refl _) bb)
    replace Z := Lib.hid (Z.out.grow bb); replace X := Lib.hid (X.out.grow bb); replace Y := Lib.hid (Y.out.grow bb); replace G := Lib.hid (G.out.grow bb)
    clear bb V
    go_wp2_with fail
    refine (across_any _ _ _ _ _ _ out _ G.out HTO.out rfl rfl).mono ?_
    rintro e w5 ⟨A6, c6, rfl, -, iw, bb⟩
    replace BB := Lib.hid (below_then BB.out (Nat.le_refl _) bb)
    replace Z := Lib.hid (Z.out.grow bb).toAll; replace X := Lib.hid (X.out.grow bb); replace Y := Lib.hid (Y.out.grow bb); replace G := Lib.hid (G.out.grow bb).toAll
    have K := Lib.hid iw.toIRR.toAll
    clear bb iw
    rw [HOL.out, HOC.out, HAO.out] at K
    rw [HOL.out, HOC.out, HAO.out, HEA.out, HEB.out, HAL.out]
    go_wp2
    go_loopw [11] (fun x wr => ∃ i : Nat, i ≤ n ∧ x = .int .i64 (i : Int) ∧ Dr w5 wr) (fun x _ => n - (intOf x).toNat)
    case atStart => exact ⟨0, Nat.zero_le _, rfl, Dr.refl _⟩
    case round =>
      obtain ⟨W, hW⟩ : ∃ W, W = wr := ⟨_, rfl⟩
      subst hW
      obtain ⟨i, hi, rfl, hd⟩ := hrel
      by_cases hlt : i < n
      · have hlt' : (i : Int) < (n : Int) := by omega
        have i0 : (0 : Int) ≤ (i : Int) := by omega
        have hio : i < out.length := by rw [HOL.out]; exact hlt
        have hix : i < xs.length := by rw [HEA.out]; exact hlt
        have hto := HTS.out i hio hix
        have HOG := hd.irr G.out
        obtain ⟨b1, o1, Ak, ck, hA1, -, hc1, -, hr1⟩ := HOG.at_ hio
        obtain ⟨b2, o2, hA2, -, -, hc2⟩ := (hd.ir X.out).at_ hix
        obtain ⟨L, hL⟩ : ∃ L, (out[i]'hio).length = L := ⟨_, rfl⟩
        rw [hL] at hc1
        have HTT : Hid (∀ m c, Calls Try.prog 29 #[.slice Ak L c] (W.drewN m) fun e w' => e = .returned (.int .i64 (xs[i]'hix)) ∧ w' = W.drewN m) := Lib.hid fun m c => by
          rw [← hto]; exact total_any Ak L c _ _ _ _ (hr1.drewN m) hL.symm
        obtain ⟨x, hx⟩ : ∃ x, xs[i]'hix = x := ⟨_, rfl⟩
        rw [hx] at hc2 HTT
        have HD := Lib.hid hd
        clear hto hr1 hx hL HOG hd
        subst hA1; subst hA2
        go_wp2
        go_quiet ((go_at_call 29; exact Calls.quiet_of_same (HTT.out _ _)))
        go_wp2
        go_roundw
        case rel => exact ⟨i + 1, by omega, by go_num, HD.out.more _⟩
        case measure => simp [intOf]; omega
      · obtain rfl : i = n := by omega
        have hlt' : ¬ (i : Int) < (i : Int) := by omega
        have HD := Lib.hid hd
        clear hd
        go_wp2
        go_loopw [12] (fun x wr => ∃ k : Nat, k ≤ m ∧ x = .int .i64 (k : Int) ∧ Dr w5 wr) (fun x _ => m - (intOf x).toNat)
        case atStart => exact ⟨0, Nat.zero_le _, rfl, HD.out⟩
        case round =>
          obtain ⟨U, hU⟩ : ∃ U, U = wr := ⟨_, rfl⟩
          subst hU
          obtain ⟨k, hk, rfl, hd⟩ := hrel
          by_cases hlt : k < m
          · have hlk : (k : Int) < (m : Int) := by omega
            have k0 : (0 : Int) ≤ (k : Int) := by omega
            have hio : k < ao.length := by rw [HAL.out]; exact hlt
            have hix : k < ys.length := by rw [HEB.out]; exact hlt
            have hto := HTC.out k hio hix
            have HOG := hd.irr K.out
            obtain ⟨b1, o1, Ak, ck, hA1, -, hc1, -, hr1⟩ := HOG.at_ hio
            obtain ⟨b2, o2, hA2, -, -, hc2⟩ := (hd.ir Y.out).at_ hix
            obtain ⟨L, hL⟩ : ∃ L, (ao[k]'hio).length = L := ⟨_, rfl⟩
            rw [hL] at hc1
            have HTT : Hid (∀ m c, Calls Try.prog 29 #[.slice Ak L c] (U.drewN m) fun e w' => e = .returned (.int .i64 (ys[k]'hix)) ∧ w' = U.drewN m) := Lib.hid fun m c => by
              rw [← hto]; exact total_any Ak L c _ _ _ _ (hr1.drewN m) hL.symm
            obtain ⟨x, hx⟩ : ∃ x, ys[k]'hix = x := ⟨_, rfl⟩
            rw [hx] at hc2 HTT
            have HD2 := Lib.hid hd
            clear hto hr1 hx hL HOG hd
            subst hA1; subst hA2
            go_wp2
            go_quiet ((go_at_call 29; exact Calls.quiet_of_same (HTT.out _ _)))
            go_wp2
            go_roundw
            case rel => exact ⟨k + 1, by omega, by go_num, HD2.out.more _⟩
            case measure => simp [intOf]; omega
          · obtain rfl : k = m := by omega
            have hlk : ¬ (k : Int) < (k : Int) := by omega
            have HD2 := Lib.hid hd
            have bb5 := hd.below
            clear hd
            have Z2 := Lib.hid (HD2.out.irr Z.out); have G2 := Lib.hid (HD2.out.irr G.out)
            go_wp2_with fail
            refine (implCost_of _ _ t _ _ out _ Z2.out G2.out HCS.out rfl HOL.out.symm).mono ?_
            rintro e w7 ⟨rfl, bb⟩
            have hs5 := BB.out.size
            replace BB := Lib.hid (below_then (BB.out.trans (bb5.mono hs5)) (Nat.le_refl _) bb)
            clear bb bb5
            go_wp2
            go_ret
            exact ⟨rfl, BB.out⟩
end Go.Proofs.Ytlbimmhlijelfaa
