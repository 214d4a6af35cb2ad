/-
  The row of FnExactEvenSum, proved: for all arguments the law returns true and leaves its arguments alone. Conditions: none but those of its row.
-/
import Derived.Test.YtfiojdiogjpakaaEvenSumW
import Derived.Test.YtfiojdiogjpakaaClose
namespace Go.Proofs.Ytfiojdiogjpakaa
open Go.ChangeShapes Go.WideShapes Go.ChangeAt Go.RowKit

set_option maxRecDepth 100000 in
theorem fnExactEvenSum_lifted (os : Os) (started : os.Started) (H : Type) (enc : TypeId × Value → H) :
    ReturnsInHanded {} Try.checked os 11 .any (Rows.fnExactEvenSumSpec.pre6 enc Try.prog Try.f11 Rows.fnExactEvenSumRow.domain false) (Rows.fnExactEvenSumSpec.post enc Try.prog Try.f11 false true false false) := by
  refine returnsInHanded_of_change_sized (C := Try.checked) Try.own started (by kernel_rfl) Try.func11
    (ChangeSpec.witness6 (enc := enc) (C := Try.checked) false ⟨#[], #[.slice none 0 0, .slice none 0 0], []⟩ 8 (by kernel_rfl) (by kernel_rfl) (by kernel_rfl) (by kernel_rfl)) ?_
  intro W base args ds gs before hval0 hW _ hsz0 _
  have hsz : (DataW.weightsEach Try.prog (Try.f11.params.toList ++ Rows.fnExactEvenSumSpec.plain.varTypes Try.prog) (ds ++ gs)).all (· ≤ reachBytes) = true := hsz0
  clear hsz0
  have hval : ∀ (j : Nat) t v, Try.f11.params[j]? = some t → args[j]? = some v → Value.okWide Try.prog W .any base t v := hval0
  have hW' := hW
  obtain ⟨p, q, hA0, hV, rfl, _, _⟩ := hW
  have hA : DataW.TrodAll enc Try.prog W 0 (fun _ => true) true Try.f11.params.toList args.toList ds p := hA0
  rw [Try.params11] at hA hval hsz
  obtain ⟨v0, v1, d0, d1, p0, p1, rfl, rfl, rfl, t0, t1⟩ := trodAll_two hA
  obtain ⟨rfl, rfl⟩ := trodVars_none hV
  clear hA0 hval0
  simp only [List.append_nil] at hW'
  obtain ⟨A0, zs0, c0, rfl, hR0, ha0⟩ := open_IR hsz (j := 0) rfl rfl (hval 0 24 v0 rfl rfl) t0 (fun x hx => by simpa using hW'.lt x (by simp [hx]))
  obtain ⟨A1, zs1, c1, rfl, hR1, ha1⟩ := open_IR hsz (j := 1) rfl rfl (hval 1 24 v1 rfl rfl) t1 (fun x hx => by simpa using hW'.lt x (by simp [hx]))
  refine (lawEvenSum_any A0 c0 zs0 A1 c1 zs1 W hR0 hR1).mono fun e W' ⟨he, hb⟩ => ?_
  subst he
  exact ⟨_, rfl, _, _, _, [], _, [], hW', trodAll_mk1 (shut_bool Try.underlying4 _), trodAll_mk2 (ha0 W' hb) (ha1 W' hb), rfl, hb.frame _, fun h => by cases h⟩

theorem fnExactEvenSum_holds : Rows.FnExactEvenSumSaid :=
  OpenClaim.holds_of_wide 11 Try.f11 rfl rfl rfl rfl rfl rfl rfl ⟨rfl, rfl, rfl, rfl, rfl⟩ rfl rfl rfl rfl rfl (by kernel_rfl) Try.func11 (by kernel_rfl)
    (of_decide_eq_true (by kernel_rfl)) (by unfold Func.isWrapper; first | (rw [if_pos (by decide +kernel)]; kernel_rfl) | (rw [if_neg (by decide +kernel)]; exact ⟨rfl, rfl⟩))
    (fun os started H enc _ => fnExactEvenSum_lifted os started H enc)
#print axioms fnExactEvenSum_holds
end Go.Proofs.Ytfiojdiogjpakaa
