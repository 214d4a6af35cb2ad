/-
  The row of FnExactShareGreedy, proved: for all arguments the law returns true and leaves its arguments alone. Conditions: none but those of its row.
-/
import Derived.Test.YtanoojpmokbiaabShareGreedyW
import Derived.Test.YtanoojpmokbiaabTabA
namespace Go.Proofs.Ytanoojpmokbiaab
open Go.ChangeShapes Go.WideShapes Go.ChangeAt Go.RowKit

set_option maxRecDepth 100000 in
theorem fnExactShareGreedy_lifted (os : Os) (started : os.Started) (H : Type) (enc : TypeId × Value → H) :
    ReturnsInHanded {} Try.checked os 3 .any (Rows.fnExactShareGreedySpec.pre6 enc Try.prog Try.f3 Rows.fnExactShareGreedyRow.domain false) (Rows.fnExactShareGreedySpec.post enc Try.prog Try.f3 false true false false) := by
  refine returnsInHanded_of_change_sized (C := Try.checked) Try.own started (by kernel_rfl) Try.func3
    (ChangeSpec.witness6 (enc := enc) (C := Try.checked) false ⟨#[], #[.slice none 0 0, .int .i64 0], []⟩ 8 (by kernel_rfl) (by kernel_rfl) (by kernel_rfl) (by kernel_rfl)) ?_
  intro W base args ds gs before hval0 hW _ hsz0 _
  have hsz : (DataW.weightsEach Try.prog (Try.f3.params.toList ++ Rows.fnExactShareGreedySpec.plain.varTypes Try.prog) (ds ++ gs)).all (· ≤ reachBytes) = true := hsz0
  clear hsz0
  have hval : ∀ (j : Nat) t v, Try.f3.params[j]? = some t → args[j]? = some v → Value.okWide Try.prog W .any base t v := hval0
  have hW' := hW
  obtain ⟨p, q, hA0, hV, rfl, _, _⟩ := hW
  have hA : DataW.TrodAll enc Try.prog W 0 (fun _ => true) true Try.f3.params.toList args.toList ds p := hA0
  rw [Try.params3] at hA hval hsz
  obtain ⟨v0, v1, d0, d1, p0, p1, rfl, rfl, rfl, t0, t1⟩ := trodAll_two hA
  obtain ⟨rfl, rfl⟩ := trodVars_none hV
  clear hA0 hval0
  obtain ⟨x1, rfl, rfl, rfl, wx1⟩ := open_int Try.underlying3 (hval 1 3 v1 rfl rfl) t1
  simp only [List.append_nil] at hW'
  obtain ⟨A0, t0L, c0, rfl, hR0, ha0⟩ := open_IRR hsz (j := 0) rfl rfl (hval 0 22 v0 rfl rfl) t0 (fun x hx => by simpa using hW'.lt x (by simp [hx]))
  refine (lawShareGreedy_any A0 c0 t0L x1 W hR0 (i64_of_wf wx1)).mono fun e W' ⟨he, hb⟩ => ?_
  subst he
  exact ⟨_, rfl, _, _, _, [], _, [], hW', trodAll_mk1 (shut_bool Try.underlying4 _), trodAll_mk2 (ha0 W' hb) (shut_int Try.underlying3 wx1), rfl, hb.frame _, fun h => by cases h⟩

theorem fnExactShareGreedy_holds : Rows.FnExactShareGreedySaid :=
  OpenClaim.holds_of_wide 3 Try.f3 rfl rfl rfl rfl rfl rfl rfl ⟨rfl, rfl, rfl, rfl, rfl⟩ rfl rfl rfl rfl rfl (by kernel_rfl) Try.func3 (by kernel_rfl)
    (of_decide_eq_true (by kernel_rfl)) (by unfold Func.isWrapper; first | (rw [if_pos (by decide +kernel)]; kernel_rfl) | (rw [if_neg (by decide +kernel)]; exact ⟨rfl, rfl⟩))
    (fun os started H enc _ => fnExactShareGreedy_lifted os started H enc)
#print axioms fnExactShareGreedy_holds
end Go.Proofs.Ytanoojpmokbiaab
