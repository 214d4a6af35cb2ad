/-
  No cell of these rows narrows 'for every input' (looked for: loops, veiled, ifaces, maps, wideKeys, modest, calm, conditions, laid).
  DERIVED. THE GIVEN ROWS OF THIS SEAT. 5 by the template 'for every input the law returns true; each argument reads behind the call as it read before'; 0 by the template 'total and deterministic' (their statements: YtanoojpmokbiaaaTotals.lean).
  GIVEN WITH THE SEED: the statements are not yours to turn. If you find one false, say at which input.
  Laid BY PROGRAM, IN A SANDBOX (cutbox-rows.mjs): the forced cells as the released guide's own fill.sh prints them over the translation e8403b794c0ee4ab… (all of the seat's roots in one cut). By AI agents, Wed Nov 11 2026. No macro, syntax, notation, axiom, sorry.
-/
import Derived.Test.YtanoojpmokbiaaaChecked
import GoSem.Claim
import GoSem.ClaimJoined
import GoSem.ClaimMapViews
import Derived.JoinedTies
import Derived.KernelRfl
namespace Go.Proofs.Ytanoojpmokbiaaa
/- THE CELL 'sum', in the pinned program and in every row, IS THE sha256 OF THE DUMP (.gsa) THAT YtanoojpmokbiaaaProg.lean LOADS. Nothing in Lean hashes anything: it is a label: what it is worth is what the hold of that sum in a sandbox is worth. -/
noncomputable def Try.pinned : Pinned := { name := "ytanoojpmokbiaaa", sum := "e8403b794c0ee4ab3246e4407fff9daddfaa13cea748f458eb0cb8f3675bbf38", checked := Try.checked }
namespace Rows
def none {H : Type} : Left H := { results := [], args := [] }

/-- 'laws.FnExactProofCrossed': WHATEVER THE INPUT: true; the input reads as it did. -/
def fnExactProofCrossedSpec : ChangeSpec := { name := "fnExactProofCrossed", fn := fun _ => fun
  | [d] => { results := [.lit (.bool true)], args := [d] }
  | _ => none }
def fnExactProofCrossedRow : OpenClaim := { program := "ytanoojpmokbiaaa", sum := "e8403b794c0ee4ab3246e4407fff9daddfaa13cea748f458eb0cb8f3675bbf38", func := "loop.example/bentrows/laws.FnExactProofCrossed", spec := "fnExactProofCrossed", unfollowed := true, recurses := true, apart := false }
def FnExactProofCrossedSaid : Prop := fnExactProofCrossedRow.holds Try.pinned (OpenSpec.ofChange fnExactProofCrossedSpec)

/-- ITS FALSE NEIGHBOUR: 'it returns false'. Refute it at one input. -/
def fnExactProofCrossedWrong : ChangeSpec := { name := "fnExactProofCrossed", fn := fun _ => fun
  | [d] => { results := [.lit (.bool false)], args := [d] }
  | _ => none }
def FnExactProofCrossedWrongFalsely : Prop := fnExactProofCrossedRow.holds Try.pinned (OpenSpec.ofChange fnExactProofCrossedWrong)

/-- 'laws.FnProofCrossed': WHATEVER THE INPUT: true; the input reads as it did. -/
def fnProofCrossedSpec : ChangeSpec := { name := "fnProofCrossed", fn := fun _ => fun
  | [d] => { results := [.lit (.bool true)], args := [d] }
  | _ => none }
def fnProofCrossedRow : OpenClaim := { program := "ytanoojpmokbiaaa", sum := "e8403b794c0ee4ab3246e4407fff9daddfaa13cea748f458eb0cb8f3675bbf38", func := "loop.example/bentrows/laws.FnProofCrossed", spec := "fnProofCrossed", unfollowed := true, recurses := true, apart := false }
def FnProofCrossedSaid : Prop := fnProofCrossedRow.holds Try.pinned (OpenSpec.ofChange fnProofCrossedSpec)

/-- ITS FALSE NEIGHBOUR: 'it returns false'. Refute it at one input. -/
def fnProofCrossedWrong : ChangeSpec := { name := "fnProofCrossed", fn := fun _ => fun
  | [d] => { results := [.lit (.bool false)], args := [d] }
  | _ => none }
def FnProofCrossedWrongFalsely : Prop := fnProofCrossedRow.holds Try.pinned (OpenSpec.ofChange fnProofCrossedWrong)

/-- 'laws.FnCrossedOr': WHATEVER THE INPUT: true; the input reads as it did. -/
def fnCrossedOrSpec : ChangeSpec := { name := "fnCrossedOr", fn := fun _ => fun
  | [d] => { results := [.lit (.bool true)], args := [d] }
  | _ => none }
def fnCrossedOrRow : OpenClaim := { program := "ytanoojpmokbiaaa", sum := "e8403b794c0ee4ab3246e4407fff9daddfaa13cea748f458eb0cb8f3675bbf38", func := "loop.example/bentrows/laws.FnCrossedOr", spec := "fnCrossedOr", unfollowed := true, recurses := true, apart := false }
def FnCrossedOrSaid : Prop := fnCrossedOrRow.holds Try.pinned (OpenSpec.ofChange fnCrossedOrSpec)

/-- ITS FALSE NEIGHBOUR: 'it returns false'. Refute it at one input. -/
def fnCrossedOrWrong : ChangeSpec := { name := "fnCrossedOr", fn := fun _ => fun
  | [d] => { results := [.lit (.bool false)], args := [d] }
  | _ => none }
def FnCrossedOrWrongFalsely : Prop := fnCrossedOrRow.holds Try.pinned (OpenSpec.ofChange fnCrossedOrWrong)

/-- 'laws.FnExactTableBetter': WHATEVER THE INPUT: true; the input reads as it did. -/
def fnExactTableBetterSpec : ChangeSpec := { name := "fnExactTableBetter", fn := fun _ => fun
  | [d1, d2, d3] => { results := [.lit (.bool true)], args := [d1, d2, d3] }
  | _ => none }
def fnExactTableBetterRow : OpenClaim := { program := "ytanoojpmokbiaaa", sum := "e8403b794c0ee4ab3246e4407fff9daddfaa13cea748f458eb0cb8f3675bbf38", func := "loop.example/bentrows/laws.FnExactTableBetter", spec := "fnExactTableBetter", unfollowed := true, recurses := true, apart := false }
def FnExactTableBetterSaid : Prop := fnExactTableBetterRow.holds Try.pinned (OpenSpec.ofChange fnExactTableBetterSpec)

/-- ITS FALSE NEIGHBOUR: 'it returns false'. Refute it at one input. -/
def fnExactTableBetterWrong : ChangeSpec := { name := "fnExactTableBetter", fn := fun _ => fun
  | [d1, d2, d3] => { results := [.lit (.bool false)], args := [d1, d2, d3] }
  | _ => none }
def FnExactTableBetterWrongFalsely : Prop := fnExactTableBetterRow.holds Try.pinned (OpenSpec.ofChange fnExactTableBetterWrong)

/-- 'laws.FnBetter': WHATEVER THE INPUT: true; the input reads as it did. -/
def fnBetterSpec : ChangeSpec := { name := "fnBetter", fn := fun _ => fun
  | [d] => { results := [.lit (.bool true)], args := [d] }
  | _ => none }
def fnBetterRow : OpenClaim := { program := "ytanoojpmokbiaaa", sum := "e8403b794c0ee4ab3246e4407fff9daddfaa13cea748f458eb0cb8f3675bbf38", func := "loop.example/bentrows/laws.FnBetter", spec := "fnBetter", unfollowed := true, recurses := true, apart := false }
def FnBetterSaid : Prop := fnBetterRow.holds Try.pinned (OpenSpec.ofChange fnBetterSpec)

/-- ITS FALSE NEIGHBOUR: 'it returns false'. Refute it at one input. -/
def fnBetterWrong : ChangeSpec := { name := "fnBetter", fn := fun _ => fun
  | [d] => { results := [.lit (.bool false)], args := [d] }
  | _ => none }
def FnBetterWrongFalsely : Prop := fnBetterRow.holds Try.pinned (OpenSpec.ofChange fnBetterWrong)

/- THE SECOND FORM. 'bulk': how many values and letters a reading holds, each counted each time it is reached (what is shared counts as often as it is met; a slice's spare places count too). A statement '..UptoSaid' is the law's where the arguments, and the package variables that the reading takes, are together of bulk at most 1048576: NARROWER than '..Said'. Prove '..Said' where nothing that the law and all that it calls make is longer than what came in: it says more and counts as full. Else prove '..UptoSaid'. A law counts once. -/
mutual
def uptoBulk {H : Type} : DataW H → Nat
  | .lit (.string bytes) => bytes.length + 1
  | .lit _ => 1
  | .nil => 1
  | .ptr d => uptoBulk d + 1
  | .slice elems spare => uptoBulkAll elems + uptoBulkAll spare + 1
  | .agg parts => uptoBulkAll parts + 1
  | .iface _ d => uptoBulk d + 1
  | .map entries => uptoBulkEntries entries + 1
  | .held _ => 1
def uptoBulkAll {H : Type} : List (DataW H) → Nat
  | [] => 0
  | d :: r => uptoBulk d + uptoBulkAll r
def uptoBulkEntries {H : Type} : List (Lit × DataW H) → Nat
  | [] => 0
  | x :: r => uptoBulkEntry x + uptoBulkEntries r
def uptoBulkEntry {H : Type} : Lit × DataW H → Nat
  | (.string bytes, d) => bytes.length + uptoBulk d + 1
  | (_, d) => uptoBulk d + 1
 end
def uptoSmall : (H : Type) → List (DataW H) → Bool := fun _ ds => decide (uptoBulkAll ds ≤ 1048576)
def OpenSpec.upto (s : _root_.Go.ChangeSpec) : _root_.Go.OpenSpec := { _root_.Go.OpenSpec.ofChange s with cond := some uptoSmall }

/-- 'laws.FnExactProofCrossed', WHERE WHAT IT READS IS OF BULK AT MOST 1048576: true; the input reads as it did. -/
def fnExactProofCrossedUptoRow : OpenClaim := { program := "ytanoojpmokbiaaa", sum := "e8403b794c0ee4ab3246e4407fff9daddfaa13cea748f458eb0cb8f3675bbf38", func := "loop.example/bentrows/laws.FnExactProofCrossed", spec := "fnExactProofCrossed", unfollowed := true, recurses := true, apart := false, narrowed := true }
def FnExactProofCrossedUptoSaid : Prop := fnExactProofCrossedUptoRow.holds Try.pinned (OpenSpec.upto fnExactProofCrossedSpec)

/-- 'laws.FnProofCrossed', WHERE WHAT IT READS IS OF BULK AT MOST 1048576: true; the input reads as it did. -/
def fnProofCrossedUptoRow : OpenClaim := { program := "ytanoojpmokbiaaa", sum := "e8403b794c0ee4ab3246e4407fff9daddfaa13cea748f458eb0cb8f3675bbf38", func := "loop.example/bentrows/laws.FnProofCrossed", spec := "fnProofCrossed", unfollowed := true, recurses := true, apart := false, narrowed := true }
def FnProofCrossedUptoSaid : Prop := fnProofCrossedUptoRow.holds Try.pinned (OpenSpec.upto fnProofCrossedSpec)

/-- 'laws.FnCrossedOr', WHERE WHAT IT READS IS OF BULK AT MOST 1048576: true; the input reads as it did. -/
def fnCrossedOrUptoRow : OpenClaim := { program := "ytanoojpmokbiaaa", sum := "e8403b794c0ee4ab3246e4407fff9daddfaa13cea748f458eb0cb8f3675bbf38", func := "loop.example/bentrows/laws.FnCrossedOr", spec := "fnCrossedOr", unfollowed := true, recurses := true, apart := false, narrowed := true }
def FnCrossedOrUptoSaid : Prop := fnCrossedOrUptoRow.holds Try.pinned (OpenSpec.upto fnCrossedOrSpec)

/-- 'laws.FnExactTableBetter', WHERE WHAT IT READS IS OF BULK AT MOST 1048576: true; the input reads as it did. -/
def fnExactTableBetterUptoRow : OpenClaim := { program := "ytanoojpmokbiaaa", sum := "e8403b794c0ee4ab3246e4407fff9daddfaa13cea748f458eb0cb8f3675bbf38", func := "loop.example/bentrows/laws.FnExactTableBetter", spec := "fnExactTableBetter", unfollowed := true, recurses := true, apart := false, narrowed := true }
def FnExactTableBetterUptoSaid : Prop := fnExactTableBetterUptoRow.holds Try.pinned (OpenSpec.upto fnExactTableBetterSpec)

/-- 'laws.FnBetter', WHERE WHAT IT READS IS OF BULK AT MOST 1048576: true; the input reads as it did. -/
def fnBetterUptoRow : OpenClaim := { program := "ytanoojpmokbiaaa", sum := "e8403b794c0ee4ab3246e4407fff9daddfaa13cea748f458eb0cb8f3675bbf38", func := "loop.example/bentrows/laws.FnBetter", spec := "fnBetter", unfollowed := true, recurses := true, apart := false, narrowed := true }
def FnBetterUptoSaid : Prop := fnBetterUptoRow.holds Try.pinned (OpenSpec.upto fnBetterSpec)

end Rows
end Go.Proofs.Ytanoojpmokbiaaa
