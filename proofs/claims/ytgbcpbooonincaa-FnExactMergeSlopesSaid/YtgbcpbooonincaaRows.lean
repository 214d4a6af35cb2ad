/-
  No cell of these rows narrows 'for every input' (looked for: loops, veiled, ifaces, maps, wideKeys, modest, calm, conditions, laid).
  DERIVED. THE GIVEN ROWS OF THIS SEAT. 4 by the template 'for every input the law returns true; each argument reads behind the call as it read before'; 0 by the template 'total and deterministic' (their statements: YtgbcpbooonincaaTotals.lean).
  GIVEN WITH THE SEED: the statements are not yours to turn. If you find one false, say at which input.
  Laid BY PROGRAM, IN A SANDBOX (cutbox-rows.mjs): the forced cells as the released guide's own fill.sh prints them over the translation 348ae49d5cefdbc4… (all of the seat's roots in one cut). By AI agents, Wed Nov 11 2026. No macro, syntax, notation, axiom, sorry.
-/
import Derived.Test.YtgbcpbooonincaaChecked
import GoSem.Claim
import GoSem.ClaimJoined
import GoSem.ClaimMapViews
import Derived.JoinedTies
import Derived.KernelRfl
namespace Go.Proofs.Ytgbcpbooonincaa
/- THE CELL 'sum', in the pinned program and in every row, IS THE sha256 OF THE DUMP (.gsa) THAT YtgbcpbooonincaaProg.lean LOADS. Nothing in Lean hashes anything: it is a label: what it is worth is what the hold of that sum in a sandbox is worth. -/
noncomputable def Try.pinned : Pinned := { name := "ytgbcpbooonincaa", sum := "348ae49d5cefdbc41eb4d722faa453444eb4db1b240204a32b2ed7c127246e1c", checked := Try.checked }
namespace Rows
def none {H : Type} : Left H := { results := [], args := [] }

/-- 'laws.FnExactMergeSlopes': WHATEVER THE INPUT: true; the input reads as it did. -/
def fnExactMergeSlopesSpec : ChangeSpec := { name := "fnExactMergeSlopes", fn := fun _ => fun
  | [d1, d2] => { results := [.lit (.bool true)], args := [d1, d2] }
  | _ => none }
def fnExactMergeSlopesRow : OpenClaim := { program := "ytgbcpbooonincaa", sum := "348ae49d5cefdbc41eb4d722faa453444eb4db1b240204a32b2ed7c127246e1c", func := "loop.example/bentrows/laws.FnExactMergeSlopes", spec := "fnExactMergeSlopes", unfollowed := true, recurses := true, apart := false }
def FnExactMergeSlopesSaid : Prop := fnExactMergeSlopesRow.holds Try.pinned (OpenSpec.ofChange fnExactMergeSlopesSpec)

/-- ITS FALSE NEIGHBOUR: 'it returns false'. Refute it at one input. -/
def fnExactMergeSlopesWrong : ChangeSpec := { name := "fnExactMergeSlopes", fn := fun _ => fun
  | [d1, d2] => { results := [.lit (.bool false)], args := [d1, d2] }
  | _ => none }
def FnExactMergeSlopesWrongFalsely : Prop := fnExactMergeSlopesRow.holds Try.pinned (OpenSpec.ofChange fnExactMergeSlopesWrong)

/-- 'laws.FnExactMergeRest': WHATEVER THE INPUT: true; the input reads as it did. -/
def fnExactMergeRestSpec : ChangeSpec := { name := "fnExactMergeRest", fn := fun _ => fun
  | [d1, d2] => { results := [.lit (.bool true)], args := [d1, d2] }
  | _ => none }
def fnExactMergeRestRow : OpenClaim := { program := "ytgbcpbooonincaa", sum := "348ae49d5cefdbc41eb4d722faa453444eb4db1b240204a32b2ed7c127246e1c", func := "loop.example/bentrows/laws.FnExactMergeRest", spec := "fnExactMergeRest", unfollowed := true, recurses := true, apart := false }
def FnExactMergeRestSaid : Prop := fnExactMergeRestRow.holds Try.pinned (OpenSpec.ofChange fnExactMergeRestSpec)

/-- ITS FALSE NEIGHBOUR: 'it returns false'. Refute it at one input. -/
def fnExactMergeRestWrong : ChangeSpec := { name := "fnExactMergeRest", fn := fun _ => fun
  | [d1, d2] => { results := [.lit (.bool false)], args := [d1, d2] }
  | _ => none }
def FnExactMergeRestWrongFalsely : Prop := fnExactMergeRestRow.holds Try.pinned (OpenSpec.ofChange fnExactMergeRestWrong)

/-- 'laws.FnExactMergeUnit': WHATEVER THE INPUT: true; the input reads as it did. -/
def fnExactMergeUnitSpec : ChangeSpec := { name := "fnExactMergeUnit", fn := fun _ => fun
  | [d] => { results := [.lit (.bool true)], args := [d] }
  | _ => none }
def fnExactMergeUnitRow : OpenClaim := { program := "ytgbcpbooonincaa", sum := "348ae49d5cefdbc41eb4d722faa453444eb4db1b240204a32b2ed7c127246e1c", func := "loop.example/bentrows/laws.FnExactMergeUnit", spec := "fnExactMergeUnit", unfollowed := true, recurses := true, apart := false }
def FnExactMergeUnitSaid : Prop := fnExactMergeUnitRow.holds Try.pinned (OpenSpec.ofChange fnExactMergeUnitSpec)

/-- ITS FALSE NEIGHBOUR: 'it returns false'. Refute it at one input. -/
def fnExactMergeUnitWrong : ChangeSpec := { name := "fnExactMergeUnit", fn := fun _ => fun
  | [d] => { results := [.lit (.bool false)], args := [d] }
  | _ => none }
def FnExactMergeUnitWrongFalsely : Prop := fnExactMergeUnitRow.holds Try.pinned (OpenSpec.ofChange fnExactMergeUnitWrong)

/-- 'laws.FnUnit': WHATEVER THE INPUT: true; the input reads as it did. -/
def fnUnitSpec : ChangeSpec := { name := "fnUnit", fn := fun _ => fun
  | [d] => { results := [.lit (.bool true)], args := [d] }
  | _ => none }
def fnUnitRow : OpenClaim := { program := "ytgbcpbooonincaa", sum := "348ae49d5cefdbc41eb4d722faa453444eb4db1b240204a32b2ed7c127246e1c", func := "loop.example/bentrows/laws.FnUnit", spec := "fnUnit", unfollowed := true, recurses := true, apart := false }
def FnUnitSaid : Prop := fnUnitRow.holds Try.pinned (OpenSpec.ofChange fnUnitSpec)

/-- ITS FALSE NEIGHBOUR: 'it returns false'. Refute it at one input. -/
def fnUnitWrong : ChangeSpec := { name := "fnUnit", fn := fun _ => fun
  | [d] => { results := [.lit (.bool false)], args := [d] }
  | _ => none }
def FnUnitWrongFalsely : Prop := fnUnitRow.holds Try.pinned (OpenSpec.ofChange fnUnitWrong)

/- THE SECOND FORM. 'bulk': how many values and letters a reading holds, each counted each time it is reached (what is shared counts as often as it is met; a slice's spare places count too). A statement '..UptoSaid' is the law's where the arguments, and the package variables that the reading takes, are together of bulk at most 1048576: NARROWER than '..Said'. Prove '..Said' where nothing that the law and all that it calls make is longer than what came in: it says more and counts as full. Else prove '..UptoSaid'. A law counts once. -/
mutual
def uptoBulk {H : Type} : DataW H → Nat
  | .lit (.string bytes) => bytes.length + 1
  | .lit _ => 1
  | .nil => 1
  | .ptr d => uptoBulk d + 1
  | .slice elems spare => uptoBulkAll elems + uptoBulkAll spare + 1
  | .agg parts => uptoBulkAll parts + 1
  | .iface _ d => uptoBulk d + 1
  | .map entries => uptoBulkEntries entries + 1
  | .held _ => 1
def uptoBulkAll {H : Type} : List (DataW H) → Nat
  | [] => 0
  | d :: r => uptoBulk d + uptoBulkAll r
def uptoBulkEntries {H : Type} : List (Lit × DataW H) → Nat
  | [] => 0
  | x :: r => uptoBulkEntry x + uptoBulkEntries r
def uptoBulkEntry {H : Type} : Lit × DataW H → Nat
  | (.string bytes, d) => bytes.length + uptoBulk d + 1
  | (_, d) => uptoBulk d + 1
 end
def uptoSmall : (H : Type) → List (DataW H) → Bool := fun _ ds => decide (uptoBulkAll ds ≤ 1048576)
def OpenSpec.upto (s : _root_.Go.ChangeSpec) : _root_.Go.OpenSpec := { _root_.Go.OpenSpec.ofChange s with cond := some uptoSmall }

/-- 'laws.FnExactMergeSlopes', WHERE WHAT IT READS IS OF BULK AT MOST 1048576: true; the input reads as it did. -/
def fnExactMergeSlopesUptoRow : OpenClaim := { program := "ytgbcpbooonincaa", sum := "348ae49d5cefdbc41eb4d722faa453444eb4db1b240204a32b2ed7c127246e1c", func := "loop.example/bentrows/laws.FnExactMergeSlopes", spec := "fnExactMergeSlopes", unfollowed := true, recurses := true, apart := false, narrowed := true }
def FnExactMergeSlopesUptoSaid : Prop := fnExactMergeSlopesUptoRow.holds Try.pinned (OpenSpec.upto fnExactMergeSlopesSpec)

/-- 'laws.FnExactMergeRest', WHERE WHAT IT READS IS OF BULK AT MOST 1048576: true; the input reads as it did. -/
def fnExactMergeRestUptoRow : OpenClaim := { program := "ytgbcpbooonincaa", sum := "348ae49d5cefdbc41eb4d722faa453444eb4db1b240204a32b2ed7c127246e1c", func := "loop.example/bentrows/laws.FnExactMergeRest", spec := "fnExactMergeRest", unfollowed := true, recurses := true, apart := false, narrowed := true }
def FnExactMergeRestUptoSaid : Prop := fnExactMergeRestUptoRow.holds Try.pinned (OpenSpec.upto fnExactMergeRestSpec)

/-- 'laws.FnExactMergeUnit', WHERE WHAT IT READS IS OF BULK AT MOST 1048576: true; the input reads as it did. -/
def fnExactMergeUnitUptoRow : OpenClaim := { program := "ytgbcpbooonincaa", sum := "348ae49d5cefdbc41eb4d722faa453444eb4db1b240204a32b2ed7c127246e1c", func := "loop.example/bentrows/laws.FnExactMergeUnit", spec := "fnExactMergeUnit", unfollowed := true, recurses := true, apart := false, narrowed := true }
def FnExactMergeUnitUptoSaid : Prop := fnExactMergeUnitUptoRow.holds Try.pinned (OpenSpec.upto fnExactMergeUnitSpec)

/-- 'laws.FnUnit', WHERE WHAT IT READS IS OF BULK AT MOST 1048576: true; the input reads as it did. -/
def fnUnitUptoRow : OpenClaim := { program := "ytgbcpbooonincaa", sum := "348ae49d5cefdbc41eb4d722faa453444eb4db1b240204a32b2ed7c127246e1c", func := "loop.example/bentrows/laws.FnUnit", spec := "fnUnit", unfollowed := true, recurses := true, apart := false, narrowed := true }
def FnUnitUptoSaid : Prop := fnUnitUptoRow.holds Try.pinned (OpenSpec.upto fnUnitSpec)

end Rows
end Go.Proofs.Ytgbcpbooonincaa
