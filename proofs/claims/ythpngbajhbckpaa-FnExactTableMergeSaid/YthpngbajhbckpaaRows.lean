/-
  No cell of these rows narrows 'for every input' (looked for: loops, veiled, ifaces, maps, wideKeys, modest, calm, conditions, laid).
  DERIVED. THE GIVEN ROWS OF THIS SEAT. 9 by the template 'for every input the law returns true; each argument reads behind the call as it read before'; 0 by the template 'total and deterministic' (their statements: YthpngbajhbckpaaTotals.lean).
  GIVEN WITH THE SEED: the statements are not yours to turn. If you find one false, say at which input.
  Laid BY PROGRAM, IN A SANDBOX (cutbox-rows.mjs): the forced cells as the released guide's own fill.sh prints them over the translation 5bc4033268567cec… (all of the seat's roots in one cut). By AI agents, Wed Nov 11 2026. No macro, syntax, notation, axiom, sorry.
-/
import Derived.Test.YthpngbajhbckpaaChecked
import GoSem.Claim
import GoSem.ClaimJoined
import GoSem.ClaimMapViews
import Derived.JoinedTies
import Derived.KernelRfl
namespace Go.Proofs.Ythpngbajhbckpaa
/- THE CELL 'sum', in the pinned program and in every row, IS THE sha256 OF THE DUMP (.gsa) THAT YthpngbajhbckpaaProg.lean LOADS. Nothing in Lean hashes anything: it is a label: what it is worth is what the hold of that sum in a sandbox is worth. -/
noncomputable def Try.pinned : Pinned := { name := "ythpngbajhbckpaa", sum := "5bc4033268567cec9b4044e6e564cd123176b4945b92bb6fbc6ce4dc4f7ec30b", checked := Try.checked }
namespace Rows
def none {H : Type} : Left H := { results := [], args := [] }

/-- 'laws.FnExactTableCrossed': WHATEVER THE INPUT: true; the input reads as it did. -/
def fnExactTableCrossedSpec : ChangeSpec := { name := "fnExactTableCrossed", fn := fun _ => fun
  | [d] => { results := [.lit (.bool true)], args := [d] }
  | _ => none }
def fnExactTableCrossedRow : OpenClaim := { program := "ythpngbajhbckpaa", sum := "5bc4033268567cec9b4044e6e564cd123176b4945b92bb6fbc6ce4dc4f7ec30b", func := "loop.example/bentrows/laws.FnExactTableCrossed", spec := "fnExactTableCrossed", unfollowed := true, recurses := true, apart := false }
def FnExactTableCrossedSaid : Prop := fnExactTableCrossedRow.holds Try.pinned (OpenSpec.ofChange fnExactTableCrossedSpec)

/-- ITS FALSE NEIGHBOUR: 'it returns false'. Refute it at one input. -/
def fnExactTableCrossedWrong : ChangeSpec := { name := "fnExactTableCrossed", fn := fun _ => fun
  | [d] => { results := [.lit (.bool false)], args := [d] }
  | _ => none }
def FnExactTableCrossedWrongFalsely : Prop := fnExactTableCrossedRow.holds Try.pinned (OpenSpec.ofChange fnExactTableCrossedWrong)

/-- 'laws.FnExactTableOf': WHATEVER THE INPUT: true; the input reads as it did. -/
def fnExactTableOfSpec : ChangeSpec := { name := "fnExactTableOf", fn := fun _ => fun
  | [d1, d2, d3] => { results := [.lit (.bool true)], args := [d1, d2, d3] }
  | _ => none }
def fnExactTableOfRow : OpenClaim := { program := "ythpngbajhbckpaa", sum := "5bc4033268567cec9b4044e6e564cd123176b4945b92bb6fbc6ce4dc4f7ec30b", func := "loop.example/bentrows/laws.FnExactTableOf", spec := "fnExactTableOf", unfollowed := true, recurses := true, apart := false }
def FnExactTableOfSaid : Prop := fnExactTableOfRow.holds Try.pinned (OpenSpec.ofChange fnExactTableOfSpec)

/-- ITS FALSE NEIGHBOUR: 'it returns false'. Refute it at one input. -/
def fnExactTableOfWrong : ChangeSpec := { name := "fnExactTableOf", fn := fun _ => fun
  | [d1, d2, d3] => { results := [.lit (.bool false)], args := [d1, d2, d3] }
  | _ => none }
def FnExactTableOfWrongFalsely : Prop := fnExactTableOfRow.holds Try.pinned (OpenSpec.ofChange fnExactTableOfWrong)

/-- 'laws.FnExactTableLeast': WHATEVER THE INPUT: true; the input reads as it did. -/
def fnExactTableLeastSpec : ChangeSpec := { name := "fnExactTableLeast", fn := fun _ => fun
  | [d] => { results := [.lit (.bool true)], args := [d] }
  | _ => none }
def fnExactTableLeastRow : OpenClaim := { program := "ythpngbajhbckpaa", sum := "5bc4033268567cec9b4044e6e564cd123176b4945b92bb6fbc6ce4dc4f7ec30b", func := "loop.example/bentrows/laws.FnExactTableLeast", spec := "fnExactTableLeast", unfollowed := true, recurses := true, apart := false }
def FnExactTableLeastSaid : Prop := fnExactTableLeastRow.holds Try.pinned (OpenSpec.ofChange fnExactTableLeastSpec)

/-- ITS FALSE NEIGHBOUR: 'it returns false'. Refute it at one input. -/
def fnExactTableLeastWrong : ChangeSpec := { name := "fnExactTableLeast", fn := fun _ => fun
  | [d] => { results := [.lit (.bool false)], args := [d] }
  | _ => none }
def FnExactTableLeastWrongFalsely : Prop := fnExactTableLeastRow.holds Try.pinned (OpenSpec.ofChange fnExactTableLeastWrong)

/-- 'laws.FnExactTableQuick': WHATEVER THE INPUT: true; the input reads as it did. -/
def fnExactTableQuickSpec : ChangeSpec := { name := "fnExactTableQuick", fn := fun _ => fun
  | [d] => { results := [.lit (.bool true)], args := [d] }
  | _ => none }
def fnExactTableQuickRow : OpenClaim := { program := "ythpngbajhbckpaa", sum := "5bc4033268567cec9b4044e6e564cd123176b4945b92bb6fbc6ce4dc4f7ec30b", func := "loop.example/bentrows/laws.FnExactTableQuick", spec := "fnExactTableQuick", unfollowed := true, recurses := true, apart := false }
def FnExactTableQuickSaid : Prop := fnExactTableQuickRow.holds Try.pinned (OpenSpec.ofChange fnExactTableQuickSpec)

/-- ITS FALSE NEIGHBOUR: 'it returns false'. Refute it at one input. -/
def fnExactTableQuickWrong : ChangeSpec := { name := "fnExactTableQuick", fn := fun _ => fun
  | [d] => { results := [.lit (.bool false)], args := [d] }
  | _ => none }
def FnExactTableQuickWrongFalsely : Prop := fnExactTableQuickRow.holds Try.pinned (OpenSpec.ofChange fnExactTableQuickWrong)

/-- 'laws.FnExactTableMerge': WHATEVER THE INPUT: true; the input reads as it did. -/
def fnExactTableMergeSpec : ChangeSpec := { name := "fnExactTableMerge", fn := fun _ => fun
  | [d1, d2] => { results := [.lit (.bool true)], args := [d1, d2] }
  | _ => none }
def fnExactTableMergeRow : OpenClaim := { program := "ythpngbajhbckpaa", sum := "5bc4033268567cec9b4044e6e564cd123176b4945b92bb6fbc6ce4dc4f7ec30b", func := "loop.example/bentrows/laws.FnExactTableMerge", spec := "fnExactTableMerge", unfollowed := true, recurses := true, apart := false }
def FnExactTableMergeSaid : Prop := fnExactTableMergeRow.holds Try.pinned (OpenSpec.ofChange fnExactTableMergeSpec)

/-- ITS FALSE NEIGHBOUR: 'it returns false'. Refute it at one input. -/
def fnExactTableMergeWrong : ChangeSpec := { name := "fnExactTableMerge", fn := fun _ => fun
  | [d1, d2] => { results := [.lit (.bool false)], args := [d1, d2] }
  | _ => none }
def FnExactTableMergeWrongFalsely : Prop := fnExactTableMergeRow.holds Try.pinned (OpenSpec.ofChange fnExactTableMergeWrong)

/-- 'laws.FnExactTableMatch': WHATEVER THE INPUT: true; the input reads as it did. -/
def fnExactTableMatchSpec : ChangeSpec := { name := "fnExactTableMatch", fn := fun _ => fun
  | [d] => { results := [.lit (.bool true)], args := [d] }
  | _ => none }
def fnExactTableMatchRow : OpenClaim := { program := "ythpngbajhbckpaa", sum := "5bc4033268567cec9b4044e6e564cd123176b4945b92bb6fbc6ce4dc4f7ec30b", func := "loop.example/bentrows/laws.FnExactTableMatch", spec := "fnExactTableMatch", unfollowed := true, recurses := true, apart := false }
def FnExactTableMatchSaid : Prop := fnExactTableMatchRow.holds Try.pinned (OpenSpec.ofChange fnExactTableMatchSpec)

/-- ITS FALSE NEIGHBOUR: 'it returns false'. Refute it at one input. -/
def fnExactTableMatchWrong : ChangeSpec := { name := "fnExactTableMatch", fn := fun _ => fun
  | [d] => { results := [.lit (.bool false)], args := [d] }
  | _ => none }
def FnExactTableMatchWrongFalsely : Prop := fnExactTableMatchRow.holds Try.pinned (OpenSpec.ofChange fnExactTableMatchWrong)

/-- 'laws.FnExactTableLoad': WHATEVER THE INPUT: true; the input reads as it did. -/
def fnExactTableLoadSpec : ChangeSpec := { name := "fnExactTableLoad", fn := fun _ => fun
  | [d1, d2, d3] => { results := [.lit (.bool true)], args := [d1, d2, d3] }
  | _ => none }
def fnExactTableLoadRow : OpenClaim := { program := "ythpngbajhbckpaa", sum := "5bc4033268567cec9b4044e6e564cd123176b4945b92bb6fbc6ce4dc4f7ec30b", func := "loop.example/bentrows/laws.FnExactTableLoad", spec := "fnExactTableLoad", unfollowed := true, recurses := true, apart := false }
def FnExactTableLoadSaid : Prop := fnExactTableLoadRow.holds Try.pinned (OpenSpec.ofChange fnExactTableLoadSpec)

/-- ITS FALSE NEIGHBOUR: 'it returns false'. Refute it at one input. -/
def fnExactTableLoadWrong : ChangeSpec := { name := "fnExactTableLoad", fn := fun _ => fun
  | [d1, d2, d3] => { results := [.lit (.bool false)], args := [d1, d2, d3] }
  | _ => none }
def FnExactTableLoadWrongFalsely : Prop := fnExactTableLoadRow.holds Try.pinned (OpenSpec.ofChange fnExactTableLoadWrong)

/-- 'laws.FnExactTableCost': WHATEVER THE INPUT: true; the input reads as it did. -/
def fnExactTableCostSpec : ChangeSpec := { name := "fnExactTableCost", fn := fun _ => fun
  | [d1, d2] => { results := [.lit (.bool true)], args := [d1, d2] }
  | _ => none }
def fnExactTableCostRow : OpenClaim := { program := "ythpngbajhbckpaa", sum := "5bc4033268567cec9b4044e6e564cd123176b4945b92bb6fbc6ce4dc4f7ec30b", func := "loop.example/bentrows/laws.FnExactTableCost", spec := "fnExactTableCost", unfollowed := true, recurses := true, apart := false }
def FnExactTableCostSaid : Prop := fnExactTableCostRow.holds Try.pinned (OpenSpec.ofChange fnExactTableCostSpec)

/-- ITS FALSE NEIGHBOUR: 'it returns false'. Refute it at one input. -/
def fnExactTableCostWrong : ChangeSpec := { name := "fnExactTableCost", fn := fun _ => fun
  | [d1, d2] => { results := [.lit (.bool false)], args := [d1, d2] }
  | _ => none }
def FnExactTableCostWrongFalsely : Prop := fnExactTableCostRow.holds Try.pinned (OpenSpec.ofChange fnExactTableCostWrong)

/-- 'laws.FnExactTableBetter': WHATEVER THE INPUT: true; the input reads as it did. -/
def fnExactTableBetterSpec : ChangeSpec := { name := "fnExactTableBetter", fn := fun _ => fun
  | [d1, d2, d3] => { results := [.lit (.bool true)], args := [d1, d2, d3] }
  | _ => none }
def fnExactTableBetterRow : OpenClaim := { program := "ythpngbajhbckpaa", sum := "5bc4033268567cec9b4044e6e564cd123176b4945b92bb6fbc6ce4dc4f7ec30b", func := "loop.example/bentrows/laws.FnExactTableBetter", spec := "fnExactTableBetter", unfollowed := true, recurses := true, apart := false }
def FnExactTableBetterSaid : Prop := fnExactTableBetterRow.holds Try.pinned (OpenSpec.ofChange fnExactTableBetterSpec)

/-- ITS FALSE NEIGHBOUR: 'it returns false'. Refute it at one input. -/
def fnExactTableBetterWrong : ChangeSpec := { name := "fnExactTableBetter", fn := fun _ => fun
  | [d1, d2, d3] => { results := [.lit (.bool false)], args := [d1, d2, d3] }
  | _ => none }
def FnExactTableBetterWrongFalsely : Prop := fnExactTableBetterRow.holds Try.pinned (OpenSpec.ofChange fnExactTableBetterWrong)

/- THE SECOND FORM. 'bulk': how many values and letters a reading holds, each counted each time it is reached (what is shared counts as often as it is met; a slice's spare places count too). A statement '..UptoSaid' is the law's where the arguments, and the package variables that the reading takes, are together of bulk at most 1048576: NARROWER than '..Said'. Prove '..Said' where nothing that the law and all that it calls make is longer than what came in: it says more and counts as full. Else prove '..UptoSaid'. A law counts once. -/
mutual
def uptoBulk {H : Type} : DataW H → Nat
  | .lit (.string bytes) => bytes.length + 1
  | .lit _ => 1
  | .nil => 1
  | .ptr d => uptoBulk d + 1
  | .slice elems spare => uptoBulkAll elems + uptoBulkAll spare + 1
  | .agg parts => uptoBulkAll parts + 1
  | .iface _ d => uptoBulk d + 1
  | .map entries => uptoBulkEntries entries + 1
  | .held _ => 1
def uptoBulkAll {H : Type} : List (DataW H) → Nat
  | [] => 0
  | d :: r => uptoBulk d + uptoBulkAll r
def uptoBulkEntries {H : Type} : List (Lit × DataW H) → Nat
  | [] => 0
  | x :: r => uptoBulkEntry x + uptoBulkEntries r
def uptoBulkEntry {H : Type} : Lit × DataW H → Nat
  | (.string bytes, d) => bytes.length + uptoBulk d + 1
  | (_, d) => uptoBulk d + 1
 end
def uptoSmall : (H : Type) → List (DataW H) → Bool := fun _ ds => decide (uptoBulkAll ds ≤ 1048576)
def OpenSpec.upto (s : _root_.Go.ChangeSpec) : _root_.Go.OpenSpec := { _root_.Go.OpenSpec.ofChange s with cond := some uptoSmall }

/-- 'laws.FnExactTableCrossed', WHERE WHAT IT READS IS OF BULK AT MOST 1048576: true; the input reads as it did. -/
def fnExactTableCrossedUptoRow : OpenClaim := { program := "ythpngbajhbckpaa", sum := "5bc4033268567cec9b4044e6e564cd123176b4945b92bb6fbc6ce4dc4f7ec30b", func := "loop.example/bentrows/laws.FnExactTableCrossed", spec := "fnExactTableCrossed", unfollowed := true, recurses := true, apart := false, narrowed := true }
def FnExactTableCrossedUptoSaid : Prop := fnExactTableCrossedUptoRow.holds Try.pinned (OpenSpec.upto fnExactTableCrossedSpec)

/-- 'laws.FnExactTableOf', WHERE WHAT IT READS IS OF BULK AT MOST 1048576: true; the input reads as it did. -/
def fnExactTableOfUptoRow : OpenClaim := { program := "ythpngbajhbckpaa", sum := "5bc4033268567cec9b4044e6e564cd123176b4945b92bb6fbc6ce4dc4f7ec30b", func := "loop.example/bentrows/laws.FnExactTableOf", spec := "fnExactTableOf", unfollowed := true, recurses := true, apart := false, narrowed := true }
def FnExactTableOfUptoSaid : Prop := fnExactTableOfUptoRow.holds Try.pinned (OpenSpec.upto fnExactTableOfSpec)

/-- 'laws.FnExactTableLeast', WHERE WHAT IT READS IS OF BULK AT MOST 1048576: true; the input reads as it did. -/
def fnExactTableLeastUptoRow : OpenClaim := { program := "ythpngbajhbckpaa", sum := "5bc4033268567cec9b4044e6e564cd123176b4945b92bb6fbc6ce4dc4f7ec30b", func := "loop.example/bentrows/laws.FnExactTableLeast", spec := "fnExactTableLeast", unfollowed := true, recurses := true, apart := false, narrowed := true }
def FnExactTableLeastUptoSaid : Prop := fnExactTableLeastUptoRow.holds Try.pinned (OpenSpec.upto fnExactTableLeastSpec)

/-- 'laws.FnExactTableQuick', WHERE WHAT IT READS IS OF BULK AT MOST 1048576: true; the input reads as it did. -/
def fnExactTableQuickUptoRow : OpenClaim := { program := "ythpngbajhbckpaa", sum := "5bc4033268567cec9b4044e6e564cd123176b4945b92bb6fbc6ce4dc4f7ec30b", func := "loop.example/bentrows/laws.FnExactTableQuick", spec := "fnExactTableQuick", unfollowed := true, recurses := true, apart := false, narrowed := true }
def FnExactTableQuickUptoSaid : Prop := fnExactTableQuickUptoRow.holds Try.pinned (OpenSpec.upto fnExactTableQuickSpec)

/-- 'laws.FnExactTableMerge', WHERE WHAT IT READS IS OF BULK AT MOST 1048576: true; the input reads as it did. -/
def fnExactTableMergeUptoRow : OpenClaim := { program := "ythpngbajhbckpaa", sum := "5bc4033268567cec9b4044e6e564cd123176b4945b92bb6fbc6ce4dc4f7ec30b", func := "loop.example/bentrows/laws.FnExactTableMerge", spec := "fnExactTableMerge", unfollowed := true, recurses := true, apart := false, narrowed := true }
def FnExactTableMergeUptoSaid : Prop := fnExactTableMergeUptoRow.holds Try.pinned (OpenSpec.upto fnExactTableMergeSpec)

/-- 'laws.FnExactTableMatch', WHERE WHAT IT READS IS OF BULK AT MOST 1048576: true; the input reads as it did. -/
def fnExactTableMatchUptoRow : OpenClaim := { program := "ythpngbajhbckpaa", sum := "5bc4033268567cec9b4044e6e564cd123176b4945b92bb6fbc6ce4dc4f7ec30b", func := "loop.example/bentrows/laws.FnExactTableMatch", spec := "fnExactTableMatch", unfollowed := true, recurses := true, apart := false, narrowed := true }
def FnExactTableMatchUptoSaid : Prop := fnExactTableMatchUptoRow.holds Try.pinned (OpenSpec.upto fnExactTableMatchSpec)

/-- 'laws.FnExactTableLoad', WHERE WHAT IT READS IS OF BULK AT MOST 1048576: true; the input reads as it did. -/
def fnExactTableLoadUptoRow : OpenClaim := { program := "ythpngbajhbckpaa", sum := "5bc4033268567cec9b4044e6e564cd123176b4945b92bb6fbc6ce4dc4f7ec30b", func := "loop.example/bentrows/laws.FnExactTableLoad", spec := "fnExactTableLoad", unfollowed := true, recurses := true, apart := false, narrowed := true }
def FnExactTableLoadUptoSaid : Prop := fnExactTableLoadUptoRow.holds Try.pinned (OpenSpec.upto fnExactTableLoadSpec)

/-- 'laws.FnExactTableCost', WHERE WHAT IT READS IS OF BULK AT MOST 1048576: true; the input reads as it did. -/
def fnExactTableCostUptoRow : OpenClaim := { program := "ythpngbajhbckpaa", sum := "5bc4033268567cec9b4044e6e564cd123176b4945b92bb6fbc6ce4dc4f7ec30b", func := "loop.example/bentrows/laws.FnExactTableCost", spec := "fnExactTableCost", unfollowed := true, recurses := true, apart := false, narrowed := true }
def FnExactTableCostUptoSaid : Prop := fnExactTableCostUptoRow.holds Try.pinned (OpenSpec.upto fnExactTableCostSpec)

/-- 'laws.FnExactTableBetter', WHERE WHAT IT READS IS OF BULK AT MOST 1048576: true; the input reads as it did. -/
def fnExactTableBetterUptoRow : OpenClaim := { program := "ythpngbajhbckpaa", sum := "5bc4033268567cec9b4044e6e564cd123176b4945b92bb6fbc6ce4dc4f7ec30b", func := "loop.example/bentrows/laws.FnExactTableBetter", spec := "fnExactTableBetter", unfollowed := true, recurses := true, apart := false, narrowed := true }
def FnExactTableBetterUptoSaid : Prop := fnExactTableBetterUptoRow.holds Try.pinned (OpenSpec.upto fnExactTableBetterSpec)

end Rows
end Go.Proofs.Ythpngbajhbckpaa
