/-
  No cell of these rows narrows 'for every input' (looked for: loops, veiled, ifaces, maps, wideKeys, modest, calm, conditions, laid).
  DERIVED. THE GIVEN ROWS OF THIS SEAT. 6 by the template 'for every input the law returns true; each argument reads behind the call as it read before'; 0 by the template 'total and deterministic' (their statements: YtfkmnlhmldjieabTotals.lean).
  GIVEN WITH THE SEED: the statements are not yours to turn. If you find one false, say at which input.
  Laid BY PROGRAM, IN A SANDBOX (cutbox-rows.mjs): the forced cells as the released guide's own fill.sh prints them over the translation ec202a9e62ba90db… (all of the seat's roots in one cut). By AI agents, Wed Nov 11 2026. No macro, syntax, notation, axiom, sorry.
-/
import Derived.Test.YtfkmnlhmldjieabChecked
import GoSem.Claim
import GoSem.ClaimJoined
import GoSem.ClaimMapViews
import Derived.JoinedTies
import Derived.KernelRfl
namespace Go.Proofs.Ytfkmnlhmldjieab
/- THE CELL 'sum', in the pinned program and in every row, IS THE sha256 OF THE DUMP (.gsa) THAT YtfkmnlhmldjieabProg.lean LOADS. Nothing in Lean hashes anything: it is a label: what it is worth is what the hold of that sum in a sandbox is worth. -/
noncomputable def Try.pinned : Pinned := { name := "ytfkmnlhmldjieab", sum := "ec202a9e62ba90db5f8c23db39ece50cb52b54ddce271d6f444bac5a575f8493", checked := Try.checked }
namespace Rows
def none {H : Type} : Left H := { results := [], args := [] }

/-- 'laws.FnGreedy': WHATEVER THE INPUT: true; the input reads as it did. -/
def fnGreedySpec : ChangeSpec := { name := "fnGreedy", fn := fun _ => fun
  | [d] => { results := [.lit (.bool true)], args := [d] }
  | _ => none }
def fnGreedyRow : OpenClaim := { program := "ytfkmnlhmldjieab", sum := "ec202a9e62ba90db5f8c23db39ece50cb52b54ddce271d6f444bac5a575f8493", func := "loop.example/bentrows/laws.FnGreedy", spec := "fnGreedy", unfollowed := true, recurses := true, apart := false }
def FnGreedySaid : Prop := fnGreedyRow.holds Try.pinned (OpenSpec.ofChange fnGreedySpec)

/-- ITS FALSE NEIGHBOUR: 'it returns false'. Refute it at one input. -/
def fnGreedyWrong : ChangeSpec := { name := "fnGreedy", fn := fun _ => fun
  | [d] => { results := [.lit (.bool false)], args := [d] }
  | _ => none }
def FnGreedyWrongFalsely : Prop := fnGreedyRow.holds Try.pinned (OpenSpec.ofChange fnGreedyWrong)

/-- 'laws.FnTableCost': WHATEVER THE INPUT: true; the input reads as it did. -/
def fnTableCostSpec : ChangeSpec := { name := "fnTableCost", fn := fun _ => fun
  | [d] => { results := [.lit (.bool true)], args := [d] }
  | _ => none }
def fnTableCostRow : OpenClaim := { program := "ytfkmnlhmldjieab", sum := "ec202a9e62ba90db5f8c23db39ece50cb52b54ddce271d6f444bac5a575f8493", func := "loop.example/bentrows/laws.FnTableCost", spec := "fnTableCost", unfollowed := true, recurses := true, apart := false }
def FnTableCostSaid : Prop := fnTableCostRow.holds Try.pinned (OpenSpec.ofChange fnTableCostSpec)

/-- ITS FALSE NEIGHBOUR: 'it returns false'. Refute it at one input. -/
def fnTableCostWrong : ChangeSpec := { name := "fnTableCost", fn := fun _ => fun
  | [d] => { results := [.lit (.bool false)], args := [d] }
  | _ => none }
def FnTableCostWrongFalsely : Prop := fnTableCostRow.holds Try.pinned (OpenSpec.ofChange fnTableCostWrong)

/-- 'laws.FnMatch': WHATEVER THE INPUT: true; the input reads as it did. -/
def fnMatchSpec : ChangeSpec := { name := "fnMatch", fn := fun _ => fun
  | [d] => { results := [.lit (.bool true)], args := [d] }
  | _ => none }
def fnMatchRow : OpenClaim := { program := "ytfkmnlhmldjieab", sum := "ec202a9e62ba90db5f8c23db39ece50cb52b54ddce271d6f444bac5a575f8493", func := "loop.example/bentrows/laws.FnMatch", spec := "fnMatch", unfollowed := true, recurses := true, apart := false }
def FnMatchSaid : Prop := fnMatchRow.holds Try.pinned (OpenSpec.ofChange fnMatchSpec)

/-- ITS FALSE NEIGHBOUR: 'it returns false'. Refute it at one input. -/
def fnMatchWrong : ChangeSpec := { name := "fnMatch", fn := fun _ => fun
  | [d] => { results := [.lit (.bool false)], args := [d] }
  | _ => none }
def FnMatchWrongFalsely : Prop := fnMatchRow.holds Try.pinned (OpenSpec.ofChange fnMatchWrong)

/-- 'laws.FnMatchTilt': WHATEVER THE INPUT: true; the input reads as it did. -/
def fnMatchTiltSpec : ChangeSpec := { name := "fnMatchTilt", fn := fun _ => fun
  | [d] => { results := [.lit (.bool true)], args := [d] }
  | _ => none }
def fnMatchTiltRow : OpenClaim := { program := "ytfkmnlhmldjieab", sum := "ec202a9e62ba90db5f8c23db39ece50cb52b54ddce271d6f444bac5a575f8493", func := "loop.example/bentrows/laws.FnMatchTilt", spec := "fnMatchTilt", unfollowed := true, recurses := true, apart := false }
def FnMatchTiltSaid : Prop := fnMatchTiltRow.holds Try.pinned (OpenSpec.ofChange fnMatchTiltSpec)

/-- ITS FALSE NEIGHBOUR: 'it returns false'. Refute it at one input. -/
def fnMatchTiltWrong : ChangeSpec := { name := "fnMatchTilt", fn := fun _ => fun
  | [d] => { results := [.lit (.bool false)], args := [d] }
  | _ => none }
def FnMatchTiltWrongFalsely : Prop := fnMatchTiltRow.holds Try.pinned (OpenSpec.ofChange fnMatchTiltWrong)

/-- 'laws.FnLoad': WHATEVER THE INPUT: true; the input reads as it did. -/
def fnLoadSpec : ChangeSpec := { name := "fnLoad", fn := fun _ => fun
  | [d] => { results := [.lit (.bool true)], args := [d] }
  | _ => none }
def fnLoadRow : OpenClaim := { program := "ytfkmnlhmldjieab", sum := "ec202a9e62ba90db5f8c23db39ece50cb52b54ddce271d6f444bac5a575f8493", func := "loop.example/bentrows/laws.FnLoad", spec := "fnLoad", unfollowed := true, recurses := true, apart := false }
def FnLoadSaid : Prop := fnLoadRow.holds Try.pinned (OpenSpec.ofChange fnLoadSpec)

/-- ITS FALSE NEIGHBOUR: 'it returns false'. Refute it at one input. -/
def fnLoadWrong : ChangeSpec := { name := "fnLoad", fn := fun _ => fun
  | [d] => { results := [.lit (.bool false)], args := [d] }
  | _ => none }
def FnLoadWrongFalsely : Prop := fnLoadRow.holds Try.pinned (OpenSpec.ofChange fnLoadWrong)

/-- 'laws.FnBetter': WHATEVER THE INPUT: true; the input reads as it did. -/
def fnBetterSpec : ChangeSpec := { name := "fnBetter", fn := fun _ => fun
  | [d] => { results := [.lit (.bool true)], args := [d] }
  | _ => none }
def fnBetterRow : OpenClaim := { program := "ytfkmnlhmldjieab", sum := "ec202a9e62ba90db5f8c23db39ece50cb52b54ddce271d6f444bac5a575f8493", func := "loop.example/bentrows/laws.FnBetter", spec := "fnBetter", unfollowed := true, recurses := true, apart := false }
def FnBetterSaid : Prop := fnBetterRow.holds Try.pinned (OpenSpec.ofChange fnBetterSpec)

/-- ITS FALSE NEIGHBOUR: 'it returns false'. Refute it at one input. -/
def fnBetterWrong : ChangeSpec := { name := "fnBetter", fn := fun _ => fun
  | [d] => { results := [.lit (.bool false)], args := [d] }
  | _ => none }
def FnBetterWrongFalsely : Prop := fnBetterRow.holds Try.pinned (OpenSpec.ofChange fnBetterWrong)

/- THE SECOND FORM. 'bulk': how many values and letters a reading holds, each counted each time it is reached (what is shared counts as often as it is met; a slice's spare places count too). A statement '..UptoSaid' is the law's where the arguments, and the package variables that the reading takes, are together of bulk at most 1048576: NARROWER than '..Said'. Prove '..Said' where nothing that the law and all that it calls make is longer than what came in: it says more and counts as full. Else prove '..UptoSaid'. A law counts once. -/
mutual
def uptoBulk {H : Type} : DataW H → Nat
  | .lit (.string bytes) => bytes.length + 1
  | .lit _ => 1
  | .nil => 1
  | .ptr d => uptoBulk d + 1
  | .slice elems spare => uptoBulkAll elems + uptoBulkAll spare + 1
  | .agg parts => uptoBulkAll parts + 1
  | .iface _ d => uptoBulk d + 1
  | .map entries => uptoBulkEntries entries + 1
  | .held _ => 1
def uptoBulkAll {H : Type} : List (DataW H) → Nat
  | [] => 0
  | d :: r => uptoBulk d + uptoBulkAll r
def uptoBulkEntries {H : Type} : List (Lit × DataW H) → Nat
  | [] => 0
  | x :: r => uptoBulkEntry x + uptoBulkEntries r
def uptoBulkEntry {H : Type} : Lit × DataW H → Nat
  | (.string bytes, d) => bytes.length + uptoBulk d + 1
  | (_, d) => uptoBulk d + 1
 end
def uptoSmall : (H : Type) → List (DataW H) → Bool := fun _ ds => decide (uptoBulkAll ds ≤ 1048576)
def OpenSpec.upto (s : _root_.Go.ChangeSpec) : _root_.Go.OpenSpec := { _root_.Go.OpenSpec.ofChange s with cond := some uptoSmall }

/-- 'laws.FnGreedy', WHERE WHAT IT READS IS OF BULK AT MOST 1048576: true; the input reads as it did. -/
def fnGreedyUptoRow : OpenClaim := { program := "ytfkmnlhmldjieab", sum := "ec202a9e62ba90db5f8c23db39ece50cb52b54ddce271d6f444bac5a575f8493", func := "loop.example/bentrows/laws.FnGreedy", spec := "fnGreedy", unfollowed := true, recurses := true, apart := false, narrowed := true }
def FnGreedyUptoSaid : Prop := fnGreedyUptoRow.holds Try.pinned (OpenSpec.upto fnGreedySpec)

/-- 'laws.FnTableCost', WHERE WHAT IT READS IS OF BULK AT MOST 1048576: true; the input reads as it did. -/
def fnTableCostUptoRow : OpenClaim := { program := "ytfkmnlhmldjieab", sum := "ec202a9e62ba90db5f8c23db39ece50cb52b54ddce271d6f444bac5a575f8493", func := "loop.example/bentrows/laws.FnTableCost", spec := "fnTableCost", unfollowed := true, recurses := true, apart := false, narrowed := true }
def FnTableCostUptoSaid : Prop := fnTableCostUptoRow.holds Try.pinned (OpenSpec.upto fnTableCostSpec)

/-- 'laws.FnMatch', WHERE WHAT IT READS IS OF BULK AT MOST 1048576: true; the input reads as it did. -/
def fnMatchUptoRow : OpenClaim := { program := "ytfkmnlhmldjieab", sum := "ec202a9e62ba90db5f8c23db39ece50cb52b54ddce271d6f444bac5a575f8493", func := "loop.example/bentrows/laws.FnMatch", spec := "fnMatch", unfollowed := true, recurses := true, apart := false, narrowed := true }
def FnMatchUptoSaid : Prop := fnMatchUptoRow.holds Try.pinned (OpenSpec.upto fnMatchSpec)

/-- 'laws.FnMatchTilt', WHERE WHAT IT READS IS OF BULK AT MOST 1048576: true; the input reads as it did. -/
def fnMatchTiltUptoRow : OpenClaim := { program := "ytfkmnlhmldjieab", sum := "ec202a9e62ba90db5f8c23db39ece50cb52b54ddce271d6f444bac5a575f8493", func := "loop.example/bentrows/laws.FnMatchTilt", spec := "fnMatchTilt", unfollowed := true, recurses := true, apart := false, narrowed := true }
def FnMatchTiltUptoSaid : Prop := fnMatchTiltUptoRow.holds Try.pinned (OpenSpec.upto fnMatchTiltSpec)

/-- 'laws.FnLoad', WHERE WHAT IT READS IS OF BULK AT MOST 1048576: true; the input reads as it did. -/
def fnLoadUptoRow : OpenClaim := { program := "ytfkmnlhmldjieab", sum := "ec202a9e62ba90db5f8c23db39ece50cb52b54ddce271d6f444bac5a575f8493", func := "loop.example/bentrows/laws.FnLoad", spec := "fnLoad", unfollowed := true, recurses := true, apart := false, narrowed := true }
def FnLoadUptoSaid : Prop := fnLoadUptoRow.holds Try.pinned (OpenSpec.upto fnLoadSpec)

/-- 'laws.FnBetter', WHERE WHAT IT READS IS OF BULK AT MOST 1048576: true; the input reads as it did. -/
def fnBetterUptoRow : OpenClaim := { program := "ytfkmnlhmldjieab", sum := "ec202a9e62ba90db5f8c23db39ece50cb52b54ddce271d6f444bac5a575f8493", func := "loop.example/bentrows/laws.FnBetter", spec := "fnBetter", unfollowed := true, recurses := true, apart := false, narrowed := true }
def FnBetterUptoSaid : Prop := fnBetterUptoRow.holds Try.pinned (OpenSpec.upto fnBetterSpec)

end Rows
end Go.Proofs.Ytfkmnlhmldjieab
