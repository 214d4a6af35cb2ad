/-
  No cell of these rows narrows 'for every input' (looked for: loops, veiled, ifaces, maps, wideKeys, modest, calm, conditions, laid).
  DERIVED. THE GIVEN ROWS OF THIS SEAT. 10 by the template 'for every input the law returns true; each argument reads behind the call as it read before'; 0 by the template 'total and deterministic' (their statements: YtfiojdiogjpakaaTotals.lean).
  GIVEN WITH THE SEED: the statements are not yours to turn. If you find one false, say at which input.
  Laid BY PROGRAM, IN A SANDBOX (cutbox-rows.mjs): the forced cells as the released guide's own fill.sh prints them over the translation bd644b107d908e2e… (all of the seat's roots in one cut). By AI agents, Wed Nov 11 2026. No macro, syntax, notation, axiom, sorry.
-/
import Derived.Test.YtfiojdiogjpakaaChecked
import GoSem.Claim
import GoSem.ClaimJoined
import GoSem.ClaimMapViews
import Derived.JoinedTies
import Derived.KernelRfl
namespace Go.Proofs.Ytfiojdiogjpakaa
/- THE CELL 'sum', in the pinned program and in every row, IS THE sha256 OF THE DUMP (.gsa) THAT YtfiojdiogjpakaaProg.lean LOADS. Nothing in Lean hashes anything: it is a label: what it is worth is what the hold of that sum in a sandbox is worth. -/
noncomputable def Try.pinned : Pinned := { name := "ytfiojdiogjpakaa", sum := "bd644b107d908e2e32ef73f62c1dd450e845eaff65ff640b72adf614243b8216", checked := Try.checked }
namespace Rows
def none {H : Type} : Left H := { results := [], args := [] }

/-- 'laws.FnExactTableMatch': WHATEVER THE INPUT: true; the input reads as it did. -/
def fnExactTableMatchSpec : ChangeSpec := { name := "fnExactTableMatch", fn := fun _ => fun
  | [d] => { results := [.lit (.bool true)], args := [d] }
  | _ => none }
def fnExactTableMatchRow : OpenClaim := { program := "ytfiojdiogjpakaa", sum := "bd644b107d908e2e32ef73f62c1dd450e845eaff65ff640b72adf614243b8216", func := "loop.example/bentrows/laws.FnExactTableMatch", spec := "fnExactTableMatch", unfollowed := true, recurses := true, apart := false }
def FnExactTableMatchSaid : Prop := fnExactTableMatchRow.holds Try.pinned (OpenSpec.ofChange fnExactTableMatchSpec)

/-- ITS FALSE NEIGHBOUR: 'it returns false'. Refute it at one input. -/
def fnExactTableMatchWrong : ChangeSpec := { name := "fnExactTableMatch", fn := fun _ => fun
  | [d] => { results := [.lit (.bool false)], args := [d] }
  | _ => none }
def FnExactTableMatchWrongFalsely : Prop := fnExactTableMatchRow.holds Try.pinned (OpenSpec.ofChange fnExactTableMatchWrong)

/-- 'laws.FnExactTableLoad': WHATEVER THE INPUT: true; the input reads as it did. -/
def fnExactTableLoadSpec : ChangeSpec := { name := "fnExactTableLoad", fn := fun _ => fun
  | [d1, d2, d3] => { results := [.lit (.bool true)], args := [d1, d2, d3] }
  | _ => none }
def fnExactTableLoadRow : OpenClaim := { program := "ytfiojdiogjpakaa", sum := "bd644b107d908e2e32ef73f62c1dd450e845eaff65ff640b72adf614243b8216", func := "loop.example/bentrows/laws.FnExactTableLoad", spec := "fnExactTableLoad", unfollowed := true, recurses := true, apart := false }
def FnExactTableLoadSaid : Prop := fnExactTableLoadRow.holds Try.pinned (OpenSpec.ofChange fnExactTableLoadSpec)

/-- ITS FALSE NEIGHBOUR: 'it returns false'. Refute it at one input. -/
def fnExactTableLoadWrong : ChangeSpec := { name := "fnExactTableLoad", fn := fun _ => fun
  | [d1, d2, d3] => { results := [.lit (.bool false)], args := [d1, d2, d3] }
  | _ => none }
def FnExactTableLoadWrongFalsely : Prop := fnExactTableLoadRow.holds Try.pinned (OpenSpec.ofChange fnExactTableLoadWrong)

/-- 'laws.FnExactTableBetter': WHATEVER THE INPUT: true; the input reads as it did. -/
def fnExactTableBetterSpec : ChangeSpec := { name := "fnExactTableBetter", fn := fun _ => fun
  | [d1, d2, d3] => { results := [.lit (.bool true)], args := [d1, d2, d3] }
  | _ => none }
def fnExactTableBetterRow : OpenClaim := { program := "ytfiojdiogjpakaa", sum := "bd644b107d908e2e32ef73f62c1dd450e845eaff65ff640b72adf614243b8216", func := "loop.example/bentrows/laws.FnExactTableBetter", spec := "fnExactTableBetter", unfollowed := true, recurses := true, apart := false }
def FnExactTableBetterSaid : Prop := fnExactTableBetterRow.holds Try.pinned (OpenSpec.ofChange fnExactTableBetterSpec)

/-- ITS FALSE NEIGHBOUR: 'it returns false'. Refute it at one input. -/
def fnExactTableBetterWrong : ChangeSpec := { name := "fnExactTableBetter", fn := fun _ => fun
  | [d1, d2, d3] => { results := [.lit (.bool false)], args := [d1, d2, d3] }
  | _ => none }
def FnExactTableBetterWrongFalsely : Prop := fnExactTableBetterRow.holds Try.pinned (OpenSpec.ofChange fnExactTableBetterWrong)

/-- 'laws.FnExactShareGreedy': WHATEVER THE INPUT: true; the input reads as it did. -/
def fnExactShareGreedySpec : ChangeSpec := { name := "fnExactShareGreedy", fn := fun _ => fun
  | [d1, d2] => { results := [.lit (.bool true)], args := [d1, d2] }
  | _ => none }
def fnExactShareGreedyRow : OpenClaim := { program := "ytfiojdiogjpakaa", sum := "bd644b107d908e2e32ef73f62c1dd450e845eaff65ff640b72adf614243b8216", func := "loop.example/bentrows/laws.FnExactShareGreedy", spec := "fnExactShareGreedy", unfollowed := true, recurses := true, apart := false }
def FnExactShareGreedySaid : Prop := fnExactShareGreedyRow.holds Try.pinned (OpenSpec.ofChange fnExactShareGreedySpec)

/-- ITS FALSE NEIGHBOUR: 'it returns false'. Refute it at one input. -/
def fnExactShareGreedyWrong : ChangeSpec := { name := "fnExactShareGreedy", fn := fun _ => fun
  | [d1, d2] => { results := [.lit (.bool false)], args := [d1, d2] }
  | _ => none }
def FnExactShareGreedyWrongFalsely : Prop := fnExactShareGreedyRow.holds Try.pinned (OpenSpec.ofChange fnExactShareGreedyWrong)

/-- 'laws.FnExactEvenIs': WHATEVER THE INPUT: true; the input reads as it did. -/
def fnExactEvenIsSpec : ChangeSpec := { name := "fnExactEvenIs", fn := fun _ => fun
  | [d1, d2] => { results := [.lit (.bool true)], args := [d1, d2] }
  | _ => none }
def fnExactEvenIsRow : OpenClaim := { program := "ytfiojdiogjpakaa", sum := "bd644b107d908e2e32ef73f62c1dd450e845eaff65ff640b72adf614243b8216", func := "loop.example/bentrows/laws.FnExactEvenIs", spec := "fnExactEvenIs", unfollowed := true, recurses := true, apart := false }
def FnExactEvenIsSaid : Prop := fnExactEvenIsRow.holds Try.pinned (OpenSpec.ofChange fnExactEvenIsSpec)

/-- ITS FALSE NEIGHBOUR: 'it returns false'. Refute it at one input. -/
def fnExactEvenIsWrong : ChangeSpec := { name := "fnExactEvenIs", fn := fun _ => fun
  | [d1, d2] => { results := [.lit (.bool false)], args := [d1, d2] }
  | _ => none }
def FnExactEvenIsWrongFalsely : Prop := fnExactEvenIsRow.holds Try.pinned (OpenSpec.ofChange fnExactEvenIsWrong)

/-- 'laws.FnExactEvenLevels': WHATEVER THE INPUT: true; the input reads as it did. -/
def fnExactEvenLevelsSpec : ChangeSpec := { name := "fnExactEvenLevels", fn := fun _ => fun
  | [d] => { results := [.lit (.bool true)], args := [d] }
  | _ => none }
def fnExactEvenLevelsRow : OpenClaim := { program := "ytfiojdiogjpakaa", sum := "bd644b107d908e2e32ef73f62c1dd450e845eaff65ff640b72adf614243b8216", func := "loop.example/bentrows/laws.FnExactEvenLevels", spec := "fnExactEvenLevels", unfollowed := true, recurses := true, apart := false }
def FnExactEvenLevelsSaid : Prop := fnExactEvenLevelsRow.holds Try.pinned (OpenSpec.ofChange fnExactEvenLevelsSpec)

/-- ITS FALSE NEIGHBOUR: 'it returns false'. Refute it at one input. -/
def fnExactEvenLevelsWrong : ChangeSpec := { name := "fnExactEvenLevels", fn := fun _ => fun
  | [d] => { results := [.lit (.bool false)], args := [d] }
  | _ => none }
def FnExactEvenLevelsWrongFalsely : Prop := fnExactEvenLevelsRow.holds Try.pinned (OpenSpec.ofChange fnExactEvenLevelsWrong)

/-- 'laws.FnExactEvenMost': WHATEVER THE INPUT: true; the input reads as it did. -/
def fnExactEvenMostSpec : ChangeSpec := { name := "fnExactEvenMost", fn := fun _ => fun
  | [d] => { results := [.lit (.bool true)], args := [d] }
  | _ => none }
def fnExactEvenMostRow : OpenClaim := { program := "ytfiojdiogjpakaa", sum := "bd644b107d908e2e32ef73f62c1dd450e845eaff65ff640b72adf614243b8216", func := "loop.example/bentrows/laws.FnExactEvenMost", spec := "fnExactEvenMost", unfollowed := true, recurses := true, apart := false }
def FnExactEvenMostSaid : Prop := fnExactEvenMostRow.holds Try.pinned (OpenSpec.ofChange fnExactEvenMostSpec)

/-- ITS FALSE NEIGHBOUR: 'it returns false'. Refute it at one input. -/
def fnExactEvenMostWrong : ChangeSpec := { name := "fnExactEvenMost", fn := fun _ => fun
  | [d] => { results := [.lit (.bool false)], args := [d] }
  | _ => none }
def FnExactEvenMostWrongFalsely : Prop := fnExactEvenMostRow.holds Try.pinned (OpenSpec.ofChange fnExactEvenMostWrong)

/-- 'laws.FnExactEvenSteps': WHATEVER THE INPUT: true; the input reads as it did. -/
def fnExactEvenStepsSpec : ChangeSpec := { name := "fnExactEvenSteps", fn := fun _ => fun
  | [d] => { results := [.lit (.bool true)], args := [d] }
  | _ => none }
def fnExactEvenStepsRow : OpenClaim := { program := "ytfiojdiogjpakaa", sum := "bd644b107d908e2e32ef73f62c1dd450e845eaff65ff640b72adf614243b8216", func := "loop.example/bentrows/laws.FnExactEvenSteps", spec := "fnExactEvenSteps", unfollowed := true, recurses := true, apart := false }
def FnExactEvenStepsSaid : Prop := fnExactEvenStepsRow.holds Try.pinned (OpenSpec.ofChange fnExactEvenStepsSpec)

/-- ITS FALSE NEIGHBOUR: 'it returns false'. Refute it at one input. -/
def fnExactEvenStepsWrong : ChangeSpec := { name := "fnExactEvenSteps", fn := fun _ => fun
  | [d] => { results := [.lit (.bool false)], args := [d] }
  | _ => none }
def FnExactEvenStepsWrongFalsely : Prop := fnExactEvenStepsRow.holds Try.pinned (OpenSpec.ofChange fnExactEvenStepsWrong)

/-- 'laws.FnExactEvenSum': WHATEVER THE INPUT: true; the input reads as it did. -/
def fnExactEvenSumSpec : ChangeSpec := { name := "fnExactEvenSum", fn := fun _ => fun
  | [d1, d2] => { results := [.lit (.bool true)], args := [d1, d2] }
  | _ => none }
def fnExactEvenSumRow : OpenClaim := { program := "ytfiojdiogjpakaa", sum := "bd644b107d908e2e32ef73f62c1dd450e845eaff65ff640b72adf614243b8216", func := "loop.example/bentrows/laws.FnExactEvenSum", spec := "fnExactEvenSum", unfollowed := true, recurses := true, apart := false }
def FnExactEvenSumSaid : Prop := fnExactEvenSumRow.holds Try.pinned (OpenSpec.ofChange fnExactEvenSumSpec)

/-- ITS FALSE NEIGHBOUR: 'it returns false'. Refute it at one input. -/
def fnExactEvenSumWrong : ChangeSpec := { name := "fnExactEvenSum", fn := fun _ => fun
  | [d1, d2] => { results := [.lit (.bool false)], args := [d1, d2] }
  | _ => none }
def FnExactEvenSumWrongFalsely : Prop := fnExactEvenSumRow.holds Try.pinned (OpenSpec.ofChange fnExactEvenSumWrong)

/-- 'laws.FnExactEvenMeet': WHATEVER THE INPUT: true; the input reads as it did. -/
def fnExactEvenMeetSpec : ChangeSpec := { name := "fnExactEvenMeet", fn := fun _ => fun
  | [d1, d2] => { results := [.lit (.bool true)], args := [d1, d2] }
  | _ => none }
def fnExactEvenMeetRow : OpenClaim := { program := "ytfiojdiogjpakaa", sum := "bd644b107d908e2e32ef73f62c1dd450e845eaff65ff640b72adf614243b8216", func := "loop.example/bentrows/laws.FnExactEvenMeet", spec := "fnExactEvenMeet", unfollowed := true, recurses := true, apart := false }
def FnExactEvenMeetSaid : Prop := fnExactEvenMeetRow.holds Try.pinned (OpenSpec.ofChange fnExactEvenMeetSpec)

/-- ITS FALSE NEIGHBOUR: 'it returns false'. Refute it at one input. -/
def fnExactEvenMeetWrong : ChangeSpec := { name := "fnExactEvenMeet", fn := fun _ => fun
  | [d1, d2] => { results := [.lit (.bool false)], args := [d1, d2] }
  | _ => none }
def FnExactEvenMeetWrongFalsely : Prop := fnExactEvenMeetRow.holds Try.pinned (OpenSpec.ofChange fnExactEvenMeetWrong)

/- THE SECOND FORM. 'bulk': how many values and letters a reading holds, each counted each time it is reached (what is shared counts as often as it is met; a slice's spare places count too). A statement '..UptoSaid' is the law's where the arguments, and the package variables that the reading takes, are together of bulk at most 1048576: NARROWER than '..Said'. Prove '..Said' where nothing that the law and all that it calls make is longer than what came in: it says more and counts as full. Else prove '..UptoSaid'. A law counts once. -/
mutual
def uptoBulk {H : Type} : DataW H → Nat
  | .lit (.string bytes) => bytes.length + 1
  | .lit _ => 1
  | .nil => 1
  | .ptr d => uptoBulk d + 1
  | .slice elems spare => uptoBulkAll elems + uptoBulkAll spare + 1
  | .agg parts => uptoBulkAll parts + 1
  | .iface _ d => uptoBulk d + 1
  | .map entries => uptoBulkEntries entries + 1
  | .held _ => 1
def uptoBulkAll {H : Type} : List (DataW H) → Nat
  | [] => 0
  | d :: r => uptoBulk d + uptoBulkAll r
def uptoBulkEntries {H : Type} : List (Lit × DataW H) → Nat
  | [] => 0
  | x :: r => uptoBulkEntry x + uptoBulkEntries r
def uptoBulkEntry {H : Type} : Lit × DataW H → Nat
  | (.string bytes, d) => bytes.length + uptoBulk d + 1
  | (_, d) => uptoBulk d + 1
 end
def uptoSmall : (H : Type) → List (DataW H) → Bool := fun _ ds => decide (uptoBulkAll ds ≤ 1048576)
def OpenSpec.upto (s : _root_.Go.ChangeSpec) : _root_.Go.OpenSpec := { _root_.Go.OpenSpec.ofChange s with cond := some uptoSmall }

/-- 'laws.FnExactTableMatch', WHERE WHAT IT READS IS OF BULK AT MOST 1048576: true; the input reads as it did. -/
def fnExactTableMatchUptoRow : OpenClaim := { program := "ytfiojdiogjpakaa", sum := "bd644b107d908e2e32ef73f62c1dd450e845eaff65ff640b72adf614243b8216", func := "loop.example/bentrows/laws.FnExactTableMatch", spec := "fnExactTableMatch", unfollowed := true, recurses := true, apart := false, narrowed := true }
def FnExactTableMatchUptoSaid : Prop := fnExactTableMatchUptoRow.holds Try.pinned (OpenSpec.upto fnExactTableMatchSpec)

/-- 'laws.FnExactTableLoad', WHERE WHAT IT READS IS OF BULK AT MOST 1048576: true; the input reads as it did. -/
def fnExactTableLoadUptoRow : OpenClaim := { program := "ytfiojdiogjpakaa", sum := "bd644b107d908e2e32ef73f62c1dd450e845eaff65ff640b72adf614243b8216", func := "loop.example/bentrows/laws.FnExactTableLoad", spec := "fnExactTableLoad", unfollowed := true, recurses := true, apart := false, narrowed := true }
def FnExactTableLoadUptoSaid : Prop := fnExactTableLoadUptoRow.holds Try.pinned (OpenSpec.upto fnExactTableLoadSpec)

/-- 'laws.FnExactTableBetter', WHERE WHAT IT READS IS OF BULK AT MOST 1048576: true; the input reads as it did. -/
def fnExactTableBetterUptoRow : OpenClaim := { program := "ytfiojdiogjpakaa", sum := "bd644b107d908e2e32ef73f62c1dd450e845eaff65ff640b72adf614243b8216", func := "loop.example/bentrows/laws.FnExactTableBetter", spec := "fnExactTableBetter", unfollowed := true, recurses := true, apart := false, narrowed := true }
def FnExactTableBetterUptoSaid : Prop := fnExactTableBetterUptoRow.holds Try.pinned (OpenSpec.upto fnExactTableBetterSpec)

/-- 'laws.FnExactShareGreedy', WHERE WHAT IT READS IS OF BULK AT MOST 1048576: true; the input reads as it did. -/
def fnExactShareGreedyUptoRow : OpenClaim := { program := "ytfiojdiogjpakaa", sum := "bd644b107d908e2e32ef73f62c1dd450e845eaff65ff640b72adf614243b8216", func := "loop.example/bentrows/laws.FnExactShareGreedy", spec := "fnExactShareGreedy", unfollowed := true, recurses := true, apart := false, narrowed := true }
def FnExactShareGreedyUptoSaid : Prop := fnExactShareGreedyUptoRow.holds Try.pinned (OpenSpec.upto fnExactShareGreedySpec)

/-- 'laws.FnExactEvenIs', WHERE WHAT IT READS IS OF BULK AT MOST 1048576: true; the input reads as it did. -/
def fnExactEvenIsUptoRow : OpenClaim := { program := "ytfiojdiogjpakaa", sum := "bd644b107d908e2e32ef73f62c1dd450e845eaff65ff640b72adf614243b8216", func := "loop.example/bentrows/laws.FnExactEvenIs", spec := "fnExactEvenIs", unfollowed := true, recurses := true, apart := false, narrowed := true }
def FnExactEvenIsUptoSaid : Prop := fnExactEvenIsUptoRow.holds Try.pinned (OpenSpec.upto fnExactEvenIsSpec)

/-- 'laws.FnExactEvenLevels', WHERE WHAT IT READS IS OF BULK AT MOST 1048576: true; the input reads as it did. -/
def fnExactEvenLevelsUptoRow : OpenClaim := { program := "ytfiojdiogjpakaa", sum := "bd644b107d908e2e32ef73f62c1dd450e845eaff65ff640b72adf614243b8216", func := "loop.example/bentrows/laws.FnExactEvenLevels", spec := "fnExactEvenLevels", unfollowed := true, recurses := true, apart := false, narrowed := true }
def FnExactEvenLevelsUptoSaid : Prop := fnExactEvenLevelsUptoRow.holds Try.pinned (OpenSpec.upto fnExactEvenLevelsSpec)

/-- 'laws.FnExactEvenMost', WHERE WHAT IT READS IS OF BULK AT MOST 1048576: true; the input reads as it did. -/
def fnExactEvenMostUptoRow : OpenClaim := { program := "ytfiojdiogjpakaa", sum := "bd644b107d908e2e32ef73f62c1dd450e845eaff65ff640b72adf614243b8216", func := "loop.example/bentrows/laws.FnExactEvenMost", spec := "fnExactEvenMost", unfollowed := true, recurses := true, apart := false, narrowed := true }
def FnExactEvenMostUptoSaid : Prop := fnExactEvenMostUptoRow.holds Try.pinned (OpenSpec.upto fnExactEvenMostSpec)

/-- 'laws.FnExactEvenSteps', WHERE WHAT IT READS IS OF BULK AT MOST 1048576: true; the input reads as it did. -/
def fnExactEvenStepsUptoRow : OpenClaim := { program := "ytfiojdiogjpakaa", sum := "bd644b107d908e2e32ef73f62c1dd450e845eaff65ff640b72adf614243b8216", func := "loop.example/bentrows/laws.FnExactEvenSteps", spec := "fnExactEvenSteps", unfollowed := true, recurses := true, apart := false, narrowed := true }
def FnExactEvenStepsUptoSaid : Prop := fnExactEvenStepsUptoRow.holds Try.pinned (OpenSpec.upto fnExactEvenStepsSpec)

/-- 'laws.FnExactEvenSum', WHERE WHAT IT READS IS OF BULK AT MOST 1048576: true; the input reads as it did. -/
def fnExactEvenSumUptoRow : OpenClaim := { program := "ytfiojdiogjpakaa", sum := "bd644b107d908e2e32ef73f62c1dd450e845eaff65ff640b72adf614243b8216", func := "loop.example/bentrows/laws.FnExactEvenSum", spec := "fnExactEvenSum", unfollowed := true, recurses := true, apart := false, narrowed := true }
def FnExactEvenSumUptoSaid : Prop := fnExactEvenSumUptoRow.holds Try.pinned (OpenSpec.upto fnExactEvenSumSpec)

/-- 'laws.FnExactEvenMeet', WHERE WHAT IT READS IS OF BULK AT MOST 1048576: true; the input reads as it did. -/
def fnExactEvenMeetUptoRow : OpenClaim := { program := "ytfiojdiogjpakaa", sum := "bd644b107d908e2e32ef73f62c1dd450e845eaff65ff640b72adf614243b8216", func := "loop.example/bentrows/laws.FnExactEvenMeet", spec := "fnExactEvenMeet", unfollowed := true, recurses := true, apart := false, narrowed := true }
def FnExactEvenMeetUptoSaid : Prop := fnExactEvenMeetUptoRow.holds Try.pinned (OpenSpec.upto fnExactEvenMeetSpec)

end Rows
end Go.Proofs.Ytfiojdiogjpakaa
