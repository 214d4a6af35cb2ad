/-
  No cell of these rows narrows 'for every input' (looked for: loops, veiled, ifaces, maps, wideKeys, modest, calm, conditions, laid).
  DERIVED. THE GIVEN ROWS OF THIS SEAT. 15 by the template 'for every input the law returns true; each argument reads behind the call as it read before'; 0 by the template 'total and deterministic' (their statements: YtdkkmdifdbikaaaTotals.lean).
  GIVEN WITH THE SEED: the statements are not yours to turn. If you find one false, say at which input.
  Laid BY PROGRAM, IN A SANDBOX (cutbox-rows.mjs): the forced cells as the released guide's own fill.sh prints them over the translation 6d3a2246d4ac743f… (all of the seat's roots in one cut). By AI agents, Wed Nov 11 2026. No macro, syntax, notation, axiom, sorry.
-/
import Derived.Test.YtdkkmdifdbikaaaChecked
import GoSem.Claim
import GoSem.ClaimJoined
import GoSem.ClaimMapViews
import Derived.JoinedTies
import Derived.KernelRfl
namespace Go.Proofs.Ytdkkmdifdbikaaa
/- THE CELL 'sum', in the pinned program and in every row, IS THE sha256 OF THE DUMP (.gsa) THAT YtdkkmdifdbikaaaProg.lean LOADS. Nothing in Lean hashes anything: it is a label: what it is worth is what the hold of that sum in a sandbox is worth. -/
noncomputable def Try.pinned : Pinned := { name := "ytdkkmdifdbikaaa", sum := "6d3a2246d4ac743fa4057ef4ad927f2ac85a260ee32d811a1578d6bddebec7b7", checked := Try.checked }
namespace Rows
def none {H : Type} : Left H := { results := [], args := [] }

/-- 'laws.FnSlopes': WHATEVER THE INPUT: true; the input reads as it did. -/
def fnSlopesSpec : ChangeSpec := { name := "fnSlopes", fn := fun _ => fun
  | [d] => { results := [.lit (.bool true)], args := [d] }
  | _ => none }
def fnSlopesRow : OpenClaim := { program := "ytdkkmdifdbikaaa", sum := "6d3a2246d4ac743fa4057ef4ad927f2ac85a260ee32d811a1578d6bddebec7b7", func := "loop.example/bentrows/laws.FnSlopes", spec := "fnSlopes", unfollowed := true, recurses := true, apart := false }
def FnSlopesSaid : Prop := fnSlopesRow.holds Try.pinned (OpenSpec.ofChange fnSlopesSpec)

/-- ITS FALSE NEIGHBOUR: 'it returns false'. Refute it at one input. -/
def fnSlopesWrong : ChangeSpec := { name := "fnSlopes", fn := fun _ => fun
  | [d] => { results := [.lit (.bool false)], args := [d] }
  | _ => none }
def FnSlopesWrongFalsely : Prop := fnSlopesRow.holds Try.pinned (OpenSpec.ofChange fnSlopesWrong)

/-- 'laws.FnFrom': WHATEVER THE INPUT: true; the input reads as it did. -/
def fnFromSpec : ChangeSpec := { name := "fnFrom", fn := fun _ => fun
  | [d] => { results := [.lit (.bool true)], args := [d] }
  | _ => none }
def fnFromRow : OpenClaim := { program := "ytdkkmdifdbikaaa", sum := "6d3a2246d4ac743fa4057ef4ad927f2ac85a260ee32d811a1578d6bddebec7b7", func := "loop.example/bentrows/laws.FnFrom", spec := "fnFrom", unfollowed := true, recurses := true, apart := false }
def FnFromSaid : Prop := fnFromRow.holds Try.pinned (OpenSpec.ofChange fnFromSpec)

/-- ITS FALSE NEIGHBOUR: 'it returns false'. Refute it at one input. -/
def fnFromWrong : ChangeSpec := { name := "fnFrom", fn := fun _ => fun
  | [d] => { results := [.lit (.bool false)], args := [d] }
  | _ => none }
def FnFromWrongFalsely : Prop := fnFromRow.holds Try.pinned (OpenSpec.ofChange fnFromWrong)

/-- 'laws.FnExactRowIn': WHATEVER THE INPUT: true; the input reads as it did. -/
def fnExactRowInSpec : ChangeSpec := { name := "fnExactRowIn", fn := fun _ => fun
  | [d] => { results := [.lit (.bool true)], args := [d] }
  | _ => none }
def fnExactRowInRow : OpenClaim := { program := "ytdkkmdifdbikaaa", sum := "6d3a2246d4ac743fa4057ef4ad927f2ac85a260ee32d811a1578d6bddebec7b7", func := "loop.example/bentrows/laws.FnExactRowIn", spec := "fnExactRowIn", unfollowed := true, recurses := true, apart := false }
def FnExactRowInSaid : Prop := fnExactRowInRow.holds Try.pinned (OpenSpec.ofChange fnExactRowInSpec)

/-- ITS FALSE NEIGHBOUR: 'it returns false'. Refute it at one input. -/
def fnExactRowInWrong : ChangeSpec := { name := "fnExactRowIn", fn := fun _ => fun
  | [d] => { results := [.lit (.bool false)], args := [d] }
  | _ => none }
def FnExactRowInWrongFalsely : Prop := fnExactRowInRow.holds Try.pinned (OpenSpec.ofChange fnExactRowInWrong)

/-- 'laws.FnExactRowSlopes': WHATEVER THE INPUT: true; the input reads as it did. -/
def fnExactRowSlopesSpec : ChangeSpec := { name := "fnExactRowSlopes", fn := fun _ => fun
  | [d] => { results := [.lit (.bool true)], args := [d] }
  | _ => none }
def fnExactRowSlopesRow : OpenClaim := { program := "ytdkkmdifdbikaaa", sum := "6d3a2246d4ac743fa4057ef4ad927f2ac85a260ee32d811a1578d6bddebec7b7", func := "loop.example/bentrows/laws.FnExactRowSlopes", spec := "fnExactRowSlopes", unfollowed := true, recurses := true, apart := false }
def FnExactRowSlopesSaid : Prop := fnExactRowSlopesRow.holds Try.pinned (OpenSpec.ofChange fnExactRowSlopesSpec)

/-- ITS FALSE NEIGHBOUR: 'it returns false'. Refute it at one input. -/
def fnExactRowSlopesWrong : ChangeSpec := { name := "fnExactRowSlopes", fn := fun _ => fun
  | [d] => { results := [.lit (.bool false)], args := [d] }
  | _ => none }
def FnExactRowSlopesWrongFalsely : Prop := fnExactRowSlopesRow.holds Try.pinned (OpenSpec.ofChange fnExactRowSlopesWrong)

/-- 'laws.FnExactRowFrom': WHATEVER THE INPUT: true; the input reads as it did. -/
def fnExactRowFromSpec : ChangeSpec := { name := "fnExactRowFrom", fn := fun _ => fun
  | [d1, d2] => { results := [.lit (.bool true)], args := [d1, d2] }
  | _ => none }
def fnExactRowFromRow : OpenClaim := { program := "ytdkkmdifdbikaaa", sum := "6d3a2246d4ac743fa4057ef4ad927f2ac85a260ee32d811a1578d6bddebec7b7", func := "loop.example/bentrows/laws.FnExactRowFrom", spec := "fnExactRowFrom", unfollowed := true, recurses := true, apart := false }
def FnExactRowFromSaid : Prop := fnExactRowFromRow.holds Try.pinned (OpenSpec.ofChange fnExactRowFromSpec)

/-- ITS FALSE NEIGHBOUR: 'it returns false'. Refute it at one input. -/
def fnExactRowFromWrong : ChangeSpec := { name := "fnExactRowFrom", fn := fun _ => fun
  | [d1, d2] => { results := [.lit (.bool false)], args := [d1, d2] }
  | _ => none }
def FnExactRowFromWrongFalsely : Prop := fnExactRowFromRow.holds Try.pinned (OpenSpec.ofChange fnExactRowFromWrong)

/-- 'laws.FnExactRowBent': WHATEVER THE INPUT: true; the input reads as it did. -/
def fnExactRowBentSpec : ChangeSpec := { name := "fnExactRowBent", fn := fun _ => fun
  | [d] => { results := [.lit (.bool true)], args := [d] }
  | _ => none }
def fnExactRowBentRow : OpenClaim := { program := "ytdkkmdifdbikaaa", sum := "6d3a2246d4ac743fa4057ef4ad927f2ac85a260ee32d811a1578d6bddebec7b7", func := "loop.example/bentrows/laws.FnExactRowBent", spec := "fnExactRowBent", unfollowed := true, recurses := true, apart := false }
def FnExactRowBentSaid : Prop := fnExactRowBentRow.holds Try.pinned (OpenSpec.ofChange fnExactRowBentSpec)

/-- ITS FALSE NEIGHBOUR: 'it returns false'. Refute it at one input. -/
def fnExactRowBentWrong : ChangeSpec := { name := "fnExactRowBent", fn := fun _ => fun
  | [d] => { results := [.lit (.bool false)], args := [d] }
  | _ => none }
def FnExactRowBentWrongFalsely : Prop := fnExactRowBentRow.holds Try.pinned (OpenSpec.ofChange fnExactRowBentWrong)

/-- 'laws.FnExactRowSum': WHATEVER THE INPUT: true; the input reads as it did. -/
def fnExactRowSumSpec : ChangeSpec := { name := "fnExactRowSum", fn := fun _ => fun
  | [d1, d2] => { results := [.lit (.bool true)], args := [d1, d2] }
  | _ => none }
def fnExactRowSumRow : OpenClaim := { program := "ytdkkmdifdbikaaa", sum := "6d3a2246d4ac743fa4057ef4ad927f2ac85a260ee32d811a1578d6bddebec7b7", func := "loop.example/bentrows/laws.FnExactRowSum", spec := "fnExactRowSum", unfollowed := true, recurses := true, apart := false }
def FnExactRowSumSaid : Prop := fnExactRowSumRow.holds Try.pinned (OpenSpec.ofChange fnExactRowSumSpec)

/-- ITS FALSE NEIGHBOUR: 'it returns false'. Refute it at one input. -/
def fnExactRowSumWrong : ChangeSpec := { name := "fnExactRowSum", fn := fun _ => fun
  | [d1, d2] => { results := [.lit (.bool false)], args := [d1, d2] }
  | _ => none }
def FnExactRowSumWrongFalsely : Prop := fnExactRowSumRow.holds Try.pinned (OpenSpec.ofChange fnExactRowSumWrong)

/-- 'laws.FnExactRowTimes': WHATEVER THE INPUT: true; the input reads as it did. -/
def fnExactRowTimesSpec : ChangeSpec := { name := "fnExactRowTimes", fn := fun _ => fun
  | [d1, d2] => { results := [.lit (.bool true)], args := [d1, d2] }
  | _ => none }
def fnExactRowTimesRow : OpenClaim := { program := "ytdkkmdifdbikaaa", sum := "6d3a2246d4ac743fa4057ef4ad927f2ac85a260ee32d811a1578d6bddebec7b7", func := "loop.example/bentrows/laws.FnExactRowTimes", spec := "fnExactRowTimes", unfollowed := true, recurses := true, apart := false }
def FnExactRowTimesSaid : Prop := fnExactRowTimesRow.holds Try.pinned (OpenSpec.ofChange fnExactRowTimesSpec)

/-- ITS FALSE NEIGHBOUR: 'it returns false'. Refute it at one input. -/
def fnExactRowTimesWrong : ChangeSpec := { name := "fnExactRowTimes", fn := fun _ => fun
  | [d1, d2] => { results := [.lit (.bool false)], args := [d1, d2] }
  | _ => none }
def FnExactRowTimesWrongFalsely : Prop := fnExactRowTimesRow.holds Try.pinned (OpenSpec.ofChange fnExactRowTimesWrong)

/-- 'laws.FnExactRowBack': WHATEVER THE INPUT: true; the input reads as it did. -/
def fnExactRowBackSpec : ChangeSpec := { name := "fnExactRowBack", fn := fun _ => fun
  | [d] => { results := [.lit (.bool true)], args := [d] }
  | _ => none }
def fnExactRowBackRow : OpenClaim := { program := "ytdkkmdifdbikaaa", sum := "6d3a2246d4ac743fa4057ef4ad927f2ac85a260ee32d811a1578d6bddebec7b7", func := "loop.example/bentrows/laws.FnExactRowBack", spec := "fnExactRowBack", unfollowed := true, recurses := true, apart := false }
def FnExactRowBackSaid : Prop := fnExactRowBackRow.holds Try.pinned (OpenSpec.ofChange fnExactRowBackSpec)

/-- ITS FALSE NEIGHBOUR: 'it returns false'. Refute it at one input. -/
def fnExactRowBackWrong : ChangeSpec := { name := "fnExactRowBack", fn := fun _ => fun
  | [d] => { results := [.lit (.bool false)], args := [d] }
  | _ => none }
def FnExactRowBackWrongFalsely : Prop := fnExactRowBackRow.holds Try.pinned (OpenSpec.ofChange fnExactRowBackWrong)

/-- 'laws.FnExactRowTilt': WHATEVER THE INPUT: true; the input reads as it did. -/
def fnExactRowTiltSpec : ChangeSpec := { name := "fnExactRowTilt", fn := fun _ => fun
  | [d1, d2, d3] => { results := [.lit (.bool true)], args := [d1, d2, d3] }
  | _ => none }
def fnExactRowTiltRow : OpenClaim := { program := "ytdkkmdifdbikaaa", sum := "6d3a2246d4ac743fa4057ef4ad927f2ac85a260ee32d811a1578d6bddebec7b7", func := "loop.example/bentrows/laws.FnExactRowTilt", spec := "fnExactRowTilt", unfollowed := true, recurses := true, apart := false }
def FnExactRowTiltSaid : Prop := fnExactRowTiltRow.holds Try.pinned (OpenSpec.ofChange fnExactRowTiltSpec)

/-- ITS FALSE NEIGHBOUR: 'it returns false'. Refute it at one input. -/
def fnExactRowTiltWrong : ChangeSpec := { name := "fnExactRowTilt", fn := fun _ => fun
  | [d1, d2, d3] => { results := [.lit (.bool false)], args := [d1, d2, d3] }
  | _ => none }
def FnExactRowTiltWrongFalsely : Prop := fnExactRowTiltRow.holds Try.pinned (OpenSpec.ofChange fnExactRowTiltWrong)

/-- 'laws.FnExactRowHigh': WHATEVER THE INPUT: true; the input reads as it did. -/
def fnExactRowHighSpec : ChangeSpec := { name := "fnExactRowHigh", fn := fun _ => fun
  | [d1, d2] => { results := [.lit (.bool true)], args := [d1, d2] }
  | _ => none }
def fnExactRowHighRow : OpenClaim := { program := "ytdkkmdifdbikaaa", sum := "6d3a2246d4ac743fa4057ef4ad927f2ac85a260ee32d811a1578d6bddebec7b7", func := "loop.example/bentrows/laws.FnExactRowHigh", spec := "fnExactRowHigh", unfollowed := true, recurses := true, apart := false }
def FnExactRowHighSaid : Prop := fnExactRowHighRow.holds Try.pinned (OpenSpec.ofChange fnExactRowHighSpec)

/-- ITS FALSE NEIGHBOUR: 'it returns false'. Refute it at one input. -/
def fnExactRowHighWrong : ChangeSpec := { name := "fnExactRowHigh", fn := fun _ => fun
  | [d1, d2] => { results := [.lit (.bool false)], args := [d1, d2] }
  | _ => none }
def FnExactRowHighWrongFalsely : Prop := fnExactRowHighRow.holds Try.pinned (OpenSpec.ofChange fnExactRowHighWrong)

/-- 'laws.FnExactRowLow': WHATEVER THE INPUT: true; the input reads as it did. -/
def fnExactRowLowSpec : ChangeSpec := { name := "fnExactRowLow", fn := fun _ => fun
  | [d1, d2] => { results := [.lit (.bool true)], args := [d1, d2] }
  | _ => none }
def fnExactRowLowRow : OpenClaim := { program := "ytdkkmdifdbikaaa", sum := "6d3a2246d4ac743fa4057ef4ad927f2ac85a260ee32d811a1578d6bddebec7b7", func := "loop.example/bentrows/laws.FnExactRowLow", spec := "fnExactRowLow", unfollowed := true, recurses := true, apart := false }
def FnExactRowLowSaid : Prop := fnExactRowLowRow.holds Try.pinned (OpenSpec.ofChange fnExactRowLowSpec)

/-- ITS FALSE NEIGHBOUR: 'it returns false'. Refute it at one input. -/
def fnExactRowLowWrong : ChangeSpec := { name := "fnExactRowLow", fn := fun _ => fun
  | [d1, d2] => { results := [.lit (.bool false)], args := [d1, d2] }
  | _ => none }
def FnExactRowLowWrongFalsely : Prop := fnExactRowLowRow.holds Try.pinned (OpenSpec.ofChange fnExactRowLowWrong)

/-- 'laws.FnExactRowLeast': WHATEVER THE INPUT: true; the input reads as it did. -/
def fnExactRowLeastSpec : ChangeSpec := { name := "fnExactRowLeast", fn := fun _ => fun
  | [d] => { results := [.lit (.bool true)], args := [d] }
  | _ => none }
def fnExactRowLeastRow : OpenClaim := { program := "ytdkkmdifdbikaaa", sum := "6d3a2246d4ac743fa4057ef4ad927f2ac85a260ee32d811a1578d6bddebec7b7", func := "loop.example/bentrows/laws.FnExactRowLeast", spec := "fnExactRowLeast", unfollowed := true, recurses := true, apart := false }
def FnExactRowLeastSaid : Prop := fnExactRowLeastRow.holds Try.pinned (OpenSpec.ofChange fnExactRowLeastSpec)

/-- ITS FALSE NEIGHBOUR: 'it returns false'. Refute it at one input. -/
def fnExactRowLeastWrong : ChangeSpec := { name := "fnExactRowLeast", fn := fun _ => fun
  | [d] => { results := [.lit (.bool false)], args := [d] }
  | _ => none }
def FnExactRowLeastWrongFalsely : Prop := fnExactRowLeastRow.holds Try.pinned (OpenSpec.ofChange fnExactRowLeastWrong)

/-- 'laws.FnExactRowBelow': WHATEVER THE INPUT: true; the input reads as it did. -/
def fnExactRowBelowSpec : ChangeSpec := { name := "fnExactRowBelow", fn := fun _ => fun
  | [d1, d2] => { results := [.lit (.bool true)], args := [d1, d2] }
  | _ => none }
def fnExactRowBelowRow : OpenClaim := { program := "ytdkkmdifdbikaaa", sum := "6d3a2246d4ac743fa4057ef4ad927f2ac85a260ee32d811a1578d6bddebec7b7", func := "loop.example/bentrows/laws.FnExactRowBelow", spec := "fnExactRowBelow", unfollowed := true, recurses := true, apart := false }
def FnExactRowBelowSaid : Prop := fnExactRowBelowRow.holds Try.pinned (OpenSpec.ofChange fnExactRowBelowSpec)

/-- ITS FALSE NEIGHBOUR: 'it returns false'. Refute it at one input. -/
def fnExactRowBelowWrong : ChangeSpec := { name := "fnExactRowBelow", fn := fun _ => fun
  | [d1, d2] => { results := [.lit (.bool false)], args := [d1, d2] }
  | _ => none }
def FnExactRowBelowWrongFalsely : Prop := fnExactRowBelowRow.holds Try.pinned (OpenSpec.ofChange fnExactRowBelowWrong)

/-- 'laws.FnExactRowPart': WHATEVER THE INPUT: true; the input reads as it did. -/
def fnExactRowPartSpec : ChangeSpec := { name := "fnExactRowPart", fn := fun _ => fun
  | [d1, d2, d3] => { results := [.lit (.bool true)], args := [d1, d2, d3] }
  | _ => none }
def fnExactRowPartRow : OpenClaim := { program := "ytdkkmdifdbikaaa", sum := "6d3a2246d4ac743fa4057ef4ad927f2ac85a260ee32d811a1578d6bddebec7b7", func := "loop.example/bentrows/laws.FnExactRowPart", spec := "fnExactRowPart", unfollowed := true, recurses := true, apart := false }
def FnExactRowPartSaid : Prop := fnExactRowPartRow.holds Try.pinned (OpenSpec.ofChange fnExactRowPartSpec)

/-- ITS FALSE NEIGHBOUR: 'it returns false'. Refute it at one input. -/
def fnExactRowPartWrong : ChangeSpec := { name := "fnExactRowPart", fn := fun _ => fun
  | [d1, d2, d3] => { results := [.lit (.bool false)], args := [d1, d2, d3] }
  | _ => none }
def FnExactRowPartWrongFalsely : Prop := fnExactRowPartRow.holds Try.pinned (OpenSpec.ofChange fnExactRowPartWrong)

/- THE SECOND FORM. 'bulk': how many values and letters a reading holds, each counted each time it is reached (what is shared counts as often as it is met; a slice's spare places count too). A statement '..UptoSaid' is the law's where the arguments, and the package variables that the reading takes, are together of bulk at most 1048576: NARROWER than '..Said'. Prove '..Said' where nothing that the law and all that it calls make is longer than what came in: it says more and counts as full. Else prove '..UptoSaid'. A law counts once. -/
mutual
def uptoBulk {H : Type} : DataW H → Nat
  | .lit (.string bytes) => bytes.length + 1
  | .lit _ => 1
  | .nil => 1
  | .ptr d => uptoBulk d + 1
  | .slice elems spare => uptoBulkAll elems + uptoBulkAll spare + 1
  | .agg parts => uptoBulkAll parts + 1
  | .iface _ d => uptoBulk d + 1
  | .map entries => uptoBulkEntries entries + 1
  | .held _ => 1
def uptoBulkAll {H : Type} : List (DataW H) → Nat
  | [] => 0
  | d :: r => uptoBulk d + uptoBulkAll r
def uptoBulkEntries {H : Type} : List (Lit × DataW H) → Nat
  | [] => 0
  | x :: r => uptoBulkEntry x + uptoBulkEntries r
def uptoBulkEntry {H : Type} : Lit × DataW H → Nat
  | (.string bytes, d) => bytes.length + uptoBulk d + 1
  | (_, d) => uptoBulk d + 1
 end
def uptoSmall : (H : Type) → List (DataW H) → Bool := fun _ ds => decide (uptoBulkAll ds ≤ 1048576)
def OpenSpec.upto (s : _root_.Go.ChangeSpec) : _root_.Go.OpenSpec := { _root_.Go.OpenSpec.ofChange s with cond := some uptoSmall }

/-- 'laws.FnSlopes', WHERE WHAT IT READS IS OF BULK AT MOST 1048576: true; the input reads as it did. -/
def fnSlopesUptoRow : OpenClaim := { program := "ytdkkmdifdbikaaa", sum := "6d3a2246d4ac743fa4057ef4ad927f2ac85a260ee32d811a1578d6bddebec7b7", func := "loop.example/bentrows/laws.FnSlopes", spec := "fnSlopes", unfollowed := true, recurses := true, apart := false, narrowed := true }
def FnSlopesUptoSaid : Prop := fnSlopesUptoRow.holds Try.pinned (OpenSpec.upto fnSlopesSpec)

/-- 'laws.FnFrom', WHERE WHAT IT READS IS OF BULK AT MOST 1048576: true; the input reads as it did. -/
def fnFromUptoRow : OpenClaim := { program := "ytdkkmdifdbikaaa", sum := "6d3a2246d4ac743fa4057ef4ad927f2ac85a260ee32d811a1578d6bddebec7b7", func := "loop.example/bentrows/laws.FnFrom", spec := "fnFrom", unfollowed := true, recurses := true, apart := false, narrowed := true }
def FnFromUptoSaid : Prop := fnFromUptoRow.holds Try.pinned (OpenSpec.upto fnFromSpec)

/-- 'laws.FnExactRowIn', WHERE WHAT IT READS IS OF BULK AT MOST 1048576: true; the input reads as it did. -/
def fnExactRowInUptoRow : OpenClaim := { program := "ytdkkmdifdbikaaa", sum := "6d3a2246d4ac743fa4057ef4ad927f2ac85a260ee32d811a1578d6bddebec7b7", func := "loop.example/bentrows/laws.FnExactRowIn", spec := "fnExactRowIn", unfollowed := true, recurses := true, apart := false, narrowed := true }
def FnExactRowInUptoSaid : Prop := fnExactRowInUptoRow.holds Try.pinned (OpenSpec.upto fnExactRowInSpec)

/-- 'laws.FnExactRowSlopes', WHERE WHAT IT READS IS OF BULK AT MOST 1048576: true; the input reads as it did. -/
def fnExactRowSlopesUptoRow : OpenClaim := { program := "ytdkkmdifdbikaaa", sum := "6d3a2246d4ac743fa4057ef4ad927f2ac85a260ee32d811a1578d6bddebec7b7", func := "loop.example/bentrows/laws.FnExactRowSlopes", spec := "fnExactRowSlopes", unfollowed := true, recurses := true, apart := false, narrowed := true }
def FnExactRowSlopesUptoSaid : Prop := fnExactRowSlopesUptoRow.holds Try.pinned (OpenSpec.upto fnExactRowSlopesSpec)

/-- 'laws.FnExactRowFrom', WHERE WHAT IT READS IS OF BULK AT MOST 1048576: true; the input reads as it did. -/
def fnExactRowFromUptoRow : OpenClaim := { program := "ytdkkmdifdbikaaa", sum := "6d3a2246d4ac743fa4057ef4ad927f2ac85a260ee32d811a1578d6bddebec7b7", func := "loop.example/bentrows/laws.FnExactRowFrom", spec := "fnExactRowFrom", unfollowed := true, recurses := true, apart := false, narrowed := true }
def FnExactRowFromUptoSaid : Prop := fnExactRowFromUptoRow.holds Try.pinned (OpenSpec.upto fnExactRowFromSpec)

/-- 'laws.FnExactRowBent', WHERE WHAT IT READS IS OF BULK AT MOST 1048576: true; the input reads as it did. -/
def fnExactRowBentUptoRow : OpenClaim := { program := "ytdkkmdifdbikaaa", sum := "6d3a2246d4ac743fa4057ef4ad927f2ac85a260ee32d811a1578d6bddebec7b7", func := "loop.example/bentrows/laws.FnExactRowBent", spec := "fnExactRowBent", unfollowed := true, recurses := true, apart := false, narrowed := true }
def FnExactRowBentUptoSaid : Prop := fnExactRowBentUptoRow.holds Try.pinned (OpenSpec.upto fnExactRowBentSpec)

/-- 'laws.FnExactRowSum', WHERE WHAT IT READS IS OF BULK AT MOST 1048576: true; the input reads as it did. -/
def fnExactRowSumUptoRow : OpenClaim := { program := "ytdkkmdifdbikaaa", sum := "6d3a2246d4ac743fa4057ef4ad927f2ac85a260ee32d811a1578d6bddebec7b7", func := "loop.example/bentrows/laws.FnExactRowSum", spec := "fnExactRowSum", unfollowed := true, recurses := true, apart := false, narrowed := true }
def FnExactRowSumUptoSaid : Prop := fnExactRowSumUptoRow.holds Try.pinned (OpenSpec.upto fnExactRowSumSpec)

/-- 'laws.FnExactRowTimes', WHERE WHAT IT READS IS OF BULK AT MOST 1048576: true; the input reads as it did. -/
def fnExactRowTimesUptoRow : OpenClaim := { program := "ytdkkmdifdbikaaa", sum := "6d3a2246d4ac743fa4057ef4ad927f2ac85a260ee32d811a1578d6bddebec7b7", func := "loop.example/bentrows/laws.FnExactRowTimes", spec := "fnExactRowTimes", unfollowed := true, recurses := true, apart := false, narrowed := true }
def FnExactRowTimesUptoSaid : Prop := fnExactRowTimesUptoRow.holds Try.pinned (OpenSpec.upto fnExactRowTimesSpec)

/-- 'laws.FnExactRowBack', WHERE WHAT IT READS IS OF BULK AT MOST 1048576: true; the input reads as it did. -/
def fnExactRowBackUptoRow : OpenClaim := { program := "ytdkkmdifdbikaaa", sum := "6d3a2246d4ac743fa4057ef4ad927f2ac85a260ee32d811a1578d6bddebec7b7", func := "loop.example/bentrows/laws.FnExactRowBack", spec := "fnExactRowBack", unfollowed := true, recurses := true, apart := false, narrowed := true }
def FnExactRowBackUptoSaid : Prop := fnExactRowBackUptoRow.holds Try.pinned (OpenSpec.upto fnExactRowBackSpec)

/-- 'laws.FnExactRowTilt', WHERE WHAT IT READS IS OF BULK AT MOST 1048576: true; the input reads as it did. -/
def fnExactRowTiltUptoRow : OpenClaim := { program := "ytdkkmdifdbikaaa", sum := "6d3a2246d4ac743fa4057ef4ad927f2ac85a260ee32d811a1578d6bddebec7b7", func := "loop.example/bentrows/laws.FnExactRowTilt", spec := "fnExactRowTilt", unfollowed := true, recurses := true, apart := false, narrowed := true }
def FnExactRowTiltUptoSaid : Prop := fnExactRowTiltUptoRow.holds Try.pinned (OpenSpec.upto fnExactRowTiltSpec)

/-- 'laws.FnExactRowHigh', WHERE WHAT IT READS IS OF BULK AT MOST 1048576: true; the input reads as it did. -/
def fnExactRowHighUptoRow : OpenClaim := { program := "ytdkkmdifdbikaaa", sum := "6d3a2246d4ac743fa4057ef4ad927f2ac85a260ee32d811a1578d6bddebec7b7", func := "loop.example/bentrows/laws.FnExactRowHigh", spec := "fnExactRowHigh", unfollowed := true, recurses := true, apart := false, narrowed := true }
def FnExactRowHighUptoSaid : Prop := fnExactRowHighUptoRow.holds Try.pinned (OpenSpec.upto fnExactRowHighSpec)

/-- 'laws.FnExactRowLow', WHERE WHAT IT READS IS OF BULK AT MOST 1048576: true; the input reads as it did. -/
def fnExactRowLowUptoRow : OpenClaim := { program := "ytdkkmdifdbikaaa", sum := "6d3a2246d4ac743fa4057ef4ad927f2ac85a260ee32d811a1578d6bddebec7b7", func := "loop.example/bentrows/laws.FnExactRowLow", spec := "fnExactRowLow", unfollowed := true, recurses := true, apart := false, narrowed := true }
def FnExactRowLowUptoSaid : Prop := fnExactRowLowUptoRow.holds Try.pinned (OpenSpec.upto fnExactRowLowSpec)

/-- 'laws.FnExactRowLeast', WHERE WHAT IT READS IS OF BULK AT MOST 1048576: true; the input reads as it did. -/
def fnExactRowLeastUptoRow : OpenClaim := { program := "ytdkkmdifdbikaaa", sum := "6d3a2246d4ac743fa4057ef4ad927f2ac85a260ee32d811a1578d6bddebec7b7", func := "loop.example/bentrows/laws.FnExactRowLeast", spec := "fnExactRowLeast", unfollowed := true, recurses := true, apart := false, narrowed := true }
def FnExactRowLeastUptoSaid : Prop := fnExactRowLeastUptoRow.holds Try.pinned (OpenSpec.upto fnExactRowLeastSpec)

/-- 'laws.FnExactRowBelow', WHERE WHAT IT READS IS OF BULK AT MOST 1048576: true; the input reads as it did. -/
def fnExactRowBelowUptoRow : OpenClaim := { program := "ytdkkmdifdbikaaa", sum := "6d3a2246d4ac743fa4057ef4ad927f2ac85a260ee32d811a1578d6bddebec7b7", func := "loop.example/bentrows/laws.FnExactRowBelow", spec := "fnExactRowBelow", unfollowed := true, recurses := true, apart := false, narrowed := true }
def FnExactRowBelowUptoSaid : Prop := fnExactRowBelowUptoRow.holds Try.pinned (OpenSpec.upto fnExactRowBelowSpec)

/-- 'laws.FnExactRowPart', WHERE WHAT IT READS IS OF BULK AT MOST 1048576: true; the input reads as it did. -/
def fnExactRowPartUptoRow : OpenClaim := { program := "ytdkkmdifdbikaaa", sum := "6d3a2246d4ac743fa4057ef4ad927f2ac85a260ee32d811a1578d6bddebec7b7", func := "loop.example/bentrows/laws.FnExactRowPart", spec := "fnExactRowPart", unfollowed := true, recurses := true, apart := false, narrowed := true }
def FnExactRowPartUptoSaid : Prop := fnExactRowPartUptoRow.holds Try.pinned (OpenSpec.upto fnExactRowPartSpec)

end Rows
end Go.Proofs.Ytdkkmdifdbikaaa
