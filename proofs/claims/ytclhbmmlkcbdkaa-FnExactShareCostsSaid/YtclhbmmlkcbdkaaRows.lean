/-
  No cell of these rows narrows 'for every input' (looked for: loops, veiled, ifaces, maps, wideKeys, modest, calm, conditions, laid).
  DERIVED. THE GIVEN ROWS OF THIS SEAT. 10 by the template 'for every input the law returns true; each argument reads behind the call as it read before'; 0 by the template 'total and deterministic' (their statements: YtclhbmmlkcbdkaaTotals.lean).
  GIVEN WITH THE SEED: the statements are not yours to turn. If you find one false, say at which input.
  Laid BY PROGRAM, IN A SANDBOX (cutbox-rows.mjs): the forced cells as the released guide's own fill.sh prints them over the translation e02ea89222c4e5dd… (all of the seat's roots in one cut). By AI agents, Wed Nov 11 2026. No macro, syntax, notation, axiom, sorry.
-/
import Derived.Test.YtclhbmmlkcbdkaaChecked
import GoSem.Claim
import GoSem.ClaimJoined
import GoSem.ClaimMapViews
import Derived.JoinedTies
import Derived.KernelRfl
namespace Go.Proofs.Ytclhbmmlkcbdkaa
/- THE CELL 'sum', in the pinned program and in every row, IS THE sha256 OF THE DUMP (.gsa) THAT YtclhbmmlkcbdkaaProg.lean LOADS. Nothing in Lean hashes anything: it is a label: what it is worth is what the hold of that sum in a sandbox is worth. -/
noncomputable def Try.pinned : Pinned := { name := "ytclhbmmlkcbdkaa", sum := "e02ea89222c4e5dddabf8caac3ba29265edc0b43198039ba4ead266e6605ceff", checked := Try.checked }
namespace Rows
def none {H : Type} : Left H := { results := [], args := [] }

/-- 'laws.FnExactTableMatch': WHATEVER THE INPUT: true; the input reads as it did. -/
def fnExactTableMatchSpec : ChangeSpec := { name := "fnExactTableMatch", fn := fun _ => fun
  | [d] => { results := [.lit (.bool true)], args := [d] }
  | _ => none }
def fnExactTableMatchRow : OpenClaim := { program := "ytclhbmmlkcbdkaa", sum := "e02ea89222c4e5dddabf8caac3ba29265edc0b43198039ba4ead266e6605ceff", func := "loop.example/bentrows/laws.FnExactTableMatch", spec := "fnExactTableMatch", unfollowed := true, recurses := true, apart := false }
def FnExactTableMatchSaid : Prop := fnExactTableMatchRow.holds Try.pinned (OpenSpec.ofChange fnExactTableMatchSpec)

/-- ITS FALSE NEIGHBOUR: 'it returns false'. Refute it at one input. -/
def fnExactTableMatchWrong : ChangeSpec := { name := "fnExactTableMatch", fn := fun _ => fun
  | [d] => { results := [.lit (.bool false)], args := [d] }
  | _ => none }
def FnExactTableMatchWrongFalsely : Prop := fnExactTableMatchRow.holds Try.pinned (OpenSpec.ofChange fnExactTableMatchWrong)

/-- 'laws.FnExactTableLoad': WHATEVER THE INPUT: true; the input reads as it did. -/
def fnExactTableLoadSpec : ChangeSpec := { name := "fnExactTableLoad", fn := fun _ => fun
  | [d1, d2, d3] => { results := [.lit (.bool true)], args := [d1, d2, d3] }
  | _ => none }
def fnExactTableLoadRow : OpenClaim := { program := "ytclhbmmlkcbdkaa", sum := "e02ea89222c4e5dddabf8caac3ba29265edc0b43198039ba4ead266e6605ceff", func := "loop.example/bentrows/laws.FnExactTableLoad", spec := "fnExactTableLoad", unfollowed := true, recurses := true, apart := false }
def FnExactTableLoadSaid : Prop := fnExactTableLoadRow.holds Try.pinned (OpenSpec.ofChange fnExactTableLoadSpec)

/-- ITS FALSE NEIGHBOUR: 'it returns false'. Refute it at one input. -/
def fnExactTableLoadWrong : ChangeSpec := { name := "fnExactTableLoad", fn := fun _ => fun
  | [d1, d2, d3] => { results := [.lit (.bool false)], args := [d1, d2, d3] }
  | _ => none }
def FnExactTableLoadWrongFalsely : Prop := fnExactTableLoadRow.holds Try.pinned (OpenSpec.ofChange fnExactTableLoadWrong)

/-- 'laws.FnExactTableBetter': WHATEVER THE INPUT: true; the input reads as it did. -/
def fnExactTableBetterSpec : ChangeSpec := { name := "fnExactTableBetter", fn := fun _ => fun
  | [d1, d2, d3] => { results := [.lit (.bool true)], args := [d1, d2, d3] }
  | _ => none }
def fnExactTableBetterRow : OpenClaim := { program := "ytclhbmmlkcbdkaa", sum := "e02ea89222c4e5dddabf8caac3ba29265edc0b43198039ba4ead266e6605ceff", func := "loop.example/bentrows/laws.FnExactTableBetter", spec := "fnExactTableBetter", unfollowed := true, recurses := true, apart := false }
def FnExactTableBetterSaid : Prop := fnExactTableBetterRow.holds Try.pinned (OpenSpec.ofChange fnExactTableBetterSpec)

/-- ITS FALSE NEIGHBOUR: 'it returns false'. Refute it at one input. -/
def fnExactTableBetterWrong : ChangeSpec := { name := "fnExactTableBetter", fn := fun _ => fun
  | [d1, d2, d3] => { results := [.lit (.bool false)], args := [d1, d2, d3] }
  | _ => none }
def FnExactTableBetterWrongFalsely : Prop := fnExactTableBetterRow.holds Try.pinned (OpenSpec.ofChange fnExactTableBetterWrong)

/-- 'laws.FnExactShareTry': WHATEVER THE INPUT: true; the input reads as it did. -/
def fnExactShareTrySpec : ChangeSpec := { name := "fnExactShareTry", fn := fun _ => fun
  | [d1, d2] => { results := [.lit (.bool true)], args := [d1, d2] }
  | _ => none }
def fnExactShareTryRow : OpenClaim := { program := "ytclhbmmlkcbdkaa", sum := "e02ea89222c4e5dddabf8caac3ba29265edc0b43198039ba4ead266e6605ceff", func := "loop.example/bentrows/laws.FnExactShareTry", spec := "fnExactShareTry", unfollowed := true, recurses := true, apart := false }
def FnExactShareTrySaid : Prop := fnExactShareTryRow.holds Try.pinned (OpenSpec.ofChange fnExactShareTrySpec)

/-- ITS FALSE NEIGHBOUR: 'it returns false'. Refute it at one input. -/
def fnExactShareTryWrong : ChangeSpec := { name := "fnExactShareTry", fn := fun _ => fun
  | [d1, d2] => { results := [.lit (.bool false)], args := [d1, d2] }
  | _ => none }
def FnExactShareTryWrongFalsely : Prop := fnExactShareTryRow.holds Try.pinned (OpenSpec.ofChange fnExactShareTryWrong)

/-- 'laws.FnExactShareGreedy': WHATEVER THE INPUT: true; the input reads as it did. -/
def fnExactShareGreedySpec : ChangeSpec := { name := "fnExactShareGreedy", fn := fun _ => fun
  | [d1, d2] => { results := [.lit (.bool true)], args := [d1, d2] }
  | _ => none }
def fnExactShareGreedyRow : OpenClaim := { program := "ytclhbmmlkcbdkaa", sum := "e02ea89222c4e5dddabf8caac3ba29265edc0b43198039ba4ead266e6605ceff", func := "loop.example/bentrows/laws.FnExactShareGreedy", spec := "fnExactShareGreedy", unfollowed := true, recurses := true, apart := false }
def FnExactShareGreedySaid : Prop := fnExactShareGreedyRow.holds Try.pinned (OpenSpec.ofChange fnExactShareGreedySpec)

/-- ITS FALSE NEIGHBOUR: 'it returns false'. Refute it at one input. -/
def fnExactShareGreedyWrong : ChangeSpec := { name := "fnExactShareGreedy", fn := fun _ => fun
  | [d1, d2] => { results := [.lit (.bool false)], args := [d1, d2] }
  | _ => none }
def FnExactShareGreedyWrongFalsely : Prop := fnExactShareGreedyRow.holds Try.pinned (OpenSpec.ofChange fnExactShareGreedyWrong)

/-- 'laws.FnExactShareCost': WHATEVER THE INPUT: true; the input reads as it did. -/
def fnExactShareCostSpec : ChangeSpec := { name := "fnExactShareCost", fn := fun _ => fun
  | [d1, d2] => { results := [.lit (.bool true)], args := [d1, d2] }
  | _ => none }
def fnExactShareCostRow : OpenClaim := { program := "ytclhbmmlkcbdkaa", sum := "e02ea89222c4e5dddabf8caac3ba29265edc0b43198039ba4ead266e6605ceff", func := "loop.example/bentrows/laws.FnExactShareCost", spec := "fnExactShareCost", unfollowed := true, recurses := true, apart := false }
def FnExactShareCostSaid : Prop := fnExactShareCostRow.holds Try.pinned (OpenSpec.ofChange fnExactShareCostSpec)

/-- ITS FALSE NEIGHBOUR: 'it returns false'. Refute it at one input. -/
def fnExactShareCostWrong : ChangeSpec := { name := "fnExactShareCost", fn := fun _ => fun
  | [d1, d2] => { results := [.lit (.bool false)], args := [d1, d2] }
  | _ => none }
def FnExactShareCostWrongFalsely : Prop := fnExactShareCostRow.holds Try.pinned (OpenSpec.ofChange fnExactShareCostWrong)

/-- 'laws.FnExactSharePrice': WHATEVER THE INPUT: true; the input reads as it did. -/
def fnExactSharePriceSpec : ChangeSpec := { name := "fnExactSharePrice", fn := fun _ => fun
  | [d1, d2] => { results := [.lit (.bool true)], args := [d1, d2] }
  | _ => none }
def fnExactSharePriceRow : OpenClaim := { program := "ytclhbmmlkcbdkaa", sum := "e02ea89222c4e5dddabf8caac3ba29265edc0b43198039ba4ead266e6605ceff", func := "loop.example/bentrows/laws.FnExactSharePrice", spec := "fnExactSharePrice", unfollowed := true, recurses := true, apart := false }
def FnExactSharePriceSaid : Prop := fnExactSharePriceRow.holds Try.pinned (OpenSpec.ofChange fnExactSharePriceSpec)

/-- ITS FALSE NEIGHBOUR: 'it returns false'. Refute it at one input. -/
def fnExactSharePriceWrong : ChangeSpec := { name := "fnExactSharePrice", fn := fun _ => fun
  | [d1, d2] => { results := [.lit (.bool false)], args := [d1, d2] }
  | _ => none }
def FnExactSharePriceWrongFalsely : Prop := fnExactSharePriceRow.holds Try.pinned (OpenSpec.ofChange fnExactSharePriceWrong)

/-- 'laws.FnExactShareMoves': WHATEVER THE INPUT: true; the input reads as it did. -/
def fnExactShareMovesSpec : ChangeSpec := { name := "fnExactShareMoves", fn := fun _ => fun
  | [d1, d2] => { results := [.lit (.bool true)], args := [d1, d2] }
  | _ => none }
def fnExactShareMovesRow : OpenClaim := { program := "ytclhbmmlkcbdkaa", sum := "e02ea89222c4e5dddabf8caac3ba29265edc0b43198039ba4ead266e6605ceff", func := "loop.example/bentrows/laws.FnExactShareMoves", spec := "fnExactShareMoves", unfollowed := true, recurses := true, apart := false }
def FnExactShareMovesSaid : Prop := fnExactShareMovesRow.holds Try.pinned (OpenSpec.ofChange fnExactShareMovesSpec)

/-- ITS FALSE NEIGHBOUR: 'it returns false'. Refute it at one input. -/
def fnExactShareMovesWrong : ChangeSpec := { name := "fnExactShareMoves", fn := fun _ => fun
  | [d1, d2] => { results := [.lit (.bool false)], args := [d1, d2] }
  | _ => none }
def FnExactShareMovesWrongFalsely : Prop := fnExactShareMovesRow.holds Try.pinned (OpenSpec.ofChange fnExactShareMovesWrong)

/-- 'laws.FnExactShareCosts': WHATEVER THE INPUT: true; the input reads as it did. -/
def fnExactShareCostsSpec : ChangeSpec := { name := "fnExactShareCosts", fn := fun _ => fun
  | [d] => { results := [.lit (.bool true)], args := [d] }
  | _ => none }
def fnExactShareCostsRow : OpenClaim := { program := "ytclhbmmlkcbdkaa", sum := "e02ea89222c4e5dddabf8caac3ba29265edc0b43198039ba4ead266e6605ceff", func := "loop.example/bentrows/laws.FnExactShareCosts", spec := "fnExactShareCosts", unfollowed := true, recurses := true, apart := false }
def FnExactShareCostsSaid : Prop := fnExactShareCostsRow.holds Try.pinned (OpenSpec.ofChange fnExactShareCostsSpec)

/-- ITS FALSE NEIGHBOUR: 'it returns false'. Refute it at one input. -/
def fnExactShareCostsWrong : ChangeSpec := { name := "fnExactShareCosts", fn := fun _ => fun
  | [d] => { results := [.lit (.bool false)], args := [d] }
  | _ => none }
def FnExactShareCostsWrongFalsely : Prop := fnExactShareCostsRow.holds Try.pinned (OpenSpec.ofChange fnExactShareCostsWrong)

/-- 'laws.FnExactShareAll': WHATEVER THE INPUT: true; the input reads as it did. -/
def fnExactShareAllSpec : ChangeSpec := { name := "fnExactShareAll", fn := fun _ => fun
  | [d1, d2] => { results := [.lit (.bool true)], args := [d1, d2] }
  | _ => none }
def fnExactShareAllRow : OpenClaim := { program := "ytclhbmmlkcbdkaa", sum := "e02ea89222c4e5dddabf8caac3ba29265edc0b43198039ba4ead266e6605ceff", func := "loop.example/bentrows/laws.FnExactShareAll", spec := "fnExactShareAll", unfollowed := true, recurses := true, apart := false }
def FnExactShareAllSaid : Prop := fnExactShareAllRow.holds Try.pinned (OpenSpec.ofChange fnExactShareAllSpec)

/-- ITS FALSE NEIGHBOUR: 'it returns false'. Refute it at one input. -/
def fnExactShareAllWrong : ChangeSpec := { name := "fnExactShareAll", fn := fun _ => fun
  | [d1, d2] => { results := [.lit (.bool false)], args := [d1, d2] }
  | _ => none }
def FnExactShareAllWrongFalsely : Prop := fnExactShareAllRow.holds Try.pinned (OpenSpec.ofChange fnExactShareAllWrong)

/- THE SECOND FORM. 'bulk': how many values and letters a reading holds, each counted each time it is reached (what is shared counts as often as it is met; a slice's spare places count too). A statement '..UptoSaid' is the law's where the arguments, and the package variables that the reading takes, are together of bulk at most 1048576: NARROWER than '..Said'. Prove '..Said' where nothing that the law and all that it calls make is longer than what came in: it says more and counts as full. Else prove '..UptoSaid'. A law counts once. -/
mutual
def uptoBulk {H : Type} : DataW H → Nat
  | .lit (.string bytes) => bytes.length + 1
  | .lit _ => 1
  | .nil => 1
  | .ptr d => uptoBulk d + 1
  | .slice elems spare => uptoBulkAll elems + uptoBulkAll spare + 1
  | .agg parts => uptoBulkAll parts + 1
  | .iface _ d => uptoBulk d + 1
  | .map entries => uptoBulkEntries entries + 1
  | .held _ => 1
def uptoBulkAll {H : Type} : List (DataW H) → Nat
  | [] => 0
  | d :: r => uptoBulk d + uptoBulkAll r
def uptoBulkEntries {H : Type} : List (Lit × DataW H) → Nat
  | [] => 0
  | x :: r => uptoBulkEntry x + uptoBulkEntries r
def uptoBulkEntry {H : Type} : Lit × DataW H → Nat
  | (.string bytes, d) => bytes.length + uptoBulk d + 1
  | (_, d) => uptoBulk d + 1
 end
def uptoSmall : (H : Type) → List (DataW H) → Bool := fun _ ds => decide (uptoBulkAll ds ≤ 1048576)
def OpenSpec.upto (s : _root_.Go.ChangeSpec) : _root_.Go.OpenSpec := { _root_.Go.OpenSpec.ofChange s with cond := some uptoSmall }

/-- 'laws.FnExactTableMatch', WHERE WHAT IT READS IS OF BULK AT MOST 1048576: true; the input reads as it did. -/
def fnExactTableMatchUptoRow : OpenClaim := { program := "ytclhbmmlkcbdkaa", sum := "e02ea89222c4e5dddabf8caac3ba29265edc0b43198039ba4ead266e6605ceff", func := "loop.example/bentrows/laws.FnExactTableMatch", spec := "fnExactTableMatch", unfollowed := true, recurses := true, apart := false, narrowed := true }
def FnExactTableMatchUptoSaid : Prop := fnExactTableMatchUptoRow.holds Try.pinned (OpenSpec.upto fnExactTableMatchSpec)

/-- 'laws.FnExactTableLoad', WHERE WHAT IT READS IS OF BULK AT MOST 1048576: true; the input reads as it did. -/
def fnExactTableLoadUptoRow : OpenClaim := { program := "ytclhbmmlkcbdkaa", sum := "e02ea89222c4e5dddabf8caac3ba29265edc0b43198039ba4ead266e6605ceff", func := "loop.example/bentrows/laws.FnExactTableLoad", spec := "fnExactTableLoad", unfollowed := true, recurses := true, apart := false, narrowed := true }
def FnExactTableLoadUptoSaid : Prop := fnExactTableLoadUptoRow.holds Try.pinned (OpenSpec.upto fnExactTableLoadSpec)

/-- 'laws.FnExactTableBetter', WHERE WHAT IT READS IS OF BULK AT MOST 1048576: true; the input reads as it did. -/
def fnExactTableBetterUptoRow : OpenClaim := { program := "ytclhbmmlkcbdkaa", sum := "e02ea89222c4e5dddabf8caac3ba29265edc0b43198039ba4ead266e6605ceff", func := "loop.example/bentrows/laws.FnExactTableBetter", spec := "fnExactTableBetter", unfollowed := true, recurses := true, apart := false, narrowed := true }
def FnExactTableBetterUptoSaid : Prop := fnExactTableBetterUptoRow.holds Try.pinned (OpenSpec.upto fnExactTableBetterSpec)

/-- 'laws.FnExactShareTry', WHERE WHAT IT READS IS OF BULK AT MOST 1048576: true; the input reads as it did. -/
def fnExactShareTryUptoRow : OpenClaim := { program := "ytclhbmmlkcbdkaa", sum := "e02ea89222c4e5dddabf8caac3ba29265edc0b43198039ba4ead266e6605ceff", func := "loop.example/bentrows/laws.FnExactShareTry", spec := "fnExactShareTry", unfollowed := true, recurses := true, apart := false, narrowed := true }
def FnExactShareTryUptoSaid : Prop := fnExactShareTryUptoRow.holds Try.pinned (OpenSpec.upto fnExactShareTrySpec)

/-- 'laws.FnExactShareGreedy', WHERE WHAT IT READS IS OF BULK AT MOST 1048576: true; the input reads as it did. -/
def fnExactShareGreedyUptoRow : OpenClaim := { program := "ytclhbmmlkcbdkaa", sum := "e02ea89222c4e5dddabf8caac3ba29265edc0b43198039ba4ead266e6605ceff", func := "loop.example/bentrows/laws.FnExactShareGreedy", spec := "fnExactShareGreedy", unfollowed := true, recurses := true, apart := false, narrowed := true }
def FnExactShareGreedyUptoSaid : Prop := fnExactShareGreedyUptoRow.holds Try.pinned (OpenSpec.upto fnExactShareGreedySpec)

/-- 'laws.FnExactShareCost', WHERE WHAT IT READS IS OF BULK AT MOST 1048576: true; the input reads as it did. -/
def fnExactShareCostUptoRow : OpenClaim := { program := "ytclhbmmlkcbdkaa", sum := "e02ea89222c4e5dddabf8caac3ba29265edc0b43198039ba4ead266e6605ceff", func := "loop.example/bentrows/laws.FnExactShareCost", spec := "fnExactShareCost", unfollowed := true, recurses := true, apart := false, narrowed := true }
def FnExactShareCostUptoSaid : Prop := fnExactShareCostUptoRow.holds Try.pinned (OpenSpec.upto fnExactShareCostSpec)

/-- 'laws.FnExactSharePrice', WHERE WHAT IT READS IS OF BULK AT MOST 1048576: true; the input reads as it did. -/
def fnExactSharePriceUptoRow : OpenClaim := { program := "ytclhbmmlkcbdkaa", sum := "e02ea89222c4e5dddabf8caac3ba29265edc0b43198039ba4ead266e6605ceff", func := "loop.example/bentrows/laws.FnExactSharePrice", spec := "fnExactSharePrice", unfollowed := true, recurses := true, apart := false, narrowed := true }
def FnExactSharePriceUptoSaid : Prop := fnExactSharePriceUptoRow.holds Try.pinned (OpenSpec.upto fnExactSharePriceSpec)

/-- 'laws.FnExactShareMoves', WHERE WHAT IT READS IS OF BULK AT MOST 1048576: true; the input reads as it did. -/
def fnExactShareMovesUptoRow : OpenClaim := { program := "ytclhbmmlkcbdkaa", sum := "e02ea89222c4e5dddabf8caac3ba29265edc0b43198039ba4ead266e6605ceff", func := "loop.example/bentrows/laws.FnExactShareMoves", spec := "fnExactShareMoves", unfollowed := true, recurses := true, apart := false, narrowed := true }
def FnExactShareMovesUptoSaid : Prop := fnExactShareMovesUptoRow.holds Try.pinned (OpenSpec.upto fnExactShareMovesSpec)

/-- 'laws.FnExactShareCosts', WHERE WHAT IT READS IS OF BULK AT MOST 1048576: true; the input reads as it did. -/
def fnExactShareCostsUptoRow : OpenClaim := { program := "ytclhbmmlkcbdkaa", sum := "e02ea89222c4e5dddabf8caac3ba29265edc0b43198039ba4ead266e6605ceff", func := "loop.example/bentrows/laws.FnExactShareCosts", spec := "fnExactShareCosts", unfollowed := true, recurses := true, apart := false, narrowed := true }
def FnExactShareCostsUptoSaid : Prop := fnExactShareCostsUptoRow.holds Try.pinned (OpenSpec.upto fnExactShareCostsSpec)

/-- 'laws.FnExactShareAll', WHERE WHAT IT READS IS OF BULK AT MOST 1048576: true; the input reads as it did. -/
def fnExactShareAllUptoRow : OpenClaim := { program := "ytclhbmmlkcbdkaa", sum := "e02ea89222c4e5dddabf8caac3ba29265edc0b43198039ba4ead266e6605ceff", func := "loop.example/bentrows/laws.FnExactShareAll", spec := "fnExactShareAll", unfollowed := true, recurses := true, apart := false, narrowed := true }
def FnExactShareAllUptoSaid : Prop := fnExactShareAllUptoRow.holds Try.pinned (OpenSpec.upto fnExactShareAllSpec)

end Rows
end Go.Proofs.Ytclhbmmlkcbdkaa
