/-
  No cell of these rows narrows 'for every input' (looked for: loops, veiled, ifaces, maps, wideKeys, modest, calm, conditions, laid).
  DERIVED. THE GIVEN ROWS OF THIS SEAT. 11 by the template 'for every input the law returns true; each argument reads behind the call as it read before'; 0 by the template 'total and deterministic' (their statements: YtkkalkcoablbkaaTotals.lean).
  GIVEN WITH THE SEED: the statements are not yours to turn. If you find one false, say at which input.
  Laid BY PROGRAM, IN A SANDBOX (cutbox-rows.mjs): the forced cells as the released guide's own fill.sh prints them over the translation 89e55911ce4b0d74… (all of the seat's roots in one cut). By AI agents, Wed Nov 11 2026. No macro, syntax, notation, axiom, sorry.
-/
import Derived.Test.YtkkalkcoablbkaaChecked
import GoSem.Claim
import GoSem.ClaimJoined
import GoSem.ClaimMapViews
import Derived.JoinedTies
import Derived.KernelRfl
namespace Go.Proofs.Ytkkalkcoablbkaa
/- THE CELL 'sum', in the pinned program and in every row, IS THE sha256 OF THE DUMP (.gsa) THAT YtkkalkcoablbkaaProg.lean LOADS. Nothing in Lean hashes anything: it is a label: what it is worth is what the hold of that sum in a sandbox is worth. -/
noncomputable def Try.pinned : Pinned := { name := "ytkkalkcoablbkaa", sum := "89e55911ce4b0d74158255da2e4a84d54b4c67566250869b2b6f1ef9dc5151ff", checked := Try.checked }
namespace Rows
def none {H : Type} : Left H := { results := [], args := [] }

/-- 'laws.FnExactSplitCost': WHATEVER THE INPUT: true; the input reads as it did. -/
def fnExactSplitCostSpec : ChangeSpec := { name := "fnExactSplitCost", fn := fun _ => fun
  | [d1, d2, d3] => { results := [.lit (.bool true)], args := [d1, d2, d3] }
  | _ => none }
def fnExactSplitCostRow : OpenClaim := { program := "ytkkalkcoablbkaa", sum := "89e55911ce4b0d74158255da2e4a84d54b4c67566250869b2b6f1ef9dc5151ff", func := "loop.example/bentrows/laws.FnExactSplitCost", spec := "fnExactSplitCost", unfollowed := true, recurses := true, apart := false }
def FnExactSplitCostSaid : Prop := fnExactSplitCostRow.holds Try.pinned (OpenSpec.ofChange fnExactSplitCostSpec)

/-- ITS FALSE NEIGHBOUR: 'it returns false'. Refute it at one input. -/
def fnExactSplitCostWrong : ChangeSpec := { name := "fnExactSplitCost", fn := fun _ => fun
  | [d1, d2, d3] => { results := [.lit (.bool false)], args := [d1, d2, d3] }
  | _ => none }
def FnExactSplitCostWrongFalsely : Prop := fnExactSplitCostRow.holds Try.pinned (OpenSpec.ofChange fnExactSplitCostWrong)

/-- 'laws.FnExactSplitLeast': WHATEVER THE INPUT: true; the input reads as it did. -/
def fnExactSplitLeastSpec : ChangeSpec := { name := "fnExactSplitLeast", fn := fun _ => fun
  | [d1, d2, d3] => { results := [.lit (.bool true)], args := [d1, d2, d3] }
  | _ => none }
def fnExactSplitLeastRow : OpenClaim := { program := "ytkkalkcoablbkaa", sum := "89e55911ce4b0d74158255da2e4a84d54b4c67566250869b2b6f1ef9dc5151ff", func := "loop.example/bentrows/laws.FnExactSplitLeast", spec := "fnExactSplitLeast", unfollowed := true, recurses := true, apart := false }
def FnExactSplitLeastSaid : Prop := fnExactSplitLeastRow.holds Try.pinned (OpenSpec.ofChange fnExactSplitLeastSpec)

/-- ITS FALSE NEIGHBOUR: 'it returns false'. Refute it at one input. -/
def fnExactSplitLeastWrong : ChangeSpec := { name := "fnExactSplitLeast", fn := fun _ => fun
  | [d1, d2, d3] => { results := [.lit (.bool false)], args := [d1, d2, d3] }
  | _ => none }
def FnExactSplitLeastWrongFalsely : Prop := fnExactSplitLeastRow.holds Try.pinned (OpenSpec.ofChange fnExactSplitLeastWrong)

/-- 'laws.FnExactSplitFirst': WHATEVER THE INPUT: true; the input reads as it did. -/
def fnExactSplitFirstSpec : ChangeSpec := { name := "fnExactSplitFirst", fn := fun _ => fun
  | [d1, d2, d3] => { results := [.lit (.bool true)], args := [d1, d2, d3] }
  | _ => none }
def fnExactSplitFirstRow : OpenClaim := { program := "ytkkalkcoablbkaa", sum := "89e55911ce4b0d74158255da2e4a84d54b4c67566250869b2b6f1ef9dc5151ff", func := "loop.example/bentrows/laws.FnExactSplitFirst", spec := "fnExactSplitFirst", unfollowed := true, recurses := true, apart := false }
def FnExactSplitFirstSaid : Prop := fnExactSplitFirstRow.holds Try.pinned (OpenSpec.ofChange fnExactSplitFirstSpec)

/-- ITS FALSE NEIGHBOUR: 'it returns false'. Refute it at one input. -/
def fnExactSplitFirstWrong : ChangeSpec := { name := "fnExactSplitFirst", fn := fun _ => fun
  | [d1, d2, d3] => { results := [.lit (.bool false)], args := [d1, d2, d3] }
  | _ => none }
def FnExactSplitFirstWrongFalsely : Prop := fnExactSplitFirstRow.holds Try.pinned (OpenSpec.ofChange fnExactSplitFirstWrong)

/-- 'laws.FnExactSplitCosts': WHATEVER THE INPUT: true; the input reads as it did. -/
def fnExactSplitCostsSpec : ChangeSpec := { name := "fnExactSplitCosts", fn := fun _ => fun
  | [d1, d2] => { results := [.lit (.bool true)], args := [d1, d2] }
  | _ => none }
def fnExactSplitCostsRow : OpenClaim := { program := "ytkkalkcoablbkaa", sum := "89e55911ce4b0d74158255da2e4a84d54b4c67566250869b2b6f1ef9dc5151ff", func := "loop.example/bentrows/laws.FnExactSplitCosts", spec := "fnExactSplitCosts", unfollowed := true, recurses := true, apart := false }
def FnExactSplitCostsSaid : Prop := fnExactSplitCostsRow.holds Try.pinned (OpenSpec.ofChange fnExactSplitCostsSpec)

/-- ITS FALSE NEIGHBOUR: 'it returns false'. Refute it at one input. -/
def fnExactSplitCostsWrong : ChangeSpec := { name := "fnExactSplitCosts", fn := fun _ => fun
  | [d1, d2] => { results := [.lit (.bool false)], args := [d1, d2] }
  | _ => none }
def FnExactSplitCostsWrongFalsely : Prop := fnExactSplitCostsRow.holds Try.pinned (OpenSpec.ofChange fnExactSplitCostsWrong)

/-- 'laws.FnExactSplitAny': WHATEVER THE INPUT: true; the input reads as it did. -/
def fnExactSplitAnySpec : ChangeSpec := { name := "fnExactSplitAny", fn := fun _ => fun
  | [d1, d2, d3] => { results := [.lit (.bool true)], args := [d1, d2, d3] }
  | _ => none }
def fnExactSplitAnyRow : OpenClaim := { program := "ytkkalkcoablbkaa", sum := "89e55911ce4b0d74158255da2e4a84d54b4c67566250869b2b6f1ef9dc5151ff", func := "loop.example/bentrows/laws.FnExactSplitAny", spec := "fnExactSplitAny", unfollowed := true, recurses := true, apart := false }
def FnExactSplitAnySaid : Prop := fnExactSplitAnyRow.holds Try.pinned (OpenSpec.ofChange fnExactSplitAnySpec)

/-- ITS FALSE NEIGHBOUR: 'it returns false'. Refute it at one input. -/
def fnExactSplitAnyWrong : ChangeSpec := { name := "fnExactSplitAny", fn := fun _ => fun
  | [d1, d2, d3] => { results := [.lit (.bool false)], args := [d1, d2, d3] }
  | _ => none }
def FnExactSplitAnyWrongFalsely : Prop := fnExactSplitAnyRow.holds Try.pinned (OpenSpec.ofChange fnExactSplitAnyWrong)

/-- 'laws.FnExactSplitMany': WHATEVER THE INPUT: true; the input reads as it did. -/
def fnExactSplitManySpec : ChangeSpec := { name := "fnExactSplitMany", fn := fun _ => fun
  | [d1, d2] => { results := [.lit (.bool true)], args := [d1, d2] }
  | _ => none }
def fnExactSplitManyRow : OpenClaim := { program := "ytkkalkcoablbkaa", sum := "89e55911ce4b0d74158255da2e4a84d54b4c67566250869b2b6f1ef9dc5151ff", func := "loop.example/bentrows/laws.FnExactSplitMany", spec := "fnExactSplitMany", unfollowed := true, recurses := true, apart := false }
def FnExactSplitManySaid : Prop := fnExactSplitManyRow.holds Try.pinned (OpenSpec.ofChange fnExactSplitManySpec)

/-- ITS FALSE NEIGHBOUR: 'it returns false'. Refute it at one input. -/
def fnExactSplitManyWrong : ChangeSpec := { name := "fnExactSplitMany", fn := fun _ => fun
  | [d1, d2] => { results := [.lit (.bool false)], args := [d1, d2] }
  | _ => none }
def FnExactSplitManyWrongFalsely : Prop := fnExactSplitManyRow.holds Try.pinned (OpenSpec.ofChange fnExactSplitManyWrong)

/-- 'laws.FnExactSplitEven': WHATEVER THE INPUT: true; the input reads as it did. -/
def fnExactSplitEvenSpec : ChangeSpec := { name := "fnExactSplitEven", fn := fun _ => fun
  | [d1, d2] => { results := [.lit (.bool true)], args := [d1, d2] }
  | _ => none }
def fnExactSplitEvenRow : OpenClaim := { program := "ytkkalkcoablbkaa", sum := "89e55911ce4b0d74158255da2e4a84d54b4c67566250869b2b6f1ef9dc5151ff", func := "loop.example/bentrows/laws.FnExactSplitEven", spec := "fnExactSplitEven", unfollowed := true, recurses := true, apart := false }
def FnExactSplitEvenSaid : Prop := fnExactSplitEvenRow.holds Try.pinned (OpenSpec.ofChange fnExactSplitEvenSpec)

/-- ITS FALSE NEIGHBOUR: 'it returns false'. Refute it at one input. -/
def fnExactSplitEvenWrong : ChangeSpec := { name := "fnExactSplitEven", fn := fun _ => fun
  | [d1, d2] => { results := [.lit (.bool false)], args := [d1, d2] }
  | _ => none }
def FnExactSplitEvenWrongFalsely : Prop := fnExactSplitEvenRow.holds Try.pinned (OpenSpec.ofChange fnExactSplitEvenWrong)

/-- 'laws.FnExactShareGreedy': WHATEVER THE INPUT: true; the input reads as it did. -/
def fnExactShareGreedySpec : ChangeSpec := { name := "fnExactShareGreedy", fn := fun _ => fun
  | [d1, d2] => { results := [.lit (.bool true)], args := [d1, d2] }
  | _ => none }
def fnExactShareGreedyRow : OpenClaim := { program := "ytkkalkcoablbkaa", sum := "89e55911ce4b0d74158255da2e4a84d54b4c67566250869b2b6f1ef9dc5151ff", func := "loop.example/bentrows/laws.FnExactShareGreedy", spec := "fnExactShareGreedy", unfollowed := true, recurses := true, apart := false }
def FnExactShareGreedySaid : Prop := fnExactShareGreedyRow.holds Try.pinned (OpenSpec.ofChange fnExactShareGreedySpec)

/-- ITS FALSE NEIGHBOUR: 'it returns false'. Refute it at one input. -/
def fnExactShareGreedyWrong : ChangeSpec := { name := "fnExactShareGreedy", fn := fun _ => fun
  | [d1, d2] => { results := [.lit (.bool false)], args := [d1, d2] }
  | _ => none }
def FnExactShareGreedyWrongFalsely : Prop := fnExactShareGreedyRow.holds Try.pinned (OpenSpec.ofChange fnExactShareGreedyWrong)

/-- 'laws.FnExactTableMatch': WHATEVER THE INPUT: true; the input reads as it did. -/
def fnExactTableMatchSpec : ChangeSpec := { name := "fnExactTableMatch", fn := fun _ => fun
  | [d] => { results := [.lit (.bool true)], args := [d] }
  | _ => none }
def fnExactTableMatchRow : OpenClaim := { program := "ytkkalkcoablbkaa", sum := "89e55911ce4b0d74158255da2e4a84d54b4c67566250869b2b6f1ef9dc5151ff", func := "loop.example/bentrows/laws.FnExactTableMatch", spec := "fnExactTableMatch", unfollowed := true, recurses := true, apart := false }
def FnExactTableMatchSaid : Prop := fnExactTableMatchRow.holds Try.pinned (OpenSpec.ofChange fnExactTableMatchSpec)

/-- ITS FALSE NEIGHBOUR: 'it returns false'. Refute it at one input. -/
def fnExactTableMatchWrong : ChangeSpec := { name := "fnExactTableMatch", fn := fun _ => fun
  | [d] => { results := [.lit (.bool false)], args := [d] }
  | _ => none }
def FnExactTableMatchWrongFalsely : Prop := fnExactTableMatchRow.holds Try.pinned (OpenSpec.ofChange fnExactTableMatchWrong)

/-- 'laws.FnExactTableLoad': WHATEVER THE INPUT: true; the input reads as it did. -/
def fnExactTableLoadSpec : ChangeSpec := { name := "fnExactTableLoad", fn := fun _ => fun
  | [d1, d2, d3] => { results := [.lit (.bool true)], args := [d1, d2, d3] }
  | _ => none }
def fnExactTableLoadRow : OpenClaim := { program := "ytkkalkcoablbkaa", sum := "89e55911ce4b0d74158255da2e4a84d54b4c67566250869b2b6f1ef9dc5151ff", func := "loop.example/bentrows/laws.FnExactTableLoad", spec := "fnExactTableLoad", unfollowed := true, recurses := true, apart := false }
def FnExactTableLoadSaid : Prop := fnExactTableLoadRow.holds Try.pinned (OpenSpec.ofChange fnExactTableLoadSpec)

/-- ITS FALSE NEIGHBOUR: 'it returns false'. Refute it at one input. -/
def fnExactTableLoadWrong : ChangeSpec := { name := "fnExactTableLoad", fn := fun _ => fun
  | [d1, d2, d3] => { results := [.lit (.bool false)], args := [d1, d2, d3] }
  | _ => none }
def FnExactTableLoadWrongFalsely : Prop := fnExactTableLoadRow.holds Try.pinned (OpenSpec.ofChange fnExactTableLoadWrong)

/-- 'laws.FnExactTableBetter': WHATEVER THE INPUT: true; the input reads as it did. -/
def fnExactTableBetterSpec : ChangeSpec := { name := "fnExactTableBetter", fn := fun _ => fun
  | [d1, d2, d3] => { results := [.lit (.bool true)], args := [d1, d2, d3] }
  | _ => none }
def fnExactTableBetterRow : OpenClaim := { program := "ytkkalkcoablbkaa", sum := "89e55911ce4b0d74158255da2e4a84d54b4c67566250869b2b6f1ef9dc5151ff", func := "loop.example/bentrows/laws.FnExactTableBetter", spec := "fnExactTableBetter", unfollowed := true, recurses := true, apart := false }
def FnExactTableBetterSaid : Prop := fnExactTableBetterRow.holds Try.pinned (OpenSpec.ofChange fnExactTableBetterSpec)

/-- ITS FALSE NEIGHBOUR: 'it returns false'. Refute it at one input. -/
def fnExactTableBetterWrong : ChangeSpec := { name := "fnExactTableBetter", fn := fun _ => fun
  | [d1, d2, d3] => { results := [.lit (.bool false)], args := [d1, d2, d3] }
  | _ => none }
def FnExactTableBetterWrongFalsely : Prop := fnExactTableBetterRow.holds Try.pinned (OpenSpec.ofChange fnExactTableBetterWrong)

/- THE SECOND FORM. 'bulk': how many values and letters a reading holds, each counted each time it is reached (what is shared counts as often as it is met; a slice's spare places count too). A statement '..UptoSaid' is the law's where the arguments, and the package variables that the reading takes, are together of bulk at most 1048576: NARROWER than '..Said'. Prove '..Said' where nothing that the law and all that it calls make is longer than what came in: it says more and counts as full. Else prove '..UptoSaid'. A law counts once. -/
mutual
def uptoBulk {H : Type} : DataW H → Nat
  | .lit (.string bytes) => bytes.length + 1
  | .lit _ => 1
  | .nil => 1
  | .ptr d => uptoBulk d + 1
  | .slice elems spare => uptoBulkAll elems + uptoBulkAll spare + 1
  | .agg parts => uptoBulkAll parts + 1
  | .iface _ d => uptoBulk d + 1
  | .map entries => uptoBulkEntries entries + 1
  | .held _ => 1
def uptoBulkAll {H : Type} : List (DataW H) → Nat
  | [] => 0
  | d :: r => uptoBulk d + uptoBulkAll r
def uptoBulkEntries {H : Type} : List (Lit × DataW H) → Nat
  | [] => 0
  | x :: r => uptoBulkEntry x + uptoBulkEntries r
def uptoBulkEntry {H : Type} : Lit × DataW H → Nat
  | (.string bytes, d) => bytes.length + uptoBulk d + 1
  | (_, d) => uptoBulk d + 1
 end
def uptoSmall : (H : Type) → List (DataW H) → Bool := fun _ ds => decide (uptoBulkAll ds ≤ 1048576)
def OpenSpec.upto (s : _root_.Go.ChangeSpec) : _root_.Go.OpenSpec := { _root_.Go.OpenSpec.ofChange s with cond := some uptoSmall }

/-- 'laws.FnExactSplitCost', WHERE WHAT IT READS IS OF BULK AT MOST 1048576: true; the input reads as it did. -/
def fnExactSplitCostUptoRow : OpenClaim := { program := "ytkkalkcoablbkaa", sum := "89e55911ce4b0d74158255da2e4a84d54b4c67566250869b2b6f1ef9dc5151ff", func := "loop.example/bentrows/laws.FnExactSplitCost", spec := "fnExactSplitCost", unfollowed := true, recurses := true, apart := false, narrowed := true }
def FnExactSplitCostUptoSaid : Prop := fnExactSplitCostUptoRow.holds Try.pinned (OpenSpec.upto fnExactSplitCostSpec)

/-- 'laws.FnExactSplitLeast', WHERE WHAT IT READS IS OF BULK AT MOST 1048576: true; the input reads as it did. -/
def fnExactSplitLeastUptoRow : OpenClaim := { program := "ytkkalkcoablbkaa", sum := "89e55911ce4b0d74158255da2e4a84d54b4c67566250869b2b6f1ef9dc5151ff", func := "loop.example/bentrows/laws.FnExactSplitLeast", spec := "fnExactSplitLeast", unfollowed := true, recurses := true, apart := false, narrowed := true }
def FnExactSplitLeastUptoSaid : Prop := fnExactSplitLeastUptoRow.holds Try.pinned (OpenSpec.upto fnExactSplitLeastSpec)

/-- 'laws.FnExactSplitFirst', WHERE WHAT IT READS IS OF BULK AT MOST 1048576: true; the input reads as it did. -/
def fnExactSplitFirstUptoRow : OpenClaim := { program := "ytkkalkcoablbkaa", sum := "89e55911ce4b0d74158255da2e4a84d54b4c67566250869b2b6f1ef9dc5151ff", func := "loop.example/bentrows/laws.FnExactSplitFirst", spec := "fnExactSplitFirst", unfollowed := true, recurses := true, apart := false, narrowed := true }
def FnExactSplitFirstUptoSaid : Prop := fnExactSplitFirstUptoRow.holds Try.pinned (OpenSpec.upto fnExactSplitFirstSpec)

/-- 'laws.FnExactSplitCosts', WHERE WHAT IT READS IS OF BULK AT MOST 1048576: true; the input reads as it did. -/
def fnExactSplitCostsUptoRow : OpenClaim := { program := "ytkkalkcoablbkaa", sum := "89e55911ce4b0d74158255da2e4a84d54b4c67566250869b2b6f1ef9dc5151ff", func := "loop.example/bentrows/laws.FnExactSplitCosts", spec := "fnExactSplitCosts", unfollowed := true, recurses := true, apart := false, narrowed := true }
def FnExactSplitCostsUptoSaid : Prop := fnExactSplitCostsUptoRow.holds Try.pinned (OpenSpec.upto fnExactSplitCostsSpec)

/-- 'laws.FnExactSplitAny', WHERE WHAT IT READS IS OF BULK AT MOST 1048576: true; the input reads as it did. -/
def fnExactSplitAnyUptoRow : OpenClaim := { program := "ytkkalkcoablbkaa", sum := "89e55911ce4b0d74158255da2e4a84d54b4c67566250869b2b6f1ef9dc5151ff", func := "loop.example/bentrows/laws.FnExactSplitAny", spec := "fnExactSplitAny", unfollowed := true, recurses := true, apart := false, narrowed := true }
def FnExactSplitAnyUptoSaid : Prop := fnExactSplitAnyUptoRow.holds Try.pinned (OpenSpec.upto fnExactSplitAnySpec)

/-- 'laws.FnExactSplitMany', WHERE WHAT IT READS IS OF BULK AT MOST 1048576: true; the input reads as it did. -/
def fnExactSplitManyUptoRow : OpenClaim := { program := "ytkkalkcoablbkaa", sum := "89e55911ce4b0d74158255da2e4a84d54b4c67566250869b2b6f1ef9dc5151ff", func := "loop.example/bentrows/laws.FnExactSplitMany", spec := "fnExactSplitMany", unfollowed := true, recurses := true, apart := false, narrowed := true }
def FnExactSplitManyUptoSaid : Prop := fnExactSplitManyUptoRow.holds Try.pinned (OpenSpec.upto fnExactSplitManySpec)

/-- 'laws.FnExactSplitEven', WHERE WHAT IT READS IS OF BULK AT MOST 1048576: true; the input reads as it did. -/
def fnExactSplitEvenUptoRow : OpenClaim := { program := "ytkkalkcoablbkaa", sum := "89e55911ce4b0d74158255da2e4a84d54b4c67566250869b2b6f1ef9dc5151ff", func := "loop.example/bentrows/laws.FnExactSplitEven", spec := "fnExactSplitEven", unfollowed := true, recurses := true, apart := false, narrowed := true }
def FnExactSplitEvenUptoSaid : Prop := fnExactSplitEvenUptoRow.holds Try.pinned (OpenSpec.upto fnExactSplitEvenSpec)

/-- 'laws.FnExactShareGreedy', WHERE WHAT IT READS IS OF BULK AT MOST 1048576: true; the input reads as it did. -/
def fnExactShareGreedyUptoRow : OpenClaim := { program := "ytkkalkcoablbkaa", sum := "89e55911ce4b0d74158255da2e4a84d54b4c67566250869b2b6f1ef9dc5151ff", func := "loop.example/bentrows/laws.FnExactShareGreedy", spec := "fnExactShareGreedy", unfollowed := true, recurses := true, apart := false, narrowed := true }
def FnExactShareGreedyUptoSaid : Prop := fnExactShareGreedyUptoRow.holds Try.pinned (OpenSpec.upto fnExactShareGreedySpec)

/-- 'laws.FnExactTableMatch', WHERE WHAT IT READS IS OF BULK AT MOST 1048576: true; the input reads as it did. -/
def fnExactTableMatchUptoRow : OpenClaim := { program := "ytkkalkcoablbkaa", sum := "89e55911ce4b0d74158255da2e4a84d54b4c67566250869b2b6f1ef9dc5151ff", func := "loop.example/bentrows/laws.FnExactTableMatch", spec := "fnExactTableMatch", unfollowed := true, recurses := true, apart := false, narrowed := true }
def FnExactTableMatchUptoSaid : Prop := fnExactTableMatchUptoRow.holds Try.pinned (OpenSpec.upto fnExactTableMatchSpec)

/-- 'laws.FnExactTableLoad', WHERE WHAT IT READS IS OF BULK AT MOST 1048576: true; the input reads as it did. -/
def fnExactTableLoadUptoRow : OpenClaim := { program := "ytkkalkcoablbkaa", sum := "89e55911ce4b0d74158255da2e4a84d54b4c67566250869b2b6f1ef9dc5151ff", func := "loop.example/bentrows/laws.FnExactTableLoad", spec := "fnExactTableLoad", unfollowed := true, recurses := true, apart := false, narrowed := true }
def FnExactTableLoadUptoSaid : Prop := fnExactTableLoadUptoRow.holds Try.pinned (OpenSpec.upto fnExactTableLoadSpec)

/-- 'laws.FnExactTableBetter', WHERE WHAT IT READS IS OF BULK AT MOST 1048576: true; the input reads as it did. -/
def fnExactTableBetterUptoRow : OpenClaim := { program := "ytkkalkcoablbkaa", sum := "89e55911ce4b0d74158255da2e4a84d54b4c67566250869b2b6f1ef9dc5151ff", func := "loop.example/bentrows/laws.FnExactTableBetter", spec := "fnExactTableBetter", unfollowed := true, recurses := true, apart := false, narrowed := true }
def FnExactTableBetterUptoSaid : Prop := fnExactTableBetterUptoRow.holds Try.pinned (OpenSpec.upto fnExactTableBetterSpec)

end Rows
end Go.Proofs.Ytkkalkcoablbkaa
