/-
  No cell of these rows narrows 'for every input' (looked for: loops, veiled, ifaces, maps, wideKeys, modest, calm, conditions, laid).
  DERIVED. THE GIVEN ROWS OF THIS SEAT. 7 by the template 'for every input the law returns true; each argument reads behind the call as it read before'; 0 by the template 'total and deterministic' (their statements: YtanmjaljcnihlaaTotals.lean).
  GIVEN WITH THE SEED: the statements are not yours to turn. If you find one false, say at which input.
  Laid BY PROGRAM, IN A SANDBOX (cutbox-rows.mjs): the forced cells as the released guide's own fill.sh prints them over the translation 7b7d4d88c70a5c83… (all of the seat's roots in one cut). By AI agents, Wed Nov 11 2026. No macro, syntax, notation, axiom, sorry.
-/
import Derived.Test.YtanmjaljcnihlaaChecked
import GoSem.Claim
import GoSem.ClaimJoined
import GoSem.ClaimMapViews
import Derived.JoinedTies
import Derived.KernelRfl
namespace Go.Proofs.Ytanmjaljcnihlaa
/- THE CELL 'sum', in the pinned program and in every row, IS THE sha256 OF THE DUMP (.gsa) THAT YtanmjaljcnihlaaProg.lean LOADS. Nothing in Lean hashes anything: it is a label: what it is worth is what the hold of that sum in a sandbox is worth. -/
noncomputable def Try.pinned : Pinned := { name := "ytanmjaljcnihlaa", sum := "7b7d4d88c70a5c83dd89b452ff186f1e927cbcfbc812d2472a175744c4afd1f8", checked := Try.checked }
namespace Rows
def none {H : Type} : Left H := { results := [], args := [] }

/-- 'laws.FnShareTry': WHATEVER THE INPUT: true; the input reads as it did. -/
def fnShareTrySpec : ChangeSpec := { name := "fnShareTry", fn := fun _ => fun
  | [d] => { results := [.lit (.bool true)], args := [d] }
  | _ => none }
def fnShareTryRow : OpenClaim := { program := "ytanmjaljcnihlaa", sum := "7b7d4d88c70a5c83dd89b452ff186f1e927cbcfbc812d2472a175744c4afd1f8", func := "loop.example/bentrows/laws.FnShareTry", spec := "fnShareTry", unfollowed := true, recurses := true, apart := false }
def FnShareTrySaid : Prop := fnShareTryRow.holds Try.pinned (OpenSpec.ofChange fnShareTrySpec)

/-- ITS FALSE NEIGHBOUR: 'it returns false'. Refute it at one input. -/
def fnShareTryWrong : ChangeSpec := { name := "fnShareTry", fn := fun _ => fun
  | [d] => { results := [.lit (.bool false)], args := [d] }
  | _ => none }
def FnShareTryWrongFalsely : Prop := fnShareTryRow.holds Try.pinned (OpenSpec.ofChange fnShareTryWrong)

/-- 'laws.FnGreedy': WHATEVER THE INPUT: true; the input reads as it did. -/
def fnGreedySpec : ChangeSpec := { name := "fnGreedy", fn := fun _ => fun
  | [d] => { results := [.lit (.bool true)], args := [d] }
  | _ => none }
def fnGreedyRow : OpenClaim := { program := "ytanmjaljcnihlaa", sum := "7b7d4d88c70a5c83dd89b452ff186f1e927cbcfbc812d2472a175744c4afd1f8", func := "loop.example/bentrows/laws.FnGreedy", spec := "fnGreedy", unfollowed := true, recurses := true, apart := false }
def FnGreedySaid : Prop := fnGreedyRow.holds Try.pinned (OpenSpec.ofChange fnGreedySpec)

/-- ITS FALSE NEIGHBOUR: 'it returns false'. Refute it at one input. -/
def fnGreedyWrong : ChangeSpec := { name := "fnGreedy", fn := fun _ => fun
  | [d] => { results := [.lit (.bool false)], args := [d] }
  | _ => none }
def FnGreedyWrongFalsely : Prop := fnGreedyRow.holds Try.pinned (OpenSpec.ofChange fnGreedyWrong)

/-- 'laws.FnShareCost': WHATEVER THE INPUT: true; the input reads as it did. -/
def fnShareCostSpec : ChangeSpec := { name := "fnShareCost", fn := fun _ => fun
  | [d] => { results := [.lit (.bool true)], args := [d] }
  | _ => none }
def fnShareCostRow : OpenClaim := { program := "ytanmjaljcnihlaa", sum := "7b7d4d88c70a5c83dd89b452ff186f1e927cbcfbc812d2472a175744c4afd1f8", func := "loop.example/bentrows/laws.FnShareCost", spec := "fnShareCost", unfollowed := true, recurses := true, apart := false }
def FnShareCostSaid : Prop := fnShareCostRow.holds Try.pinned (OpenSpec.ofChange fnShareCostSpec)

/-- ITS FALSE NEIGHBOUR: 'it returns false'. Refute it at one input. -/
def fnShareCostWrong : ChangeSpec := { name := "fnShareCost", fn := fun _ => fun
  | [d] => { results := [.lit (.bool false)], args := [d] }
  | _ => none }
def FnShareCostWrongFalsely : Prop := fnShareCostRow.holds Try.pinned (OpenSpec.ofChange fnShareCostWrong)

/-- 'laws.FnPrice': WHATEVER THE INPUT: true; the input reads as it did. -/
def fnPriceSpec : ChangeSpec := { name := "fnPrice", fn := fun _ => fun
  | [d] => { results := [.lit (.bool true)], args := [d] }
  | _ => none }
def fnPriceRow : OpenClaim := { program := "ytanmjaljcnihlaa", sum := "7b7d4d88c70a5c83dd89b452ff186f1e927cbcfbc812d2472a175744c4afd1f8", func := "loop.example/bentrows/laws.FnPrice", spec := "fnPrice", unfollowed := true, recurses := true, apart := false }
def FnPriceSaid : Prop := fnPriceRow.holds Try.pinned (OpenSpec.ofChange fnPriceSpec)

/-- ITS FALSE NEIGHBOUR: 'it returns false'. Refute it at one input. -/
def fnPriceWrong : ChangeSpec := { name := "fnPrice", fn := fun _ => fun
  | [d] => { results := [.lit (.bool false)], args := [d] }
  | _ => none }
def FnPriceWrongFalsely : Prop := fnPriceRow.holds Try.pinned (OpenSpec.ofChange fnPriceWrong)

/-- 'laws.FnMoves': WHATEVER THE INPUT: true; the input reads as it did. -/
def fnMovesSpec : ChangeSpec := { name := "fnMoves", fn := fun _ => fun
  | [d] => { results := [.lit (.bool true)], args := [d] }
  | _ => none }
def fnMovesRow : OpenClaim := { program := "ytanmjaljcnihlaa", sum := "7b7d4d88c70a5c83dd89b452ff186f1e927cbcfbc812d2472a175744c4afd1f8", func := "loop.example/bentrows/laws.FnMoves", spec := "fnMoves", unfollowed := true, recurses := true, apart := false }
def FnMovesSaid : Prop := fnMovesRow.holds Try.pinned (OpenSpec.ofChange fnMovesSpec)

/-- ITS FALSE NEIGHBOUR: 'it returns false'. Refute it at one input. -/
def fnMovesWrong : ChangeSpec := { name := "fnMoves", fn := fun _ => fun
  | [d] => { results := [.lit (.bool false)], args := [d] }
  | _ => none }
def FnMovesWrongFalsely : Prop := fnMovesRow.holds Try.pinned (OpenSpec.ofChange fnMovesWrong)

/-- 'laws.FnShareCosts': WHATEVER THE INPUT: true; the input reads as it did. -/
def fnShareCostsSpec : ChangeSpec := { name := "fnShareCosts", fn := fun _ => fun
  | [d] => { results := [.lit (.bool true)], args := [d] }
  | _ => none }
def fnShareCostsRow : OpenClaim := { program := "ytanmjaljcnihlaa", sum := "7b7d4d88c70a5c83dd89b452ff186f1e927cbcfbc812d2472a175744c4afd1f8", func := "loop.example/bentrows/laws.FnShareCosts", spec := "fnShareCosts", unfollowed := true, recurses := true, apart := false }
def FnShareCostsSaid : Prop := fnShareCostsRow.holds Try.pinned (OpenSpec.ofChange fnShareCostsSpec)

/-- ITS FALSE NEIGHBOUR: 'it returns false'. Refute it at one input. -/
def fnShareCostsWrong : ChangeSpec := { name := "fnShareCosts", fn := fun _ => fun
  | [d] => { results := [.lit (.bool false)], args := [d] }
  | _ => none }
def FnShareCostsWrongFalsely : Prop := fnShareCostsRow.holds Try.pinned (OpenSpec.ofChange fnShareCostsWrong)

/-- 'laws.FnShareAll': WHATEVER THE INPUT: true; the input reads as it did. -/
def fnShareAllSpec : ChangeSpec := { name := "fnShareAll", fn := fun _ => fun
  | [d] => { results := [.lit (.bool true)], args := [d] }
  | _ => none }
def fnShareAllRow : OpenClaim := { program := "ytanmjaljcnihlaa", sum := "7b7d4d88c70a5c83dd89b452ff186f1e927cbcfbc812d2472a175744c4afd1f8", func := "loop.example/bentrows/laws.FnShareAll", spec := "fnShareAll", unfollowed := true, recurses := true, apart := false }
def FnShareAllSaid : Prop := fnShareAllRow.holds Try.pinned (OpenSpec.ofChange fnShareAllSpec)

/-- ITS FALSE NEIGHBOUR: 'it returns false'. Refute it at one input. -/
def fnShareAllWrong : ChangeSpec := { name := "fnShareAll", fn := fun _ => fun
  | [d] => { results := [.lit (.bool false)], args := [d] }
  | _ => none }
def FnShareAllWrongFalsely : Prop := fnShareAllRow.holds Try.pinned (OpenSpec.ofChange fnShareAllWrong)

/- THE SECOND FORM. 'bulk': how many values and letters a reading holds, each counted each time it is reached (what is shared counts as often as it is met; a slice's spare places count too). A statement '..UptoSaid' is the law's where the arguments, and the package variables that the reading takes, are together of bulk at most 1048576: NARROWER than '..Said'. Prove '..Said' where nothing that the law and all that it calls make is longer than what came in: it says more and counts as full. Else prove '..UptoSaid'. A law counts once. -/
mutual
def uptoBulk {H : Type} : DataW H → Nat
  | .lit (.string bytes) => bytes.length + 1
  | .lit _ => 1
  | .nil => 1
  | .ptr d => uptoBulk d + 1
  | .slice elems spare => uptoBulkAll elems + uptoBulkAll spare + 1
  | .agg parts => uptoBulkAll parts + 1
  | .iface _ d => uptoBulk d + 1
  | .map entries => uptoBulkEntries entries + 1
  | .held _ => 1
def uptoBulkAll {H : Type} : List (DataW H) → Nat
  | [] => 0
  | d :: r => uptoBulk d + uptoBulkAll r
def uptoBulkEntries {H : Type} : List (Lit × DataW H) → Nat
  | [] => 0
  | x :: r => uptoBulkEntry x + uptoBulkEntries r
def uptoBulkEntry {H : Type} : Lit × DataW H → Nat
  | (.string bytes, d) => bytes.length + uptoBulk d + 1
  | (_, d) => uptoBulk d + 1
 end
def uptoSmall : (H : Type) → List (DataW H) → Bool := fun _ ds => decide (uptoBulkAll ds ≤ 1048576)
def OpenSpec.upto (s : _root_.Go.ChangeSpec) : _root_.Go.OpenSpec := { _root_.Go.OpenSpec.ofChange s with cond := some uptoSmall }

/-- 'laws.FnShareTry', WHERE WHAT IT READS IS OF BULK AT MOST 1048576: true; the input reads as it did. -/
def fnShareTryUptoRow : OpenClaim := { program := "ytanmjaljcnihlaa", sum := "7b7d4d88c70a5c83dd89b452ff186f1e927cbcfbc812d2472a175744c4afd1f8", func := "loop.example/bentrows/laws.FnShareTry", spec := "fnShareTry", unfollowed := true, recurses := true, apart := false, narrowed := true }
def FnShareTryUptoSaid : Prop := fnShareTryUptoRow.holds Try.pinned (OpenSpec.upto fnShareTrySpec)

/-- 'laws.FnGreedy', WHERE WHAT IT READS IS OF BULK AT MOST 1048576: true; the input reads as it did. -/
def fnGreedyUptoRow : OpenClaim := { program := "ytanmjaljcnihlaa", sum := "7b7d4d88c70a5c83dd89b452ff186f1e927cbcfbc812d2472a175744c4afd1f8", func := "loop.example/bentrows/laws.FnGreedy", spec := "fnGreedy", unfollowed := true, recurses := true, apart := false, narrowed := true }
def FnGreedyUptoSaid : Prop := fnGreedyUptoRow.holds Try.pinned (OpenSpec.upto fnGreedySpec)

/-- 'laws.FnShareCost', WHERE WHAT IT READS IS OF BULK AT MOST 1048576: true; the input reads as it did. -/
def fnShareCostUptoRow : OpenClaim := { program := "ytanmjaljcnihlaa", sum := "7b7d4d88c70a5c83dd89b452ff186f1e927cbcfbc812d2472a175744c4afd1f8", func := "loop.example/bentrows/laws.FnShareCost", spec := "fnShareCost", unfollowed := true, recurses := true, apart := false, narrowed := true }
def FnShareCostUptoSaid : Prop := fnShareCostUptoRow.holds Try.pinned (OpenSpec.upto fnShareCostSpec)

/-- 'laws.FnPrice', WHERE WHAT IT READS IS OF BULK AT MOST 1048576: true; the input reads as it did. -/
def fnPriceUptoRow : OpenClaim := { program := "ytanmjaljcnihlaa", sum := "7b7d4d88c70a5c83dd89b452ff186f1e927cbcfbc812d2472a175744c4afd1f8", func := "loop.example/bentrows/laws.FnPrice", spec := "fnPrice", unfollowed := true, recurses := true, apart := false, narrowed := true }
def FnPriceUptoSaid : Prop := fnPriceUptoRow.holds Try.pinned (OpenSpec.upto fnPriceSpec)

/-- 'laws.FnMoves', WHERE WHAT IT READS IS OF BULK AT MOST 1048576: true; the input reads as it did. -/
def fnMovesUptoRow : OpenClaim := { program := "ytanmjaljcnihlaa", sum := "7b7d4d88c70a5c83dd89b452ff186f1e927cbcfbc812d2472a175744c4afd1f8", func := "loop.example/bentrows/laws.FnMoves", spec := "fnMoves", unfollowed := true, recurses := true, apart := false, narrowed := true }
def FnMovesUptoSaid : Prop := fnMovesUptoRow.holds Try.pinned (OpenSpec.upto fnMovesSpec)

/-- 'laws.FnShareCosts', WHERE WHAT IT READS IS OF BULK AT MOST 1048576: true; the input reads as it did. -/
def fnShareCostsUptoRow : OpenClaim := { program := "ytanmjaljcnihlaa", sum := "7b7d4d88c70a5c83dd89b452ff186f1e927cbcfbc812d2472a175744c4afd1f8", func := "loop.example/bentrows/laws.FnShareCosts", spec := "fnShareCosts", unfollowed := true, recurses := true, apart := false, narrowed := true }
def FnShareCostsUptoSaid : Prop := fnShareCostsUptoRow.holds Try.pinned (OpenSpec.upto fnShareCostsSpec)

/-- 'laws.FnShareAll', WHERE WHAT IT READS IS OF BULK AT MOST 1048576: true; the input reads as it did. -/
def fnShareAllUptoRow : OpenClaim := { program := "ytanmjaljcnihlaa", sum := "7b7d4d88c70a5c83dd89b452ff186f1e927cbcfbc812d2472a175744c4afd1f8", func := "loop.example/bentrows/laws.FnShareAll", spec := "fnShareAll", unfollowed := true, recurses := true, apart := false, narrowed := true }
def FnShareAllUptoSaid : Prop := fnShareAllUptoRow.holds Try.pinned (OpenSpec.upto fnShareAllSpec)

end Rows
end Go.Proofs.Ytanmjaljcnihlaa
