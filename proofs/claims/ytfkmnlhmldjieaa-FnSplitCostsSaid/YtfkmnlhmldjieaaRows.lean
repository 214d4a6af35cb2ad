/-
  No cell of these rows narrows 'for every input' (looked for: loops, veiled, ifaces, maps, wideKeys, modest, calm, conditions, laid).
  DERIVED. THE GIVEN ROWS OF THIS SEAT. 7 by the template 'for every input the law returns true; each argument reads behind the call as it read before'; 0 by the template 'total and deterministic' (their statements: YtfkmnlhmldjieaaTotals.lean).
  GIVEN WITH THE SEED: the statements are not yours to turn. If you find one false, say at which input.
  Laid BY PROGRAM, IN A SANDBOX (cutbox-rows.mjs): the forced cells as the released guide's own fill.sh prints them over the translation 94148854b9ad9de7… (all of the seat's roots in one cut). By AI agents, Wed Nov 11 2026. No macro, syntax, notation, axiom, sorry.
-/
import Derived.Test.YtfkmnlhmldjieaaChecked
import GoSem.Claim
import GoSem.ClaimJoined
import GoSem.ClaimMapViews
import Derived.JoinedTies
import Derived.KernelRfl
namespace Go.Proofs.Ytfkmnlhmldjieaa
/- THE CELL 'sum', in the pinned program and in every row, IS THE sha256 OF THE DUMP (.gsa) THAT YtfkmnlhmldjieaaProg.lean LOADS. Nothing in Lean hashes anything: it is a label: what it is worth is what the hold of that sum in a sandbox is worth. -/
noncomputable def Try.pinned : Pinned := { name := "ytfkmnlhmldjieaa", sum := "94148854b9ad9de739e2119a123b62c18c8e9e95c8fa4636015fddb08433ff4b", checked := Try.checked }
namespace Rows
def none {H : Type} : Left H := { results := [], args := [] }

/-- 'laws.FnSplitCost': WHATEVER THE INPUT: true; the input reads as it did. -/
def fnSplitCostSpec : ChangeSpec := { name := "fnSplitCost", fn := fun _ => fun
  | [d] => { results := [.lit (.bool true)], args := [d] }
  | _ => none }
def fnSplitCostRow : OpenClaim := { program := "ytfkmnlhmldjieaa", sum := "94148854b9ad9de739e2119a123b62c18c8e9e95c8fa4636015fddb08433ff4b", func := "loop.example/bentrows/laws.FnSplitCost", spec := "fnSplitCost", unfollowed := true, recurses := true, apart := false }
def FnSplitCostSaid : Prop := fnSplitCostRow.holds Try.pinned (OpenSpec.ofChange fnSplitCostSpec)

/-- ITS FALSE NEIGHBOUR: 'it returns false'. Refute it at one input. -/
def fnSplitCostWrong : ChangeSpec := { name := "fnSplitCost", fn := fun _ => fun
  | [d] => { results := [.lit (.bool false)], args := [d] }
  | _ => none }
def FnSplitCostWrongFalsely : Prop := fnSplitCostRow.holds Try.pinned (OpenSpec.ofChange fnSplitCostWrong)

/-- 'laws.FnSplitLeast': WHATEVER THE INPUT: true; the input reads as it did. -/
def fnSplitLeastSpec : ChangeSpec := { name := "fnSplitLeast", fn := fun _ => fun
  | [d] => { results := [.lit (.bool true)], args := [d] }
  | _ => none }
def fnSplitLeastRow : OpenClaim := { program := "ytfkmnlhmldjieaa", sum := "94148854b9ad9de739e2119a123b62c18c8e9e95c8fa4636015fddb08433ff4b", func := "loop.example/bentrows/laws.FnSplitLeast", spec := "fnSplitLeast", unfollowed := true, recurses := true, apart := false }
def FnSplitLeastSaid : Prop := fnSplitLeastRow.holds Try.pinned (OpenSpec.ofChange fnSplitLeastSpec)

/-- ITS FALSE NEIGHBOUR: 'it returns false'. Refute it at one input. -/
def fnSplitLeastWrong : ChangeSpec := { name := "fnSplitLeast", fn := fun _ => fun
  | [d] => { results := [.lit (.bool false)], args := [d] }
  | _ => none }
def FnSplitLeastWrongFalsely : Prop := fnSplitLeastRow.holds Try.pinned (OpenSpec.ofChange fnSplitLeastWrong)

/-- 'laws.FnSplitFirst': WHATEVER THE INPUT: true; the input reads as it did. -/
def fnSplitFirstSpec : ChangeSpec := { name := "fnSplitFirst", fn := fun _ => fun
  | [d] => { results := [.lit (.bool true)], args := [d] }
  | _ => none }
def fnSplitFirstRow : OpenClaim := { program := "ytfkmnlhmldjieaa", sum := "94148854b9ad9de739e2119a123b62c18c8e9e95c8fa4636015fddb08433ff4b", func := "loop.example/bentrows/laws.FnSplitFirst", spec := "fnSplitFirst", unfollowed := true, recurses := true, apart := false }
def FnSplitFirstSaid : Prop := fnSplitFirstRow.holds Try.pinned (OpenSpec.ofChange fnSplitFirstSpec)

/-- ITS FALSE NEIGHBOUR: 'it returns false'. Refute it at one input. -/
def fnSplitFirstWrong : ChangeSpec := { name := "fnSplitFirst", fn := fun _ => fun
  | [d] => { results := [.lit (.bool false)], args := [d] }
  | _ => none }
def FnSplitFirstWrongFalsely : Prop := fnSplitFirstRow.holds Try.pinned (OpenSpec.ofChange fnSplitFirstWrong)

/-- 'laws.FnSplitCosts': WHATEVER THE INPUT: true; the input reads as it did. -/
def fnSplitCostsSpec : ChangeSpec := { name := "fnSplitCosts", fn := fun _ => fun
  | [d] => { results := [.lit (.bool true)], args := [d] }
  | _ => none }
def fnSplitCostsRow : OpenClaim := { program := "ytfkmnlhmldjieaa", sum := "94148854b9ad9de739e2119a123b62c18c8e9e95c8fa4636015fddb08433ff4b", func := "loop.example/bentrows/laws.FnSplitCosts", spec := "fnSplitCosts", unfollowed := true, recurses := true, apart := false }
def FnSplitCostsSaid : Prop := fnSplitCostsRow.holds Try.pinned (OpenSpec.ofChange fnSplitCostsSpec)

/-- ITS FALSE NEIGHBOUR: 'it returns false'. Refute it at one input. -/
def fnSplitCostsWrong : ChangeSpec := { name := "fnSplitCosts", fn := fun _ => fun
  | [d] => { results := [.lit (.bool false)], args := [d] }
  | _ => none }
def FnSplitCostsWrongFalsely : Prop := fnSplitCostsRow.holds Try.pinned (OpenSpec.ofChange fnSplitCostsWrong)

/-- 'laws.FnSplitAny': WHATEVER THE INPUT: true; the input reads as it did. -/
def fnSplitAnySpec : ChangeSpec := { name := "fnSplitAny", fn := fun _ => fun
  | [d] => { results := [.lit (.bool true)], args := [d] }
  | _ => none }
def fnSplitAnyRow : OpenClaim := { program := "ytfkmnlhmldjieaa", sum := "94148854b9ad9de739e2119a123b62c18c8e9e95c8fa4636015fddb08433ff4b", func := "loop.example/bentrows/laws.FnSplitAny", spec := "fnSplitAny", unfollowed := true, recurses := true, apart := false }
def FnSplitAnySaid : Prop := fnSplitAnyRow.holds Try.pinned (OpenSpec.ofChange fnSplitAnySpec)

/-- ITS FALSE NEIGHBOUR: 'it returns false'. Refute it at one input. -/
def fnSplitAnyWrong : ChangeSpec := { name := "fnSplitAny", fn := fun _ => fun
  | [d] => { results := [.lit (.bool false)], args := [d] }
  | _ => none }
def FnSplitAnyWrongFalsely : Prop := fnSplitAnyRow.holds Try.pinned (OpenSpec.ofChange fnSplitAnyWrong)

/-- 'laws.FnSplitMany': WHATEVER THE INPUT: true; the input reads as it did. -/
def fnSplitManySpec : ChangeSpec := { name := "fnSplitMany", fn := fun _ => fun
  | [d] => { results := [.lit (.bool true)], args := [d] }
  | _ => none }
def fnSplitManyRow : OpenClaim := { program := "ytfkmnlhmldjieaa", sum := "94148854b9ad9de739e2119a123b62c18c8e9e95c8fa4636015fddb08433ff4b", func := "loop.example/bentrows/laws.FnSplitMany", spec := "fnSplitMany", unfollowed := true, recurses := true, apart := false }
def FnSplitManySaid : Prop := fnSplitManyRow.holds Try.pinned (OpenSpec.ofChange fnSplitManySpec)

/-- ITS FALSE NEIGHBOUR: 'it returns false'. Refute it at one input. -/
def fnSplitManyWrong : ChangeSpec := { name := "fnSplitMany", fn := fun _ => fun
  | [d] => { results := [.lit (.bool false)], args := [d] }
  | _ => none }
def FnSplitManyWrongFalsely : Prop := fnSplitManyRow.holds Try.pinned (OpenSpec.ofChange fnSplitManyWrong)

/-- 'laws.FnSplitEven': WHATEVER THE INPUT: true; the input reads as it did. -/
def fnSplitEvenSpec : ChangeSpec := { name := "fnSplitEven", fn := fun _ => fun
  | [d] => { results := [.lit (.bool true)], args := [d] }
  | _ => none }
def fnSplitEvenRow : OpenClaim := { program := "ytfkmnlhmldjieaa", sum := "94148854b9ad9de739e2119a123b62c18c8e9e95c8fa4636015fddb08433ff4b", func := "loop.example/bentrows/laws.FnSplitEven", spec := "fnSplitEven", unfollowed := true, recurses := true, apart := false }
def FnSplitEvenSaid : Prop := fnSplitEvenRow.holds Try.pinned (OpenSpec.ofChange fnSplitEvenSpec)

/-- ITS FALSE NEIGHBOUR: 'it returns false'. Refute it at one input. -/
def fnSplitEvenWrong : ChangeSpec := { name := "fnSplitEven", fn := fun _ => fun
  | [d] => { results := [.lit (.bool false)], args := [d] }
  | _ => none }
def FnSplitEvenWrongFalsely : Prop := fnSplitEvenRow.holds Try.pinned (OpenSpec.ofChange fnSplitEvenWrong)

/- THE SECOND FORM. 'bulk': how many values and letters a reading holds, each counted each time it is reached (what is shared counts as often as it is met; a slice's spare places count too). A statement '..UptoSaid' is the law's where the arguments, and the package variables that the reading takes, are together of bulk at most 1048576: NARROWER than '..Said'. Prove '..Said' where nothing that the law and all that it calls make is longer than what came in: it says more and counts as full. Else prove '..UptoSaid'. A law counts once. -/
mutual
def uptoBulk {H : Type} : DataW H → Nat
  | .lit (.string bytes) => bytes.length + 1
  | .lit _ => 1
  | .nil => 1
  | .ptr d => uptoBulk d + 1
  | .slice elems spare => uptoBulkAll elems + uptoBulkAll spare + 1
  | .agg parts => uptoBulkAll parts + 1
  | .iface _ d => uptoBulk d + 1
  | .map entries => uptoBulkEntries entries + 1
  | .held _ => 1
def uptoBulkAll {H : Type} : List (DataW H) → Nat
  | [] => 0
  | d :: r => uptoBulk d + uptoBulkAll r
def uptoBulkEntries {H : Type} : List (Lit × DataW H) → Nat
  | [] => 0
  | x :: r => uptoBulkEntry x + uptoBulkEntries r
def uptoBulkEntry {H : Type} : Lit × DataW H → Nat
  | (.string bytes, d) => bytes.length + uptoBulk d + 1
  | (_, d) => uptoBulk d + 1
 end
def uptoSmall : (H : Type) → List (DataW H) → Bool := fun _ ds => decide (uptoBulkAll ds ≤ 1048576)
def OpenSpec.upto (s : _root_.Go.ChangeSpec) : _root_.Go.OpenSpec := { _root_.Go.OpenSpec.ofChange s with cond := some uptoSmall }

/-- 'laws.FnSplitCost', WHERE WHAT IT READS IS OF BULK AT MOST 1048576: true; the input reads as it did. -/
def fnSplitCostUptoRow : OpenClaim := { program := "ytfkmnlhmldjieaa", sum := "94148854b9ad9de739e2119a123b62c18c8e9e95c8fa4636015fddb08433ff4b", func := "loop.example/bentrows/laws.FnSplitCost", spec := "fnSplitCost", unfollowed := true, recurses := true, apart := false, narrowed := true }
def FnSplitCostUptoSaid : Prop := fnSplitCostUptoRow.holds Try.pinned (OpenSpec.upto fnSplitCostSpec)

/-- 'laws.FnSplitLeast', WHERE WHAT IT READS IS OF BULK AT MOST 1048576: true; the input reads as it did. -/
def fnSplitLeastUptoRow : OpenClaim := { program := "ytfkmnlhmldjieaa", sum := "94148854b9ad9de739e2119a123b62c18c8e9e95c8fa4636015fddb08433ff4b", func := "loop.example/bentrows/laws.FnSplitLeast", spec := "fnSplitLeast", unfollowed := true, recurses := true, apart := false, narrowed := true }
def FnSplitLeastUptoSaid : Prop := fnSplitLeastUptoRow.holds Try.pinned (OpenSpec.upto fnSplitLeastSpec)

/-- 'laws.FnSplitFirst', WHERE WHAT IT READS IS OF BULK AT MOST 1048576: true; the input reads as it did. -/
def fnSplitFirstUptoRow : OpenClaim := { program := "ytfkmnlhmldjieaa", sum := "94148854b9ad9de739e2119a123b62c18c8e9e95c8fa4636015fddb08433ff4b", func := "loop.example/bentrows/laws.FnSplitFirst", spec := "fnSplitFirst", unfollowed := true, recurses := true, apart := false, narrowed := true }
def FnSplitFirstUptoSaid : Prop := fnSplitFirstUptoRow.holds Try.pinned (OpenSpec.upto fnSplitFirstSpec)

/-- 'laws.FnSplitCosts', WHERE WHAT IT READS IS OF BULK AT MOST 1048576: true; the input reads as it did. -/
def fnSplitCostsUptoRow : OpenClaim := { program := "ytfkmnlhmldjieaa", sum := "94148854b9ad9de739e2119a123b62c18c8e9e95c8fa4636015fddb08433ff4b", func := "loop.example/bentrows/laws.FnSplitCosts", spec := "fnSplitCosts", unfollowed := true, recurses := true, apart := false, narrowed := true }
def FnSplitCostsUptoSaid : Prop := fnSplitCostsUptoRow.holds Try.pinned (OpenSpec.upto fnSplitCostsSpec)

/-- 'laws.FnSplitAny', WHERE WHAT IT READS IS OF BULK AT MOST 1048576: true; the input reads as it did. -/
def fnSplitAnyUptoRow : OpenClaim := { program := "ytfkmnlhmldjieaa", sum := "94148854b9ad9de739e2119a123b62c18c8e9e95c8fa4636015fddb08433ff4b", func := "loop.example/bentrows/laws.FnSplitAny", spec := "fnSplitAny", unfollowed := true, recurses := true, apart := false, narrowed := true }
def FnSplitAnyUptoSaid : Prop := fnSplitAnyUptoRow.holds Try.pinned (OpenSpec.upto fnSplitAnySpec)

/-- 'laws.FnSplitMany', WHERE WHAT IT READS IS OF BULK AT MOST 1048576: true; the input reads as it did. -/
def fnSplitManyUptoRow : OpenClaim := { program := "ytfkmnlhmldjieaa", sum := "94148854b9ad9de739e2119a123b62c18c8e9e95c8fa4636015fddb08433ff4b", func := "loop.example/bentrows/laws.FnSplitMany", spec := "fnSplitMany", unfollowed := true, recurses := true, apart := false, narrowed := true }
def FnSplitManyUptoSaid : Prop := fnSplitManyUptoRow.holds Try.pinned (OpenSpec.upto fnSplitManySpec)

/-- 'laws.FnSplitEven', WHERE WHAT IT READS IS OF BULK AT MOST 1048576: true; the input reads as it did. -/
def fnSplitEvenUptoRow : OpenClaim := { program := "ytfkmnlhmldjieaa", sum := "94148854b9ad9de739e2119a123b62c18c8e9e95c8fa4636015fddb08433ff4b", func := "loop.example/bentrows/laws.FnSplitEven", spec := "fnSplitEven", unfollowed := true, recurses := true, apart := false, narrowed := true }
def FnSplitEvenUptoSaid : Prop := fnSplitEvenUptoRow.holds Try.pinned (OpenSpec.upto fnSplitEvenSpec)

end Rows
end Go.Proofs.Ytfkmnlhmldjieaa
