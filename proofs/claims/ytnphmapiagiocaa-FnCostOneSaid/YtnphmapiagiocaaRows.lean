/-
  No cell of these rows narrows 'for every input' (looked for: loops, veiled, ifaces, maps, wideKeys, modest, calm, conditions, laid).
  DERIVED. THE GIVEN ROWS OF THIS SEAT. 8 by the template 'for every input the law returns true; each argument reads behind the call as it read before'; 0 by the template 'total and deterministic' (their statements: YtnphmapiagiocaaTotals.lean).
  GIVEN WITH THE SEED: the statements are not yours to turn. If you find one false, say at which input.
  Laid BY PROGRAM, IN A SANDBOX (cutbox-rows.mjs): the forced cells as the released guide's own fill.sh prints them over the translation e18b8f76e4828290… (all of the seat's roots in one cut). By AI agents, Wed Nov 11 2026. No macro, syntax, notation, axiom, sorry.
-/
import Derived.Test.YtnphmapiagiocaaChecked
import GoSem.Claim
import GoSem.ClaimJoined
import GoSem.ClaimMapViews
import Derived.JoinedTies
import Derived.KernelRfl
namespace Go.Proofs.Ytnphmapiagiocaa
/- THE CELL 'sum', in the pinned program and in every row, IS THE sha256 OF THE DUMP (.gsa) THAT YtnphmapiagiocaaProg.lean LOADS. Nothing in Lean hashes anything: it is a label: what it is worth is what the hold of that sum in a sandbox is worth. -/
noncomputable def Try.pinned : Pinned := { name := "ytnphmapiagiocaa", sum := "e18b8f76e48282902c45fe5d4a0700ad59d5c2e4d789004e5c9f141d508363f1", checked := Try.checked }
namespace Rows
def none {H : Type} : Left H := { results := [], args := [] }

/-- 'laws.FnValley': WHATEVER THE INPUT: true; the input reads as it did. -/
def fnValleySpec : ChangeSpec := { name := "fnValley", fn := fun _ => fun
  | [d] => { results := [.lit (.bool true)], args := [d] }
  | _ => none }
def fnValleyRow : OpenClaim := { program := "ytnphmapiagiocaa", sum := "e18b8f76e48282902c45fe5d4a0700ad59d5c2e4d789004e5c9f141d508363f1", func := "loop.example/bentrows/laws.FnValley", spec := "fnValley", unfollowed := true, recurses := true, apart := false }
def FnValleySaid : Prop := fnValleyRow.holds Try.pinned (OpenSpec.ofChange fnValleySpec)

/-- ITS FALSE NEIGHBOUR: 'it returns false'. Refute it at one input. -/
def fnValleyWrong : ChangeSpec := { name := "fnValley", fn := fun _ => fun
  | [d] => { results := [.lit (.bool false)], args := [d] }
  | _ => none }
def FnValleyWrongFalsely : Prop := fnValleyRow.holds Try.pinned (OpenSpec.ofChange fnValleyWrong)

/-- 'laws.FnSearch': WHATEVER THE INPUT: true; the input reads as it did. -/
def fnSearchSpec : ChangeSpec := { name := "fnSearch", fn := fun _ => fun
  | [d] => { results := [.lit (.bool true)], args := [d] }
  | _ => none }
def fnSearchRow : OpenClaim := { program := "ytnphmapiagiocaa", sum := "e18b8f76e48282902c45fe5d4a0700ad59d5c2e4d789004e5c9f141d508363f1", func := "loop.example/bentrows/laws.FnSearch", spec := "fnSearch", unfollowed := true, recurses := true, apart := false }
def FnSearchSaid : Prop := fnSearchRow.holds Try.pinned (OpenSpec.ofChange fnSearchSpec)

/-- ITS FALSE NEIGHBOUR: 'it returns false'. Refute it at one input. -/
def fnSearchWrong : ChangeSpec := { name := "fnSearch", fn := fun _ => fun
  | [d] => { results := [.lit (.bool false)], args := [d] }
  | _ => none }
def FnSearchWrongFalsely : Prop := fnSearchRow.holds Try.pinned (OpenSpec.ofChange fnSearchWrong)

/-- 'laws.FnCost': WHATEVER THE INPUT: true; the input reads as it did. -/
def fnCostSpec : ChangeSpec := { name := "fnCost", fn := fun _ => fun
  | [d] => { results := [.lit (.bool true)], args := [d] }
  | _ => none }
def fnCostRow : OpenClaim := { program := "ytnphmapiagiocaa", sum := "e18b8f76e48282902c45fe5d4a0700ad59d5c2e4d789004e5c9f141d508363f1", func := "loop.example/bentrows/laws.FnCost", spec := "fnCost", unfollowed := true, recurses := true, apart := false }
def FnCostSaid : Prop := fnCostRow.holds Try.pinned (OpenSpec.ofChange fnCostSpec)

/-- ITS FALSE NEIGHBOUR: 'it returns false'. Refute it at one input. -/
def fnCostWrong : ChangeSpec := { name := "fnCost", fn := fun _ => fun
  | [d] => { results := [.lit (.bool false)], args := [d] }
  | _ => none }
def FnCostWrongFalsely : Prop := fnCostRow.holds Try.pinned (OpenSpec.ofChange fnCostWrong)

/-- 'laws.FnCostOne': WHATEVER THE INPUT: true; the input reads as it did. -/
def fnCostOneSpec : ChangeSpec := { name := "fnCostOne", fn := fun _ => fun
  | [d] => { results := [.lit (.bool true)], args := [d] }
  | _ => none }
def fnCostOneRow : OpenClaim := { program := "ytnphmapiagiocaa", sum := "e18b8f76e48282902c45fe5d4a0700ad59d5c2e4d789004e5c9f141d508363f1", func := "loop.example/bentrows/laws.FnCostOne", spec := "fnCostOne", unfollowed := true, recurses := true, apart := false }
def FnCostOneSaid : Prop := fnCostOneRow.holds Try.pinned (OpenSpec.ofChange fnCostOneSpec)

/-- ITS FALSE NEIGHBOUR: 'it returns false'. Refute it at one input. -/
def fnCostOneWrong : ChangeSpec := { name := "fnCostOne", fn := fun _ => fun
  | [d] => { results := [.lit (.bool false)], args := [d] }
  | _ => none }
def FnCostOneWrongFalsely : Prop := fnCostOneRow.holds Try.pinned (OpenSpec.ofChange fnCostOneWrong)

/-- 'laws.FnRound': WHATEVER THE INPUT: true; the input reads as it did. -/
def fnRoundSpec : ChangeSpec := { name := "fnRound", fn := fun _ => fun
  | [d] => { results := [.lit (.bool true)], args := [d] }
  | _ => none }
def fnRoundRow : OpenClaim := { program := "ytnphmapiagiocaa", sum := "e18b8f76e48282902c45fe5d4a0700ad59d5c2e4d789004e5c9f141d508363f1", func := "loop.example/bentrows/laws.FnRound", spec := "fnRound", unfollowed := true, recurses := true, apart := false }
def FnRoundSaid : Prop := fnRoundRow.holds Try.pinned (OpenSpec.ofChange fnRoundSpec)

/-- ITS FALSE NEIGHBOUR: 'it returns false'. Refute it at one input. -/
def fnRoundWrong : ChangeSpec := { name := "fnRound", fn := fun _ => fun
  | [d] => { results := [.lit (.bool false)], args := [d] }
  | _ => none }
def FnRoundWrongFalsely : Prop := fnRoundRow.holds Try.pinned (OpenSpec.ofChange fnRoundWrong)

/-- 'laws.FnFold': WHATEVER THE INPUT: true; the input reads as it did. -/
def fnFoldSpec : ChangeSpec := { name := "fnFold", fn := fun _ => fun
  | [d] => { results := [.lit (.bool true)], args := [d] }
  | _ => none }
def fnFoldRow : OpenClaim := { program := "ytnphmapiagiocaa", sum := "e18b8f76e48282902c45fe5d4a0700ad59d5c2e4d789004e5c9f141d508363f1", func := "loop.example/bentrows/laws.FnFold", spec := "fnFold", unfollowed := true, recurses := true, apart := false }
def FnFoldSaid : Prop := fnFoldRow.holds Try.pinned (OpenSpec.ofChange fnFoldSpec)

/-- ITS FALSE NEIGHBOUR: 'it returns false'. Refute it at one input. -/
def fnFoldWrong : ChangeSpec := { name := "fnFold", fn := fun _ => fun
  | [d] => { results := [.lit (.bool false)], args := [d] }
  | _ => none }
def FnFoldWrongFalsely : Prop := fnFoldRow.holds Try.pinned (OpenSpec.ofChange fnFoldWrong)

/-- 'laws.FnTop': WHATEVER THE INPUT: true; the input reads as it did. -/
def fnTopSpec : ChangeSpec := { name := "fnTop", fn := fun _ => fun
  | [d] => { results := [.lit (.bool true)], args := [d] }
  | _ => none }
def fnTopRow : OpenClaim := { program := "ytnphmapiagiocaa", sum := "e18b8f76e48282902c45fe5d4a0700ad59d5c2e4d789004e5c9f141d508363f1", func := "loop.example/bentrows/laws.FnTop", spec := "fnTop", unfollowed := true, recurses := true, apart := false }
def FnTopSaid : Prop := fnTopRow.holds Try.pinned (OpenSpec.ofChange fnTopSpec)

/-- ITS FALSE NEIGHBOUR: 'it returns false'. Refute it at one input. -/
def fnTopWrong : ChangeSpec := { name := "fnTop", fn := fun _ => fun
  | [d] => { results := [.lit (.bool false)], args := [d] }
  | _ => none }
def FnTopWrongFalsely : Prop := fnTopRow.holds Try.pinned (OpenSpec.ofChange fnTopWrong)

/-- 'laws.FnRaise': WHATEVER THE INPUT: true; the input reads as it did. -/
def fnRaiseSpec : ChangeSpec := { name := "fnRaise", fn := fun _ => fun
  | [d] => { results := [.lit (.bool true)], args := [d] }
  | _ => none }
def fnRaiseRow : OpenClaim := { program := "ytnphmapiagiocaa", sum := "e18b8f76e48282902c45fe5d4a0700ad59d5c2e4d789004e5c9f141d508363f1", func := "loop.example/bentrows/laws.FnRaise", spec := "fnRaise", unfollowed := true, recurses := true, apart := false }
def FnRaiseSaid : Prop := fnRaiseRow.holds Try.pinned (OpenSpec.ofChange fnRaiseSpec)

/-- ITS FALSE NEIGHBOUR: 'it returns false'. Refute it at one input. -/
def fnRaiseWrong : ChangeSpec := { name := "fnRaise", fn := fun _ => fun
  | [d] => { results := [.lit (.bool false)], args := [d] }
  | _ => none }
def FnRaiseWrongFalsely : Prop := fnRaiseRow.holds Try.pinned (OpenSpec.ofChange fnRaiseWrong)

/- THE SECOND FORM. 'bulk': how many values and letters a reading holds, each counted each time it is reached (what is shared counts as often as it is met; a slice's spare places count too). A statement '..UptoSaid' is the law's where the arguments, and the package variables that the reading takes, are together of bulk at most 1048576: NARROWER than '..Said'. Prove '..Said' where nothing that the law and all that it calls make is longer than what came in: it says more and counts as full. Else prove '..UptoSaid'. A law counts once. -/
mutual
def uptoBulk {H : Type} : DataW H → Nat
  | .lit (.string bytes) => bytes.length + 1
  | .lit _ => 1
  | .nil => 1
  | .ptr d => uptoBulk d + 1
  | .slice elems spare => uptoBulkAll elems + uptoBulkAll spare + 1
  | .agg parts => uptoBulkAll parts + 1
  | .iface _ d => uptoBulk d + 1
  | .map entries => uptoBulkEntries entries + 1
  | .held _ => 1
def uptoBulkAll {H : Type} : List (DataW H) → Nat
  | [] => 0
  | d :: r => uptoBulk d + uptoBulkAll r
def uptoBulkEntries {H : Type} : List (Lit × DataW H) → Nat
  | [] => 0
  | x :: r => uptoBulkEntry x + uptoBulkEntries r
def uptoBulkEntry {H : Type} : Lit × DataW H → Nat
  | (.string bytes, d) => bytes.length + uptoBulk d + 1
  | (_, d) => uptoBulk d + 1
 end
def uptoSmall : (H : Type) → List (DataW H) → Bool := fun _ ds => decide (uptoBulkAll ds ≤ 1048576)
def OpenSpec.upto (s : _root_.Go.ChangeSpec) : _root_.Go.OpenSpec := { _root_.Go.OpenSpec.ofChange s with cond := some uptoSmall }

/-- 'laws.FnValley', WHERE WHAT IT READS IS OF BULK AT MOST 1048576: true; the input reads as it did. -/
def fnValleyUptoRow : OpenClaim := { program := "ytnphmapiagiocaa", sum := "e18b8f76e48282902c45fe5d4a0700ad59d5c2e4d789004e5c9f141d508363f1", func := "loop.example/bentrows/laws.FnValley", spec := "fnValley", unfollowed := true, recurses := true, apart := false, narrowed := true }
def FnValleyUptoSaid : Prop := fnValleyUptoRow.holds Try.pinned (OpenSpec.upto fnValleySpec)

/-- 'laws.FnSearch', WHERE WHAT IT READS IS OF BULK AT MOST 1048576: true; the input reads as it did. -/
def fnSearchUptoRow : OpenClaim := { program := "ytnphmapiagiocaa", sum := "e18b8f76e48282902c45fe5d4a0700ad59d5c2e4d789004e5c9f141d508363f1", func := "loop.example/bentrows/laws.FnSearch", spec := "fnSearch", unfollowed := true, recurses := true, apart := false, narrowed := true }
def FnSearchUptoSaid : Prop := fnSearchUptoRow.holds Try.pinned (OpenSpec.upto fnSearchSpec)

/-- 'laws.FnCost', WHERE WHAT IT READS IS OF BULK AT MOST 1048576: true; the input reads as it did. -/
def fnCostUptoRow : OpenClaim := { program := "ytnphmapiagiocaa", sum := "e18b8f76e48282902c45fe5d4a0700ad59d5c2e4d789004e5c9f141d508363f1", func := "loop.example/bentrows/laws.FnCost", spec := "fnCost", unfollowed := true, recurses := true, apart := false, narrowed := true }
def FnCostUptoSaid : Prop := fnCostUptoRow.holds Try.pinned (OpenSpec.upto fnCostSpec)

/-- 'laws.FnCostOne', WHERE WHAT IT READS IS OF BULK AT MOST 1048576: true; the input reads as it did. -/
def fnCostOneUptoRow : OpenClaim := { program := "ytnphmapiagiocaa", sum := "e18b8f76e48282902c45fe5d4a0700ad59d5c2e4d789004e5c9f141d508363f1", func := "loop.example/bentrows/laws.FnCostOne", spec := "fnCostOne", unfollowed := true, recurses := true, apart := false, narrowed := true }
def FnCostOneUptoSaid : Prop := fnCostOneUptoRow.holds Try.pinned (OpenSpec.upto fnCostOneSpec)

/-- 'laws.FnRound', WHERE WHAT IT READS IS OF BULK AT MOST 1048576: true; the input reads as it did. -/
def fnRoundUptoRow : OpenClaim := { program := "ytnphmapiagiocaa", sum := "e18b8f76e48282902c45fe5d4a0700ad59d5c2e4d789004e5c9f141d508363f1", func := "loop.example/bentrows/laws.FnRound", spec := "fnRound", unfollowed := true, recurses := true, apart := false, narrowed := true }
def FnRoundUptoSaid : Prop := fnRoundUptoRow.holds Try.pinned (OpenSpec.upto fnRoundSpec)

/-- 'laws.FnFold', WHERE WHAT IT READS IS OF BULK AT MOST 1048576: true; the input reads as it did. -/
def fnFoldUptoRow : OpenClaim := { program := "ytnphmapiagiocaa", sum := "e18b8f76e48282902c45fe5d4a0700ad59d5c2e4d789004e5c9f141d508363f1", func := "loop.example/bentrows/laws.FnFold", spec := "fnFold", unfollowed := true, recurses := true, apart := false, narrowed := true }
def FnFoldUptoSaid : Prop := fnFoldUptoRow.holds Try.pinned (OpenSpec.upto fnFoldSpec)

/-- 'laws.FnTop', WHERE WHAT IT READS IS OF BULK AT MOST 1048576: true; the input reads as it did. -/
def fnTopUptoRow : OpenClaim := { program := "ytnphmapiagiocaa", sum := "e18b8f76e48282902c45fe5d4a0700ad59d5c2e4d789004e5c9f141d508363f1", func := "loop.example/bentrows/laws.FnTop", spec := "fnTop", unfollowed := true, recurses := true, apart := false, narrowed := true }
def FnTopUptoSaid : Prop := fnTopUptoRow.holds Try.pinned (OpenSpec.upto fnTopSpec)

/-- 'laws.FnRaise', WHERE WHAT IT READS IS OF BULK AT MOST 1048576: true; the input reads as it did. -/
def fnRaiseUptoRow : OpenClaim := { program := "ytnphmapiagiocaa", sum := "e18b8f76e48282902c45fe5d4a0700ad59d5c2e4d789004e5c9f141d508363f1", func := "loop.example/bentrows/laws.FnRaise", spec := "fnRaise", unfollowed := true, recurses := true, apart := false, narrowed := true }
def FnRaiseUptoSaid : Prop := fnRaiseUptoRow.holds Try.pinned (OpenSpec.upto fnRaiseSpec)

end Rows
end Go.Proofs.Ytnphmapiagiocaa
