/-
  No cell of these rows narrows 'for every input' (looked for: loops, veiled, ifaces, maps, wideKeys, modest, calm, conditions, laid).
  DERIVED. THE GIVEN ROWS OF THIS SEAT. 7 by the template 'for every input the law returns true; each argument reads behind the call as it read before'; 0 by the template 'total and deterministic' (their statements: YtpmmfngmnneekaaTotals.lean).
  GIVEN WITH THE SEED: the statements are not yours to turn. If you find one false, say at which input.
  Laid BY PROGRAM, IN A SANDBOX (cutbox-rows.mjs): the forced cells as the released guide's own fill.sh prints them over the translation e33800650ae7c9f6… (all of the seat's roots in one cut). By AI agents, Wed Nov 11 2026. No macro, syntax, notation, axiom, sorry.
-/
import Derived.Test.YtpmmfngmnneekaaChecked
import GoSem.Claim
import GoSem.ClaimJoined
import GoSem.ClaimMapViews
import Derived.JoinedTies
import Derived.KernelRfl
namespace Go.Proofs.Ytpmmfngmnneekaa
/- THE CELL 'sum', in the pinned program and in every row, IS THE sha256 OF THE DUMP (.gsa) THAT YtpmmfngmnneekaaProg.lean LOADS. Nothing in Lean hashes anything: it is a label: what it is worth is what the hold of that sum in a sandbox is worth. -/
noncomputable def Try.pinned : Pinned := { name := "ytpmmfngmnneekaa", sum := "e33800650ae7c9f6b1a192e0c530e4a3d13cd292f1ec2d40f91f182b2d044364", checked := Try.checked }
namespace Rows
def none {H : Type} : Left H := { results := [], args := [] }

/-- 'laws.FnExactValleyOne': WHATEVER THE INPUT: true; the input reads as it did. -/
def fnExactValleyOneSpec : ChangeSpec := { name := "fnExactValleyOne", fn := fun _ => fun
  | [d] => { results := [.lit (.bool true)], args := [d] }
  | _ => none }
def fnExactValleyOneRow : OpenClaim := { program := "ytpmmfngmnneekaa", sum := "e33800650ae7c9f6b1a192e0c530e4a3d13cd292f1ec2d40f91f182b2d044364", func := "loop.example/bentrows/laws.FnExactValleyOne", spec := "fnExactValleyOne", unfollowed := true, recurses := true, apart := false }
def FnExactValleyOneSaid : Prop := fnExactValleyOneRow.holds Try.pinned (OpenSpec.ofChange fnExactValleyOneSpec)

/-- ITS FALSE NEIGHBOUR: 'it returns false'. Refute it at one input. -/
def fnExactValleyOneWrong : ChangeSpec := { name := "fnExactValleyOne", fn := fun _ => fun
  | [d] => { results := [.lit (.bool false)], args := [d] }
  | _ => none }
def FnExactValleyOneWrongFalsely : Prop := fnExactValleyOneRow.holds Try.pinned (OpenSpec.ofChange fnExactValleyOneWrong)

/-- 'laws.FnExactValleySearch': WHATEVER THE INPUT: true; the input reads as it did. -/
def fnExactValleySearchSpec : ChangeSpec := { name := "fnExactValleySearch", fn := fun _ => fun
  | [d] => { results := [.lit (.bool true)], args := [d] }
  | _ => none }
def fnExactValleySearchRow : OpenClaim := { program := "ytpmmfngmnneekaa", sum := "e33800650ae7c9f6b1a192e0c530e4a3d13cd292f1ec2d40f91f182b2d044364", func := "loop.example/bentrows/laws.FnExactValleySearch", spec := "fnExactValleySearch", unfollowed := true, recurses := true, apart := false }
def FnExactValleySearchSaid : Prop := fnExactValleySearchRow.holds Try.pinned (OpenSpec.ofChange fnExactValleySearchSpec)

/-- ITS FALSE NEIGHBOUR: 'it returns false'. Refute it at one input. -/
def fnExactValleySearchWrong : ChangeSpec := { name := "fnExactValleySearch", fn := fun _ => fun
  | [d] => { results := [.lit (.bool false)], args := [d] }
  | _ => none }
def FnExactValleySearchWrongFalsely : Prop := fnExactValleySearchRow.holds Try.pinned (OpenSpec.ofChange fnExactValleySearchWrong)

/-- 'laws.FnExactValleyCost': WHATEVER THE INPUT: true; the input reads as it did. -/
def fnExactValleyCostSpec : ChangeSpec := { name := "fnExactValleyCost", fn := fun _ => fun
  | [d] => { results := [.lit (.bool true)], args := [d] }
  | _ => none }
def fnExactValleyCostRow : OpenClaim := { program := "ytpmmfngmnneekaa", sum := "e33800650ae7c9f6b1a192e0c530e4a3d13cd292f1ec2d40f91f182b2d044364", func := "loop.example/bentrows/laws.FnExactValleyCost", spec := "fnExactValleyCost", unfollowed := true, recurses := true, apart := false }
def FnExactValleyCostSaid : Prop := fnExactValleyCostRow.holds Try.pinned (OpenSpec.ofChange fnExactValleyCostSpec)

/-- ITS FALSE NEIGHBOUR: 'it returns false'. Refute it at one input. -/
def fnExactValleyCostWrong : ChangeSpec := { name := "fnExactValleyCost", fn := fun _ => fun
  | [d] => { results := [.lit (.bool false)], args := [d] }
  | _ => none }
def FnExactValleyCostWrongFalsely : Prop := fnExactValleyCostRow.holds Try.pinned (OpenSpec.ofChange fnExactValleyCostWrong)

/-- 'laws.FnExactHillRound': WHATEVER THE INPUT: true; the input reads as it did. -/
def fnExactHillRoundSpec : ChangeSpec := { name := "fnExactHillRound", fn := fun _ => fun
  | [d] => { results := [.lit (.bool true)], args := [d] }
  | _ => none }
def fnExactHillRoundRow : OpenClaim := { program := "ytpmmfngmnneekaa", sum := "e33800650ae7c9f6b1a192e0c530e4a3d13cd292f1ec2d40f91f182b2d044364", func := "loop.example/bentrows/laws.FnExactHillRound", spec := "fnExactHillRound", unfollowed := true, recurses := true, apart := false }
def FnExactHillRoundSaid : Prop := fnExactHillRoundRow.holds Try.pinned (OpenSpec.ofChange fnExactHillRoundSpec)

/-- ITS FALSE NEIGHBOUR: 'it returns false'. Refute it at one input. -/
def fnExactHillRoundWrong : ChangeSpec := { name := "fnExactHillRound", fn := fun _ => fun
  | [d] => { results := [.lit (.bool false)], args := [d] }
  | _ => none }
def FnExactHillRoundWrongFalsely : Prop := fnExactHillRoundRow.holds Try.pinned (OpenSpec.ofChange fnExactHillRoundWrong)

/-- 'laws.FnExactHillFold': WHATEVER THE INPUT: true; the input reads as it did. -/
def fnExactHillFoldSpec : ChangeSpec := { name := "fnExactHillFold", fn := fun _ => fun
  | [d1, d2] => { results := [.lit (.bool true)], args := [d1, d2] }
  | _ => none }
def fnExactHillFoldRow : OpenClaim := { program := "ytpmmfngmnneekaa", sum := "e33800650ae7c9f6b1a192e0c530e4a3d13cd292f1ec2d40f91f182b2d044364", func := "loop.example/bentrows/laws.FnExactHillFold", spec := "fnExactHillFold", unfollowed := true, recurses := true, apart := false }
def FnExactHillFoldSaid : Prop := fnExactHillFoldRow.holds Try.pinned (OpenSpec.ofChange fnExactHillFoldSpec)

/-- ITS FALSE NEIGHBOUR: 'it returns false'. Refute it at one input. -/
def fnExactHillFoldWrong : ChangeSpec := { name := "fnExactHillFold", fn := fun _ => fun
  | [d1, d2] => { results := [.lit (.bool false)], args := [d1, d2] }
  | _ => none }
def FnExactHillFoldWrongFalsely : Prop := fnExactHillFoldRow.holds Try.pinned (OpenSpec.ofChange fnExactHillFoldWrong)

/-- 'laws.FnExactHillTop': WHATEVER THE INPUT: true; the input reads as it did. -/
def fnExactHillTopSpec : ChangeSpec := { name := "fnExactHillTop", fn := fun _ => fun
  | [d] => { results := [.lit (.bool true)], args := [d] }
  | _ => none }
def fnExactHillTopRow : OpenClaim := { program := "ytpmmfngmnneekaa", sum := "e33800650ae7c9f6b1a192e0c530e4a3d13cd292f1ec2d40f91f182b2d044364", func := "loop.example/bentrows/laws.FnExactHillTop", spec := "fnExactHillTop", unfollowed := true, recurses := true, apart := false }
def FnExactHillTopSaid : Prop := fnExactHillTopRow.holds Try.pinned (OpenSpec.ofChange fnExactHillTopSpec)

/-- ITS FALSE NEIGHBOUR: 'it returns false'. Refute it at one input. -/
def fnExactHillTopWrong : ChangeSpec := { name := "fnExactHillTop", fn := fun _ => fun
  | [d] => { results := [.lit (.bool false)], args := [d] }
  | _ => none }
def FnExactHillTopWrongFalsely : Prop := fnExactHillTopRow.holds Try.pinned (OpenSpec.ofChange fnExactHillTopWrong)

/-- 'laws.FnExactHillRaise': WHATEVER THE INPUT: true; the input reads as it did. -/
def fnExactHillRaiseSpec : ChangeSpec := { name := "fnExactHillRaise", fn := fun _ => fun
  | [d] => { results := [.lit (.bool true)], args := [d] }
  | _ => none }
def fnExactHillRaiseRow : OpenClaim := { program := "ytpmmfngmnneekaa", sum := "e33800650ae7c9f6b1a192e0c530e4a3d13cd292f1ec2d40f91f182b2d044364", func := "loop.example/bentrows/laws.FnExactHillRaise", spec := "fnExactHillRaise", unfollowed := true, recurses := true, apart := false }
def FnExactHillRaiseSaid : Prop := fnExactHillRaiseRow.holds Try.pinned (OpenSpec.ofChange fnExactHillRaiseSpec)

/-- ITS FALSE NEIGHBOUR: 'it returns false'. Refute it at one input. -/
def fnExactHillRaiseWrong : ChangeSpec := { name := "fnExactHillRaise", fn := fun _ => fun
  | [d] => { results := [.lit (.bool false)], args := [d] }
  | _ => none }
def FnExactHillRaiseWrongFalsely : Prop := fnExactHillRaiseRow.holds Try.pinned (OpenSpec.ofChange fnExactHillRaiseWrong)

/- THE SECOND FORM. 'bulk': how many values and letters a reading holds, each counted each time it is reached (what is shared counts as often as it is met; a slice's spare places count too). A statement '..UptoSaid' is the law's where the arguments, and the package variables that the reading takes, are together of bulk at most 1048576: NARROWER than '..Said'. Prove '..Said' where nothing that the law and all that it calls make is longer than what came in: it says more and counts as full. Else prove '..UptoSaid'. A law counts once. -/
mutual
def uptoBulk {H : Type} : DataW H → Nat
  | .lit (.string bytes) => bytes.length + 1
  | .lit _ => 1
  | .nil => 1
  | .ptr d => uptoBulk d + 1
  | .slice elems spare => uptoBulkAll elems + uptoBulkAll spare + 1
  | .agg parts => uptoBulkAll parts + 1
  | .iface _ d => uptoBulk d + 1
  | .map entries => uptoBulkEntries entries + 1
  | .held _ => 1
def uptoBulkAll {H : Type} : List (DataW H) → Nat
  | [] => 0
  | d :: r => uptoBulk d + uptoBulkAll r
def uptoBulkEntries {H : Type} : List (Lit × DataW H) → Nat
  | [] => 0
  | x :: r => uptoBulkEntry x + uptoBulkEntries r
def uptoBulkEntry {H : Type} : Lit × DataW H → Nat
  | (.string bytes, d) => bytes.length + uptoBulk d + 1
  | (_, d) => uptoBulk d + 1
 end
def uptoSmall : (H : Type) → List (DataW H) → Bool := fun _ ds => decide (uptoBulkAll ds ≤ 1048576)
def OpenSpec.upto (s : _root_.Go.ChangeSpec) : _root_.Go.OpenSpec := { _root_.Go.OpenSpec.ofChange s with cond := some uptoSmall }

/-- 'laws.FnExactValleyOne', WHERE WHAT IT READS IS OF BULK AT MOST 1048576: true; the input reads as it did. -/
def fnExactValleyOneUptoRow : OpenClaim := { program := "ytpmmfngmnneekaa", sum := "e33800650ae7c9f6b1a192e0c530e4a3d13cd292f1ec2d40f91f182b2d044364", func := "loop.example/bentrows/laws.FnExactValleyOne", spec := "fnExactValleyOne", unfollowed := true, recurses := true, apart := false, narrowed := true }
def FnExactValleyOneUptoSaid : Prop := fnExactValleyOneUptoRow.holds Try.pinned (OpenSpec.upto fnExactValleyOneSpec)

/-- 'laws.FnExactValleySearch', WHERE WHAT IT READS IS OF BULK AT MOST 1048576: true; the input reads as it did. -/
def fnExactValleySearchUptoRow : OpenClaim := { program := "ytpmmfngmnneekaa", sum := "e33800650ae7c9f6b1a192e0c530e4a3d13cd292f1ec2d40f91f182b2d044364", func := "loop.example/bentrows/laws.FnExactValleySearch", spec := "fnExactValleySearch", unfollowed := true, recurses := true, apart := false, narrowed := true }
def FnExactValleySearchUptoSaid : Prop := fnExactValleySearchUptoRow.holds Try.pinned (OpenSpec.upto fnExactValleySearchSpec)

/-- 'laws.FnExactValleyCost', WHERE WHAT IT READS IS OF BULK AT MOST 1048576: true; the input reads as it did. -/
def fnExactValleyCostUptoRow : OpenClaim := { program := "ytpmmfngmnneekaa", sum := "e33800650ae7c9f6b1a192e0c530e4a3d13cd292f1ec2d40f91f182b2d044364", func := "loop.example/bentrows/laws.FnExactValleyCost", spec := "fnExactValleyCost", unfollowed := true, recurses := true, apart := false, narrowed := true }
def FnExactValleyCostUptoSaid : Prop := fnExactValleyCostUptoRow.holds Try.pinned (OpenSpec.upto fnExactValleyCostSpec)

/-- 'laws.FnExactHillRound', WHERE WHAT IT READS IS OF BULK AT MOST 1048576: true; the input reads as it did. -/
def fnExactHillRoundUptoRow : OpenClaim := { program := "ytpmmfngmnneekaa", sum := "e33800650ae7c9f6b1a192e0c530e4a3d13cd292f1ec2d40f91f182b2d044364", func := "loop.example/bentrows/laws.FnExactHillRound", spec := "fnExactHillRound", unfollowed := true, recurses := true, apart := false, narrowed := true }
def FnExactHillRoundUptoSaid : Prop := fnExactHillRoundUptoRow.holds Try.pinned (OpenSpec.upto fnExactHillRoundSpec)

/-- 'laws.FnExactHillFold', WHERE WHAT IT READS IS OF BULK AT MOST 1048576: true; the input reads as it did. -/
def fnExactHillFoldUptoRow : OpenClaim := { program := "ytpmmfngmnneekaa", sum := "e33800650ae7c9f6b1a192e0c530e4a3d13cd292f1ec2d40f91f182b2d044364", func := "loop.example/bentrows/laws.FnExactHillFold", spec := "fnExactHillFold", unfollowed := true, recurses := true, apart := false, narrowed := true }
def FnExactHillFoldUptoSaid : Prop := fnExactHillFoldUptoRow.holds Try.pinned (OpenSpec.upto fnExactHillFoldSpec)

/-- 'laws.FnExactHillTop', WHERE WHAT IT READS IS OF BULK AT MOST 1048576: true; the input reads as it did. -/
def fnExactHillTopUptoRow : OpenClaim := { program := "ytpmmfngmnneekaa", sum := "e33800650ae7c9f6b1a192e0c530e4a3d13cd292f1ec2d40f91f182b2d044364", func := "loop.example/bentrows/laws.FnExactHillTop", spec := "fnExactHillTop", unfollowed := true, recurses := true, apart := false, narrowed := true }
def FnExactHillTopUptoSaid : Prop := fnExactHillTopUptoRow.holds Try.pinned (OpenSpec.upto fnExactHillTopSpec)

/-- 'laws.FnExactHillRaise', WHERE WHAT IT READS IS OF BULK AT MOST 1048576: true; the input reads as it did. -/
def fnExactHillRaiseUptoRow : OpenClaim := { program := "ytpmmfngmnneekaa", sum := "e33800650ae7c9f6b1a192e0c530e4a3d13cd292f1ec2d40f91f182b2d044364", func := "loop.example/bentrows/laws.FnExactHillRaise", spec := "fnExactHillRaise", unfollowed := true, recurses := true, apart := false, narrowed := true }
def FnExactHillRaiseUptoSaid : Prop := fnExactHillRaiseUptoRow.holds Try.pinned (OpenSpec.upto fnExactHillRaiseSpec)

end Rows
end Go.Proofs.Ytpmmfngmnneekaa
