/-
  No cell of these rows narrows 'for every input' (looked for: loops, veiled, ifaces, maps, wideKeys, modest, calm, conditions, laid).
  DERIVED. THE GIVEN ROWS OF THIS SEAT. 7 by the template 'for every input the law returns true; each argument reads behind the call as it read before'; 0 by the template 'total and deterministic' (their statements: YtkghpmjbclnojabTotals.lean).
  GIVEN WITH THE SEED: the statements are not yours to turn. If you find one false, say at which input.
  Laid BY PROGRAM, IN A SANDBOX (cutbox-rows.mjs): the forced cells as the released guide's own fill.sh prints them over the translation 04974cb21f241f67… (all of the seat's roots in one cut). By AI agents, Wed Nov 11 2026. No macro, syntax, notation, axiom, sorry.
-/
import Derived.Test.YtkghpmjbclnojabChecked
import GoSem.Claim
import GoSem.ClaimJoined
import GoSem.ClaimMapViews
import Derived.JoinedTies
import Derived.KernelRfl
namespace Go.Proofs.Ytkghpmjbclnojab
/- THE CELL 'sum', in the pinned program and in every row, IS THE sha256 OF THE DUMP (.gsa) THAT YtkghpmjbclnojabProg.lean LOADS. Nothing in Lean hashes anything: it is a label: what it is worth is what the hold of that sum in a sandbox is worth. -/
noncomputable def Try.pinned : Pinned := { name := "ytkghpmjbclnojab", sum := "04974cb21f241f67d7f3b762f45ae5626e02c376ac10d79aee0a1d26d948b1ba", checked := Try.checked }
namespace Rows
def none {H : Type} : Left H := { results := [], args := [] }

/-- 'laws.FnKaramata': WHATEVER THE INPUT: true; the input reads as it did. -/
def fnKaramataSpec : ChangeSpec := { name := "fnKaramata", fn := fun _ => fun
  | [d] => { results := [.lit (.bool true)], args := [d] }
  | _ => none }
def fnKaramataRow : OpenClaim := { program := "ytkghpmjbclnojab", sum := "04974cb21f241f67d7f3b762f45ae5626e02c376ac10d79aee0a1d26d948b1ba", func := "loop.example/bentrows/laws.FnKaramata", spec := "fnKaramata", unfollowed := true, recurses := true, apart := false }
def FnKaramataSaid : Prop := fnKaramataRow.holds Try.pinned (OpenSpec.ofChange fnKaramataSpec)

/-- ITS FALSE NEIGHBOUR: 'it returns false'. Refute it at one input. -/
def fnKaramataWrong : ChangeSpec := { name := "fnKaramata", fn := fun _ => fun
  | [d] => { results := [.lit (.bool false)], args := [d] }
  | _ => none }
def FnKaramataWrongFalsely : Prop := fnKaramataRow.holds Try.pinned (OpenSpec.ofChange fnKaramataWrong)

/-- 'laws.FnLevels': WHATEVER THE INPUT: true; the input reads as it did. -/
def fnLevelsSpec : ChangeSpec := { name := "fnLevels", fn := fun _ => fun
  | [d] => { results := [.lit (.bool true)], args := [d] }
  | _ => none }
def fnLevelsRow : OpenClaim := { program := "ytkghpmjbclnojab", sum := "04974cb21f241f67d7f3b762f45ae5626e02c376ac10d79aee0a1d26d948b1ba", func := "loop.example/bentrows/laws.FnLevels", spec := "fnLevels", unfollowed := true, recurses := true, apart := false }
def FnLevelsSaid : Prop := fnLevelsRow.holds Try.pinned (OpenSpec.ofChange fnLevelsSpec)

/-- ITS FALSE NEIGHBOUR: 'it returns false'. Refute it at one input. -/
def fnLevelsWrong : ChangeSpec := { name := "fnLevels", fn := fun _ => fun
  | [d] => { results := [.lit (.bool false)], args := [d] }
  | _ => none }
def FnLevelsWrongFalsely : Prop := fnLevelsRow.holds Try.pinned (OpenSpec.ofChange fnLevelsWrong)

/-- 'laws.FnMost': WHATEVER THE INPUT: true; the input reads as it did. -/
def fnMostSpec : ChangeSpec := { name := "fnMost", fn := fun _ => fun
  | [d] => { results := [.lit (.bool true)], args := [d] }
  | _ => none }
def fnMostRow : OpenClaim := { program := "ytkghpmjbclnojab", sum := "04974cb21f241f67d7f3b762f45ae5626e02c376ac10d79aee0a1d26d948b1ba", func := "loop.example/bentrows/laws.FnMost", spec := "fnMost", unfollowed := true, recurses := true, apart := false }
def FnMostSaid : Prop := fnMostRow.holds Try.pinned (OpenSpec.ofChange fnMostSpec)

/-- ITS FALSE NEIGHBOUR: 'it returns false'. Refute it at one input. -/
def fnMostWrong : ChangeSpec := { name := "fnMost", fn := fun _ => fun
  | [d] => { results := [.lit (.bool false)], args := [d] }
  | _ => none }
def FnMostWrongFalsely : Prop := fnMostRow.holds Try.pinned (OpenSpec.ofChange fnMostWrong)

/-- 'laws.FnSteps': WHATEVER THE INPUT: true; the input reads as it did. -/
def fnStepsSpec : ChangeSpec := { name := "fnSteps", fn := fun _ => fun
  | [d] => { results := [.lit (.bool true)], args := [d] }
  | _ => none }
def fnStepsRow : OpenClaim := { program := "ytkghpmjbclnojab", sum := "04974cb21f241f67d7f3b762f45ae5626e02c376ac10d79aee0a1d26d948b1ba", func := "loop.example/bentrows/laws.FnSteps", spec := "fnSteps", unfollowed := true, recurses := true, apart := false }
def FnStepsSaid : Prop := fnStepsRow.holds Try.pinned (OpenSpec.ofChange fnStepsSpec)

/-- ITS FALSE NEIGHBOUR: 'it returns false'. Refute it at one input. -/
def fnStepsWrong : ChangeSpec := { name := "fnSteps", fn := fun _ => fun
  | [d] => { results := [.lit (.bool false)], args := [d] }
  | _ => none }
def FnStepsWrongFalsely : Prop := fnStepsRow.holds Try.pinned (OpenSpec.ofChange fnStepsWrong)

/-- 'laws.FnEvenSum': WHATEVER THE INPUT: true; the input reads as it did. -/
def fnEvenSumSpec : ChangeSpec := { name := "fnEvenSum", fn := fun _ => fun
  | [d] => { results := [.lit (.bool true)], args := [d] }
  | _ => none }
def fnEvenSumRow : OpenClaim := { program := "ytkghpmjbclnojab", sum := "04974cb21f241f67d7f3b762f45ae5626e02c376ac10d79aee0a1d26d948b1ba", func := "loop.example/bentrows/laws.FnEvenSum", spec := "fnEvenSum", unfollowed := true, recurses := true, apart := false }
def FnEvenSumSaid : Prop := fnEvenSumRow.holds Try.pinned (OpenSpec.ofChange fnEvenSumSpec)

/-- ITS FALSE NEIGHBOUR: 'it returns false'. Refute it at one input. -/
def fnEvenSumWrong : ChangeSpec := { name := "fnEvenSum", fn := fun _ => fun
  | [d] => { results := [.lit (.bool false)], args := [d] }
  | _ => none }
def FnEvenSumWrongFalsely : Prop := fnEvenSumRow.holds Try.pinned (OpenSpec.ofChange fnEvenSumWrong)

/-- 'laws.FnMeetEven': WHATEVER THE INPUT: true; the input reads as it did. -/
def fnMeetEvenSpec : ChangeSpec := { name := "fnMeetEven", fn := fun _ => fun
  | [d] => { results := [.lit (.bool true)], args := [d] }
  | _ => none }
def fnMeetEvenRow : OpenClaim := { program := "ytkghpmjbclnojab", sum := "04974cb21f241f67d7f3b762f45ae5626e02c376ac10d79aee0a1d26d948b1ba", func := "loop.example/bentrows/laws.FnMeetEven", spec := "fnMeetEven", unfollowed := true, recurses := true, apart := false }
def FnMeetEvenSaid : Prop := fnMeetEvenRow.holds Try.pinned (OpenSpec.ofChange fnMeetEvenSpec)

/-- ITS FALSE NEIGHBOUR: 'it returns false'. Refute it at one input. -/
def fnMeetEvenWrong : ChangeSpec := { name := "fnMeetEven", fn := fun _ => fun
  | [d] => { results := [.lit (.bool false)], args := [d] }
  | _ => none }
def FnMeetEvenWrongFalsely : Prop := fnMeetEvenRow.holds Try.pinned (OpenSpec.ofChange fnMeetEvenWrong)

/-- 'laws.FnMostSame': WHATEVER THE INPUT: true; the input reads as it did. -/
def fnMostSameSpec : ChangeSpec := { name := "fnMostSame", fn := fun _ => fun
  | [d] => { results := [.lit (.bool true)], args := [d] }
  | _ => none }
def fnMostSameRow : OpenClaim := { program := "ytkghpmjbclnojab", sum := "04974cb21f241f67d7f3b762f45ae5626e02c376ac10d79aee0a1d26d948b1ba", func := "loop.example/bentrows/laws.FnMostSame", spec := "fnMostSame", unfollowed := true, recurses := true, apart := false }
def FnMostSameSaid : Prop := fnMostSameRow.holds Try.pinned (OpenSpec.ofChange fnMostSameSpec)

/-- ITS FALSE NEIGHBOUR: 'it returns false'. Refute it at one input. -/
def fnMostSameWrong : ChangeSpec := { name := "fnMostSame", fn := fun _ => fun
  | [d] => { results := [.lit (.bool false)], args := [d] }
  | _ => none }
def FnMostSameWrongFalsely : Prop := fnMostSameRow.holds Try.pinned (OpenSpec.ofChange fnMostSameWrong)

/- THE SECOND FORM. 'bulk': how many values and letters a reading holds, each counted each time it is reached (what is shared counts as often as it is met; a slice's spare places count too). A statement '..UptoSaid' is the law's where the arguments, and the package variables that the reading takes, are together of bulk at most 1048576: NARROWER than '..Said'. Prove '..Said' where nothing that the law and all that it calls make is longer than what came in: it says more and counts as full. Else prove '..UptoSaid'. A law counts once. -/
mutual
def uptoBulk {H : Type} : DataW H → Nat
  | .lit (.string bytes) => bytes.length + 1
  | .lit _ => 1
  | .nil => 1
  | .ptr d => uptoBulk d + 1
  | .slice elems spare => uptoBulkAll elems + uptoBulkAll spare + 1
  | .agg parts => uptoBulkAll parts + 1
  | .iface _ d => uptoBulk d + 1
  | .map entries => uptoBulkEntries entries + 1
  | .held _ => 1
def uptoBulkAll {H : Type} : List (DataW H) → Nat
  | [] => 0
  | d :: r => uptoBulk d + uptoBulkAll r
def uptoBulkEntries {H : Type} : List (Lit × DataW H) → Nat
  | [] => 0
  | x :: r => uptoBulkEntry x + uptoBulkEntries r
def uptoBulkEntry {H : Type} : Lit × DataW H → Nat
  | (.string bytes, d) => bytes.length + uptoBulk d + 1
  | (_, d) => uptoBulk d + 1
 end
def uptoSmall : (H : Type) → List (DataW H) → Bool := fun _ ds => decide (uptoBulkAll ds ≤ 1048576)
def OpenSpec.upto (s : _root_.Go.ChangeSpec) : _root_.Go.OpenSpec := { _root_.Go.OpenSpec.ofChange s with cond := some uptoSmall }

/-- 'laws.FnKaramata', WHERE WHAT IT READS IS OF BULK AT MOST 1048576: true; the input reads as it did. -/
def fnKaramataUptoRow : OpenClaim := { program := "ytkghpmjbclnojab", sum := "04974cb21f241f67d7f3b762f45ae5626e02c376ac10d79aee0a1d26d948b1ba", func := "loop.example/bentrows/laws.FnKaramata", spec := "fnKaramata", unfollowed := true, recurses := true, apart := false, narrowed := true }
def FnKaramataUptoSaid : Prop := fnKaramataUptoRow.holds Try.pinned (OpenSpec.upto fnKaramataSpec)

/-- 'laws.FnLevels', WHERE WHAT IT READS IS OF BULK AT MOST 1048576: true; the input reads as it did. -/
def fnLevelsUptoRow : OpenClaim := { program := "ytkghpmjbclnojab", sum := "04974cb21f241f67d7f3b762f45ae5626e02c376ac10d79aee0a1d26d948b1ba", func := "loop.example/bentrows/laws.FnLevels", spec := "fnLevels", unfollowed := true, recurses := true, apart := false, narrowed := true }
def FnLevelsUptoSaid : Prop := fnLevelsUptoRow.holds Try.pinned (OpenSpec.upto fnLevelsSpec)

/-- 'laws.FnMost', WHERE WHAT IT READS IS OF BULK AT MOST 1048576: true; the input reads as it did. -/
def fnMostUptoRow : OpenClaim := { program := "ytkghpmjbclnojab", sum := "04974cb21f241f67d7f3b762f45ae5626e02c376ac10d79aee0a1d26d948b1ba", func := "loop.example/bentrows/laws.FnMost", spec := "fnMost", unfollowed := true, recurses := true, apart := false, narrowed := true }
def FnMostUptoSaid : Prop := fnMostUptoRow.holds Try.pinned (OpenSpec.upto fnMostSpec)

/-- 'laws.FnSteps', WHERE WHAT IT READS IS OF BULK AT MOST 1048576: true; the input reads as it did. -/
def fnStepsUptoRow : OpenClaim := { program := "ytkghpmjbclnojab", sum := "04974cb21f241f67d7f3b762f45ae5626e02c376ac10d79aee0a1d26d948b1ba", func := "loop.example/bentrows/laws.FnSteps", spec := "fnSteps", unfollowed := true, recurses := true, apart := false, narrowed := true }
def FnStepsUptoSaid : Prop := fnStepsUptoRow.holds Try.pinned (OpenSpec.upto fnStepsSpec)

/-- 'laws.FnEvenSum', WHERE WHAT IT READS IS OF BULK AT MOST 1048576: true; the input reads as it did. -/
def fnEvenSumUptoRow : OpenClaim := { program := "ytkghpmjbclnojab", sum := "04974cb21f241f67d7f3b762f45ae5626e02c376ac10d79aee0a1d26d948b1ba", func := "loop.example/bentrows/laws.FnEvenSum", spec := "fnEvenSum", unfollowed := true, recurses := true, apart := false, narrowed := true }
def FnEvenSumUptoSaid : Prop := fnEvenSumUptoRow.holds Try.pinned (OpenSpec.upto fnEvenSumSpec)

/-- 'laws.FnMeetEven', WHERE WHAT IT READS IS OF BULK AT MOST 1048576: true; the input reads as it did. -/
def fnMeetEvenUptoRow : OpenClaim := { program := "ytkghpmjbclnojab", sum := "04974cb21f241f67d7f3b762f45ae5626e02c376ac10d79aee0a1d26d948b1ba", func := "loop.example/bentrows/laws.FnMeetEven", spec := "fnMeetEven", unfollowed := true, recurses := true, apart := false, narrowed := true }
def FnMeetEvenUptoSaid : Prop := fnMeetEvenUptoRow.holds Try.pinned (OpenSpec.upto fnMeetEvenSpec)

/-- 'laws.FnMostSame', WHERE WHAT IT READS IS OF BULK AT MOST 1048576: true; the input reads as it did. -/
def fnMostSameUptoRow : OpenClaim := { program := "ytkghpmjbclnojab", sum := "04974cb21f241f67d7f3b762f45ae5626e02c376ac10d79aee0a1d26d948b1ba", func := "loop.example/bentrows/laws.FnMostSame", spec := "fnMostSame", unfollowed := true, recurses := true, apart := false, narrowed := true }
def FnMostSameUptoSaid : Prop := fnMostSameUptoRow.holds Try.pinned (OpenSpec.upto fnMostSameSpec)

end Rows
end Go.Proofs.Ytkghpmjbclnojab
