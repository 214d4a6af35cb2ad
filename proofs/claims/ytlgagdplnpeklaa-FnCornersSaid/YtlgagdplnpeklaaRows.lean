/-
  No cell of these rows narrows 'for every input' (looked for: loops, veiled, ifaces, maps, wideKeys, modest, calm, conditions, laid).
  DERIVED. THE GIVEN ROWS OF THIS SEAT. 15 by the template 'for every input the law returns true; each argument reads behind the call as it read before'; 0 by the template 'total and deterministic' (their statements: YtlgagdplnpeklaaTotals.lean).
  GIVEN WITH THE SEED: the statements are not yours to turn. If you find one false, say at which input.
  Laid BY PROGRAM, IN A SANDBOX (cutbox-rows.mjs): the forced cells as the released guide's own fill.sh prints them over the translation a42340a8ee19ee9a… (all of the seat's roots in one cut). By AI agents, Wed Nov 11 2026. No macro, syntax, notation, axiom, sorry.
-/
import Derived.Test.YtlgagdplnpeklaaChecked
import GoSem.Claim
import GoSem.ClaimJoined
import GoSem.ClaimMapViews
import Derived.JoinedTies
import Derived.KernelRfl
namespace Go.Proofs.Ytlgagdplnpeklaa
/- THE CELL 'sum', in the pinned program and in every row, IS THE sha256 OF THE DUMP (.gsa) THAT YtlgagdplnpeklaaProg.lean LOADS. Nothing in Lean hashes anything: it is a label: what it is worth is what the hold of that sum in a sandbox is worth. -/
noncomputable def Try.pinned : Pinned := { name := "ytlgagdplnpeklaa", sum := "a42340a8ee19ee9a42270c9dec95c4294c03a74fd2decba120c077eaa6a5fa4e", checked := Try.checked }
namespace Rows
def none {H : Type} : Left H := { results := [], args := [] }

/-- 'laws.FnBelow': WHATEVER THE INPUT: true; the input reads as it did. -/
def fnBelowSpec : ChangeSpec := { name := "fnBelow", fn := fun _ => fun
  | [d] => { results := [.lit (.bool true)], args := [d] }
  | _ => none }
def fnBelowRow : OpenClaim := { program := "ytlgagdplnpeklaa", sum := "a42340a8ee19ee9a42270c9dec95c4294c03a74fd2decba120c077eaa6a5fa4e", func := "loop.example/bentrows/laws.FnBelow", spec := "fnBelow", unfollowed := true, recurses := true, apart := false }
def FnBelowSaid : Prop := fnBelowRow.holds Try.pinned (OpenSpec.ofChange fnBelowSpec)

/-- ITS FALSE NEIGHBOUR: 'it returns false'. Refute it at one input. -/
def fnBelowWrong : ChangeSpec := { name := "fnBelow", fn := fun _ => fun
  | [d] => { results := [.lit (.bool false)], args := [d] }
  | _ => none }
def FnBelowWrongFalsely : Prop := fnBelowRow.holds Try.pinned (OpenSpec.ofChange fnBelowWrong)

/-- 'laws.FnFall': WHATEVER THE INPUT: true; the input reads as it did. -/
def fnFallSpec : ChangeSpec := { name := "fnFall", fn := fun _ => fun
  | [d] => { results := [.lit (.bool true)], args := [d] }
  | _ => none }
def fnFallRow : OpenClaim := { program := "ytlgagdplnpeklaa", sum := "a42340a8ee19ee9a42270c9dec95c4294c03a74fd2decba120c077eaa6a5fa4e", func := "loop.example/bentrows/laws.FnFall", spec := "fnFall", unfollowed := true, recurses := true, apart := false }
def FnFallSaid : Prop := fnFallRow.holds Try.pinned (OpenSpec.ofChange fnFallSpec)

/-- ITS FALSE NEIGHBOUR: 'it returns false'. Refute it at one input. -/
def fnFallWrong : ChangeSpec := { name := "fnFall", fn := fun _ => fun
  | [d] => { results := [.lit (.bool false)], args := [d] }
  | _ => none }
def FnFallWrongFalsely : Prop := fnFallRow.holds Try.pinned (OpenSpec.ofChange fnFallWrong)

/-- 'laws.FnFallHang': WHATEVER THE INPUT: true; the input reads as it did. -/
def fnFallHangSpec : ChangeSpec := { name := "fnFallHang", fn := fun _ => fun
  | [d] => { results := [.lit (.bool true)], args := [d] }
  | _ => none }
def fnFallHangRow : OpenClaim := { program := "ytlgagdplnpeklaa", sum := "a42340a8ee19ee9a42270c9dec95c4294c03a74fd2decba120c077eaa6a5fa4e", func := "loop.example/bentrows/laws.FnFallHang", spec := "fnFallHang", unfollowed := true, recurses := true, apart := false }
def FnFallHangSaid : Prop := fnFallHangRow.holds Try.pinned (OpenSpec.ofChange fnFallHangSpec)

/-- ITS FALSE NEIGHBOUR: 'it returns false'. Refute it at one input. -/
def fnFallHangWrong : ChangeSpec := { name := "fnFallHang", fn := fun _ => fun
  | [d] => { results := [.lit (.bool false)], args := [d] }
  | _ => none }
def FnFallHangWrongFalsely : Prop := fnFallHangRow.holds Try.pinned (OpenSpec.ofChange fnFallHangWrong)

/-- 'laws.FnFalls': WHATEVER THE INPUT: true; the input reads as it did. -/
def fnFallsSpec : ChangeSpec := { name := "fnFalls", fn := fun _ => fun
  | [d] => { results := [.lit (.bool true)], args := [d] }
  | _ => none }
def fnFallsRow : OpenClaim := { program := "ytlgagdplnpeklaa", sum := "a42340a8ee19ee9a42270c9dec95c4294c03a74fd2decba120c077eaa6a5fa4e", func := "loop.example/bentrows/laws.FnFalls", spec := "fnFalls", unfollowed := true, recurses := true, apart := false }
def FnFallsSaid : Prop := fnFallsRow.holds Try.pinned (OpenSpec.ofChange fnFallsSpec)

/-- ITS FALSE NEIGHBOUR: 'it returns false'. Refute it at one input. -/
def fnFallsWrong : ChangeSpec := { name := "fnFalls", fn := fun _ => fun
  | [d] => { results := [.lit (.bool false)], args := [d] }
  | _ => none }
def FnFallsWrongFalsely : Prop := fnFallsRow.holds Try.pinned (OpenSpec.ofChange fnFallsWrong)

/-- 'laws.FnMeets': WHATEVER THE INPUT: true; the input reads as it did. -/
def fnMeetsSpec : ChangeSpec := { name := "fnMeets", fn := fun _ => fun
  | [d] => { results := [.lit (.bool true)], args := [d] }
  | _ => none }
def fnMeetsRow : OpenClaim := { program := "ytlgagdplnpeklaa", sum := "a42340a8ee19ee9a42270c9dec95c4294c03a74fd2decba120c077eaa6a5fa4e", func := "loop.example/bentrows/laws.FnMeets", spec := "fnMeets", unfollowed := true, recurses := true, apart := false }
def FnMeetsSaid : Prop := fnMeetsRow.holds Try.pinned (OpenSpec.ofChange fnMeetsSpec)

/-- ITS FALSE NEIGHBOUR: 'it returns false'. Refute it at one input. -/
def fnMeetsWrong : ChangeSpec := { name := "fnMeets", fn := fun _ => fun
  | [d] => { results := [.lit (.bool false)], args := [d] }
  | _ => none }
def FnMeetsWrongFalsely : Prop := fnMeetsRow.holds Try.pinned (OpenSpec.ofChange fnMeetsWrong)

/-- 'laws.FnHang': WHATEVER THE INPUT: true; the input reads as it did. -/
def fnHangSpec : ChangeSpec := { name := "fnHang", fn := fun _ => fun
  | [d] => { results := [.lit (.bool true)], args := [d] }
  | _ => none }
def fnHangRow : OpenClaim := { program := "ytlgagdplnpeklaa", sum := "a42340a8ee19ee9a42270c9dec95c4294c03a74fd2decba120c077eaa6a5fa4e", func := "loop.example/bentrows/laws.FnHang", spec := "fnHang", unfollowed := true, recurses := true, apart := false }
def FnHangSaid : Prop := fnHangRow.holds Try.pinned (OpenSpec.ofChange fnHangSpec)

/-- ITS FALSE NEIGHBOUR: 'it returns false'. Refute it at one input. -/
def fnHangWrong : ChangeSpec := { name := "fnHang", fn := fun _ => fun
  | [d] => { results := [.lit (.bool false)], args := [d] }
  | _ => none }
def FnHangWrongFalsely : Prop := fnHangRow.holds Try.pinned (OpenSpec.ofChange fnHangWrong)

/-- 'laws.FnHangMost': WHATEVER THE INPUT: true; the input reads as it did. -/
def fnHangMostSpec : ChangeSpec := { name := "fnHangMost", fn := fun _ => fun
  | [d] => { results := [.lit (.bool true)], args := [d] }
  | _ => none }
def fnHangMostRow : OpenClaim := { program := "ytlgagdplnpeklaa", sum := "a42340a8ee19ee9a42270c9dec95c4294c03a74fd2decba120c077eaa6a5fa4e", func := "loop.example/bentrows/laws.FnHangMost", spec := "fnHangMost", unfollowed := true, recurses := true, apart := false }
def FnHangMostSaid : Prop := fnHangMostRow.holds Try.pinned (OpenSpec.ofChange fnHangMostSpec)

/-- ITS FALSE NEIGHBOUR: 'it returns false'. Refute it at one input. -/
def fnHangMostWrong : ChangeSpec := { name := "fnHangMost", fn := fun _ => fun
  | [d] => { results := [.lit (.bool false)], args := [d] }
  | _ => none }
def FnHangMostWrongFalsely : Prop := fnHangMostRow.holds Try.pinned (OpenSpec.ofChange fnHangMostWrong)

/-- 'laws.FnHangLeast': WHATEVER THE INPUT: true; the input reads as it did. -/
def fnHangLeastSpec : ChangeSpec := { name := "fnHangLeast", fn := fun _ => fun
  | [d] => { results := [.lit (.bool true)], args := [d] }
  | _ => none }
def fnHangLeastRow : OpenClaim := { program := "ytlgagdplnpeklaa", sum := "a42340a8ee19ee9a42270c9dec95c4294c03a74fd2decba120c077eaa6a5fa4e", func := "loop.example/bentrows/laws.FnHangLeast", spec := "fnHangLeast", unfollowed := true, recurses := true, apart := false }
def FnHangLeastSaid : Prop := fnHangLeastRow.holds Try.pinned (OpenSpec.ofChange fnHangLeastSpec)

/-- ITS FALSE NEIGHBOUR: 'it returns false'. Refute it at one input. -/
def fnHangLeastWrong : ChangeSpec := { name := "fnHangLeast", fn := fun _ => fun
  | [d] => { results := [.lit (.bool false)], args := [d] }
  | _ => none }
def FnHangLeastWrongFalsely : Prop := fnHangLeastRow.holds Try.pinned (OpenSpec.ofChange fnHangLeastWrong)

/-- 'laws.FnBackAll': WHATEVER THE INPUT: true; the input reads as it did. -/
def fnBackAllSpec : ChangeSpec := { name := "fnBackAll", fn := fun _ => fun
  | [d] => { results := [.lit (.bool true)], args := [d] }
  | _ => none }
def fnBackAllRow : OpenClaim := { program := "ytlgagdplnpeklaa", sum := "a42340a8ee19ee9a42270c9dec95c4294c03a74fd2decba120c077eaa6a5fa4e", func := "loop.example/bentrows/laws.FnBackAll", spec := "fnBackAll", unfollowed := true, recurses := true, apart := false }
def FnBackAllSaid : Prop := fnBackAllRow.holds Try.pinned (OpenSpec.ofChange fnBackAllSpec)

/-- ITS FALSE NEIGHBOUR: 'it returns false'. Refute it at one input. -/
def fnBackAllWrong : ChangeSpec := { name := "fnBackAll", fn := fun _ => fun
  | [d] => { results := [.lit (.bool false)], args := [d] }
  | _ => none }
def FnBackAllWrongFalsely : Prop := fnBackAllRow.holds Try.pinned (OpenSpec.ofChange fnBackAllWrong)

/-- 'laws.FnBackHang': WHATEVER THE INPUT: true; the input reads as it did. -/
def fnBackHangSpec : ChangeSpec := { name := "fnBackHang", fn := fun _ => fun
  | [d] => { results := [.lit (.bool true)], args := [d] }
  | _ => none }
def fnBackHangRow : OpenClaim := { program := "ytlgagdplnpeklaa", sum := "a42340a8ee19ee9a42270c9dec95c4294c03a74fd2decba120c077eaa6a5fa4e", func := "loop.example/bentrows/laws.FnBackHang", spec := "fnBackHang", unfollowed := true, recurses := true, apart := false }
def FnBackHangSaid : Prop := fnBackHangRow.holds Try.pinned (OpenSpec.ofChange fnBackHangSpec)

/-- ITS FALSE NEIGHBOUR: 'it returns false'. Refute it at one input. -/
def fnBackHangWrong : ChangeSpec := { name := "fnBackHang", fn := fun _ => fun
  | [d] => { results := [.lit (.bool false)], args := [d] }
  | _ => none }
def FnBackHangWrongFalsely : Prop := fnBackHangRow.holds Try.pinned (OpenSpec.ofChange fnBackHangWrong)

/-- 'laws.FnCorners': WHATEVER THE INPUT: true; the input reads as it did. -/
def fnCornersSpec : ChangeSpec := { name := "fnCorners", fn := fun _ => fun
  | [d] => { results := [.lit (.bool true)], args := [d] }
  | _ => none }
def fnCornersRow : OpenClaim := { program := "ytlgagdplnpeklaa", sum := "a42340a8ee19ee9a42270c9dec95c4294c03a74fd2decba120c077eaa6a5fa4e", func := "loop.example/bentrows/laws.FnCorners", spec := "fnCorners", unfollowed := true, recurses := true, apart := false }
def FnCornersSaid : Prop := fnCornersRow.holds Try.pinned (OpenSpec.ofChange fnCornersSpec)

/-- ITS FALSE NEIGHBOUR: 'it returns false'. Refute it at one input. -/
def fnCornersWrong : ChangeSpec := { name := "fnCorners", fn := fun _ => fun
  | [d] => { results := [.lit (.bool false)], args := [d] }
  | _ => none }
def FnCornersWrongFalsely : Prop := fnCornersRow.holds Try.pinned (OpenSpec.ofChange fnCornersWrong)

/-- 'laws.FnBetween': WHATEVER THE INPUT: true; the input reads as it did. -/
def fnBetweenSpec : ChangeSpec := { name := "fnBetween", fn := fun _ => fun
  | [d] => { results := [.lit (.bool true)], args := [d] }
  | _ => none }
def fnBetweenRow : OpenClaim := { program := "ytlgagdplnpeklaa", sum := "a42340a8ee19ee9a42270c9dec95c4294c03a74fd2decba120c077eaa6a5fa4e", func := "loop.example/bentrows/laws.FnBetween", spec := "fnBetween", unfollowed := true, recurses := true, apart := false }
def FnBetweenSaid : Prop := fnBetweenRow.holds Try.pinned (OpenSpec.ofChange fnBetweenSpec)

/-- ITS FALSE NEIGHBOUR: 'it returns false'. Refute it at one input. -/
def fnBetweenWrong : ChangeSpec := { name := "fnBetween", fn := fun _ => fun
  | [d] => { results := [.lit (.bool false)], args := [d] }
  | _ => none }
def FnBetweenWrongFalsely : Prop := fnBetweenRow.holds Try.pinned (OpenSpec.ofChange fnBetweenWrong)

/-- 'laws.FnBetweenAll': WHATEVER THE INPUT: true; the input reads as it did. -/
def fnBetweenAllSpec : ChangeSpec := { name := "fnBetweenAll", fn := fun _ => fun
  | [d] => { results := [.lit (.bool true)], args := [d] }
  | _ => none }
def fnBetweenAllRow : OpenClaim := { program := "ytlgagdplnpeklaa", sum := "a42340a8ee19ee9a42270c9dec95c4294c03a74fd2decba120c077eaa6a5fa4e", func := "loop.example/bentrows/laws.FnBetweenAll", spec := "fnBetweenAll", unfollowed := true, recurses := true, apart := false }
def FnBetweenAllSaid : Prop := fnBetweenAllRow.holds Try.pinned (OpenSpec.ofChange fnBetweenAllSpec)

/-- ITS FALSE NEIGHBOUR: 'it returns false'. Refute it at one input. -/
def fnBetweenAllWrong : ChangeSpec := { name := "fnBetweenAll", fn := fun _ => fun
  | [d] => { results := [.lit (.bool false)], args := [d] }
  | _ => none }
def FnBetweenAllWrongFalsely : Prop := fnBetweenAllRow.holds Try.pinned (OpenSpec.ofChange fnBetweenAllWrong)

/-- 'laws.FnWhole': WHATEVER THE INPUT: true; the input reads as it did. -/
def fnWholeSpec : ChangeSpec := { name := "fnWhole", fn := fun _ => fun
  | [d] => { results := [.lit (.bool true)], args := [d] }
  | _ => none }
def fnWholeRow : OpenClaim := { program := "ytlgagdplnpeklaa", sum := "a42340a8ee19ee9a42270c9dec95c4294c03a74fd2decba120c077eaa6a5fa4e", func := "loop.example/bentrows/laws.FnWhole", spec := "fnWhole", unfollowed := true, recurses := true, apart := false }
def FnWholeSaid : Prop := fnWholeRow.holds Try.pinned (OpenSpec.ofChange fnWholeSpec)

/-- ITS FALSE NEIGHBOUR: 'it returns false'. Refute it at one input. -/
def fnWholeWrong : ChangeSpec := { name := "fnWhole", fn := fun _ => fun
  | [d] => { results := [.lit (.bool false)], args := [d] }
  | _ => none }
def FnWholeWrongFalsely : Prop := fnWholeRow.holds Try.pinned (OpenSpec.ofChange fnWholeWrong)

/-- 'laws.FnFallTilt': WHATEVER THE INPUT: true; the input reads as it did. -/
def fnFallTiltSpec : ChangeSpec := { name := "fnFallTilt", fn := fun _ => fun
  | [d] => { results := [.lit (.bool true)], args := [d] }
  | _ => none }
def fnFallTiltRow : OpenClaim := { program := "ytlgagdplnpeklaa", sum := "a42340a8ee19ee9a42270c9dec95c4294c03a74fd2decba120c077eaa6a5fa4e", func := "loop.example/bentrows/laws.FnFallTilt", spec := "fnFallTilt", unfollowed := true, recurses := true, apart := false }
def FnFallTiltSaid : Prop := fnFallTiltRow.holds Try.pinned (OpenSpec.ofChange fnFallTiltSpec)

/-- ITS FALSE NEIGHBOUR: 'it returns false'. Refute it at one input. -/
def fnFallTiltWrong : ChangeSpec := { name := "fnFallTilt", fn := fun _ => fun
  | [d] => { results := [.lit (.bool false)], args := [d] }
  | _ => none }
def FnFallTiltWrongFalsely : Prop := fnFallTiltRow.holds Try.pinned (OpenSpec.ofChange fnFallTiltWrong)

/- THE SECOND FORM. 'bulk': how many values and letters a reading holds, each counted each time it is reached (what is shared counts as often as it is met; a slice's spare places count too). A statement '..UptoSaid' is the law's where the arguments, and the package variables that the reading takes, are together of bulk at most 1048576: NARROWER than '..Said'. Prove '..Said' where nothing that the law and all that it calls make is longer than what came in: it says more and counts as full. Else prove '..UptoSaid'. A law counts once. -/
mutual
def uptoBulk {H : Type} : DataW H → Nat
  | .lit (.string bytes) => bytes.length + 1
  | .lit _ => 1
  | .nil => 1
  | .ptr d => uptoBulk d + 1
  | .slice elems spare => uptoBulkAll elems + uptoBulkAll spare + 1
  | .agg parts => uptoBulkAll parts + 1
  | .iface _ d => uptoBulk d + 1
  | .map entries => uptoBulkEntries entries + 1
  | .held _ => 1
def uptoBulkAll {H : Type} : List (DataW H) → Nat
  | [] => 0
  | d :: r => uptoBulk d + uptoBulkAll r
def uptoBulkEntries {H : Type} : List (Lit × DataW H) → Nat
  | [] => 0
  | x :: r => uptoBulkEntry x + uptoBulkEntries r
def uptoBulkEntry {H : Type} : Lit × DataW H → Nat
  | (.string bytes, d) => bytes.length + uptoBulk d + 1
  | (_, d) => uptoBulk d + 1
 end
def uptoSmall : (H : Type) → List (DataW H) → Bool := fun _ ds => decide (uptoBulkAll ds ≤ 1048576)
def OpenSpec.upto (s : _root_.Go.ChangeSpec) : _root_.Go.OpenSpec := { _root_.Go.OpenSpec.ofChange s with cond := some uptoSmall }

/-- 'laws.FnBelow', WHERE WHAT IT READS IS OF BULK AT MOST 1048576: true; the input reads as it did. -/
def fnBelowUptoRow : OpenClaim := { program := "ytlgagdplnpeklaa", sum := "a42340a8ee19ee9a42270c9dec95c4294c03a74fd2decba120c077eaa6a5fa4e", func := "loop.example/bentrows/laws.FnBelow", spec := "fnBelow", unfollowed := true, recurses := true, apart := false, narrowed := true }
def FnBelowUptoSaid : Prop := fnBelowUptoRow.holds Try.pinned (OpenSpec.upto fnBelowSpec)

/-- 'laws.FnFall', WHERE WHAT IT READS IS OF BULK AT MOST 1048576: true; the input reads as it did. -/
def fnFallUptoRow : OpenClaim := { program := "ytlgagdplnpeklaa", sum := "a42340a8ee19ee9a42270c9dec95c4294c03a74fd2decba120c077eaa6a5fa4e", func := "loop.example/bentrows/laws.FnFall", spec := "fnFall", unfollowed := true, recurses := true, apart := false, narrowed := true }
def FnFallUptoSaid : Prop := fnFallUptoRow.holds Try.pinned (OpenSpec.upto fnFallSpec)

/-- 'laws.FnFallHang', WHERE WHAT IT READS IS OF BULK AT MOST 1048576: true; the input reads as it did. -/
def fnFallHangUptoRow : OpenClaim := { program := "ytlgagdplnpeklaa", sum := "a42340a8ee19ee9a42270c9dec95c4294c03a74fd2decba120c077eaa6a5fa4e", func := "loop.example/bentrows/laws.FnFallHang", spec := "fnFallHang", unfollowed := true, recurses := true, apart := false, narrowed := true }
def FnFallHangUptoSaid : Prop := fnFallHangUptoRow.holds Try.pinned (OpenSpec.upto fnFallHangSpec)

/-- 'laws.FnFalls', WHERE WHAT IT READS IS OF BULK AT MOST 1048576: true; the input reads as it did. -/
def fnFallsUptoRow : OpenClaim := { program := "ytlgagdplnpeklaa", sum := "a42340a8ee19ee9a42270c9dec95c4294c03a74fd2decba120c077eaa6a5fa4e", func := "loop.example/bentrows/laws.FnFalls", spec := "fnFalls", unfollowed := true, recurses := true, apart := false, narrowed := true }
def FnFallsUptoSaid : Prop := fnFallsUptoRow.holds Try.pinned (OpenSpec.upto fnFallsSpec)

/-- 'laws.FnMeets', WHERE WHAT IT READS IS OF BULK AT MOST 1048576: true; the input reads as it did. -/
def fnMeetsUptoRow : OpenClaim := { program := "ytlgagdplnpeklaa", sum := "a42340a8ee19ee9a42270c9dec95c4294c03a74fd2decba120c077eaa6a5fa4e", func := "loop.example/bentrows/laws.FnMeets", spec := "fnMeets", unfollowed := true, recurses := true, apart := false, narrowed := true }
def FnMeetsUptoSaid : Prop := fnMeetsUptoRow.holds Try.pinned (OpenSpec.upto fnMeetsSpec)

/-- 'laws.FnHang', WHERE WHAT IT READS IS OF BULK AT MOST 1048576: true; the input reads as it did. -/
def fnHangUptoRow : OpenClaim := { program := "ytlgagdplnpeklaa", sum := "a42340a8ee19ee9a42270c9dec95c4294c03a74fd2decba120c077eaa6a5fa4e", func := "loop.example/bentrows/laws.FnHang", spec := "fnHang", unfollowed := true, recurses := true, apart := false, narrowed := true }
def FnHangUptoSaid : Prop := fnHangUptoRow.holds Try.pinned (OpenSpec.upto fnHangSpec)

/-- 'laws.FnHangMost', WHERE WHAT IT READS IS OF BULK AT MOST 1048576: true; the input reads as it did. -/
def fnHangMostUptoRow : OpenClaim := { program := "ytlgagdplnpeklaa", sum := "a42340a8ee19ee9a42270c9dec95c4294c03a74fd2decba120c077eaa6a5fa4e", func := "loop.example/bentrows/laws.FnHangMost", spec := "fnHangMost", unfollowed := true, recurses := true, apart := false, narrowed := true }
def FnHangMostUptoSaid : Prop := fnHangMostUptoRow.holds Try.pinned (OpenSpec.upto fnHangMostSpec)

/-- 'laws.FnHangLeast', WHERE WHAT IT READS IS OF BULK AT MOST 1048576: true; the input reads as it did. -/
def fnHangLeastUptoRow : OpenClaim := { program := "ytlgagdplnpeklaa", sum := "a42340a8ee19ee9a42270c9dec95c4294c03a74fd2decba120c077eaa6a5fa4e", func := "loop.example/bentrows/laws.FnHangLeast", spec := "fnHangLeast", unfollowed := true, recurses := true, apart := false, narrowed := true }
def FnHangLeastUptoSaid : Prop := fnHangLeastUptoRow.holds Try.pinned (OpenSpec.upto fnHangLeastSpec)

/-- 'laws.FnBackAll', WHERE WHAT IT READS IS OF BULK AT MOST 1048576: true; the input reads as it did. -/
def fnBackAllUptoRow : OpenClaim := { program := "ytlgagdplnpeklaa", sum := "a42340a8ee19ee9a42270c9dec95c4294c03a74fd2decba120c077eaa6a5fa4e", func := "loop.example/bentrows/laws.FnBackAll", spec := "fnBackAll", unfollowed := true, recurses := true, apart := false, narrowed := true }
def FnBackAllUptoSaid : Prop := fnBackAllUptoRow.holds Try.pinned (OpenSpec.upto fnBackAllSpec)

/-- 'laws.FnBackHang', WHERE WHAT IT READS IS OF BULK AT MOST 1048576: true; the input reads as it did. -/
def fnBackHangUptoRow : OpenClaim := { program := "ytlgagdplnpeklaa", sum := "a42340a8ee19ee9a42270c9dec95c4294c03a74fd2decba120c077eaa6a5fa4e", func := "loop.example/bentrows/laws.FnBackHang", spec := "fnBackHang", unfollowed := true, recurses := true, apart := false, narrowed := true }
def FnBackHangUptoSaid : Prop := fnBackHangUptoRow.holds Try.pinned (OpenSpec.upto fnBackHangSpec)

/-- 'laws.FnCorners', WHERE WHAT IT READS IS OF BULK AT MOST 1048576: true; the input reads as it did. -/
def fnCornersUptoRow : OpenClaim := { program := "ytlgagdplnpeklaa", sum := "a42340a8ee19ee9a42270c9dec95c4294c03a74fd2decba120c077eaa6a5fa4e", func := "loop.example/bentrows/laws.FnCorners", spec := "fnCorners", unfollowed := true, recurses := true, apart := false, narrowed := true }
def FnCornersUptoSaid : Prop := fnCornersUptoRow.holds Try.pinned (OpenSpec.upto fnCornersSpec)

/-- 'laws.FnBetween', WHERE WHAT IT READS IS OF BULK AT MOST 1048576: true; the input reads as it did. -/
def fnBetweenUptoRow : OpenClaim := { program := "ytlgagdplnpeklaa", sum := "a42340a8ee19ee9a42270c9dec95c4294c03a74fd2decba120c077eaa6a5fa4e", func := "loop.example/bentrows/laws.FnBetween", spec := "fnBetween", unfollowed := true, recurses := true, apart := false, narrowed := true }
def FnBetweenUptoSaid : Prop := fnBetweenUptoRow.holds Try.pinned (OpenSpec.upto fnBetweenSpec)

/-- 'laws.FnBetweenAll', WHERE WHAT IT READS IS OF BULK AT MOST 1048576: true; the input reads as it did. -/
def fnBetweenAllUptoRow : OpenClaim := { program := "ytlgagdplnpeklaa", sum := "a42340a8ee19ee9a42270c9dec95c4294c03a74fd2decba120c077eaa6a5fa4e", func := "loop.example/bentrows/laws.FnBetweenAll", spec := "fnBetweenAll", unfollowed := true, recurses := true, apart := false, narrowed := true }
def FnBetweenAllUptoSaid : Prop := fnBetweenAllUptoRow.holds Try.pinned (OpenSpec.upto fnBetweenAllSpec)

/-- 'laws.FnWhole', WHERE WHAT IT READS IS OF BULK AT MOST 1048576: true; the input reads as it did. -/
def fnWholeUptoRow : OpenClaim := { program := "ytlgagdplnpeklaa", sum := "a42340a8ee19ee9a42270c9dec95c4294c03a74fd2decba120c077eaa6a5fa4e", func := "loop.example/bentrows/laws.FnWhole", spec := "fnWhole", unfollowed := true, recurses := true, apart := false, narrowed := true }
def FnWholeUptoSaid : Prop := fnWholeUptoRow.holds Try.pinned (OpenSpec.upto fnWholeSpec)

/-- 'laws.FnFallTilt', WHERE WHAT IT READS IS OF BULK AT MOST 1048576: true; the input reads as it did. -/
def fnFallTiltUptoRow : OpenClaim := { program := "ytlgagdplnpeklaa", sum := "a42340a8ee19ee9a42270c9dec95c4294c03a74fd2decba120c077eaa6a5fa4e", func := "loop.example/bentrows/laws.FnFallTilt", spec := "fnFallTilt", unfollowed := true, recurses := true, apart := false, narrowed := true }
def FnFallTiltUptoSaid : Prop := fnFallTiltUptoRow.holds Try.pinned (OpenSpec.upto fnFallTiltSpec)

end Rows
end Go.Proofs.Ytlgagdplnpeklaa
