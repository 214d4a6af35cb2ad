/-
  No cell of these rows narrows 'for every input' (looked for: loops, veiled, ifaces, maps, wideKeys, modest, calm, conditions, laid).
  DERIVED. THE GIVEN ROWS OF THIS SEAT. 8 by the template 'for every input the law returns true; each argument reads behind the call as it read before'; 0 by the template 'total and deterministic' (their statements: YtlpgojhifdbjmaaTotals.lean).
  GIVEN WITH THE SEED: the statements are not yours to turn. If you find one false, say at which input.
  Laid BY PROGRAM, IN A SANDBOX (cutbox-rows.mjs): the forced cells as the released guide's own fill.sh prints them over the translation 006fc35b901f3663… (all of the seat's roots in one cut). By AI agents, Wed Nov 11 2026. No macro, syntax, notation, axiom, sorry.
-/
import Derived.Test.YtlpgojhifdbjmaaChecked
import GoSem.Claim
import GoSem.ClaimJoined
import GoSem.ClaimMapViews
import Derived.JoinedTies
import Derived.KernelRfl
namespace Go.Proofs.Ytlpgojhifdbjmaa
/- THE CELL 'sum', in the pinned program and in every row, IS THE sha256 OF THE DUMP (.gsa) THAT YtlpgojhifdbjmaaProg.lean LOADS. Nothing in Lean hashes anything: it is a label: what it is worth is what the hold of that sum in a sandbox is worth. -/
noncomputable def Try.pinned : Pinned := { name := "ytlpgojhifdbjmaa", sum := "006fc35b901f3663653feeb2e0abb5c4113c7e546ad422eb5ec1cf688c14f051", checked := Try.checked }
namespace Rows
def none {H : Type} : Left H := { results := [], args := [] }

/-- 'laws.FnExactLineFall': WHATEVER THE INPUT: true; the input reads as it did. -/
def fnExactLineFallSpec : ChangeSpec := { name := "fnExactLineFall", fn := fun _ => fun
  | [d1, d2] => { results := [.lit (.bool true)], args := [d1, d2] }
  | _ => none }
def fnExactLineFallRow : OpenClaim := { program := "ytlpgojhifdbjmaa", sum := "006fc35b901f3663653feeb2e0abb5c4113c7e546ad422eb5ec1cf688c14f051", func := "loop.example/bentrows/laws.FnExactLineFall", spec := "fnExactLineFall", unfollowed := true, recurses := true, apart := false }
def FnExactLineFallSaid : Prop := fnExactLineFallRow.holds Try.pinned (OpenSpec.ofChange fnExactLineFallSpec)

/-- ITS FALSE NEIGHBOUR: 'it returns false'. Refute it at one input. -/
def fnExactLineFallWrong : ChangeSpec := { name := "fnExactLineFall", fn := fun _ => fun
  | [d1, d2] => { results := [.lit (.bool false)], args := [d1, d2] }
  | _ => none }
def FnExactLineFallWrongFalsely : Prop := fnExactLineFallRow.holds Try.pinned (OpenSpec.ofChange fnExactLineFallWrong)

/-- 'laws.FnExactLineFalls': WHATEVER THE INPUT: true; the input reads as it did. -/
def fnExactLineFallsSpec : ChangeSpec := { name := "fnExactLineFalls", fn := fun _ => fun
  | [d1, d2, d3] => { results := [.lit (.bool true)], args := [d1, d2, d3] }
  | _ => none }
def fnExactLineFallsRow : OpenClaim := { program := "ytlpgojhifdbjmaa", sum := "006fc35b901f3663653feeb2e0abb5c4113c7e546ad422eb5ec1cf688c14f051", func := "loop.example/bentrows/laws.FnExactLineFalls", spec := "fnExactLineFalls", unfollowed := true, recurses := true, apart := false }
def FnExactLineFallsSaid : Prop := fnExactLineFallsRow.holds Try.pinned (OpenSpec.ofChange fnExactLineFallsSpec)

/-- ITS FALSE NEIGHBOUR: 'it returns false'. Refute it at one input. -/
def fnExactLineFallsWrong : ChangeSpec := { name := "fnExactLineFalls", fn := fun _ => fun
  | [d1, d2, d3] => { results := [.lit (.bool false)], args := [d1, d2, d3] }
  | _ => none }
def FnExactLineFallsWrongFalsely : Prop := fnExactLineFallsRow.holds Try.pinned (OpenSpec.ofChange fnExactLineFallsWrong)

/-- 'laws.FnExactLineMeets': WHATEVER THE INPUT: true; the input reads as it did. -/
def fnExactLineMeetsSpec : ChangeSpec := { name := "fnExactLineMeets", fn := fun _ => fun
  | [d1, d2] => { results := [.lit (.bool true)], args := [d1, d2] }
  | _ => none }
def fnExactLineMeetsRow : OpenClaim := { program := "ytlpgojhifdbjmaa", sum := "006fc35b901f3663653feeb2e0abb5c4113c7e546ad422eb5ec1cf688c14f051", func := "loop.example/bentrows/laws.FnExactLineMeets", spec := "fnExactLineMeets", unfollowed := true, recurses := true, apart := false }
def FnExactLineMeetsSaid : Prop := fnExactLineMeetsRow.holds Try.pinned (OpenSpec.ofChange fnExactLineMeetsSpec)

/-- ITS FALSE NEIGHBOUR: 'it returns false'. Refute it at one input. -/
def fnExactLineMeetsWrong : ChangeSpec := { name := "fnExactLineMeets", fn := fun _ => fun
  | [d1, d2] => { results := [.lit (.bool false)], args := [d1, d2] }
  | _ => none }
def FnExactLineMeetsWrongFalsely : Prop := fnExactLineMeetsRow.holds Try.pinned (OpenSpec.ofChange fnExactLineMeetsWrong)

/-- 'laws.FnExactLineHang': WHATEVER THE INPUT: true; the input reads as it did. -/
def fnExactLineHangSpec : ChangeSpec := { name := "fnExactLineHang", fn := fun _ => fun
  | [d] => { results := [.lit (.bool true)], args := [d] }
  | _ => none }
def fnExactLineHangRow : OpenClaim := { program := "ytlpgojhifdbjmaa", sum := "006fc35b901f3663653feeb2e0abb5c4113c7e546ad422eb5ec1cf688c14f051", func := "loop.example/bentrows/laws.FnExactLineHang", spec := "fnExactLineHang", unfollowed := true, recurses := true, apart := false }
def FnExactLineHangSaid : Prop := fnExactLineHangRow.holds Try.pinned (OpenSpec.ofChange fnExactLineHangSpec)

/-- ITS FALSE NEIGHBOUR: 'it returns false'. Refute it at one input. -/
def fnExactLineHangWrong : ChangeSpec := { name := "fnExactLineHang", fn := fun _ => fun
  | [d] => { results := [.lit (.bool false)], args := [d] }
  | _ => none }
def FnExactLineHangWrongFalsely : Prop := fnExactLineHangRow.holds Try.pinned (OpenSpec.ofChange fnExactLineHangWrong)

/-- 'laws.FnExactLineBack': WHATEVER THE INPUT: true; the input reads as it did. -/
def fnExactLineBackSpec : ChangeSpec := { name := "fnExactLineBack", fn := fun _ => fun
  | [d1, d2, d3] => { results := [.lit (.bool true)], args := [d1, d2, d3] }
  | _ => none }
def fnExactLineBackRow : OpenClaim := { program := "ytlpgojhifdbjmaa", sum := "006fc35b901f3663653feeb2e0abb5c4113c7e546ad422eb5ec1cf688c14f051", func := "loop.example/bentrows/laws.FnExactLineBack", spec := "fnExactLineBack", unfollowed := true, recurses := true, apart := false }
def FnExactLineBackSaid : Prop := fnExactLineBackRow.holds Try.pinned (OpenSpec.ofChange fnExactLineBackSpec)

/-- ITS FALSE NEIGHBOUR: 'it returns false'. Refute it at one input. -/
def fnExactLineBackWrong : ChangeSpec := { name := "fnExactLineBack", fn := fun _ => fun
  | [d1, d2, d3] => { results := [.lit (.bool false)], args := [d1, d2, d3] }
  | _ => none }
def FnExactLineBackWrongFalsely : Prop := fnExactLineBackRow.holds Try.pinned (OpenSpec.ofChange fnExactLineBackWrong)

/-- 'laws.FnExactLineCorners': WHATEVER THE INPUT: true; the input reads as it did. -/
def fnExactLineCornersSpec : ChangeSpec := { name := "fnExactLineCorners", fn := fun _ => fun
  | [d] => { results := [.lit (.bool true)], args := [d] }
  | _ => none }
def fnExactLineCornersRow : OpenClaim := { program := "ytlpgojhifdbjmaa", sum := "006fc35b901f3663653feeb2e0abb5c4113c7e546ad422eb5ec1cf688c14f051", func := "loop.example/bentrows/laws.FnExactLineCorners", spec := "fnExactLineCorners", unfollowed := true, recurses := true, apart := false }
def FnExactLineCornersSaid : Prop := fnExactLineCornersRow.holds Try.pinned (OpenSpec.ofChange fnExactLineCornersSpec)

/-- ITS FALSE NEIGHBOUR: 'it returns false'. Refute it at one input. -/
def fnExactLineCornersWrong : ChangeSpec := { name := "fnExactLineCorners", fn := fun _ => fun
  | [d] => { results := [.lit (.bool false)], args := [d] }
  | _ => none }
def FnExactLineCornersWrongFalsely : Prop := fnExactLineCornersRow.holds Try.pinned (OpenSpec.ofChange fnExactLineCornersWrong)

/-- 'laws.FnExactLineWhole': WHATEVER THE INPUT: true; the input reads as it did. -/
def fnExactLineWholeSpec : ChangeSpec := { name := "fnExactLineWhole", fn := fun _ => fun
  | [d] => { results := [.lit (.bool true)], args := [d] }
  | _ => none }
def fnExactLineWholeRow : OpenClaim := { program := "ytlpgojhifdbjmaa", sum := "006fc35b901f3663653feeb2e0abb5c4113c7e546ad422eb5ec1cf688c14f051", func := "loop.example/bentrows/laws.FnExactLineWhole", spec := "fnExactLineWhole", unfollowed := true, recurses := true, apart := false }
def FnExactLineWholeSaid : Prop := fnExactLineWholeRow.holds Try.pinned (OpenSpec.ofChange fnExactLineWholeSpec)

/-- ITS FALSE NEIGHBOUR: 'it returns false'. Refute it at one input. -/
def fnExactLineWholeWrong : ChangeSpec := { name := "fnExactLineWhole", fn := fun _ => fun
  | [d] => { results := [.lit (.bool false)], args := [d] }
  | _ => none }
def FnExactLineWholeWrongFalsely : Prop := fnExactLineWholeRow.holds Try.pinned (OpenSpec.ofChange fnExactLineWholeWrong)

/-- 'laws.FnExactLineBetween': WHATEVER THE INPUT: true; the input reads as it did. -/
def fnExactLineBetweenSpec : ChangeSpec := { name := "fnExactLineBetween", fn := fun _ => fun
  | [d1, d2] => { results := [.lit (.bool true)], args := [d1, d2] }
  | _ => none }
def fnExactLineBetweenRow : OpenClaim := { program := "ytlpgojhifdbjmaa", sum := "006fc35b901f3663653feeb2e0abb5c4113c7e546ad422eb5ec1cf688c14f051", func := "loop.example/bentrows/laws.FnExactLineBetween", spec := "fnExactLineBetween", unfollowed := true, recurses := true, apart := false }
def FnExactLineBetweenSaid : Prop := fnExactLineBetweenRow.holds Try.pinned (OpenSpec.ofChange fnExactLineBetweenSpec)

/-- ITS FALSE NEIGHBOUR: 'it returns false'. Refute it at one input. -/
def fnExactLineBetweenWrong : ChangeSpec := { name := "fnExactLineBetween", fn := fun _ => fun
  | [d1, d2] => { results := [.lit (.bool false)], args := [d1, d2] }
  | _ => none }
def FnExactLineBetweenWrongFalsely : Prop := fnExactLineBetweenRow.holds Try.pinned (OpenSpec.ofChange fnExactLineBetweenWrong)

/- THE SECOND FORM. 'bulk': how many values and letters a reading holds, each counted each time it is reached (what is shared counts as often as it is met; a slice's spare places count too). A statement '..UptoSaid' is the law's where the arguments, and the package variables that the reading takes, are together of bulk at most 1048576: NARROWER than '..Said'. Prove '..Said' where nothing that the law and all that it calls make is longer than what came in: it says more and counts as full. Else prove '..UptoSaid'. A law counts once. -/
mutual
def uptoBulk {H : Type} : DataW H → Nat
  | .lit (.string bytes) => bytes.length + 1
  | .lit _ => 1
  | .nil => 1
  | .ptr d => uptoBulk d + 1
  | .slice elems spare => uptoBulkAll elems + uptoBulkAll spare + 1
  | .agg parts => uptoBulkAll parts + 1
  | .iface _ d => uptoBulk d + 1
  | .map entries => uptoBulkEntries entries + 1
  | .held _ => 1
def uptoBulkAll {H : Type} : List (DataW H) → Nat
  | [] => 0
  | d :: r => uptoBulk d + uptoBulkAll r
def uptoBulkEntries {H : Type} : List (Lit × DataW H) → Nat
  | [] => 0
  | x :: r => uptoBulkEntry x + uptoBulkEntries r
def uptoBulkEntry {H : Type} : Lit × DataW H → Nat
  | (.string bytes, d) => bytes.length + uptoBulk d + 1
  | (_, d) => uptoBulk d + 1
 end
def uptoSmall : (H : Type) → List (DataW H) → Bool := fun _ ds => decide (uptoBulkAll ds ≤ 1048576)
def OpenSpec.upto (s : _root_.Go.ChangeSpec) : _root_.Go.OpenSpec := { _root_.Go.OpenSpec.ofChange s with cond := some uptoSmall }

/-- 'laws.FnExactLineFall', WHERE WHAT IT READS IS OF BULK AT MOST 1048576: true; the input reads as it did. -/
def fnExactLineFallUptoRow : OpenClaim := { program := "ytlpgojhifdbjmaa", sum := "006fc35b901f3663653feeb2e0abb5c4113c7e546ad422eb5ec1cf688c14f051", func := "loop.example/bentrows/laws.FnExactLineFall", spec := "fnExactLineFall", unfollowed := true, recurses := true, apart := false, narrowed := true }
def FnExactLineFallUptoSaid : Prop := fnExactLineFallUptoRow.holds Try.pinned (OpenSpec.upto fnExactLineFallSpec)

/-- 'laws.FnExactLineFalls', WHERE WHAT IT READS IS OF BULK AT MOST 1048576: true; the input reads as it did. -/
def fnExactLineFallsUptoRow : OpenClaim := { program := "ytlpgojhifdbjmaa", sum := "006fc35b901f3663653feeb2e0abb5c4113c7e546ad422eb5ec1cf688c14f051", func := "loop.example/bentrows/laws.FnExactLineFalls", spec := "fnExactLineFalls", unfollowed := true, recurses := true, apart := false, narrowed := true }
def FnExactLineFallsUptoSaid : Prop := fnExactLineFallsUptoRow.holds Try.pinned (OpenSpec.upto fnExactLineFallsSpec)

/-- 'laws.FnExactLineMeets', WHERE WHAT IT READS IS OF BULK AT MOST 1048576: true; the input reads as it did. -/
def fnExactLineMeetsUptoRow : OpenClaim := { program := "ytlpgojhifdbjmaa", sum := "006fc35b901f3663653feeb2e0abb5c4113c7e546ad422eb5ec1cf688c14f051", func := "loop.example/bentrows/laws.FnExactLineMeets", spec := "fnExactLineMeets", unfollowed := true, recurses := true, apart := false, narrowed := true }
def FnExactLineMeetsUptoSaid : Prop := fnExactLineMeetsUptoRow.holds Try.pinned (OpenSpec.upto fnExactLineMeetsSpec)

/-- 'laws.FnExactLineHang', WHERE WHAT IT READS IS OF BULK AT MOST 1048576: true; the input reads as it did. -/
def fnExactLineHangUptoRow : OpenClaim := { program := "ytlpgojhifdbjmaa", sum := "006fc35b901f3663653feeb2e0abb5c4113c7e546ad422eb5ec1cf688c14f051", func := "loop.example/bentrows/laws.FnExactLineHang", spec := "fnExactLineHang", unfollowed := true, recurses := true, apart := false, narrowed := true }
def FnExactLineHangUptoSaid : Prop := fnExactLineHangUptoRow.holds Try.pinned (OpenSpec.upto fnExactLineHangSpec)

/-- 'laws.FnExactLineBack', WHERE WHAT IT READS IS OF BULK AT MOST 1048576: true; the input reads as it did. -/
def fnExactLineBackUptoRow : OpenClaim := { program := "ytlpgojhifdbjmaa", sum := "006fc35b901f3663653feeb2e0abb5c4113c7e546ad422eb5ec1cf688c14f051", func := "loop.example/bentrows/laws.FnExactLineBack", spec := "fnExactLineBack", unfollowed := true, recurses := true, apart := false, narrowed := true }
def FnExactLineBackUptoSaid : Prop := fnExactLineBackUptoRow.holds Try.pinned (OpenSpec.upto fnExactLineBackSpec)

/-- 'laws.FnExactLineCorners', WHERE WHAT IT READS IS OF BULK AT MOST 1048576: true; the input reads as it did. -/
def fnExactLineCornersUptoRow : OpenClaim := { program := "ytlpgojhifdbjmaa", sum := "006fc35b901f3663653feeb2e0abb5c4113c7e546ad422eb5ec1cf688c14f051", func := "loop.example/bentrows/laws.FnExactLineCorners", spec := "fnExactLineCorners", unfollowed := true, recurses := true, apart := false, narrowed := true }
def FnExactLineCornersUptoSaid : Prop := fnExactLineCornersUptoRow.holds Try.pinned (OpenSpec.upto fnExactLineCornersSpec)

/-- 'laws.FnExactLineWhole', WHERE WHAT IT READS IS OF BULK AT MOST 1048576: true; the input reads as it did. -/
def fnExactLineWholeUptoRow : OpenClaim := { program := "ytlpgojhifdbjmaa", sum := "006fc35b901f3663653feeb2e0abb5c4113c7e546ad422eb5ec1cf688c14f051", func := "loop.example/bentrows/laws.FnExactLineWhole", spec := "fnExactLineWhole", unfollowed := true, recurses := true, apart := false, narrowed := true }
def FnExactLineWholeUptoSaid : Prop := fnExactLineWholeUptoRow.holds Try.pinned (OpenSpec.upto fnExactLineWholeSpec)

/-- 'laws.FnExactLineBetween', WHERE WHAT IT READS IS OF BULK AT MOST 1048576: true; the input reads as it did. -/
def fnExactLineBetweenUptoRow : OpenClaim := { program := "ytlpgojhifdbjmaa", sum := "006fc35b901f3663653feeb2e0abb5c4113c7e546ad422eb5ec1cf688c14f051", func := "loop.example/bentrows/laws.FnExactLineBetween", spec := "fnExactLineBetween", unfollowed := true, recurses := true, apart := false, narrowed := true }
def FnExactLineBetweenUptoSaid : Prop := fnExactLineBetweenUptoRow.holds Try.pinned (OpenSpec.upto fnExactLineBetweenSpec)

end Rows
end Go.Proofs.Ytlpgojhifdbjmaa
