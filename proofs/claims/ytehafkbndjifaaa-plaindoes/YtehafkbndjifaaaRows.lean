/-
  No cell of these rows narrows 'for every input' (looked for: loops, veiled, ifaces, maps, wideKeys, modest, calm, conditions, laid).
  DERIVED. THE GIVEN ROWS OF THIS SEAT. 6 by the template 'for every input the law returns true; each argument reads behind the call as it read before'; 0 by the template 'total and deterministic' (their statements: YtehafkbndjifaaaTotals.lean).
  GIVEN WITH THE SEED: the statements are not yours to turn. If you find one false, say at which input.
  Laid BY PROGRAM, IN A SANDBOX (cutbox-rows.mjs): the forced cells as the released guide's own fill.sh prints them over the translation 0117ba95f8ad8cec… (all of the seat's roots in one cut). By AI agents, Wed Nov 11 2026. No macro, syntax, notation, axiom, sorry.
-/
import Derived.Test.YtehafkbndjifaaaChecked
import GoSem.Claim
import GoSem.ClaimJoined
import GoSem.ClaimMapViews
import Derived.JoinedTies
import Derived.KernelRfl
namespace Go.Proofs.Ytehafkbndjifaaa
/- THE CELL 'sum', in the pinned program and in every row, IS THE sha256 OF THE DUMP (.gsa) THAT YtehafkbndjifaaaProg.lean LOADS. Nothing in Lean hashes anything: it is a label: what it is worth is what the hold of that sum in a sandbox is worth. -/
noncomputable def Try.pinned : Pinned := { name := "ytehafkbndjifaaa", sum := "0117ba95f8ad8cec60e2a0237795f1a2dcb64f0ec9321122b3fe97a8953b498c", checked := Try.checked }
namespace Rows
def none {H : Type} : Left H := { results := [], args := [] }

/-- 'dunnagelaw11.PlainLooks': WHATEVER THE INPUT: true; the input reads as it did. -/
def plainLooksSpec : ChangeSpec := { name := "plainLooks", fn := fun _ => fun
  | [d1, d2, d3, d4, d5] => { results := [.lit (.bool true)], args := [d1, d2, d3, d4, d5] }
  | _ => none }
def plainLooksRow : OpenClaim := { program := "ytehafkbndjifaaa", sum := "0117ba95f8ad8cec60e2a0237795f1a2dcb64f0ec9321122b3fe97a8953b498c", func := "dunnage/dunnagelaw11.PlainLooks", spec := "plainLooks", inPlace := ["slices.overlaps[dunnage/api.Pair]"], unfollowed := true, recurses := true, apart := false }
def PlainLooksSaid : Prop := plainLooksRow.holds Try.pinned (OpenSpec.ofChange plainLooksSpec)

/-- ITS FALSE NEIGHBOUR: 'it returns false'. Refute it at one input. -/
def plainLooksWrong : ChangeSpec := { name := "plainLooks", fn := fun _ => fun
  | [d1, d2, d3, d4, d5] => { results := [.lit (.bool false)], args := [d1, d2, d3, d4, d5] }
  | _ => none }
def PlainLooksWrongFalsely : Prop := plainLooksRow.holds Try.pinned (OpenSpec.ofChange plainLooksWrong)

/-- 'dunnagelaw11.PlainDoes': WHATEVER THE INPUT: true; the input reads as it did. -/
def plainDoesSpec : ChangeSpec := { name := "plainDoes", fn := fun _ => fun
  | [d1, d2] => { results := [.lit (.bool true)], args := [d1, d2] }
  | _ => none }
def plainDoesRow : OpenClaim := { program := "ytehafkbndjifaaa", sum := "0117ba95f8ad8cec60e2a0237795f1a2dcb64f0ec9321122b3fe97a8953b498c", func := "dunnage/dunnagelaw11.PlainDoes", spec := "plainDoes", inPlace := ["slices.overlaps[dunnage/api.Pair]"], unfollowed := true, recurses := true, apart := false }
def PlainDoesSaid : Prop := plainDoesRow.holds Try.pinned (OpenSpec.ofChange plainDoesSpec)

/-- ITS FALSE NEIGHBOUR: 'it returns false'. Refute it at one input. -/
def plainDoesWrong : ChangeSpec := { name := "plainDoes", fn := fun _ => fun
  | [d1, d2] => { results := [.lit (.bool false)], args := [d1, d2] }
  | _ => none }
def PlainDoesWrongFalsely : Prop := plainDoesRow.holds Try.pinned (OpenSpec.ofChange plainDoesWrong)

/-- 'dunnagelaw11.PlainDiffers': WHATEVER THE INPUT: true; the input reads as it did. -/
def plainDiffersSpec : ChangeSpec := { name := "plainDiffers", fn := fun _ => fun
  | [d1, d2] => { results := [.lit (.bool true)], args := [d1, d2] }
  | _ => none }
def plainDiffersRow : OpenClaim := { program := "ytehafkbndjifaaa", sum := "0117ba95f8ad8cec60e2a0237795f1a2dcb64f0ec9321122b3fe97a8953b498c", func := "dunnage/dunnagelaw11.PlainDiffers", spec := "plainDiffers", inPlace := ["slices.overlaps[dunnage/api.Pair]"], unfollowed := true, recurses := true, apart := false }
def PlainDiffersSaid : Prop := plainDiffersRow.holds Try.pinned (OpenSpec.ofChange plainDiffersSpec)

/-- ITS FALSE NEIGHBOUR: 'it returns false'. Refute it at one input. -/
def plainDiffersWrong : ChangeSpec := { name := "plainDiffers", fn := fun _ => fun
  | [d1, d2] => { results := [.lit (.bool false)], args := [d1, d2] }
  | _ => none }
def PlainDiffersWrongFalsely : Prop := plainDiffersRow.holds Try.pinned (OpenSpec.ofChange plainDiffersWrong)

/-- 'dunnagelaw11.PlainLast': WHATEVER THE INPUT: true; the input reads as it did. -/
def plainLastSpec : ChangeSpec := { name := "plainLast", fn := fun _ => fun
  | [d1, d2] => { results := [.lit (.bool true)], args := [d1, d2] }
  | _ => none }
def plainLastRow : OpenClaim := { program := "ytehafkbndjifaaa", sum := "0117ba95f8ad8cec60e2a0237795f1a2dcb64f0ec9321122b3fe97a8953b498c", func := "dunnage/dunnagelaw11.PlainLast", spec := "plainLast", inPlace := ["slices.overlaps[dunnage/api.Pair]"], unfollowed := true, recurses := true, apart := false }
def PlainLastSaid : Prop := plainLastRow.holds Try.pinned (OpenSpec.ofChange plainLastSpec)

/-- ITS FALSE NEIGHBOUR: 'it returns false'. Refute it at one input. -/
def plainLastWrong : ChangeSpec := { name := "plainLast", fn := fun _ => fun
  | [d1, d2] => { results := [.lit (.bool false)], args := [d1, d2] }
  | _ => none }
def PlainLastWrongFalsely : Prop := plainLastRow.holds Try.pinned (OpenSpec.ofChange plainLastWrong)

/-- 'dunnagelaw11.PlainBoth': WHATEVER THE INPUT: true; the input reads as it did. -/
def plainBothSpec : ChangeSpec := { name := "plainBoth", fn := fun _ => fun
  | [d1, d2, d3] => { results := [.lit (.bool true)], args := [d1, d2, d3] }
  | _ => none }
def plainBothRow : OpenClaim := { program := "ytehafkbndjifaaa", sum := "0117ba95f8ad8cec60e2a0237795f1a2dcb64f0ec9321122b3fe97a8953b498c", func := "dunnage/dunnagelaw11.PlainBoth", spec := "plainBoth", inPlace := ["slices.overlaps[dunnage/api.Pair]"], unfollowed := true, recurses := true, apart := false }
def PlainBothSaid : Prop := plainBothRow.holds Try.pinned (OpenSpec.ofChange plainBothSpec)

/-- ITS FALSE NEIGHBOUR: 'it returns false'. Refute it at one input. -/
def plainBothWrong : ChangeSpec := { name := "plainBoth", fn := fun _ => fun
  | [d1, d2, d3] => { results := [.lit (.bool false)], args := [d1, d2, d3] }
  | _ => none }
def PlainBothWrongFalsely : Prop := plainBothRow.holds Try.pinned (OpenSpec.ofChange plainBothWrong)

/-- 'dunnagelaw11.PlainBack': WHATEVER THE INPUT: true; the input reads as it did. -/
def plainBackSpec : ChangeSpec := { name := "plainBack", fn := fun _ => fun
  | [d1, d2] => { results := [.lit (.bool true)], args := [d1, d2] }
  | _ => none }
def plainBackRow : OpenClaim := { program := "ytehafkbndjifaaa", sum := "0117ba95f8ad8cec60e2a0237795f1a2dcb64f0ec9321122b3fe97a8953b498c", func := "dunnage/dunnagelaw11.PlainBack", spec := "plainBack", inPlace := ["slices.overlaps[dunnage/api.Pair]"], unfollowed := true, recurses := true, apart := false }
def PlainBackSaid : Prop := plainBackRow.holds Try.pinned (OpenSpec.ofChange plainBackSpec)

/-- ITS FALSE NEIGHBOUR: 'it returns false'. Refute it at one input. -/
def plainBackWrong : ChangeSpec := { name := "plainBack", fn := fun _ => fun
  | [d1, d2] => { results := [.lit (.bool false)], args := [d1, d2] }
  | _ => none }
def PlainBackWrongFalsely : Prop := plainBackRow.holds Try.pinned (OpenSpec.ofChange plainBackWrong)

/- THE SECOND FORM. 'bulk': how many values and letters a reading holds, each counted each time it is reached (what is shared counts as often as it is met; a slice's spare places count too). A statement '..UptoSaid' is the law's where the arguments, and the package variables that the reading takes, are together of bulk at most 1048576: NARROWER than '..Said'. Prove '..Said' where nothing that the law and all that it calls make is longer than what came in: it says more and counts as full. Else prove '..UptoSaid'. A law counts once. -/
mutual
def uptoBulk {H : Type} : DataW H → Nat
  | .lit (.string bytes) => bytes.length + 1
  | .lit _ => 1
  | .nil => 1
  | .ptr d => uptoBulk d + 1
  | .slice elems spare => uptoBulkAll elems + uptoBulkAll spare + 1
  | .agg parts => uptoBulkAll parts + 1
  | .iface _ d => uptoBulk d + 1
  | .map entries => uptoBulkEntries entries + 1
  | .held _ => 1
def uptoBulkAll {H : Type} : List (DataW H) → Nat
  | [] => 0
  | d :: r => uptoBulk d + uptoBulkAll r
def uptoBulkEntries {H : Type} : List (Lit × DataW H) → Nat
  | [] => 0
  | x :: r => uptoBulkEntry x + uptoBulkEntries r
def uptoBulkEntry {H : Type} : Lit × DataW H → Nat
  | (.string bytes, d) => bytes.length + uptoBulk d + 1
  | (_, d) => uptoBulk d + 1
 end
def uptoSmall : (H : Type) → List (DataW H) → Bool := fun _ ds => decide (uptoBulkAll ds ≤ 1048576)
def OpenSpec.upto (s : _root_.Go.ChangeSpec) : _root_.Go.OpenSpec := { _root_.Go.OpenSpec.ofChange s with cond := some uptoSmall }

/-- 'dunnagelaw11.PlainLooks', WHERE WHAT IT READS IS OF BULK AT MOST 1048576: true; the input reads as it did. -/
def plainLooksUptoRow : OpenClaim := { program := "ytehafkbndjifaaa", sum := "0117ba95f8ad8cec60e2a0237795f1a2dcb64f0ec9321122b3fe97a8953b498c", func := "dunnage/dunnagelaw11.PlainLooks", spec := "plainLooks", inPlace := ["slices.overlaps[dunnage/api.Pair]"], unfollowed := true, recurses := true, apart := false, narrowed := true }
def PlainLooksUptoSaid : Prop := plainLooksUptoRow.holds Try.pinned (OpenSpec.upto plainLooksSpec)

/-- 'dunnagelaw11.PlainDoes', WHERE WHAT IT READS IS OF BULK AT MOST 1048576: true; the input reads as it did. -/
def plainDoesUptoRow : OpenClaim := { program := "ytehafkbndjifaaa", sum := "0117ba95f8ad8cec60e2a0237795f1a2dcb64f0ec9321122b3fe97a8953b498c", func := "dunnage/dunnagelaw11.PlainDoes", spec := "plainDoes", inPlace := ["slices.overlaps[dunnage/api.Pair]"], unfollowed := true, recurses := true, apart := false, narrowed := true }
def PlainDoesUptoSaid : Prop := plainDoesUptoRow.holds Try.pinned (OpenSpec.upto plainDoesSpec)

/-- 'dunnagelaw11.PlainDiffers', WHERE WHAT IT READS IS OF BULK AT MOST 1048576: true; the input reads as it did. -/
def plainDiffersUptoRow : OpenClaim := { program := "ytehafkbndjifaaa", sum := "0117ba95f8ad8cec60e2a0237795f1a2dcb64f0ec9321122b3fe97a8953b498c", func := "dunnage/dunnagelaw11.PlainDiffers", spec := "plainDiffers", inPlace := ["slices.overlaps[dunnage/api.Pair]"], unfollowed := true, recurses := true, apart := false, narrowed := true }
def PlainDiffersUptoSaid : Prop := plainDiffersUptoRow.holds Try.pinned (OpenSpec.upto plainDiffersSpec)

/-- 'dunnagelaw11.PlainLast', WHERE WHAT IT READS IS OF BULK AT MOST 1048576: true; the input reads as it did. -/
def plainLastUptoRow : OpenClaim := { program := "ytehafkbndjifaaa", sum := "0117ba95f8ad8cec60e2a0237795f1a2dcb64f0ec9321122b3fe97a8953b498c", func := "dunnage/dunnagelaw11.PlainLast", spec := "plainLast", inPlace := ["slices.overlaps[dunnage/api.Pair]"], unfollowed := true, recurses := true, apart := false, narrowed := true }
def PlainLastUptoSaid : Prop := plainLastUptoRow.holds Try.pinned (OpenSpec.upto plainLastSpec)

/-- 'dunnagelaw11.PlainBoth', WHERE WHAT IT READS IS OF BULK AT MOST 1048576: true; the input reads as it did. -/
def plainBothUptoRow : OpenClaim := { program := "ytehafkbndjifaaa", sum := "0117ba95f8ad8cec60e2a0237795f1a2dcb64f0ec9321122b3fe97a8953b498c", func := "dunnage/dunnagelaw11.PlainBoth", spec := "plainBoth", inPlace := ["slices.overlaps[dunnage/api.Pair]"], unfollowed := true, recurses := true, apart := false, narrowed := true }
def PlainBothUptoSaid : Prop := plainBothUptoRow.holds Try.pinned (OpenSpec.upto plainBothSpec)

/-- 'dunnagelaw11.PlainBack', WHERE WHAT IT READS IS OF BULK AT MOST 1048576: true; the input reads as it did. -/
def plainBackUptoRow : OpenClaim := { program := "ytehafkbndjifaaa", sum := "0117ba95f8ad8cec60e2a0237795f1a2dcb64f0ec9321122b3fe97a8953b498c", func := "dunnage/dunnagelaw11.PlainBack", spec := "plainBack", inPlace := ["slices.overlaps[dunnage/api.Pair]"], unfollowed := true, recurses := true, apart := false, narrowed := true }
def PlainBackUptoSaid : Prop := plainBackUptoRow.holds Try.pinned (OpenSpec.upto plainBackSpec)

end Rows
end Go.Proofs.Ytehafkbndjifaaa
