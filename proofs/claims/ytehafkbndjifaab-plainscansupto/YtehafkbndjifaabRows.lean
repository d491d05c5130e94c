/-
  No cell of these rows narrows 'for every input' (looked for: loops, veiled, ifaces, maps, wideKeys, modest, calm, conditions, laid).
  DERIVED. THE GIVEN ROWS OF THIS SEAT. 4 by the template 'for every input the law returns true; each argument reads behind the call as it read before'; 0 by the template 'total and deterministic' (their statements: YtehafkbndjifaabTotals.lean).
  GIVEN WITH THE SEED: the statements are not yours to turn. If you find one false, say at which input.
  Laid BY PROGRAM, IN A SANDBOX (cutbox-rows.mjs): the forced cells as the released guide's own fill.sh prints them over the translation e0c42d592b3a0699… (all of the seat's roots in one cut). By AI agents, Wed Nov 11 2026. No macro, syntax, notation, axiom, sorry.
-/
import Derived.Test.YtehafkbndjifaabChecked
import GoSem.Claim
import GoSem.ClaimJoined
import GoSem.ClaimMapViews
import Derived.JoinedTies
import Derived.KernelRfl
namespace Go.Proofs.Ytehafkbndjifaab
/- THE CELL 'sum', in the pinned program and in every row, IS THE sha256 OF THE DUMP (.gsa) THAT YtehafkbndjifaabProg.lean LOADS. Nothing in Lean hashes anything: it is a label: what it is worth is what the hold of that sum in a sandbox is worth. -/
noncomputable def Try.pinned : Pinned := { name := "ytehafkbndjifaab", sum := "e0c42d592b3a0699b574ae42207eba8cf3482379dee78c7522cf28495402a538", checked := Try.checked }
namespace Rows
def none {H : Type} : Left H := { results := [], args := [] }

/-- 'dunnagelaw11.PlainScans': WHATEVER THE INPUT: true; the input reads as it did. -/
def plainScansSpec : ChangeSpec := { name := "plainScans", fn := fun _ => fun
  | [d1, d2, d3, d4, d5] => { results := [.lit (.bool true)], args := [d1, d2, d3, d4, d5] }
  | _ => none }
def plainScansRow : OpenClaim := { program := "ytehafkbndjifaab", sum := "e0c42d592b3a0699b574ae42207eba8cf3482379dee78c7522cf28495402a538", func := "dunnage/dunnagelaw11.PlainScans", spec := "plainScans", inPlace := ["slices.overlaps[dunnage/api.Pair]"], unfollowed := true, recurses := true, apart := false }
def PlainScansSaid : Prop := plainScansRow.holds Try.pinned (OpenSpec.ofChange plainScansSpec)

/-- ITS FALSE NEIGHBOUR: 'it returns false'. Refute it at one input. -/
def plainScansWrong : ChangeSpec := { name := "plainScans", fn := fun _ => fun
  | [d1, d2, d3, d4, d5] => { results := [.lit (.bool false)], args := [d1, d2, d3, d4, d5] }
  | _ => none }
def PlainScansWrongFalsely : Prop := plainScansRow.holds Try.pinned (OpenSpec.ofChange plainScansWrong)

/-- 'dunnagelaw11.PlainOthers': WHATEVER THE INPUT: true; the input reads as it did. -/
def plainOthersSpec : ChangeSpec := { name := "plainOthers", fn := fun _ => fun
  | [d1, d2, d3] => { results := [.lit (.bool true)], args := [d1, d2, d3] }
  | _ => none }
def plainOthersRow : OpenClaim := { program := "ytehafkbndjifaab", sum := "e0c42d592b3a0699b574ae42207eba8cf3482379dee78c7522cf28495402a538", func := "dunnage/dunnagelaw11.PlainOthers", spec := "plainOthers", inPlace := ["slices.overlaps[dunnage/api.Pair]"], unfollowed := true, recurses := true, apart := false }
def PlainOthersSaid : Prop := plainOthersRow.holds Try.pinned (OpenSpec.ofChange plainOthersSpec)

/-- ITS FALSE NEIGHBOUR: 'it returns false'. Refute it at one input. -/
def plainOthersWrong : ChangeSpec := { name := "plainOthers", fn := fun _ => fun
  | [d1, d2, d3] => { results := [.lit (.bool false)], args := [d1, d2, d3] }
  | _ => none }
def PlainOthersWrongFalsely : Prop := plainOthersRow.holds Try.pinned (OpenSpec.ofChange plainOthersWrong)

/-- 'dunnagelaw11.PlainOrder': WHATEVER THE INPUT: true; the input reads as it did. -/
def plainOrderSpec : ChangeSpec := { name := "plainOrder", fn := fun _ => fun
  | [d1, d2, d3] => { results := [.lit (.bool true)], args := [d1, d2, d3] }
  | _ => none }
def plainOrderRow : OpenClaim := { program := "ytehafkbndjifaab", sum := "e0c42d592b3a0699b574ae42207eba8cf3482379dee78c7522cf28495402a538", func := "dunnage/dunnagelaw11.PlainOrder", spec := "plainOrder", inPlace := ["slices.overlaps[dunnage/api.Pair]"], unfollowed := true, recurses := true, apart := false }
def PlainOrderSaid : Prop := plainOrderRow.holds Try.pinned (OpenSpec.ofChange plainOrderSpec)

/-- ITS FALSE NEIGHBOUR: 'it returns false'. Refute it at one input. -/
def plainOrderWrong : ChangeSpec := { name := "plainOrder", fn := fun _ => fun
  | [d1, d2, d3] => { results := [.lit (.bool false)], args := [d1, d2, d3] }
  | _ => none }
def PlainOrderWrongFalsely : Prop := plainOrderRow.holds Try.pinned (OpenSpec.ofChange plainOrderWrong)

/-- 'dunnagelaw11.PlainCounts': WHATEVER THE INPUT: true; the input reads as it did. -/
def plainCountsSpec : ChangeSpec := { name := "plainCounts", fn := fun _ => fun
  | [d] => { results := [.lit (.bool true)], args := [d] }
  | _ => none }
def plainCountsRow : OpenClaim := { program := "ytehafkbndjifaab", sum := "e0c42d592b3a0699b574ae42207eba8cf3482379dee78c7522cf28495402a538", func := "dunnage/dunnagelaw11.PlainCounts", spec := "plainCounts", inPlace := ["slices.overlaps[dunnage/api.Pair]"], unfollowed := true, recurses := true, apart := false }
def PlainCountsSaid : Prop := plainCountsRow.holds Try.pinned (OpenSpec.ofChange plainCountsSpec)

/-- ITS FALSE NEIGHBOUR: 'it returns false'. Refute it at one input. -/
def plainCountsWrong : ChangeSpec := { name := "plainCounts", fn := fun _ => fun
  | [d] => { results := [.lit (.bool false)], args := [d] }
  | _ => none }
def PlainCountsWrongFalsely : Prop := plainCountsRow.holds Try.pinned (OpenSpec.ofChange plainCountsWrong)

/- THE SECOND FORM. 'bulk': how many values and letters a reading holds, each counted each time it is reached (what is shared counts as often as it is met; a slice's spare places count too). A statement '..UptoSaid' is the law's where the arguments, and the package variables that the reading takes, are together of bulk at most 1048576: NARROWER than '..Said'. Prove '..Said' where nothing that the law and all that it calls make is longer than what came in: it says more and counts as full. Else prove '..UptoSaid'. A law counts once. -/
mutual
def uptoBulk {H : Type} : DataW H → Nat
  | .lit (.string bytes) => bytes.length + 1
  | .lit _ => 1
  | .nil => 1
  | .ptr d => uptoBulk d + 1
  | .slice elems spare => uptoBulkAll elems + uptoBulkAll spare + 1
  | .agg parts => uptoBulkAll parts + 1
  | .iface _ d => uptoBulk d + 1
  | .map entries => uptoBulkEntries entries + 1
  | .held _ => 1
def uptoBulkAll {H : Type} : List (DataW H) → Nat
  | [] => 0
  | d :: r => uptoBulk d + uptoBulkAll r
def uptoBulkEntries {H : Type} : List (Lit × DataW H) → Nat
  | [] => 0
  | x :: r => uptoBulkEntry x + uptoBulkEntries r
def uptoBulkEntry {H : Type} : Lit × DataW H → Nat
  | (.string bytes, d) => bytes.length + uptoBulk d + 1
  | (_, d) => uptoBulk d + 1
 end
def uptoSmall : (H : Type) → List (DataW H) → Bool := fun _ ds => decide (uptoBulkAll ds ≤ 1048576)
def OpenSpec.upto (s : _root_.Go.ChangeSpec) : _root_.Go.OpenSpec := { _root_.Go.OpenSpec.ofChange s with cond := some uptoSmall }

/-- 'dunnagelaw11.PlainScans', WHERE WHAT IT READS IS OF BULK AT MOST 1048576: true; the input reads as it did. -/
def plainScansUptoRow : OpenClaim := { program := "ytehafkbndjifaab", sum := "e0c42d592b3a0699b574ae42207eba8cf3482379dee78c7522cf28495402a538", func := "dunnage/dunnagelaw11.PlainScans", spec := "plainScans", inPlace := ["slices.overlaps[dunnage/api.Pair]"], unfollowed := true, recurses := true, apart := false, narrowed := true }
def PlainScansUptoSaid : Prop := plainScansUptoRow.holds Try.pinned (OpenSpec.upto plainScansSpec)

/-- 'dunnagelaw11.PlainOthers', WHERE WHAT IT READS IS OF BULK AT MOST 1048576: true; the input reads as it did. -/
def plainOthersUptoRow : OpenClaim := { program := "ytehafkbndjifaab", sum := "e0c42d592b3a0699b574ae42207eba8cf3482379dee78c7522cf28495402a538", func := "dunnage/dunnagelaw11.PlainOthers", spec := "plainOthers", inPlace := ["slices.overlaps[dunnage/api.Pair]"], unfollowed := true, recurses := true, apart := false, narrowed := true }
def PlainOthersUptoSaid : Prop := plainOthersUptoRow.holds Try.pinned (OpenSpec.upto plainOthersSpec)

/-- 'dunnagelaw11.PlainOrder', WHERE WHAT IT READS IS OF BULK AT MOST 1048576: true; the input reads as it did. -/
def plainOrderUptoRow : OpenClaim := { program := "ytehafkbndjifaab", sum := "e0c42d592b3a0699b574ae42207eba8cf3482379dee78c7522cf28495402a538", func := "dunnage/dunnagelaw11.PlainOrder", spec := "plainOrder", inPlace := ["slices.overlaps[dunnage/api.Pair]"], unfollowed := true, recurses := true, apart := false, narrowed := true }
def PlainOrderUptoSaid : Prop := plainOrderUptoRow.holds Try.pinned (OpenSpec.upto plainOrderSpec)

/-- 'dunnagelaw11.PlainCounts', WHERE WHAT IT READS IS OF BULK AT MOST 1048576: true; the input reads as it did. -/
def plainCountsUptoRow : OpenClaim := { program := "ytehafkbndjifaab", sum := "e0c42d592b3a0699b574ae42207eba8cf3482379dee78c7522cf28495402a538", func := "dunnage/dunnagelaw11.PlainCounts", spec := "plainCounts", inPlace := ["slices.overlaps[dunnage/api.Pair]"], unfollowed := true, recurses := true, apart := false, narrowed := true }
def PlainCountsUptoSaid : Prop := plainCountsUptoRow.holds Try.pinned (OpenSpec.upto plainCountsSpec)

end Rows
end Go.Proofs.Ytehafkbndjifaab
