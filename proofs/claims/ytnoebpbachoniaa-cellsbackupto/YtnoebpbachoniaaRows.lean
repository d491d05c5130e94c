/-
  No cell of these rows narrows 'for every input' (looked for: loops, veiled, ifaces, maps, wideKeys, modest, calm, conditions, laid).
  DERIVED. THE GIVEN ROWS OF THIS SEAT. 4 by the template 'for every input the law returns true; each argument reads behind the call as it read before'; 0 by the template 'total and deterministic' (their statements: YtnoebpbachoniaaTotals.lean).
  GIVEN WITH THE SEED: the statements are not yours to turn. If you find one false, say at which input.
  Laid BY PROGRAM, IN A SANDBOX (cutbox-rows.mjs): the forced cells as the released guide's own fill.sh prints them over the translation 6decf3f27c839e40… (all of the seat's roots in one cut). By AI agents, Wed Nov 11 2026. No macro, syntax, notation, axiom, sorry.
-/
import Derived.Test.YtnoebpbachoniaaChecked
import GoSem.Claim
import GoSem.ClaimJoined
import GoSem.ClaimMapViews
import Derived.JoinedTies
import Derived.KernelRfl
namespace Go.Proofs.Ytnoebpbachoniaa
/- THE CELL 'sum', in the pinned program and in every row, IS THE sha256 OF THE DUMP (.gsa) THAT YtnoebpbachoniaaProg.lean LOADS. Nothing in Lean hashes anything: it is a label: what it is worth is what the hold of that sum in a sandbox is worth. -/
noncomputable def Try.pinned : Pinned := { name := "ytnoebpbachoniaa", sum := "6decf3f27c839e40def652f1fc30790cb742100d35bb1e40ae62c26df524e423", checked := Try.checked }
namespace Rows
def none {H : Type} : Left H := { results := [], args := [] }

/-- 'dunnagelaw13.CellsHeads': WHATEVER THE INPUT: true; the input reads as it did. -/
def cellsHeadsSpec : ChangeSpec := { name := "cellsHeads", fn := fun _ => fun
  | [d1, d2, d3, d4] => { results := [.lit (.bool true)], args := [d1, d2, d3, d4] }
  | _ => none }
def cellsHeadsRow : OpenClaim := { program := "ytnoebpbachoniaa", sum := "6decf3f27c839e40def652f1fc30790cb742100d35bb1e40ae62c26df524e423", func := "dunnage/dunnagelaw13.CellsHeads", spec := "cellsHeads", unfollowed := true, recurses := true, apart := false }
def CellsHeadsSaid : Prop := cellsHeadsRow.holds Try.pinned (OpenSpec.ofChange cellsHeadsSpec)

/-- ITS FALSE NEIGHBOUR: 'it returns false'. Refute it at one input. -/
def cellsHeadsWrong : ChangeSpec := { name := "cellsHeads", fn := fun _ => fun
  | [d1, d2, d3, d4] => { results := [.lit (.bool false)], args := [d1, d2, d3, d4] }
  | _ => none }
def CellsHeadsWrongFalsely : Prop := cellsHeadsRow.holds Try.pinned (OpenSpec.ofChange cellsHeadsWrong)

/-- 'dunnagelaw13.CellsTell': WHATEVER THE INPUT: true; the input reads as it did. -/
def cellsTellSpec : ChangeSpec := { name := "cellsTell", fn := fun _ => fun
  | [d1, d2, d3, d4] => { results := [.lit (.bool true)], args := [d1, d2, d3, d4] }
  | _ => none }
def cellsTellRow : OpenClaim := { program := "ytnoebpbachoniaa", sum := "6decf3f27c839e40def652f1fc30790cb742100d35bb1e40ae62c26df524e423", func := "dunnage/dunnagelaw13.CellsTell", spec := "cellsTell", unfollowed := true, recurses := true, apart := false }
def CellsTellSaid : Prop := cellsTellRow.holds Try.pinned (OpenSpec.ofChange cellsTellSpec)

/-- ITS FALSE NEIGHBOUR: 'it returns false'. Refute it at one input. -/
def cellsTellWrong : ChangeSpec := { name := "cellsTell", fn := fun _ => fun
  | [d1, d2, d3, d4] => { results := [.lit (.bool false)], args := [d1, d2, d3, d4] }
  | _ => none }
def CellsTellWrongFalsely : Prop := cellsTellRow.holds Try.pinned (OpenSpec.ofChange cellsTellWrong)

/-- 'dunnagelaw13.CellsBack': WHATEVER THE INPUT: true; the input reads as it did. -/
def cellsBackSpec : ChangeSpec := { name := "cellsBack", fn := fun _ => fun
  | [d] => { results := [.lit (.bool true)], args := [d] }
  | _ => none }
def cellsBackRow : OpenClaim := { program := "ytnoebpbachoniaa", sum := "6decf3f27c839e40def652f1fc30790cb742100d35bb1e40ae62c26df524e423", func := "dunnage/dunnagelaw13.CellsBack", spec := "cellsBack", unfollowed := true, recurses := true, apart := false }
def CellsBackSaid : Prop := cellsBackRow.holds Try.pinned (OpenSpec.ofChange cellsBackSpec)

/-- ITS FALSE NEIGHBOUR: 'it returns false'. Refute it at one input. -/
def cellsBackWrong : ChangeSpec := { name := "cellsBack", fn := fun _ => fun
  | [d] => { results := [.lit (.bool false)], args := [d] }
  | _ => none }
def CellsBackWrongFalsely : Prop := cellsBackRow.holds Try.pinned (OpenSpec.ofChange cellsBackWrong)

/-- 'dunnagelaw13.CellsSum': WHATEVER THE INPUT: true; the input reads as it did. -/
def cellsSumSpec : ChangeSpec := { name := "cellsSum", fn := fun _ => fun
  | [d1, d2] => { results := [.lit (.bool true)], args := [d1, d2] }
  | _ => none }
def cellsSumRow : OpenClaim := { program := "ytnoebpbachoniaa", sum := "6decf3f27c839e40def652f1fc30790cb742100d35bb1e40ae62c26df524e423", func := "dunnage/dunnagelaw13.CellsSum", spec := "cellsSum", unfollowed := true, recurses := true, apart := false }
def CellsSumSaid : Prop := cellsSumRow.holds Try.pinned (OpenSpec.ofChange cellsSumSpec)

/-- ITS FALSE NEIGHBOUR: 'it returns false'. Refute it at one input. -/
def cellsSumWrong : ChangeSpec := { name := "cellsSum", fn := fun _ => fun
  | [d1, d2] => { results := [.lit (.bool false)], args := [d1, d2] }
  | _ => none }
def CellsSumWrongFalsely : Prop := cellsSumRow.holds Try.pinned (OpenSpec.ofChange cellsSumWrong)

/- THE SECOND FORM. 'bulk': how many values and letters a reading holds, each counted each time it is reached (what is shared counts as often as it is met; a slice's spare places count too). A statement '..UptoSaid' is the law's where the arguments, and the package variables that the reading takes, are together of bulk at most 1048576: NARROWER than '..Said'. Prove '..Said' where nothing that the law and all that it calls make is longer than what came in: it says more and counts as full. Else prove '..UptoSaid'. A law counts once. -/
mutual
def uptoBulk {H : Type} : DataW H → Nat
  | .lit (.string bytes) => bytes.length + 1
  | .lit _ => 1
  | .nil => 1
  | .ptr d => uptoBulk d + 1
  | .slice elems spare => uptoBulkAll elems + uptoBulkAll spare + 1
  | .agg parts => uptoBulkAll parts + 1
  | .iface _ d => uptoBulk d + 1
  | .map entries => uptoBulkEntries entries + 1
  | .held _ => 1
def uptoBulkAll {H : Type} : List (DataW H) → Nat
  | [] => 0
  | d :: r => uptoBulk d + uptoBulkAll r
def uptoBulkEntries {H : Type} : List (Lit × DataW H) → Nat
  | [] => 0
  | x :: r => uptoBulkEntry x + uptoBulkEntries r
def uptoBulkEntry {H : Type} : Lit × DataW H → Nat
  | (.string bytes, d) => bytes.length + uptoBulk d + 1
  | (_, d) => uptoBulk d + 1
 end
def uptoSmall : (H : Type) → List (DataW H) → Bool := fun _ ds => decide (uptoBulkAll ds ≤ 1048576)
def OpenSpec.upto (s : _root_.Go.ChangeSpec) : _root_.Go.OpenSpec := { _root_.Go.OpenSpec.ofChange s with cond := some uptoSmall }

/-- 'dunnagelaw13.CellsHeads', WHERE WHAT IT READS IS OF BULK AT MOST 1048576: true; the input reads as it did. -/
def cellsHeadsUptoRow : OpenClaim := { program := "ytnoebpbachoniaa", sum := "6decf3f27c839e40def652f1fc30790cb742100d35bb1e40ae62c26df524e423", func := "dunnage/dunnagelaw13.CellsHeads", spec := "cellsHeads", unfollowed := true, recurses := true, apart := false, narrowed := true }
def CellsHeadsUptoSaid : Prop := cellsHeadsUptoRow.holds Try.pinned (OpenSpec.upto cellsHeadsSpec)

/-- 'dunnagelaw13.CellsTell', WHERE WHAT IT READS IS OF BULK AT MOST 1048576: true; the input reads as it did. -/
def cellsTellUptoRow : OpenClaim := { program := "ytnoebpbachoniaa", sum := "6decf3f27c839e40def652f1fc30790cb742100d35bb1e40ae62c26df524e423", func := "dunnage/dunnagelaw13.CellsTell", spec := "cellsTell", unfollowed := true, recurses := true, apart := false, narrowed := true }
def CellsTellUptoSaid : Prop := cellsTellUptoRow.holds Try.pinned (OpenSpec.upto cellsTellSpec)

/-- 'dunnagelaw13.CellsBack', WHERE WHAT IT READS IS OF BULK AT MOST 1048576: true; the input reads as it did. -/
def cellsBackUptoRow : OpenClaim := { program := "ytnoebpbachoniaa", sum := "6decf3f27c839e40def652f1fc30790cb742100d35bb1e40ae62c26df524e423", func := "dunnage/dunnagelaw13.CellsBack", spec := "cellsBack", unfollowed := true, recurses := true, apart := false, narrowed := true }
def CellsBackUptoSaid : Prop := cellsBackUptoRow.holds Try.pinned (OpenSpec.upto cellsBackSpec)

/-- 'dunnagelaw13.CellsSum', WHERE WHAT IT READS IS OF BULK AT MOST 1048576: true; the input reads as it did. -/
def cellsSumUptoRow : OpenClaim := { program := "ytnoebpbachoniaa", sum := "6decf3f27c839e40def652f1fc30790cb742100d35bb1e40ae62c26df524e423", func := "dunnage/dunnagelaw13.CellsSum", spec := "cellsSum", unfollowed := true, recurses := true, apart := false, narrowed := true }
def CellsSumUptoSaid : Prop := cellsSumUptoRow.holds Try.pinned (OpenSpec.upto cellsSumSpec)

end Rows
end Go.Proofs.Ytnoebpbachoniaa
