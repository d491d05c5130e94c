/-
  No cell of these rows narrows 'for every input' (looked for: loops, veiled, ifaces, maps, wideKeys, modest, calm, conditions, laid).
  DERIVED. THE GIVEN ROWS OF THIS SEAT. 4 by the template 'for every input the law returns true; each argument reads behind the call as it read before'; 0 by the template 'total and deterministic' (their statements: YtgnfgeebcphglaaTotals.lean).
  GIVEN WITH THE SEED: the statements are not yours to turn. If you find one false, say at which input.
  Laid BY PROGRAM, IN A SANDBOX (cutbox-rows.mjs): the forced cells as the released guide's own fill.sh prints them over the translation 99c437bf4ca9794e… (all of the seat's roots in one cut). By AI agents, Wed Nov 11 2026. No macro, syntax, notation, axiom, sorry.
-/
import Derived.Test.YtgnfgeebcphglaaChecked
import GoSem.Claim
import GoSem.ClaimJoined
import GoSem.ClaimMapViews
import Derived.JoinedTies
import Derived.KernelRfl
namespace Go.Proofs.Ytgnfgeebcphglaa
/- THE CELL 'sum', in the pinned program and in every row, IS THE sha256 OF THE DUMP (.gsa) THAT YtgnfgeebcphglaaProg.lean LOADS. Nothing in Lean hashes anything: it is a label: what it is worth is what the hold of that sum in a sandbox is worth. -/
noncomputable def Try.pinned : Pinned := { name := "ytgnfgeebcphglaa", sum := "99c437bf4ca9794eead9abb6e0d9663b50277dfdf4dee33c135244ec01e6db46", checked := Try.checked }
namespace Rows
def none {H : Type} : Left H := { results := [], args := [] }

/-- 'dunnagelaw14.MarkLives': WHATEVER THE INPUT: true; the input reads as it did. -/
def markLivesSpec : ChangeSpec := { name := "markLives", fn := fun _ => fun
  | [d1, d2, d3, d4] => { results := [.lit (.bool true)], args := [d1, d2, d3, d4] }
  | _ => none }
def markLivesRow : OpenClaim := { program := "ytgnfgeebcphglaa", sum := "99c437bf4ca9794eead9abb6e0d9663b50277dfdf4dee33c135244ec01e6db46", func := "dunnage/dunnagelaw14.MarkLives", spec := "markLives", unfollowed := true, recurses := true, apart := false }
def MarkLivesSaid : Prop := markLivesRow.holds Try.pinned (OpenSpec.ofChange markLivesSpec)

/-- ITS FALSE NEIGHBOUR: 'it returns false'. Refute it at one input. -/
def markLivesWrong : ChangeSpec := { name := "markLives", fn := fun _ => fun
  | [d1, d2, d3, d4] => { results := [.lit (.bool false)], args := [d1, d2, d3, d4] }
  | _ => none }
def MarkLivesWrongFalsely : Prop := markLivesRow.holds Try.pinned (OpenSpec.ofChange markLivesWrong)

/-- 'dunnagelaw14.MarkClosed': WHATEVER THE INPUT: true; the input reads as it did. -/
def markClosedSpec : ChangeSpec := { name := "markClosed", fn := fun _ => fun
  | [d1, d2] => { results := [.lit (.bool true)], args := [d1, d2] }
  | _ => none }
def markClosedRow : OpenClaim := { program := "ytgnfgeebcphglaa", sum := "99c437bf4ca9794eead9abb6e0d9663b50277dfdf4dee33c135244ec01e6db46", func := "dunnage/dunnagelaw14.MarkClosed", spec := "markClosed", unfollowed := true, recurses := true, apart := false }
def MarkClosedSaid : Prop := markClosedRow.holds Try.pinned (OpenSpec.ofChange markClosedSpec)

/-- ITS FALSE NEIGHBOUR: 'it returns false'. Refute it at one input. -/
def markClosedWrong : ChangeSpec := { name := "markClosed", fn := fun _ => fun
  | [d1, d2] => { results := [.lit (.bool false)], args := [d1, d2] }
  | _ => none }
def MarkClosedWrongFalsely : Prop := markClosedRow.holds Try.pinned (OpenSpec.ofChange markClosedWrong)

/-- 'dunnagelaw14.MarkRoots': WHATEVER THE INPUT: true; the input reads as it did. -/
def markRootsSpec : ChangeSpec := { name := "markRoots", fn := fun _ => fun
  | [d1, d2, d3] => { results := [.lit (.bool true)], args := [d1, d2, d3] }
  | _ => none }
def markRootsRow : OpenClaim := { program := "ytgnfgeebcphglaa", sum := "99c437bf4ca9794eead9abb6e0d9663b50277dfdf4dee33c135244ec01e6db46", func := "dunnage/dunnagelaw14.MarkRoots", spec := "markRoots", unfollowed := true, recurses := true, apart := false }
def MarkRootsSaid : Prop := markRootsRow.holds Try.pinned (OpenSpec.ofChange markRootsSpec)

/-- ITS FALSE NEIGHBOUR: 'it returns false'. Refute it at one input. -/
def markRootsWrong : ChangeSpec := { name := "markRoots", fn := fun _ => fun
  | [d1, d2, d3] => { results := [.lit (.bool false)], args := [d1, d2, d3] }
  | _ => none }
def MarkRootsWrongFalsely : Prop := markRootsRow.holds Try.pinned (OpenSpec.ofChange markRootsWrong)

/-- 'dunnagelaw14.MarkLeads': WHATEVER THE INPUT: true; the input reads as it did. -/
def markLeadsSpec : ChangeSpec := { name := "markLeads", fn := fun _ => fun
  | [d1, d2, d3, d4, d5] => { results := [.lit (.bool true)], args := [d1, d2, d3, d4, d5] }
  | _ => none }
def markLeadsRow : OpenClaim := { program := "ytgnfgeebcphglaa", sum := "99c437bf4ca9794eead9abb6e0d9663b50277dfdf4dee33c135244ec01e6db46", func := "dunnage/dunnagelaw14.MarkLeads", spec := "markLeads", unfollowed := true, recurses := true, apart := false }
def MarkLeadsSaid : Prop := markLeadsRow.holds Try.pinned (OpenSpec.ofChange markLeadsSpec)

/-- ITS FALSE NEIGHBOUR: 'it returns false'. Refute it at one input. -/
def markLeadsWrong : ChangeSpec := { name := "markLeads", fn := fun _ => fun
  | [d1, d2, d3, d4, d5] => { results := [.lit (.bool false)], args := [d1, d2, d3, d4, d5] }
  | _ => none }
def MarkLeadsWrongFalsely : Prop := markLeadsRow.holds Try.pinned (OpenSpec.ofChange markLeadsWrong)

/- THE SECOND FORM. 'bulk': how many values and letters a reading holds, each counted each time it is reached (what is shared counts as often as it is met; a slice's spare places count too). A statement '..UptoSaid' is the law's where the arguments, and the package variables that the reading takes, are together of bulk at most 1048576: NARROWER than '..Said'. Prove '..Said' where nothing that the law and all that it calls make is longer than what came in: it says more and counts as full. Else prove '..UptoSaid'. A law counts once. -/
mutual
def uptoBulk {H : Type} : DataW H → Nat
  | .lit (.string bytes) => bytes.length + 1
  | .lit _ => 1
  | .nil => 1
  | .ptr d => uptoBulk d + 1
  | .slice elems spare => uptoBulkAll elems + uptoBulkAll spare + 1
  | .agg parts => uptoBulkAll parts + 1
  | .iface _ d => uptoBulk d + 1
  | .map entries => uptoBulkEntries entries + 1
  | .held _ => 1
def uptoBulkAll {H : Type} : List (DataW H) → Nat
  | [] => 0
  | d :: r => uptoBulk d + uptoBulkAll r
def uptoBulkEntries {H : Type} : List (Lit × DataW H) → Nat
  | [] => 0
  | x :: r => uptoBulkEntry x + uptoBulkEntries r
def uptoBulkEntry {H : Type} : Lit × DataW H → Nat
  | (.string bytes, d) => bytes.length + uptoBulk d + 1
  | (_, d) => uptoBulk d + 1
 end
def uptoSmall : (H : Type) → List (DataW H) → Bool := fun _ ds => decide (uptoBulkAll ds ≤ 1048576)
def OpenSpec.upto (s : _root_.Go.ChangeSpec) : _root_.Go.OpenSpec := { _root_.Go.OpenSpec.ofChange s with cond := some uptoSmall }

/-- 'dunnagelaw14.MarkLives', WHERE WHAT IT READS IS OF BULK AT MOST 1048576: true; the input reads as it did. -/
def markLivesUptoRow : OpenClaim := { program := "ytgnfgeebcphglaa", sum := "99c437bf4ca9794eead9abb6e0d9663b50277dfdf4dee33c135244ec01e6db46", func := "dunnage/dunnagelaw14.MarkLives", spec := "markLives", unfollowed := true, recurses := true, apart := false, narrowed := true }
def MarkLivesUptoSaid : Prop := markLivesUptoRow.holds Try.pinned (OpenSpec.upto markLivesSpec)

/-- 'dunnagelaw14.MarkClosed', WHERE WHAT IT READS IS OF BULK AT MOST 1048576: true; the input reads as it did. -/
def markClosedUptoRow : OpenClaim := { program := "ytgnfgeebcphglaa", sum := "99c437bf4ca9794eead9abb6e0d9663b50277dfdf4dee33c135244ec01e6db46", func := "dunnage/dunnagelaw14.MarkClosed", spec := "markClosed", unfollowed := true, recurses := true, apart := false, narrowed := true }
def MarkClosedUptoSaid : Prop := markClosedUptoRow.holds Try.pinned (OpenSpec.upto markClosedSpec)

/-- 'dunnagelaw14.MarkRoots', WHERE WHAT IT READS IS OF BULK AT MOST 1048576: true; the input reads as it did. -/
def markRootsUptoRow : OpenClaim := { program := "ytgnfgeebcphglaa", sum := "99c437bf4ca9794eead9abb6e0d9663b50277dfdf4dee33c135244ec01e6db46", func := "dunnage/dunnagelaw14.MarkRoots", spec := "markRoots", unfollowed := true, recurses := true, apart := false, narrowed := true }
def MarkRootsUptoSaid : Prop := markRootsUptoRow.holds Try.pinned (OpenSpec.upto markRootsSpec)

/-- 'dunnagelaw14.MarkLeads', WHERE WHAT IT READS IS OF BULK AT MOST 1048576: true; the input reads as it did. -/
def markLeadsUptoRow : OpenClaim := { program := "ytgnfgeebcphglaa", sum := "99c437bf4ca9794eead9abb6e0d9663b50277dfdf4dee33c135244ec01e6db46", func := "dunnage/dunnagelaw14.MarkLeads", spec := "markLeads", unfollowed := true, recurses := true, apart := false, narrowed := true }
def MarkLeadsUptoSaid : Prop := markLeadsUptoRow.holds Try.pinned (OpenSpec.upto markLeadsSpec)

end Rows
end Go.Proofs.Ytgnfgeebcphglaa
