/-
  No cell of these rows narrows 'for every input' (looked for: loops, veiled, ifaces, maps, wideKeys, modest, calm, conditions, laid).
  DERIVED. THE GIVEN ROWS OF THIS SEAT. 6 by the template 'for every input the law returns true; each argument reads behind the call as it read before'; 0 by the template 'total and deterministic' (their statements: YtegefnchkgkmgaaTotals.lean).
  GIVEN WITH THE SEED: the statements are not yours to turn. If you find one false, say at which input.
  Laid BY PROGRAM, IN A SANDBOX (cutbox-rows.mjs): the forced cells as the released guide's own fill.sh prints them over the translation 44c80eec58ae561d… (all of the seat's roots in one cut). By AI agents, Wed Nov 11 2026. No macro, syntax, notation, axiom, sorry.
-/
import Derived.Test.YtegefnchkgkmgaaChecked
import GoSem.Claim
import GoSem.ClaimJoined
import GoSem.ClaimMapViews
import Derived.JoinedTies
import Derived.KernelRfl
namespace Go.Proofs.Ytegefnchkgkmgaa
/- THE CELL 'sum', in the pinned program and in every row, IS THE sha256 OF THE DUMP (.gsa) THAT YtegefnchkgkmgaaProg.lean LOADS. Nothing in Lean hashes anything: it is a label: what it is worth is what the hold of that sum in a sandbox is worth. -/
noncomputable def Try.pinned : Pinned := { name := "ytegefnchkgkmgaa", sum := "44c80eec58ae561d72a1adc2831c1c2705494dd0c402cd84191dc5a509a1e563", checked := Try.checked }
namespace Rows
def none {H : Type} : Left H := { results := [], args := [] }

/-- 'dunnagelaw15.ThreadCompacts': WHATEVER THE INPUT: true; the input reads as it did. -/
def threadCompactsSpec : ChangeSpec := { name := "threadCompacts", fn := fun _ => fun
  | [d1, d2, d3] => { results := [.lit (.bool true)], args := [d1, d2, d3] }
  | _ => none }
def threadCompactsRow : OpenClaim := { program := "ytegefnchkgkmgaa", sum := "44c80eec58ae561d72a1adc2831c1c2705494dd0c402cd84191dc5a509a1e563", func := "dunnage/dunnagelaw15.ThreadCompacts", spec := "threadCompacts", unfollowed := true, recurses := true, apart := false }
def ThreadCompactsSaid : Prop := threadCompactsRow.holds Try.pinned (OpenSpec.ofChange threadCompactsSpec)

/-- ITS FALSE NEIGHBOUR: 'it returns false'. Refute it at one input. -/
def threadCompactsWrong : ChangeSpec := { name := "threadCompacts", fn := fun _ => fun
  | [d1, d2, d3] => { results := [.lit (.bool false)], args := [d1, d2, d3] }
  | _ => none }
def ThreadCompactsWrongFalsely : Prop := threadCompactsRow.holds Try.pinned (OpenSpec.ofChange threadCompactsWrong)

/-- 'dunnagelaw15.ThreadFollows': WHATEVER THE INPUT: true; the input reads as it did. -/
def threadFollowsSpec : ChangeSpec := { name := "threadFollows", fn := fun _ => fun
  | [d1, d2] => { results := [.lit (.bool true)], args := [d1, d2] }
  | _ => none }
def threadFollowsRow : OpenClaim := { program := "ytegefnchkgkmgaa", sum := "44c80eec58ae561d72a1adc2831c1c2705494dd0c402cd84191dc5a509a1e563", func := "dunnage/dunnagelaw15.ThreadFollows", spec := "threadFollows", unfollowed := true, recurses := true, apart := false }
def ThreadFollowsSaid : Prop := threadFollowsRow.holds Try.pinned (OpenSpec.ofChange threadFollowsSpec)

/-- ITS FALSE NEIGHBOUR: 'it returns false'. Refute it at one input. -/
def threadFollowsWrong : ChangeSpec := { name := "threadFollows", fn := fun _ => fun
  | [d1, d2] => { results := [.lit (.bool false)], args := [d1, d2] }
  | _ => none }
def ThreadFollowsWrongFalsely : Prop := threadFollowsRow.holds Try.pinned (OpenSpec.ofChange threadFollowsWrong)

/-- 'dunnagelaw15.ThreadAlike': WHATEVER THE INPUT: true; the input reads as it did. -/
def threadAlikeSpec : ChangeSpec := { name := "threadAlike", fn := fun _ => fun
  | [d1, d2] => { results := [.lit (.bool true)], args := [d1, d2] }
  | _ => none }
def threadAlikeRow : OpenClaim := { program := "ytegefnchkgkmgaa", sum := "44c80eec58ae561d72a1adc2831c1c2705494dd0c402cd84191dc5a509a1e563", func := "dunnage/dunnagelaw15.ThreadAlike", spec := "threadAlike", unfollowed := true, recurses := true, apart := false }
def ThreadAlikeSaid : Prop := threadAlikeRow.holds Try.pinned (OpenSpec.ofChange threadAlikeSpec)

/-- ITS FALSE NEIGHBOUR: 'it returns false'. Refute it at one input. -/
def threadAlikeWrong : ChangeSpec := { name := "threadAlike", fn := fun _ => fun
  | [d1, d2] => { results := [.lit (.bool false)], args := [d1, d2] }
  | _ => none }
def ThreadAlikeWrongFalsely : Prop := threadAlikeRow.holds Try.pinned (OpenSpec.ofChange threadAlikeWrong)

/-- 'dunnagelaw15.ThreadAgain': WHATEVER THE INPUT: true; the input reads as it did. -/
def threadAgainSpec : ChangeSpec := { name := "threadAgain", fn := fun _ => fun
  | [d1, d2] => { results := [.lit (.bool true)], args := [d1, d2] }
  | _ => none }
def threadAgainRow : OpenClaim := { program := "ytegefnchkgkmgaa", sum := "44c80eec58ae561d72a1adc2831c1c2705494dd0c402cd84191dc5a509a1e563", func := "dunnage/dunnagelaw15.ThreadAgain", spec := "threadAgain", unfollowed := true, recurses := true, apart := false }
def ThreadAgainSaid : Prop := threadAgainRow.holds Try.pinned (OpenSpec.ofChange threadAgainSpec)

/-- ITS FALSE NEIGHBOUR: 'it returns false'. Refute it at one input. -/
def threadAgainWrong : ChangeSpec := { name := "threadAgain", fn := fun _ => fun
  | [d1, d2] => { results := [.lit (.bool false)], args := [d1, d2] }
  | _ => none }
def ThreadAgainWrongFalsely : Prop := threadAgainRow.holds Try.pinned (OpenSpec.ofChange threadAgainWrong)

/-- 'dunnagelaw15.ThreadRoots': WHATEVER THE INPUT: true; the input reads as it did. -/
def threadRootsSpec : ChangeSpec := { name := "threadRoots", fn := fun _ => fun
  | [d1, d2, d3] => { results := [.lit (.bool true)], args := [d1, d2, d3] }
  | _ => none }
def threadRootsRow : OpenClaim := { program := "ytegefnchkgkmgaa", sum := "44c80eec58ae561d72a1adc2831c1c2705494dd0c402cd84191dc5a509a1e563", func := "dunnage/dunnagelaw15.ThreadRoots", spec := "threadRoots", unfollowed := true, recurses := true, apart := false }
def ThreadRootsSaid : Prop := threadRootsRow.holds Try.pinned (OpenSpec.ofChange threadRootsSpec)

/-- ITS FALSE NEIGHBOUR: 'it returns false'. Refute it at one input. -/
def threadRootsWrong : ChangeSpec := { name := "threadRoots", fn := fun _ => fun
  | [d1, d2, d3] => { results := [.lit (.bool false)], args := [d1, d2, d3] }
  | _ => none }
def ThreadRootsWrongFalsely : Prop := threadRootsRow.holds Try.pinned (OpenSpec.ofChange threadRootsWrong)

/-- 'dunnagelaw15.ThreadRings': WHATEVER THE INPUT: true; the input reads as it did. -/
def threadRingsSpec : ChangeSpec := { name := "threadRings", fn := fun _ => fun
  | [d1, d2, d3] => { results := [.lit (.bool true)], args := [d1, d2, d3] }
  | _ => none }
def threadRingsRow : OpenClaim := { program := "ytegefnchkgkmgaa", sum := "44c80eec58ae561d72a1adc2831c1c2705494dd0c402cd84191dc5a509a1e563", func := "dunnage/dunnagelaw15.ThreadRings", spec := "threadRings", unfollowed := true, recurses := true, apart := false }
def ThreadRingsSaid : Prop := threadRingsRow.holds Try.pinned (OpenSpec.ofChange threadRingsSpec)

/-- ITS FALSE NEIGHBOUR: 'it returns false'. Refute it at one input. -/
def threadRingsWrong : ChangeSpec := { name := "threadRings", fn := fun _ => fun
  | [d1, d2, d3] => { results := [.lit (.bool false)], args := [d1, d2, d3] }
  | _ => none }
def ThreadRingsWrongFalsely : Prop := threadRingsRow.holds Try.pinned (OpenSpec.ofChange threadRingsWrong)

/- THE SECOND FORM. 'bulk': how many values and letters a reading holds, each counted each time it is reached (what is shared counts as often as it is met; a slice's spare places count too). A statement '..UptoSaid' is the law's where the arguments, and the package variables that the reading takes, are together of bulk at most 1048576: NARROWER than '..Said'. Prove '..Said' where nothing that the law and all that it calls make is longer than what came in: it says more and counts as full. Else prove '..UptoSaid'. A law counts once. -/
mutual
def uptoBulk {H : Type} : DataW H → Nat
  | .lit (.string bytes) => bytes.length + 1
  | .lit _ => 1
  | .nil => 1
  | .ptr d => uptoBulk d + 1
  | .slice elems spare => uptoBulkAll elems + uptoBulkAll spare + 1
  | .agg parts => uptoBulkAll parts + 1
  | .iface _ d => uptoBulk d + 1
  | .map entries => uptoBulkEntries entries + 1
  | .held _ => 1
def uptoBulkAll {H : Type} : List (DataW H) → Nat
  | [] => 0
  | d :: r => uptoBulk d + uptoBulkAll r
def uptoBulkEntries {H : Type} : List (Lit × DataW H) → Nat
  | [] => 0
  | x :: r => uptoBulkEntry x + uptoBulkEntries r
def uptoBulkEntry {H : Type} : Lit × DataW H → Nat
  | (.string bytes, d) => bytes.length + uptoBulk d + 1
  | (_, d) => uptoBulk d + 1
 end
def uptoSmall : (H : Type) → List (DataW H) → Bool := fun _ ds => decide (uptoBulkAll ds ≤ 1048576)
def OpenSpec.upto (s : _root_.Go.ChangeSpec) : _root_.Go.OpenSpec := { _root_.Go.OpenSpec.ofChange s with cond := some uptoSmall }

/-- 'dunnagelaw15.ThreadCompacts', WHERE WHAT IT READS IS OF BULK AT MOST 1048576: true; the input reads as it did. -/
def threadCompactsUptoRow : OpenClaim := { program := "ytegefnchkgkmgaa", sum := "44c80eec58ae561d72a1adc2831c1c2705494dd0c402cd84191dc5a509a1e563", func := "dunnage/dunnagelaw15.ThreadCompacts", spec := "threadCompacts", unfollowed := true, recurses := true, apart := false, narrowed := true }
def ThreadCompactsUptoSaid : Prop := threadCompactsUptoRow.holds Try.pinned (OpenSpec.upto threadCompactsSpec)

/-- 'dunnagelaw15.ThreadFollows', WHERE WHAT IT READS IS OF BULK AT MOST 1048576: true; the input reads as it did. -/
def threadFollowsUptoRow : OpenClaim := { program := "ytegefnchkgkmgaa", sum := "44c80eec58ae561d72a1adc2831c1c2705494dd0c402cd84191dc5a509a1e563", func := "dunnage/dunnagelaw15.ThreadFollows", spec := "threadFollows", unfollowed := true, recurses := true, apart := false, narrowed := true }
def ThreadFollowsUptoSaid : Prop := threadFollowsUptoRow.holds Try.pinned (OpenSpec.upto threadFollowsSpec)

/-- 'dunnagelaw15.ThreadAlike', WHERE WHAT IT READS IS OF BULK AT MOST 1048576: true; the input reads as it did. -/
def threadAlikeUptoRow : OpenClaim := { program := "ytegefnchkgkmgaa", sum := "44c80eec58ae561d72a1adc2831c1c2705494dd0c402cd84191dc5a509a1e563", func := "dunnage/dunnagelaw15.ThreadAlike", spec := "threadAlike", unfollowed := true, recurses := true, apart := false, narrowed := true }
def ThreadAlikeUptoSaid : Prop := threadAlikeUptoRow.holds Try.pinned (OpenSpec.upto threadAlikeSpec)

/-- 'dunnagelaw15.ThreadAgain', WHERE WHAT IT READS IS OF BULK AT MOST 1048576: true; the input reads as it did. -/
def threadAgainUptoRow : OpenClaim := { program := "ytegefnchkgkmgaa", sum := "44c80eec58ae561d72a1adc2831c1c2705494dd0c402cd84191dc5a509a1e563", func := "dunnage/dunnagelaw15.ThreadAgain", spec := "threadAgain", unfollowed := true, recurses := true, apart := false, narrowed := true }
def ThreadAgainUptoSaid : Prop := threadAgainUptoRow.holds Try.pinned (OpenSpec.upto threadAgainSpec)

/-- 'dunnagelaw15.ThreadRoots', WHERE WHAT IT READS IS OF BULK AT MOST 1048576: true; the input reads as it did. -/
def threadRootsUptoRow : OpenClaim := { program := "ytegefnchkgkmgaa", sum := "44c80eec58ae561d72a1adc2831c1c2705494dd0c402cd84191dc5a509a1e563", func := "dunnage/dunnagelaw15.ThreadRoots", spec := "threadRoots", unfollowed := true, recurses := true, apart := false, narrowed := true }
def ThreadRootsUptoSaid : Prop := threadRootsUptoRow.holds Try.pinned (OpenSpec.upto threadRootsSpec)

/-- 'dunnagelaw15.ThreadRings', WHERE WHAT IT READS IS OF BULK AT MOST 1048576: true; the input reads as it did. -/
def threadRingsUptoRow : OpenClaim := { program := "ytegefnchkgkmgaa", sum := "44c80eec58ae561d72a1adc2831c1c2705494dd0c402cd84191dc5a509a1e563", func := "dunnage/dunnagelaw15.ThreadRings", spec := "threadRings", unfollowed := true, recurses := true, apart := false, narrowed := true }
def ThreadRingsUptoSaid : Prop := threadRingsUptoRow.holds Try.pinned (OpenSpec.upto threadRingsSpec)

end Rows
end Go.Proofs.Ytegefnchkgkmgaa
