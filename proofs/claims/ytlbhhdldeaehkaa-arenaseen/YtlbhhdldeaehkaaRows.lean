/-
  No cell of these rows narrows 'for every input' (looked for: loops, veiled, ifaces, maps, wideKeys, modest, calm, conditions, laid).
  DERIVED. THE GIVEN ROWS OF THIS SEAT. 3 by the template 'for every input the law returns true; each argument reads behind the call as it read before'; 0 by the template 'total and deterministic' (their statements: YtlbhhdldeaehkaaTotals.lean).
  GIVEN WITH THE SEED: the statements are not yours to turn. If you find one false, say at which input.
  Laid BY PROGRAM, IN A SANDBOX (cutbox-rows.mjs): the forced cells as the released guide's own fill.sh prints them over the translation f42b62b95cf47929… (all of the seat's roots in one cut). By AI agents, Wed Nov 11 2026. No macro, syntax, notation, axiom, sorry.
-/
import Derived.Test.YtlbhhdldeaehkaaChecked
import GoSem.Claim
import GoSem.ClaimJoined
import GoSem.ClaimMapViews
import Derived.JoinedTies
import Derived.KernelRfl
namespace Go.Proofs.Ytlbhhdldeaehkaa
/- THE CELL 'sum', in the pinned program and in every row, IS THE sha256 OF THE DUMP (.gsa) THAT YtlbhhdldeaehkaaProg.lean LOADS. Nothing in Lean hashes anything: it is a label: what it is worth is what the hold of that sum in a sandbox is worth. -/
noncomputable def Try.pinned : Pinned := { name := "ytlbhhdldeaehkaa", sum := "f42b62b95cf47929fe910ce2f920fe8d656326aae2619dfac3f55fe294c03119", checked := Try.checked }
namespace Rows
def none {H : Type} : Left H := { results := [], args := [] }

/-- 'dunnagelaw16.ArenaPacks': WHATEVER THE INPUT: true; the input reads as it did. -/
def arenaPacksSpec : ChangeSpec := { name := "arenaPacks", fn := fun _ => fun
  | [d1, d2] => { results := [.lit (.bool true)], args := [d1, d2] }
  | _ => none }
def arenaPacksRow : OpenClaim := { program := "ytlbhhdldeaehkaa", sum := "f42b62b95cf47929fe910ce2f920fe8d656326aae2619dfac3f55fe294c03119", func := "dunnage/dunnagelaw16.ArenaPacks", spec := "arenaPacks", unfollowed := true, recurses := true, apart := false }
def ArenaPacksSaid : Prop := arenaPacksRow.holds Try.pinned (OpenSpec.ofChange arenaPacksSpec)

/-- ITS FALSE NEIGHBOUR: 'it returns false'. Refute it at one input. -/
def arenaPacksWrong : ChangeSpec := { name := "arenaPacks", fn := fun _ => fun
  | [d1, d2] => { results := [.lit (.bool false)], args := [d1, d2] }
  | _ => none }
def ArenaPacksWrongFalsely : Prop := arenaPacksRow.holds Try.pinned (OpenSpec.ofChange arenaPacksWrong)

/-- 'dunnagelaw16.ArenaSeen': WHATEVER THE INPUT: true; the input reads as it did. -/
def arenaSeenSpec : ChangeSpec := { name := "arenaSeen", fn := fun _ => fun
  | [d1, d2] => { results := [.lit (.bool true)], args := [d1, d2] }
  | _ => none }
def arenaSeenRow : OpenClaim := { program := "ytlbhhdldeaehkaa", sum := "f42b62b95cf47929fe910ce2f920fe8d656326aae2619dfac3f55fe294c03119", func := "dunnage/dunnagelaw16.ArenaSeen", spec := "arenaSeen", unfollowed := true, recurses := true, apart := false }
def ArenaSeenSaid : Prop := arenaSeenRow.holds Try.pinned (OpenSpec.ofChange arenaSeenSpec)

/-- ITS FALSE NEIGHBOUR: 'it returns false'. Refute it at one input. -/
def arenaSeenWrong : ChangeSpec := { name := "arenaSeen", fn := fun _ => fun
  | [d1, d2] => { results := [.lit (.bool false)], args := [d1, d2] }
  | _ => none }
def ArenaSeenWrongFalsely : Prop := arenaSeenRow.holds Try.pinned (OpenSpec.ofChange arenaSeenWrong)

/-- 'dunnagelaw16.ArenaNil': WHATEVER THE INPUT: true; the input reads as it did. -/
def arenaNilSpec : ChangeSpec := { name := "arenaNil", fn := fun _ => fun
  | [d1, d2, d3] => { results := [.lit (.bool true)], args := [d1, d2, d3] }
  | _ => none }
def arenaNilRow : OpenClaim := { program := "ytlbhhdldeaehkaa", sum := "f42b62b95cf47929fe910ce2f920fe8d656326aae2619dfac3f55fe294c03119", func := "dunnage/dunnagelaw16.ArenaNil", spec := "arenaNil", unfollowed := true, recurses := true, apart := false }
def ArenaNilSaid : Prop := arenaNilRow.holds Try.pinned (OpenSpec.ofChange arenaNilSpec)

/-- ITS FALSE NEIGHBOUR: 'it returns false'. Refute it at one input. -/
def arenaNilWrong : ChangeSpec := { name := "arenaNil", fn := fun _ => fun
  | [d1, d2, d3] => { results := [.lit (.bool false)], args := [d1, d2, d3] }
  | _ => none }
def ArenaNilWrongFalsely : Prop := arenaNilRow.holds Try.pinned (OpenSpec.ofChange arenaNilWrong)

/- THE SECOND FORM. 'bulk': how many values and letters a reading holds, each counted each time it is reached (what is shared counts as often as it is met; a slice's spare places count too). A statement '..UptoSaid' is the law's where the arguments, and the package variables that the reading takes, are together of bulk at most 1048576: NARROWER than '..Said'. Prove '..Said' where nothing that the law and all that it calls make is longer than what came in: it says more and counts as full. Else prove '..UptoSaid'. A law counts once. -/
mutual
def uptoBulk {H : Type} : DataW H → Nat
  | .lit (.string bytes) => bytes.length + 1
  | .lit _ => 1
  | .nil => 1
  | .ptr d => uptoBulk d + 1
  | .slice elems spare => uptoBulkAll elems + uptoBulkAll spare + 1
  | .agg parts => uptoBulkAll parts + 1
  | .iface _ d => uptoBulk d + 1
  | .map entries => uptoBulkEntries entries + 1
  | .held _ => 1
def uptoBulkAll {H : Type} : List (DataW H) → Nat
  | [] => 0
  | d :: r => uptoBulk d + uptoBulkAll r
def uptoBulkEntries {H : Type} : List (Lit × DataW H) → Nat
  | [] => 0
  | x :: r => uptoBulkEntry x + uptoBulkEntries r
def uptoBulkEntry {H : Type} : Lit × DataW H → Nat
  | (.string bytes, d) => bytes.length + uptoBulk d + 1
  | (_, d) => uptoBulk d + 1
 end
def uptoSmall : (H : Type) → List (DataW H) → Bool := fun _ ds => decide (uptoBulkAll ds ≤ 1048576)
def OpenSpec.upto (s : _root_.Go.ChangeSpec) : _root_.Go.OpenSpec := { _root_.Go.OpenSpec.ofChange s with cond := some uptoSmall }

/-- 'dunnagelaw16.ArenaPacks', WHERE WHAT IT READS IS OF BULK AT MOST 1048576: true; the input reads as it did. -/
def arenaPacksUptoRow : OpenClaim := { program := "ytlbhhdldeaehkaa", sum := "f42b62b95cf47929fe910ce2f920fe8d656326aae2619dfac3f55fe294c03119", func := "dunnage/dunnagelaw16.ArenaPacks", spec := "arenaPacks", unfollowed := true, recurses := true, apart := false, narrowed := true }
def ArenaPacksUptoSaid : Prop := arenaPacksUptoRow.holds Try.pinned (OpenSpec.upto arenaPacksSpec)

/-- 'dunnagelaw16.ArenaSeen', WHERE WHAT IT READS IS OF BULK AT MOST 1048576: true; the input reads as it did. -/
def arenaSeenUptoRow : OpenClaim := { program := "ytlbhhdldeaehkaa", sum := "f42b62b95cf47929fe910ce2f920fe8d656326aae2619dfac3f55fe294c03119", func := "dunnage/dunnagelaw16.ArenaSeen", spec := "arenaSeen", unfollowed := true, recurses := true, apart := false, narrowed := true }
def ArenaSeenUptoSaid : Prop := arenaSeenUptoRow.holds Try.pinned (OpenSpec.upto arenaSeenSpec)

/-- 'dunnagelaw16.ArenaNil', WHERE WHAT IT READS IS OF BULK AT MOST 1048576: true; the input reads as it did. -/
def arenaNilUptoRow : OpenClaim := { program := "ytlbhhdldeaehkaa", sum := "f42b62b95cf47929fe910ce2f920fe8d656326aae2619dfac3f55fe294c03119", func := "dunnage/dunnagelaw16.ArenaNil", spec := "arenaNil", unfollowed := true, recurses := true, apart := false, narrowed := true }
def ArenaNilUptoSaid : Prop := arenaNilUptoRow.holds Try.pinned (OpenSpec.upto arenaNilSpec)

end Rows
end Go.Proofs.Ytlbhhdldeaehkaa
