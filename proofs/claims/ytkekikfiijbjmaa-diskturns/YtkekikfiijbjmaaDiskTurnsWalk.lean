/- The walk of the law DiskTurns, of the landed package disk. -/
import Derived.Test.YtkekikfiijbjmaaDiskTurnsBy
import Derived.Test.YtkekikfiijbjmaaDiskOps
import Derived.Test.YtkekikfiijbjmaaDiskOwnC
namespace Go.Proofs.Ytkekikfiijbjmaa
open Go.RowKit

theorem lim_said : ∀ n, limSaid n 1 → n ≤ 140737488351232 := fun n h => by
  unfold limSaid reachBytes at h
  omega

theorem walk_DiskTurns (s0 : Value) (d0 : Dt) (a1 : Int) (_w1 : (Lit.int .i64 a1).wf = true) (a2 : Int) (_w2 : (Lit.int .i64 a2).wf = true) (w : World) (h0 : Reads limSaid w opsSh [s0] d0) :
    Calls Try.prog 6 #[s0, .int .i64 a1, .int .i64 a2] w fun e w' => e = .returned (.bool true) ∧ Below w.heap.size w w' := by
  obtain ⟨l, hl⟩ := ops_of_reads lim_said h0
  exact turns_any diskC s0 l a1 a2 w hl
end Go.Proofs.Ytkekikfiijbjmaa
