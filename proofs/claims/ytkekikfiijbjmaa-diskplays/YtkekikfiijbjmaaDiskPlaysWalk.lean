/- The walk of the law DiskPlays, of the landed package disk. -/
import Derived.Test.YtkekikfiijbjmaaDiskPlaysBy
import Derived.Test.YtkekikfiijbjmaaDiskOps
import Derived.Test.YtkekikfiijbjmaaDiskOwnC
namespace Go.Proofs.Ytkekikfiijbjmaa
open Go.RowKit

theorem lim_said : ∀ n, limSaid n 1 → n ≤ 140737488351232 := fun n h => by
  unfold limSaid reachBytes at h
  omega

theorem walk_DiskPlays (a0 : Int) (_w0 : (Lit.int .i64 a0).wf = true) (s1 : Value) (d1 : Dt) (w : World) (h1 : Reads limSaid w opsSh [s1] d1) :
    Calls Try.prog 3 #[.int .i64 a0, s1] w fun e w' => e = .returned (.bool true) ∧ Below w.heap.size w w' := by
  obtain ⟨l, hl⟩ := ops_of_reads lim_said h1
  exact plays_any diskC a0 s1 l w hl
end Go.Proofs.Ytkekikfiijbjmaa
