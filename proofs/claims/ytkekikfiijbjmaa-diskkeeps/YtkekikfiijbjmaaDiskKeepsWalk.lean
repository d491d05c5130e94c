/- The walk of the law DiskKeeps, of the landed package disk. -/
import Derived.Test.YtkekikfiijbjmaaDiskKeepsBy
import Derived.Test.YtkekikfiijbjmaaDiskOps
import Derived.Test.YtkekikfiijbjmaaDiskOwnC
namespace Go.Proofs.Ytkekikfiijbjmaa
open Go.RowKit

theorem lim_said : ∀ n, limSaid n 1 → n ≤ 140737488351232 := fun n h => by
  unfold limSaid reachBytes at h
  omega

theorem walk_DiskKeeps (s0 : Value) (d0 : Dt) (s1 : Value) (d1 : Dt) (s2 : Value) (d2 : Dt) (w : World) (h0 : Reads limSaid w opsSh [s0] d0) (h1 : Reads limSaid w opsSh [s1] d1) (h2 : Reads limSaid w boolsSh [s2] d2) :
    Calls Try.prog 4 #[s0, s1, s2] w fun e w' => e = .returned (.bool true) ∧ Below w.heap.size w w' := by
  obtain ⟨l, hl⟩ := ops_of_reads lim_said h0
  obtain ⟨m, hm⟩ := ops_of_reads lim_said h1
  obtain ⟨ks, hk, _⟩ := brow_of_reads lim_said h2
  exact keeps_any diskC s0 s1 s2 l m ks w hl hm hk
end Go.Proofs.Ytkekikfiijbjmaa
