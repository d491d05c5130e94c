/- The walk of the law DiskSubset, of the landed package disk. -/
import Derived.Test.YtkekikfiijbjmabDiskSubsetBy
import Derived.Test.YtkekikfiijbjmabDiskOps
import Derived.Test.YtkekikfiijbjmabDiskOwnB
namespace Go.Proofs.Ytkekikfiijbjmab
open Go.RowKit

theorem lim_said : ∀ n, limSaid n 1 → n ≤ 140737488351232 := fun n h => by
  unfold limSaid reachBytes at h
  omega

theorem walk_DiskSubset (s0 : Value) (d0 : Dt) (s1 : Value) (d1 : Dt) (s2 : Value) (d2 : Dt) (w : World) (h0 : Reads limSaid w opsSh [s0] d0) (h1 : Reads limSaid w opsSh [s1] d1) (h2 : Reads limSaid w boolsSh [s2] d2) :
    Calls Try.prog 3 #[s0, s1, s2] w fun e w' => e = .returned (.bool true) ∧ Below w.heap.size w w' := by
  obtain ⟨l, hl⟩ := ops_of_reads lim_said h0
  obtain ⟨m, hm⟩ := ops_of_reads lim_said h1
  obtain ⟨ks, hk, _⟩ := brow_of_reads lim_said h2
  exact subset_any diskC s0 s1 s2 l m ks w hl hm hk
end Go.Proofs.Ytkekikfiijbjmab
