/- The walk of the law DiskArmed, of the landed package disk. -/
import Derived.Test.YtkekikfiijbjmaaDiskArmedBy
import Derived.Test.YtkekikfiijbjmaaDiskOps
import Derived.Test.YtkekikfiijbjmaaDiskOwnC
namespace Go.Proofs.Ytkekikfiijbjmaa
open Go.RowKit

theorem lim_said : ∀ n, limSaid n 1 → n ≤ 140737488351232 := fun n h => by
  unfold limSaid reachBytes at h
  omega

theorem walk_DiskArmed (a0 : Int) (_w0 : (Lit.int .i64 a0).wf = true) (s1 : Value) (d1 : Dt) (w : World) (h1 : Reads limSaid w boolsSh [s1] d1) :
    Calls Try.prog 8 #[.int .i64 a0, s1] w fun e w' => e = .returned (.bool true) ∧ Below w.heap.size w w' := by
  obtain ⟨ks, hk, hl⟩ := brow_of_reads lim_said h1
  exact armed_any diskC a0 s1 ks w hk
end Go.Proofs.Ytkekikfiijbjmaa
