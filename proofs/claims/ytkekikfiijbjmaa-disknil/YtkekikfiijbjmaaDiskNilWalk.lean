/- The walk of the law DiskNil, of the landed package disk. -/
import Derived.Test.YtkekikfiijbjmaaDiskNilBy
import Derived.Test.YtkekikfiijbjmaaDiskOps
import Derived.Test.YtkekikfiijbjmaaDiskOwnC
import Derived.Test.YtkekikfiijbjmaaDiskOwnNil
namespace Go.Proofs.Ytkekikfiijbjmaa
open Go.RowKit

theorem lim_said : ∀ n, limSaid n 1 → n ≤ 140737488351232 := fun n h => by
  unfold limSaid reachBytes at h
  omega

theorem walk_DiskNil (a0 : Int) (_w0 : (Lit.int .i64 a0).wf = true) (a1 : Int) (_w1 : (Lit.int .i64 a1).wf = true) (s2 : Value) (b2 : List UInt8) (s3 : Value) (d3 : Dt) (w : World) (h2 : Row w s2 b2) (_r2 : b2.length ≤ 140737488351232) (h3 : Reads limSaid w boolsSh [s3] d3) :
    Calls Try.prog 7 #[.int .i64 a0, .int .i64 a1, s2, s3] w fun e w' => e = .returned (.bool true) ∧ Below w.heap.size w w' := by
  obtain ⟨ks, hk, hl⟩ := brow_of_reads lim_said h3
  obtain ⟨kq, kc, rfl, _, _⟩ := hk.shape
  obtain ⟨bq, bc, l, rfl, _⟩ := h2.shape
  exact nil_any diskC diskNilC a0 a1 _ _ _ _ _ _ w
end Go.Proofs.Ytkekikfiijbjmaa
