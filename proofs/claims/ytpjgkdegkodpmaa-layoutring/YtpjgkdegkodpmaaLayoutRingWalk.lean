/- The walk of the law LayoutRing, of the landed package layout. -/
import Derived.Test.YtpjgkdegkodpmaaLayoutRingBy
import Derived.Test.YtpjgkdegkodpmaaLayOwn
import Derived.OpenShut
namespace Go.Proofs.Ytpjgkdegkodpmaa
open Go.RowKit

theorem walk_LayoutRing (a0 : Int) (w0 : (Lit.int .i64 a0).wf = true) (a1 : Int) (w1 : (Lit.int .u64 a1).wf = true) (w : World) :
    Calls Try.prog 6 #[.int .i64 a0, .int .u64 a1] w fun e w' => e = .returned (.bool true) ∧ Below w.heap.size w w' := by
  have hb := bounds_u64 w1
  obtain ⟨t, rfl⟩ := Int.eq_ofNat_of_zero_le hb.1
  exact lring_any layC a0 t w (i64_of_wf w0) (by omega)
end Go.Proofs.Ytpjgkdegkodpmaa
