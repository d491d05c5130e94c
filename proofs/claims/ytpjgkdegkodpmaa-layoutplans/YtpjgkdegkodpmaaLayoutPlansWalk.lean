/- The walk of the law LayoutPlans, of the landed package layout. -/
import Derived.Test.YtpjgkdegkodpmaaLayoutPlansBy
import Derived.Test.YtpjgkdegkodpmaaLayOwn
import Derived.OpenShut
namespace Go.Proofs.Ytpjgkdegkodpmaa
open Go.RowKit

theorem walk_LayoutPlans (a0 : Int) (w0 : (Lit.int .i64 a0).wf = true) (a1 : Int) (w1 : (Lit.int .i64 a1).wf = true) (a2 : Int) (w2 : (Lit.int .u64 a2).wf = true) (w : World) :
    Calls Try.prog 3 #[.int .i64 a0, .int .i64 a1, .int .u64 a2] w fun e w' => e = .returned (.bool true) ∧ Below w.heap.size w w' := by
  have hb := bounds_u64 w2
  obtain ⟨t, rfl⟩ := Int.eq_ofNat_of_zero_le hb.1
  exact lplans_any layC a0 a1 t w (i64_of_wf w0) (i64_of_wf w1) (by omega)
end Go.Proofs.Ytpjgkdegkodpmaa
