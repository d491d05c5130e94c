/- The walk of the law LayoutPlaces, of the landed package layout. -/
import Derived.Test.YtpjgkdegkodpmaaLayoutPlacesBy
import Derived.Test.YtpjgkdegkodpmaaLayOwn
namespace Go.Proofs.Ytpjgkdegkodpmaa
open Go.RowKit

theorem walk_LayoutPlaces (a0 : Int) (w0 : (Lit.int .i64 a0).wf = true) (a1 : Int) (w1 : (Lit.int .i64 a1).wf = true) (a2 : Int) (w2 : (Lit.int .i64 a2).wf = true) (w : World) :
    Calls Try.prog 4 #[.int .i64 a0, .int .i64 a1, .int .i64 a2] w fun e w' => e = .returned (.bool true) ∧ Below w.heap.size w w' := by
  exact lplaces_any layC a0 a1 a2 w (i64_of_wf w0) (i64_of_wf w1) (i64_of_wf w2)
end Go.Proofs.Ytpjgkdegkodpmaa
