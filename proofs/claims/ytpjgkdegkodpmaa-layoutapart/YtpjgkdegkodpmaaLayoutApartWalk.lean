/- The walk of the law LayoutApart, of the landed package layout. -/
import Derived.Test.YtpjgkdegkodpmaaLayoutApartBy
import Derived.Test.YtpjgkdegkodpmaaLayOwn
namespace Go.Proofs.Ytpjgkdegkodpmaa
open Go.RowKit

theorem walk_LayoutApart (a0 : Int) (w0 : (Lit.int .i64 a0).wf = true) (w : World) :
    Calls Try.prog 5 #[.int .i64 a0] w fun e w' => e = .returned (.bool true) ∧ Below w.heap.size w w' := by
  exact lapart_any layC a0 w (i64_of_wf w0)
end Go.Proofs.Ytpjgkdegkodpmaa
