/- Texts of ours, one behind the other: ShapeUp. -/
import Derived.Test.YtnoebpbachoniaaG10
/- Data that came in, of a bulk that is bounded. -/
namespace Go.Proofs.Ytnoebpbachoniaa
def limUpto (n _ : Nat) : Prop := n ≤ 1048576
end Go.Proofs.Ytnoebpbachoniaa
