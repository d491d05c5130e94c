/- Texts of ours, one behind the other: ShapeUp. -/
import Derived.Test.YtehnjanllemnlaaG3
/- Data that came in, of a bulk that is bounded. -/
namespace Go.Proofs.Ytehnjanllemnlaa
def limUpto (n _ : Nat) : Prop := n ≤ 1048576
end Go.Proofs.Ytehnjanllemnlaa
