/- What the reference of package crc does: power, Join. -/
import Derived.Test.YtndlnppgihhepaaCrcRef
namespace Go.Proofs.Ytndlnppgihhepaa
open Go.RowKit

end Go.Proofs.Ytndlnppgihhepaa
