/- Texts of ours, one behind the other: KeysRef. -/
import Derived.Test.YtegefnchkgkmgaaG6
import Derived.BigQuiet
/- The reference of layer 9: Less, Within, Empty, Meet, Next, May, Prefix. -/
namespace Go.Proofs.Ytegefnchkgkmgaa
open Go.RowKit

abbrev KM : Nat := 140737488351232
/-- What May answers. -/
def kmay (a : ByteArray) : Bool := decide (1 ≤ a.size) && decide (a.size ≤ 64)
end Go.Proofs.Ytegefnchkgkmgaa
