/- Texts of ours, one behind the other: CelIter. -/
import Derived.Test.YtcjepiihknjeiaaG4
import Derived.Test.YtcjepiihknjeiaaG5
import Derived.Test.YtcjepiihknjeiaaG6
import Derived.Test.YtcjepiihknjeiaaG13
/- The landed package cells: the inner iterator over the objects of words. -/
namespace Go.Proofs.Ytcjepiihknjeiaa
open Go.RowKit Go.Shelf
attribute [local go_sem] Oper.semAt_some

abbrev Uw (ws : List Int) : List Value := ws.map (Value.int .u32)
/-- What is told of an object. -/
def encO (x : Nat × Int) : Array Value := #[.int .i64 (x.1 : Int), .int .u32 x.2]

end Go.Proofs.Ytcjepiihknjeiaa
