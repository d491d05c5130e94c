/- What the reference of package layout does: Segment, Capacity, Phys, Logic, LogAt. -/
import Derived.Test.YtdpoiieblbmofaaLayRef
namespace Go.Proofs.Ytdpoiieblbmofaa
open Go.RowKit

theorem lay_below (n : Int) (w : World) : Below w.heap.size w (w.alloc (layO n)) := (Below.refl w.heap.size w).alloc (Nat.le_refl _) (layO n)

end Go.Proofs.Ytdpoiieblbmofaa
