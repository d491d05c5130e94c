/- One call of a script, as data. -/
import Derived.Test.YtkekikfiijbjmaaDiskFull
namespace Go.Proofs.Ytkekikfiijbjmaa
open Go.RowKit

/-- One call of a script. -/
structure OpD where
  kind : Int
  at_ : Int
  n : Int
  v : UInt8
  short : Bool
  keep : List Bool

/-- What becomes of a device by one call. -/
def OpD.on (o : OpD) (s : DK) : DK :=
  if o.kind = 1 then s else if o.kind = 2 then s.flush else if o.kind = 3 then s.arm o.n else if o.kind = 4 then s.crash o.keep else if o.kind = 5 then s.start else if o.kind = 6 then s.flip o.at_ o.n else s.write o.at_ (fullS o.v o.short)

theorem not_in {F : Nat → Prop} {w : World} (h : ∀ k, F k → k < w.heap.size) : ¬ F w.heap.size := fun hf => by have := h _ hf; omega

end Go.Proofs.Ytkekikfiijbjmaa
