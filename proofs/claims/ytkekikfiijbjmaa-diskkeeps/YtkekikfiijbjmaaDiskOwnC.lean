/- The landed package disk keeps the contracts that layer 4's statements ask for. -/
import Derived.Test.YtkekikfiijbjmaaDiskCon
import Derived.Test.YtkekikfiijbjmaaDiskOwn5
import Derived.Test.YtkekikfiijbjmaaDiskOwn6
import Derived.Test.YtkekikfiijbjmaaDiskOwn10
import Derived.Test.YtkekikfiijbjmaaDiskOwn12
namespace Go.Proofs.Ytkekikfiijbjmaa
open Go.RowKit

theorem diskC : DiskC DRep where
  lt := DRep.lt
  stays := DRep.stays
  ptr := DRep.ptr
  ok := DRep.ok
  newArg := onew_arg
  newOk := onew_ok
  write := fun F p s a bv b w h hb _ hw ht => owrite_any F p s a bv b w h hb hw ht
  read := fun F p s a w h _ => oread_any F p s a w h
  flush := oflush_any
  arm := oarm_any
  crash := ocrash_any
  start := ostart_any
  flip := oflip_any
  down := odown_any
  waiting := owaiting_any
  flips := oflips_any
  size := osize_any
  fork := ofork_any
end Go.Proofs.Ytkekikfiijbjmaa
