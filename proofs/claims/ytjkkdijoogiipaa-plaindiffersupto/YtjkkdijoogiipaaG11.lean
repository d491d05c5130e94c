/- Texts of ours, one behind the other: Word. -/
import Derived.Test.YtjkkdijoogiipaaG7
import Derived.BigQuiet
/- What each function of package word does, as a contract a function: mayCount, hasRoom, the walk over bytes, Zero, Var, Put, Get; and that 'awake' answers true. -/
namespace Go.Proofs.Ytjkkdijoogiipaa
open Go.RowKit

end Go.Proofs.Ytjkkdijoogiipaa
