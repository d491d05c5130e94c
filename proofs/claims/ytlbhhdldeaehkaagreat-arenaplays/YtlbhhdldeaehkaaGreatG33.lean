/- Texts of ours, one behind the other: Base. -/
import Derived.Test.YtlbhhdldeaehkaaGreatG4
import Derived.Test.YtlbhhdldeaehkaaGreatProg
/- Closed facts on the program's types. -/
namespace Go.Proofs.YtlbhhdldeaehkaaGreat

theorem Tryz.info5 : (Tryz.prog.info? 5).map (fun i => (i.zero, i.size, i.bytes)) = some (some (.int .u8 0), 1, 1) := by kernel_rfl
theorem Tryz.size5 : (Tryz.prog.info? 5).map (·.size) = some 1 := by kernel_rfl
end Go.Proofs.YtlbhhdldeaehkaaGreat
