/- Texts of ours, one behind the other: Base. -/
import Derived.Test.YtlbhhdldeaehkaaG4
import Derived.Test.YtlbhhdldeaehkaaProg
/- Closed facts on the program's types. -/
namespace Go.Proofs.Ytlbhhdldeaehkaa

theorem Try.info5 : (Try.prog.info? 5).map (fun i => (i.zero, i.size, i.bytes)) = some (some (.int .u8 0), 1, 1) := by kernel_rfl
theorem Try.size5 : (Try.prog.info? 5).map (·.size) = some 1 := by kernel_rfl
end Go.Proofs.Ytlbhhdldeaehkaa
