/- Texts of ours, one behind the other: BatRef1. -/
import Derived.Test.YtehnjanllemnlaaG8
import Derived.Test.YtehnjanllemnlaaG10
/- The reference of layer 10: which records may be. -/
namespace Go.Proofs.Ytehnjanllemnlaa
open Go.RowKit

set_option maxRecDepth 20000 in
set_option maxHeartbeats 1000000 in
theorem rmayref_any (s : Nat) (p n : Int) (w : World) : Calls Try.prog 23 #[.agg #[.int .u64 (s : Int), .int .i64 p, .int .i64 n]] w fun e w' => e = .returned (.bool (mayRef s p n)) ∧ Below w.heap.size w w' := by
  have HB := hide (fun o => (Below.refl w.heap.size w).alloc (Nat.le_refl _) o)
  go_enter Try.func23, Try.ntmps23
  go_wp2
  all_goals
    go_ret
    refine ⟨?_, unhide HB _⟩
    simp [mayRef]
    all_goals first
      | omega
      | (have h1 : 1 ≤ s := by omega
         simp [*] <;> omega)

end Go.Proofs.Ytehnjanllemnlaa
