/- The walk of the statement 'CellsHeads'. -/
import Derived.Test.YtnoebpbachoniaaG9
import Derived.OpenShut
namespace Go.Proofs.Ytnoebpbachoniaa
open Go.RowKit

set_option maxRecDepth 20000 in
set_option maxHeartbeats 2000000 in
theorem walk_CellsHeads (a0 : Int) (_h0 : (Lit.int .i64 a0).wf = true) (a1 : Int) (_h1 : (Lit.int .i64 a1).wf = true) (a2 : Int) (_h2 : (Lit.int .i64 a2).wf = true) (a3 : Int) (h3 : (Lit.int .u32 a3).wf = true) (w : World) :
    Calls Try.prog 3 #[.int .i64 a0, .int .i64 a1, .int .i64 a2, .int .u32 a3] w fun e w' => e = .returned (.bool true) ∧ Below w.heap.size w w' := by
  obtain ⟨u0, u1'⟩ := bounds_u32 h3
  have u1 : a3 < 4294967296 := by omega
  clear u1'
  clear h3
  have HAW := hide cawake_any
  by_cases hk : 0 ≤ a1 ∧ a1 ≤ 255 ∧ 0 ≤ a2 ∧ a2 ≤ 15 ∧ a1 < a0 ∧ a0 < 1048576
  · obtain ⟨k1, k2, k3, k4, k5, k6⟩ := hk
    have HC := hide (fun w => chead_t a0 a1 a2 w k1 k2 k3 k4 k5 k6)
    have HR := hide (fun w => rhead_t a0 a1 a2 w k1 k2 k3 k4 k5 k6)
    obtain ⟨x, hx⟩ : ∃ x, x = a0 * 4096 + a1 * 16 + a2 := ⟨_, rfl⟩
    rw [← hx] at HC HR
    have x0 : 0 ≤ x := by omega
    have x1 : x < 4294967296 := by omega
    have e1 : x / 4096 = a0 := by omega
    have e2 : x / 16 % 256 = a1 := by omega
    have e3 : x % 16 = a2 := by omega
    have HX1 := hide (fun w => csize_t x w x0 x1)
    have HX2 := hide (fun w => cptrs_t x w x0 x1)
    have HX3 := hide (fun w => ckind_t x w x0 x1)
    rw [e1] at HX1
    rw [e2] at HX2
    rw [e3] at HX3
    clear hx e1 e2 e3
    go_enter Try.func3, Try.ntmps3
    go_wp2_with fail
    refine Calls.mono (unhide HC w) ?_
    rintro e w1 ⟨rfl, rfl⟩
    go_wp2_with fail
    refine Calls.mono (unhide HR w1) ?_
    rintro e w2 ⟨rfl, rfl⟩
    go_wp2_with fail
    refine Calls.mono (unhide HAW w2) ?_
    rintro e w3 ⟨rfl, b3⟩
    have HB3 := hide b3
    clear b3
    go_wp2_with fail
    refine Calls.mono (csize_t a3 _ u0 u1) ?_
    rintro e w4 ⟨rfl, rfl⟩
    go_wp2_with fail
    refine Calls.mono (rsize_t a3 _ u0 u1) ?_
    rintro e w5 ⟨rfl, rfl⟩
    go_wp2_with fail
    refine Calls.mono (cptrs_t a3 _ u0 u1) ?_
    rintro e w6 ⟨rfl, rfl⟩
    go_wp2_with fail
    refine Calls.mono (rptrs_t a3 _ u0 u1) ?_
    rintro e w7 ⟨rfl, rfl⟩
    go_wp2_with fail
    refine Calls.mono (ckind_t a3 _ u0 u1) ?_
    rintro e w8 ⟨rfl, rfl⟩
    go_wp2_with fail
    refine Calls.mono (rkind_t a3 _ u0 u1) ?_
    rintro e w9 ⟨rfl, rfl⟩
    go_wp2_with fail
    refine Calls.mono (unhide HX1 _) ?_
    rintro e w10 ⟨rfl, rfl⟩
    go_wp2_with fail
    refine Calls.mono (unhide HX2 _) ?_
    rintro e w11 ⟨rfl, rfl⟩
    go_wp2_with fail
    refine Calls.mono (unhide HX3 _) ?_
    rintro e w12 ⟨rfl, rfl⟩
    go_wp2_with fail
    go_ret
    exact ⟨rfl, unhide HB3⟩
  · have HC := hide (fun w => chead_f a0 a1 a2 w hk)
    have HR := hide (fun w => rhead_f a0 a1 a2 w hk)
    clear hk
    go_enter Try.func3, Try.ntmps3
    go_wp2_with fail
    refine Calls.mono (unhide HC w) ?_
    rintro e w1 ⟨rfl, rfl⟩
    go_wp2_with fail
    refine Calls.mono (unhide HR w1) ?_
    rintro e w2 ⟨rfl, rfl⟩
    go_wp2_with fail
    refine Calls.mono (unhide HAW w2) ?_
    rintro e w3 ⟨rfl, b3⟩
    have HB3 := hide b3
    clear b3
    go_wp2_with fail
    refine Calls.mono (csize_t a3 _ u0 u1) ?_
    rintro e w4 ⟨rfl, rfl⟩
    go_wp2_with fail
    refine Calls.mono (rsize_t a3 _ u0 u1) ?_
    rintro e w5 ⟨rfl, rfl⟩
    go_wp2_with fail
    refine Calls.mono (cptrs_t a3 _ u0 u1) ?_
    rintro e w6 ⟨rfl, rfl⟩
    go_wp2_with fail
    refine Calls.mono (rptrs_t a3 _ u0 u1) ?_
    rintro e w7 ⟨rfl, rfl⟩
    go_wp2_with fail
    refine Calls.mono (ckind_t a3 _ u0 u1) ?_
    rintro e w8 ⟨rfl, rfl⟩
    go_wp2_with fail
    refine Calls.mono (rkind_t a3 _ u0 u1) ?_
    rintro e w9 ⟨rfl, rfl⟩
    go_wp2_with fail
    go_ret
    exact ⟨rfl, unhide HB3⟩
end Go.Proofs.Ytnoebpbachoniaa
