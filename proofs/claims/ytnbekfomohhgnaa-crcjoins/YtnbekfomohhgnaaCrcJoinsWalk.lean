/- The walk of the law CrcJoins. -/
import Derived.Test.YtnbekfomohhgnaaCrcAwake
import Derived.OpenShut
namespace Go.Proofs.Ytnbekfomohhgnaa
open Go.RowKit

theorem joins_any (a b : Nat) (n : Int) (w : World) (ha : a < 4294967296) (hb : b < 4294967296) (hn : n ≤ 9223372036854775807) :
    Calls Try.prog 4 #[.int .u32 a, .int .u32 b, .int .i64 n] w fun e w' => e = .returned (.bool true) ∧ Below w.heap.size w w' := by
  go_enter Try.func4, Try.ntmps4
  go_wp2_with fail
  refine (awake_any w).mono ?_
  rintro e w2 ⟨rfl, hb2⟩
  go_wp2_with fail
  refine (join_any a b n w2 ha hb hn).mono ?_
  rintro e w3 ⟨rfl, rfl⟩
  go_wp2_with fail
  refine (rjoin_any a b n w3 ha hb hn).mono ?_
  rintro e w3 ⟨rfl, rfl⟩
  have he : (((joinS a b n : Nat) : Int) == (joinS a b n : Nat)) = true := by simp
  go_wp2
  go_ret
  exact ⟨rfl, hb2⟩

theorem walk_CrcJoins (a1 : Int) (w1 : (Lit.int .u32 a1).wf = true) (a2 : Int) (w2 : (Lit.int .u32 a2).wf = true) (a3 : Int) (w3 : (Lit.int .i64 a3).wf = true) (w : World) :
    Calls Try.prog 4 #[.int .u32 a1, .int .u32 a2, .int .i64 a3] w fun e w' => e = .returned (.bool true) ∧ Below w.heap.size w w' := by
  have hb1 := bounds_u32 w1
  have hb2 := bounds_u32 w2
  have hb3 := bounds_i64 w3
  obtain ⟨u, rfl⟩ := Int.eq_ofNat_of_zero_le hb1.1
  obtain ⟨v, rfl⟩ := Int.eq_ofNat_of_zero_le hb2.1
  exact joins_any u v a3 w (by omega) (by omega) hb3.2
end Go.Proofs.Ytnbekfomohhgnaa
