/- The walk of the law CrcSums. -/
import Derived.Test.YtnbekfomohhgnaaCrcAwake
import Derived.Test.YtnbekfomohhgnaaHelp
import Derived.OpenShut
namespace Go.Proofs.Ytnbekfomohhgnaa
open Go.RowKit

set_option maxHeartbeats 1000000 in
theorem sums_any (s : Value) (bs : List UInt8) (v : Nat) (w : World) (hs : Row w s bs) (hroom : bs.length ≤ 140737488351232) (hv : v < 4294967296) :
    Calls Try.prog 3 #[s, .int .u32 v] w fun e w' => e = .returned (.bool true) ∧ Below w.heap.size w w' := by
  go_enter Try.func3, Try.ntmps3
  go_wp2_with fail
  refine (own_any s bs 71 71 rfl w hs hroom).mono ?_
  rintro e w1 ⟨g, rfl, hg, ho1, hb1⟩
  have hs1 := hs.below hb1
  clear hs
  go_wp2_with fail
  refine (awake_any w1).mono ?_
  rintro e w2 ⟨rfl, hb2⟩
  have ho2 := ho1.below hb2
  have hs2 := hs1.below hb2
  have B2 : Below w.heap.size w w2 := hb1.trans (hb2.mono hb1.size)
  clear ho1 hs1
  go_wp2_with fail
  refine (sum_any _ bs w2 (ho2.row (by unfold maxLen; omega)) hroom).mono ?_
  rintro e w3 ⟨rfl, hb3⟩
  have ho3 := ho2.below hb3
  have hs3 := hs2.below hb3
  have B3 : Below w.heap.size w w3 := B2.trans (hb3.mono B2.size)
  clear ho2 hs2
  go_wp2_with fail
  refine (rsum_any s bs w3 hs3 hroom).mono ?_
  rintro e w3 ⟨rfl, rfl⟩
  have he : (((more 0 bs : Nat) : Int) == (more 0 bs : Nat)) = true := by simp
  go_wp2_with fail
  refine (more_any v _ bs w3 (ho3.row (by unfold maxLen; omega)) hv hroom).mono ?_
  rintro e w4 ⟨rfl, hb4⟩
  have ho4 := ho3.below hb4
  have hs4 := hs3.below hb4
  have B4 : Below w.heap.size w w4 := B3.trans (hb4.mono B3.size)
  clear ho3 hs3
  go_wp2_with fail
  refine (rmore_any v s bs w4 hs4 hv hroom).mono ?_
  rintro e w4 ⟨rfl, rfl⟩
  have hf : (((more v bs : Nat) : Int) == (more v bs : Nat)) = true := by simp
  go_wp2_with fail
  refine (kept_any g s bs 71 71 rfl w4 ho4 hs4 hroom).mono ?_
  rintro e w5 ⟨rfl, hb5⟩
  go_wp2
  go_ret
  exact ⟨rfl, B4.trans (hb5.mono B4.size)⟩

theorem walk_CrcSums (s : Value) (bs : List UInt8) (a1 : Int) (w1 : (Lit.int .u32 a1).wf = true) (w : World) (hs : Row w s bs) (hroom : bs.length ≤ 140737488351232) :
    Calls Try.prog 3 #[s, .int .u32 a1] w fun e w' => e = .returned (.bool true) ∧ Below w.heap.size w w' := by
  have hb1 := bounds_u32 w1
  obtain ⟨v, rfl⟩ := Int.eq_ofNat_of_zero_le hb1.1
  exact sums_any s bs v w hs hroom (by omega)
end Go.Proofs.Ytnbekfomohhgnaa
