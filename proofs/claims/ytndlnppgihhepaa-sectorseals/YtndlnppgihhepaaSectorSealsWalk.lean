/- The walk of the law SectorSeals, by the contracts of package sector. -/
import Derived.Test.YtndlnppgihhepaaSecLaws
import Derived.Test.YtndlnppgihhepaaSecSeal
import Derived.Test.YtndlnppgihhepaaHelp
import Derived.Test.YtndlnppgihhepaaBytes
import Derived.OpenShut
namespace Go.Proofs.Ytndlnppgihhepaa
open Go.RowKit

set_option maxHeartbeats 1000000 in
theorem seals_any (cs : SealC) (ck : KnownC) (k : UInt8) (turn : Nat) (s : Value) (p : List UInt8) (w : World) (hs : Row w s p) (ht : turn < 18446744073709551616) (hroom : p.length ≤ 140737488351232) :
    Calls Try.prog 3 #[.int .u8 (k.toNat : Int), .int .u64 turn, s] w fun e w' => e = .returned (.bool true) ∧ Below w.heap.size w w' := by
  have HS := hide hs
  go_enter Try.func3, Try.ntmps3
  go_wp2_with fail
  refine (own_any s p 71 71 rfl w hs hroom).mono ?_
  rintro e w1 ⟨g, rfl, hg, ho1, hb1⟩
  have hg1 : g < w1.heap.size := ho1.lt
  clear hs
  go_wp2_with fail
  refine Calls.mono (cs k turn _ p w1 ht hroom (ho1.row (by unfold maxLen; omega))) ?_
  rintro e w2 ⟨t, rfl, hm2, hb2⟩
  have ho2 := ho1.below hb2
  have B2 : Below w.heap.size w w2 := hb1.trans (hb2.mono hb1.size)
  clear ho1
  go_wp2_with fail
  refine (rseal_any k turn s p w2 ((unhide HS).below B2)).mono ?_
  rintro e w3 ⟨u, rfl, hown3, hb3⟩
  have ho3 := ho2.below hb3
  have hm3 := hm2.below hb3
  have hu3 := row_of_owns hown3
  have B3 : Below w.heap.size w w3 := B2.trans (hb3.mono B2.size)
  clear ho2 hm2 hown3
  go_wp2_with fail
  refine (awake_any cs ck w3).mono ?_
  rintro e w4 ⟨rfl, hb4⟩
  have ho4 := ho3.below hb4
  have hm4 := hm3.below hb4
  have hu4 := hu3.below hb4
  have B4 : Below w.heap.size w w4 := B3.trans (hb4.mono B3.size)
  clear ho3 hm3 hu3
  go_wp2_with fail
  refine Calls.mono (ck k w4) ?_
  rintro e w5 ⟨rfl, hb5⟩
  have ho5 := ho4.below hb5
  have hm5 := hm4.below hb5
  have hu5 := hu4.below hb5
  have B5 : Below w.heap.size w w5 := B4.trans (hb5.mono B4.size)
  clear ho4 hm4 hu4
  go_wp2_with fail
  refine (rknown_any k w5).mono ?_
  rintro e w5 ⟨rfl, rfl⟩
  have hkk : (!(knownB k == knownB k)) = false := by simp
  have hkk2 : (knownB k != knownB k) = false := by simp
  go_wp2_with fail
  refine (bytes_any _ _ _ _ w5 hm5.row hu5).mono ?_
  rintro e w5 ⟨rfl, rfl⟩
  rw [show (sealB k turn p == sealB k turn p) = true by simp]
  have hE : (sealE k p != sealE k p) = false := by simp
  clear hu5 hkk hkk2
  go_wp2_with fail
  refine (spoil_mine t _ w1.heap.size w5 hm5).mono ?_
  rintro e w6 ⟨rfl, hb6⟩
  have ho6 := ho5.below' hb6 hg1
  have B6 : Below w.heap.size w w6 := B5.trans (hb6.mono hb1.size)
  clear ho5 hm5
  go_wp2_with fail
  refine (kept_any g s p 71 71 rfl w6 ho6 ((unhide HS).below B6) hroom).mono ?_
  rintro e w7 ⟨rfl, hb7⟩
  go_wp2
  go_ret
  exact ⟨rfl, B6.trans (hb7.mono B6.size)⟩

theorem walk_SectorSeals (a0 : Int) (w0 : (Lit.int .u8 a0).wf = true) (a1 : Int) (w1 : (Lit.int .u64 a1).wf = true) (s : Value) (p : List UInt8) (w : World) (hs : Row w s p) (hroom : p.length ≤ 140737488351232) :
    Calls Try.prog 3 #[.int .u8 a0, .int .u64 a1, s] w fun e w' => e = .returned (.bool true) ∧ Below w.heap.size w w' := by
  obtain ⟨k0, rfl⟩ := byte_of w0
  have hb1 := bounds_u64 w1
  obtain ⟨t1, rfl⟩ := Int.eq_ofNat_of_zero_le hb1.1
  exact seals_any sealC knownC k0 t1 s p w hs (by omega) hroom
end Go.Proofs.Ytndlnppgihhepaa
