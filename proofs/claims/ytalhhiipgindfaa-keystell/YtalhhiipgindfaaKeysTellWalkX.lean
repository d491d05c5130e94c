/- The walk of the law KeysTell, of the landed package keys. -/
import Derived.Test.YtalhhiipgindfaaG3
namespace Go.Proofs.Ytalhhiipgindfaa
open Go.RowKit

set_option maxHeartbeats 2000000 in
theorem walk_KeysTell (a0 : ByteArray) (a1 : ByteArray) (a2 : ByteArray) (a3 : ByteArray) (w : World) (h0 : a0.size ≤ 140737488351232) (_h1 : a1.size ≤ 140737488351232) (h2 : a2.size ≤ 140737488351232) (h3 : a3.size ≤ 140737488351232) :
    Calls Try.prog 3 #[.string a0, .string a1, .string a2, .string a3] w fun e w' => e = .returned (.bool true) ∧ Below w.heap.size w w' := by
  obtain ⟨x, y, k, hv⟩ : ∃ (x y : ByteArray) (k : Bool), meetV a0 a1 a2 a3 = .tuple #[.string x, .string y, .bool k] := by
    unfold meetV
    split
    · exact ⟨_, _, _, rfl⟩
    · exact ⟨_, _, _, rfl⟩
  go_enter Try.func3, Try.ntmps3
  go_wp2_with fail
  refine Calls.mono (kmeet_any a0 a1 a2 a3 w) ?_
  rintro e w1 ⟨rfl, rfl⟩
  rw [hv]
  go_wp2_with fail
  refine Calls.mono (rmeet_any a0 a1 a2 a3 w1 h0 h2 h3) ?_
  rintro e w2 ⟨rfl, b2⟩
  rw [hv]
  clear hv
  go_wp2_with fail
  refine Calls.mono (kprefix_any a0 w2 h0) ?_
  rintro e w3 ⟨p, rfl, hp, b3⟩
  have B3 := b2.trans (b3.mono b2.size)
  clear b2 b3
  go_wp2_with fail
  refine Calls.mono (rprefix_any a0 w3 h0) ?_
  rintro e w4 ⟨q, rfl, hq, b4⟩
  obtain rfl : q = p := bl_inj (hq.trans hp.symm)
  have B4 := B3.trans (b4.mono B3.size)
  clear B3 b4 hp hq
  go_wp2_with fail
  refine Calls.mono (kawake_any w4) ?_
  rintro e w5 ⟨rfl, rfl⟩
  go_wp2_with fail
  refine Calls.mono (kmay_any a0 w5) ?_
  rintro e w6 ⟨rfl, rfl⟩
  go_wp2_with fail
  refine Calls.mono (rmay_any a0 w6) ?_
  rintro e w7 ⟨rfl, rfl⟩
  generalize kmay a0 = z1
  go_wp2_with fail
  refine Calls.mono (kless_any a0 a1 w7) ?_
  rintro e w8 ⟨rfl, rfl⟩
  go_wp2_with fail
  refine Calls.mono (rless_any a0 a1 w8 h0) ?_
  rintro e w9 ⟨rfl, b9⟩
  have B9 := B4.trans (b9.mono B4.size)
  clear B4 b9
  generalize tl a0.toList a1.toList = z2
  go_wp2_with fail
  refine Calls.mono (kwithin_any a0 a1 a2 w9) ?_
  rintro e w10 ⟨rfl, rfl⟩
  go_wp2_with fail
  refine Calls.mono (rwithin_any a0 a1 a2 w10 h2) ?_
  rintro e w11 ⟨rfl, b11⟩
  have B11 := B9.trans (b11.mono B9.size)
  clear B9 b11
  generalize wi a0.toList a1.toList a2.toList = z3
  go_wp2_with fail
  refine Calls.mono (kempty_any a0 a1 w11) ?_
  rintro e w12 ⟨rfl, rfl⟩
  go_wp2_with fail
  refine Calls.mono (rempty_any a0 a1 w12 h0) ?_
  rintro e w13 ⟨rfl, b13⟩
  have B13 := B11.trans (b13.mono B11.size)
  clear B11 b13
  generalize em a0.toList a1.toList = z4
  go_wp2_with fail
  refine Calls.mono (knext_any a0 w13 h0) ?_
  rintro e w14 ⟨rfl, rfl⟩
  go_wp2_with fail
  refine Calls.mono (rnext_any a0 w14 h0) ?_
  rintro e w15 ⟨rfl, rfl⟩
  generalize a0 ++ ⟨#[0]⟩ = z5
  go_wp2
  go_ret
  exact ⟨by simp, B13⟩
end Go.Proofs.Ytalhhiipgindfaa
