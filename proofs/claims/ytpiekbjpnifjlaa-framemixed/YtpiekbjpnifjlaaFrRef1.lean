/- The document's own answers of layer 6: May, Count, Write, Frames. -/
import Derived.Test.YtpiekbjpnifjlaaFrList
import Derived.Test.YtpiekbjpnifjlaaSliceRow
import Derived.Test.YtpiekbjpnifjlaaRefRv
namespace Go.Proofs.Ytpiekbjpnifjlaa
open Go.RowKit

theorem Try.info25 : (Try.prog.info? 25).map (fun i => (i.zero, i.size, i.bytes)) = some (some (.agg #[.int .u64 0, .int .u64 0, .int .i64 0, .slice none 0 0]), 4, 48) := by kernel_rfl

set_option maxRecDepth 20000 in
theorem rmay_any (f : Fr) (s : Value) (w : World) (hs : Row w s f.data) :
    Calls Try.prog 28 #[fv f s] w fun e w' => e = .returned (.bool (mayF f)) ∧ Below w.heap.size w w' := by
  obtain ⟨q, c, l, rfl, hl⟩ := hs.shape
  unfold fv mayF
  rw [hl]
  clear hs hl
  generalize f.of = m
  by_cases h1 : 1 ≤ m
  · by_cases h2 : m ≤ 32
    · have e : (decide (1 ≤ m ∧ m ≤ 32 ∧ (l : Int) ≤ 440)) = decide ((l : Int) ≤ 440) := by simp [h1, h2]
      rw [e]
      go_enter Try.func28, Try.ntmps28
      go_wp2
      go_ret
      exact ⟨rfl, (Below.refl _ _).alloc (Nat.le_refl _) _⟩
    · have e : (decide (1 ≤ m ∧ m ≤ 32 ∧ (l : Int) ≤ 440)) = false := by simp [h2]
      rw [e]
      go_enter Try.func28, Try.ntmps28
      go_wp2
      go_ret
      exact ⟨rfl, (Below.refl _ _).alloc (Nat.le_refl _) _⟩
  · have e : (decide (1 ≤ m ∧ m ≤ 32 ∧ (l : Int) ≤ 440)) = false := by simp [h1]
    rw [e]
    go_enter Try.func28, Try.ntmps28
    go_wp2
    go_ret
    exact ⟨rfl, (Below.refl _ _).alloc (Nat.le_refl _) _⟩

set_option maxRecDepth 20000 in
theorem rcount_any (n : Int) (w : World) (h1 : -9223372036854775808 ≤ n) (h2 : n ≤ 9223372036854775807) :
    Calls Try.prog 17 #[.int .i64 n] w fun e w' => e = .returned (.int .i64 (countN n)) ∧ w' = w := by
  unfold countN
  by_cases h0 : n < 0
  · rw [if_pos h0]
    go_enter Try.func17, Try.ntmps17
    go_wp2
    go_ret
    exact ⟨rfl, rfl⟩
  · rw [if_neg h0]
    by_cases h3 : n = 0
    · subst h3
      rw [if_pos rfl]
      go_enter Try.func17, Try.ntmps17
      go_wp2
      go_ret
      exact ⟨rfl, rfl⟩
    · rw [if_neg h3]
      go_enter Try.func17, Try.ntmps17
      go_wp2
      go_ret
      exact ⟨rfl, rfl⟩

set_option maxRecDepth 20000 in
set_option maxHeartbeats 1000000 in
theorem rwrite_any (f : Fr) (s : Value) (w : World) (hok : f.ok) (hs : Row w s f.data) :
    Calls Try.prog 10 #[fv f s] w fun e w' => ∃ t, e = .returned (.tuple #[t, .int .i64 (writeE f)]) ∧ w'.ownsRow w.heap.size 5 1 t (writeB f).length ((writeB f).map B) ∧ Below w.heap.size w w' := by
  obtain ⟨i0, hi, hz0, hz1, hz2⟩ := info_parts Try.info5
  obtain ⟨p0, q0, l0, rfl, hl0⟩ := hs.shape
  clear hl0
  obtain ⟨W0, hW0⟩ : ∃ W0, W0 = w.alloc (.cells #[.int .u64 (f.age : Int), .int .u64 (f.first : Int), .int .i64 f.of, .slice p0 l0 q0] 25) := ⟨_, rfl⟩
  have hb0 : Below w.heap.size w W0 := by rw [hW0]; exact (Below.refl _ _).alloc (Nat.le_refl _) _
  have hc0 : At4 W0 w.heap.size 0 (.int .u64 (f.age : Int)) (.int .u64 (f.first : Int)) (.int .i64 f.of) (.slice p0 l0 q0) := by rw [hW0]; exact at4_new _ _ _ _ _ _
  have HM := hide (rmay_any f (.slice p0 l0 q0) W0 (hs.below hb0))
  have HW0 := hide hW0
  unfold writeE writeB
  cases hm : mayF f with
  | false =>
    rw [if_neg (by simp), if_neg (by simp)]
    rw [hm] at HM
    have HB0 := hide hb0
    obtain ⟨c0, c1, c2, c3⟩ := hc0
    clear hW0 hs hok hm hb0
    unfold fv at HM ⊢
    go_enter Try.func10, Try.ntmps10
    go_wp2_with fail
    rw [← unhide HW0]
    go_wp2_with fail
    refine Calls.mono (unhide HM) ?_
    rintro e w1 ⟨rfl, b1⟩
    go_wp2
    go_ret2
    exact ⟨_, rfl, World.ownsRow_nil _ _ _ _, (unhide HB0).trans (b1.mono (unhide HB0).size)⟩
  | true =>
    rw [if_pos rfl, if_pos rfl]
    rw [hm] at HM
    obtain ⟨m1, m2, m3⟩ := (may_iff f).1 hm
    obtain ⟨o1, o2, o3, o4, o5⟩ := hok
    obtain ⟨m, hmm⟩ := Int.eq_ofNat_of_zero_le (show 0 ≤ f.of by omega)
    have HV1 := hide (fun w => rvar_any f.age o1 w)
    have HV2 := hide (fun w => rvar_any f.first o2 w)
    have HV3 := hide (fun w => rvar_any m (by omega) w)
    have HBF : Hid (bytesF f = varF 9 f.age ++ varF 9 f.first ++ varF 9 m ++ f.data) := by unfold Hid bytesF; rw [hmm, Int.toNat_natCast]
    have L1 := (varF_len 9 f.age).2
    have L2 := (varF_len 9 f.first).2
    have L3 := (varF_len 9 m).2
    have HR := hide (fun w' (hb : Below w.heap.size w w') => hs.below hb)
    have HC := hide (fun w' (hb : Below W0.heap.size W0 w') => hc0.below hb)
    have HB0 := hide hb0
    have hmw : (m : Int) ≤ 9223372036854775807 := by omega
    unfold fv at HM ⊢
    rw [hmm] at HC hc0 HM HW0 ⊢
    obtain ⟨c0, c1, c2, c3⟩ := hc0
    clear hW0 hs hm hb0 m1 m2 o1 o2 o3 o4 o5
    generalize hA : f.age = A at *
    generalize hCC : f.first = C at *
    generalize hD : f.data = D at *
    have hBF := unhide HBF
    clear HBF
    generalize hX1 : varF 9 A = X1 at *
    generalize hX2 : varF 9 C = X2 at *
    generalize hX3 : varF 9 m = X3 at *
    have HBF := hide hBF
    clear hBF hX1 hX2 hX3 hA hCC hD
    go_enter Try.func10, Try.ntmps10
    go_wp2_with fail
    rw [← unhide HW0]
    go_wp2_with fail
    refine Calls.mono (unhide HM) ?_
    rintro e w1 ⟨rfl, b1⟩
    obtain ⟨c0, c1, c2, c3⟩ := unhide HC w1 b1
    have HB1 := hide b1
    have hszW := b1.size
    clear b1
    go_wp2_with fail
    refine Calls.mono (unhide HV1 _) ?_
    rintro e w2 ⟨t1, rfl, x1, b2⟩
    have B2 := (unhide HB1).trans (b2.mono hszW)
    obtain ⟨c0, c1, c2, c3⟩ := unhide HC w2 B2
    have HB2 := hide B2
    have hs2 := B2.size
    have x1' := owns_base x1 hszW
    clear b2 B2 HB1 x1
    go_wp2_with fail
    refine Calls.mono (unhide HV2 _) ?_
    rintro e w3 ⟨t2, rfl, x2, b3⟩
    have y1 := owns_below x1' b3
    have r2 := row_of_owns x2
    have B3 := (unhide HB2).trans (b3.mono hs2)
    have hs3 := B3.size
    have HB3 := hide B3
    clear x2 b3 B3 HB2 x1'
    go_wp2_with (at_builtin; refine wpList_append_row rfl _ _ 23 rfl W0.heap.size 5 i0 (.int .u8 0) Try.underlying23 hi hz0 hz1 hz2 rfl _ _ _ rfl y1 _ X2 rfl r2 (by omega) hs3 ?_)
    intro v4 w4 y4 g4
    have B4 : Below W0.heap.size W0 w4 := (unhide HB3).grown g4 hs3 (fun j hj => (y1.lt j hj).1)
    rw [← List.map_append, ← List.length_append] at y4
    obtain ⟨c0, c1, c2, c3⟩ := unhide HC w4 B4
    have hs4 := B4.size
    have HB4 := hide B4
    clear g4 y1 r2 HB3 B4
    have HV3' := hide (fun (x : Int) (hx : x = (m : Int)) w => (by rw [hx]; exact unhide HV3 w : Calls Try.prog 29 #[.int .u64 x] w fun e w' => ∃ s, e = .returned s ∧ w'.ownsRow w.heap.size 5 1 s X3.length (X3.map B) ∧ Below w.heap.size w w'))
    go_wp2_with fail
    refine Calls.mono (unhide HV3' _ (by first | rfl | (rw [IntKind.wrap_u64]; omega) | omega) _) ?_
    rintro e w5 ⟨t3, rfl, x3, b5⟩
    have y5 := owns_below y4 b5
    have r3 := row_of_owns x3
    have B5 := (unhide HB4).trans (b5.mono hs4)
    have hs5 := B5.size
    have HB5 := hide B5
    have hl12 : (X1 ++ X2).length ≤ 20 := by rw [List.length_append]; omega
    generalize X1 ++ X2 = X12 at *
    clear x3 b5 B5 HB4 y4
    go_wp2_with (at_builtin; refine wpList_append_row rfl _ _ 23 rfl W0.heap.size 5 i0 (.int .u8 0) Try.underlying23 hi hz0 hz1 hz2 rfl _ _ _ rfl y5 _ X3 rfl r3 (by omega) hs5 ?_)
    intro v6 w6 y6 g6
    have B6 : Below W0.heap.size W0 w6 := (unhide HB5).grown g6 hs5 (fun j hj => (y5.lt j hj).1)
    rw [← List.map_append, ← List.length_append] at y6
    have hl13 : (X12 ++ X3).length ≤ 30 := by rw [List.length_append]; omega
    generalize X12 ++ X3 = X13 at *
    obtain ⟨c0, c1, c2, c3⟩ := unhide HC w6 B6
    have hs6 := B6.size
    have BW6 : Below w.heap.size w w6 := (unhide HB0).trans (B6.mono (unhide HB0).size)
    have r4 := unhide HR w6 BW6
    have HB6 := hide BW6
    clear g6 y5 r3 HB5 B6 BW6
    go_wp2_with (at_builtin; refine wpList_append_row rfl _ _ 23 rfl W0.heap.size 5 i0 (.int .u8 0) Try.underlying23 hi hz0 hz1 hz2 rfl _ _ _ rfl y6 _ D rfl r4 (by omega) hs6 ?_)
    intro v7 w7 y7 g7
    have B7 : Below w.heap.size w w7 := (unhide HB6).grown g7 (unhide HB6).size (fun j hj => Nat.le_trans (unhide HB0).size (y6.lt j hj).1)
    rw [← List.map_append, ← List.length_append] at y7
    have Y7 := hide (owns_base y7 (unhide HB0).size)
    have HB7 := hide B7
    clear g7 y6 y7 B7 r4
    go_wp2
    go_ret2
    exact ⟨_, rfl, by rw [unhide HBF]; exact unhide Y7, unhide HB7⟩
end Go.Proofs.Ytpiekbjpnifjlaa
