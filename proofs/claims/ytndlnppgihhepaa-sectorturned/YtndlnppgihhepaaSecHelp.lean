/- What the verifier's 'Sector' does: whether two sectors say the same. -/
import Derived.Test.YtndlnppgihhepaaBytes
namespace Go.Proofs.Ytndlnppgihhepaa
open Go.RowKit

theorem sector_any (k1 k2 t1 t2 : Int) (s1 s2 : Value) (b1 b2 : List UInt8) (w : World) (h1 : Row w s1 b1) (h2 : Row w s2 b2) :
    Calls Try.prog 19 #[.agg #[.int .u8 k1, .int .u64 t1, s1], .agg #[.int .u8 k2, .int .u64 t2, s2]] w fun e w' => e = .returned (.bool (k1 == k2 && (t1 == t2 && b1 == b2))) ∧ Below w.heap.size w w' := by
  obtain ⟨p1, c1, l1, rfl, hl1⟩ := h1.shape
  obtain ⟨p2, c2, l2, rfl, hl2⟩ := h2.shape
  have bel : Below w.heap.size w ((w.alloc (.cells #[.int .u8 k1, .int .u64 t1, .slice p1 l1 c1] 35)).alloc (.cells #[.int .u8 k2, .int .u64 t2, .slice p2 l2 c2] 35)) := ((Below.refl _ _).alloc (Nat.le_refl _) _).alloc (by simp) _
  have HB := hide (bytes_any _ _ b1 b2 _ (h1.below bel) (h2.below bel))
  have BE := hide bel
  clear h1 h2 hl1 hl2 bel
  by_cases hk : k1 = k2
  · subst hk
    by_cases ht : t1 = t2
    · subst ht
      have HE : Hid ((k1 == k1 && (t1 == t1 && b1 == b2)) = (b1 == b2)) := by unfold Hid; simp
      go_enter Try.func19, Try.ntmps19
      go_wp2_with fail
      refine Calls.mono (unhide HB) ?_
      rintro e w1 ⟨rfl, rfl⟩
      go_wp2
      go_ret
      exact ⟨by rw [unhide HE]; rfl, unhide BE⟩
    · have HE : Hid ((k1 == k1 && (t1 == t2 && b1 == b2)) = false) := by unfold Hid; simp [ht]
      have hd : (t1 == t2) = false := by simp [ht]
      clear ht
      go_enter Try.func19, Try.ntmps19
      go_wp2
      go_ret
      exact ⟨by rw [unhide HE]; rfl, unhide BE⟩
  · have HE : Hid ((k1 == k2 && (t1 == t2 && b1 == b2)) = false) := by unfold Hid; simp [hk]
    have hd : (k1 == k2) = false := by simp [hk]
    clear hk
    go_enter Try.func19, Try.ntmps19
    go_wp2
    go_ret
    exact ⟨by rw [unhide HE]; rfl, unhide BE⟩
end Go.Proofs.Ytndlnppgihhepaa
