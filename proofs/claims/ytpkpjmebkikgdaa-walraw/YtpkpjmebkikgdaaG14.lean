/- Texts of ours, one behind the other: FrHelp. -/
import Derived.Test.YtpkpjmebkikgdaaG5
import Derived.Test.YtpkpjmebkikgdaaG10
import Derived.Test.YtpkpjmebkikgdaaG11
import Derived.BigQuiet
import Derived.WalkSmall
/- What the verifier's helpers do with frames and with lists of texts: Frame, Lists. -/
namespace Go.Proofs.Ytpkpjmebkikgdaa
open Go.RowKit

theorem eq_fr (a b : Fr) : a = b ↔ a.age = b.age ∧ a.first = b.first ∧ a.of = b.of ∧ a.data = b.data := by
  cases a; cases b; simp

set_option maxRecDepth 20000 in
set_option maxHeartbeats 1000000 in
theorem hframe_any (a b : Fr) (s t : Value) (w : World) (hs : Row w s a.data) (ht : Row w t b.data) :
    Calls Try.prog 47 #[fv a s, fv b t] w fun e w' => e = .returned (.bool (decide (a = b))) ∧ Below w.heap.size w w' := by
  obtain ⟨p1, l1, c1, e1⟩ := slice_of_row hs
  obtain ⟨p2, l2, c2, e2⟩ := slice_of_row ht
  subst e1 e2
  rw [show decide (a = b) = decide (a.age = b.age ∧ a.first = b.first ∧ a.of = b.of ∧ a.data = b.data) from decide_eq_decide.2 (eq_fr a b)]
  unfold fv
  obtain ⟨a1, a2, a3, a4⟩ := a
  obtain ⟨b1, b2, b3, b4⟩ := b
  simp only at hs ht ⊢
  obtain ⟨W, hW⟩ : ∃ W, W = (w.alloc (.cells #[.int .u64 (a1 : Int), .int .u64 (a2 : Int), .int .i64 a3, .slice p1 l1 c1] 72)).alloc (.cells #[.int .u64 (b1 : Int), .int .u64 (b2 : Int), .int .i64 b3, .slice p2 l2 c2] 72) := ⟨_, rfl⟩
  have hb : Below w.heap.size w W := by rw [hW]; exact ((Below.refl _ _).alloc (Nat.le_refl _) _).alloc (by simp) _
  have HBY := hide (bytes_any (.slice p1 l1 c1) (.slice p2 l2 c2) a4 b4 W (hs.below hb) (ht.below hb))
  have HB := hide hb
  have HW := hide hW
  clear hb hs ht hW
  by_cases h1 : a1 = b1
  · subst h1
    have e1 : ((a1 : Int) == a1) = true := by simp
    by_cases h2 : a2 = b2
    · subst h2
      have e2 : ((a2 : Int) == a2) = true := by simp
      by_cases h3 : a3 = b3
      · subst h3
        have e3 : (a3 == a3) = true := by simp
        have e : decide (a1 = a1 ∧ a2 = a2 ∧ a3 = a3 ∧ a4 = b4) = (a4 == b4) := by simp [Bool.beq_eq_decide_eq]
        rw [e]
        generalize (a4 == b4) = Z at *
        go_enter Try.func47, Try.ntmps47
        go_wp2_with fail
        rw [← unhide HW]
        refine Calls.mono (unhide HBY) ?_
        rintro e w1 ⟨rfl, rfl⟩
        go_wp2
        go_ret
        exact ⟨rfl, unhide HB⟩
      · have e : decide (a1 = a1 ∧ a2 = a2 ∧ a3 = b3 ∧ a4 = b4) = false := by simp [h3]
        rw [e]
        have e3 : (a3 == b3) = false := by simp [h3]
        go_enter Try.func47, Try.ntmps47
        go_wp2
        go_ret
        exact ⟨rfl, by rw [unhide HW] at HB; exact unhide HB⟩
    · have e : decide (a1 = a1 ∧ a2 = b2 ∧ a3 = b3 ∧ a4 = b4) = false := by simp [h2]
      rw [e]
      have e2 : ((a2 : Int) == b2) = false := by rw [beq_int, decide_eq_false h2]
      go_enter Try.func47, Try.ntmps47
      go_wp2
      go_ret
      exact ⟨rfl, by rw [unhide HW] at HB; exact unhide HB⟩
  · have e : decide (a1 = b1 ∧ a2 = b2 ∧ a3 = b3 ∧ a4 = b4) = false := by simp [h1]
    rw [e]
    have e1 : ((a1 : Int) == b1) = false := by rw [beq_int, decide_eq_false h1]
    go_enter Try.func47, Try.ntmps47
    go_wp2
    go_ret
    exact ⟨rfl, by rw [unhide HW] at HB; exact unhide HB⟩

set_option maxRecDepth 20000 in
set_option maxHeartbeats 1000000 in
theorem same2_any (s1 s2 : Value) (ls : List (List UInt8)) (w : World) (h1 : Rows2 w s1 ls) (h2 : Rows2 w s2 ls) :
    Calls Try.prog 28 #[s1, s2, .func (.func 29) #[] #[]] w fun e w' => e = .returned (.bool true) ∧ Below w.heap.size w w' := by
  by_cases h0 : ls = []
  · subst h0
    obtain ⟨p1, c1, rfl, _⟩ := h1.shape
    obtain ⟨p2, c2, rfl, _⟩ := h2.shape
    clear h1 h2
    simp only [List.length_nil]
    go_enter Try.func28, Try.ntmps28
    go_wp2
    refine wp_loop_rounds 1 ?_
    rw [rounds_succ]
    go_wp2
    go_ret
    exact ⟨rfl, Below.refl _ _⟩
  · obtain ⟨b1, o1, c1, rfl, hc1, hm1, hcell1⟩ := h1.open h0
    obtain ⟨b2, o2, c2, rfl, hc2, hm2, hcell2⟩ := h2.open h0
    unfold maxLen at hm1
    clear h1 h2
    have hn : ((ls.length : Int) == ls.length) = true := by simp
    go_enter Try.func28, Try.ntmps28
    go_wp2
    go_loopw [7] (fun i wr => ∃ k : Nat, k ≤ ls.length ∧ i = .int .i64 k ∧ Below w.heap.size w wr) (fun i _ => ls.length - (intOf i).toNat)
    case atStart => exact ⟨0, Nat.zero_le _, rfl, Below.refl _ _⟩
    case round =>
      obtain ⟨k, hk, rfl, hbel⟩ := hrel
      by_cases hlt : k < ls.length
      · obtain ⟨v1, hv1, hr1⟩ := hcell1 k hlt
        obtain ⟨v2, hv2, hr2⟩ := hcell2 k hlt
        have ha := (hbel.cell (World.block_lt_of_cell? w _ hv1)).trans hv1
        have hb := (hbel.cell (World.block_lt_of_cell? w _ hv2)).trans hv2
        have hk0 : (0 : Int) ≤ k := by omega
        have hk1 : (k : Int) < ls.length := by omega
        have HBY := hide (fun n => bytes_any v1 v2 ls[k] ls[k] (wr.drewN n) ((hr1.below hbel).below (below_drewN (Below.refl _ _) n)) ((hr2.below hbel).below (below_drewN (Below.refl _ _) n)))
        rw [show (ls[k] == ls[k]) = true by simp] at HBY
        clear hcell1 hcell2 hr1 hr2 hv1 hv2
        go_wp2
        go_quiet ((go_at_call 29; exact Calls.quiet_of_same (unhide HBY _)))
        go_wp2
        go_roundw
        case rel => exact ⟨k + 1, by omega, by go_num, below_drewN hbel _⟩
        case measure => simp [intOf]; omega
      · have hkn : k = ls.length := by omega
        subst hkn
        go_wp2
        go_ret
        exact ⟨rfl, hbel⟩

set_option maxRecDepth 20000 in
theorem lists_any (s1 s2 : Value) (ls : List (List UInt8)) (w : World) (h1 : Rows2 w s1 ls) (h2 : Rows2 w s2 ls) :
    Calls Try.prog 9 #[s1, s2] w fun e w' => e = .returned (.bool true) ∧ Below w.heap.size w w' := by
  go_enter Try.func9, Try.ntmps9
  go_wp2_with fail
  refine (same2_any s1 s2 ls w h1 h2).mono ?_
  rintro e w' ⟨rfl, hb⟩
  go_wp2
  go_ret
  exact ⟨rfl, hb⟩
end Go.Proofs.Ytpkpjmebkikgdaa
