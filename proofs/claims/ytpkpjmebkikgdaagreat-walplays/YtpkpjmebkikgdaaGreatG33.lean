/- Texts of ours, one behind the other: FrHelp. -/
import Derived.Test.YtpkpjmebkikgdaaGreatG6
import Derived.Test.YtpkpjmebkikgdaaGreatG22
import Derived.Test.YtpkpjmebkikgdaaGreatG25
import Derived.BigQuiet
import Derived.WalkSmall
/- What the verifier's helpers do with frames and with lists of texts: Frame, Lists. -/
namespace Go.Proofs.YtpkpjmebkikgdaaGreat
open Go.RowKit

theorem eq_fr (a b : Fr) : a = b ↔ a.age = b.age ∧ a.first = b.first ∧ a.of = b.of ∧ a.data = b.data := by
  cases a; cases b; simp

set_option maxRecDepth 20000 in
set_option maxHeartbeats 1000000 in
theorem same2_any (s1 s2 : Value) (ls : List (List UInt8)) (w : World) (h1 : Rows2 w s1 ls) (h2 : Rows2 w s2 ls) :
    Calls Tryz.prog 38 #[s1, s2, .func (.func 39) #[] #[]] w fun e w' => e = .returned (.bool true) ∧ Below w.heap.size w w' := by
  by_cases h0 : ls = []
  · subst h0
    obtain ⟨p1, c1, rfl, _⟩ := h1.shape
    obtain ⟨p2, c2, rfl, _⟩ := h2.shape
    clear h1 h2
    simp only [List.length_nil]
    go_enter Tryz.func38, Tryz.ntmps38
    go_wp2
    refine wp_loop_rounds 1 ?_
    rw [rounds_succ]
    go_wp2
    go_ret
    exact ⟨rfl, Below.refl _ _⟩
  · obtain ⟨b1, o1, c1, rfl, hc1, hm1, hcell1⟩ := h1.open h0
    obtain ⟨b2, o2, c2, rfl, hc2, hm2, hcell2⟩ := h2.open h0
    unfold maxLen at hm1
    clear h1 h2
    have hn : ((ls.length : Int) == ls.length) = true := by simp
    go_enter Tryz.func38, Tryz.ntmps38
    go_wp2
    go_loopw [7] (fun i wr => ∃ k : Nat, k ≤ ls.length ∧ i = .int .i64 k ∧ Below w.heap.size w wr) (fun i _ => ls.length - (intOf i).toNat)
    case atStart => exact ⟨0, Nat.zero_le _, rfl, Below.refl _ _⟩
    case round =>
      obtain ⟨k, hk, rfl, hbel⟩ := hrel
      by_cases hlt : k < ls.length
      · obtain ⟨v1, hv1, hr1⟩ := hcell1 k hlt
        obtain ⟨v2, hv2, hr2⟩ := hcell2 k hlt
        have ha := (hbel.cell (World.block_lt_of_cell? w _ hv1)).trans hv1
        have hb := (hbel.cell (World.block_lt_of_cell? w _ hv2)).trans hv2
        have hk0 : (0 : Int) ≤ k := by omega
        have hk1 : (k : Int) < ls.length := by omega
        have HBY := hide (fun n => bytes_any v1 v2 ls[k] ls[k] (wr.drewN n) ((hr1.below hbel).below (below_drewN (Below.refl _ _) n)) ((hr2.below hbel).below (below_drewN (Below.refl _ _) n)))
        rw [show (ls[k] == ls[k]) = true by simp] at HBY
        clear hcell1 hcell2 hr1 hr2 hv1 hv2
        go_wp2
        go_quiet ((go_at_call 39; exact Calls.quiet_of_same (unhide HBY _)))
        go_wp2
        go_roundw
        case rel => exact ⟨k + 1, by omega, by go_num, below_drewN hbel _⟩
        case measure => simp [intOf]; omega
      · have hkn : k = ls.length := by omega
        subst hkn
        go_wp2
        go_ret
        exact ⟨rfl, hbel⟩

set_option maxRecDepth 20000 in
theorem lists_any (s1 s2 : Value) (ls : List (List UInt8)) (w : World) (h1 : Rows2 w s1 ls) (h2 : Rows2 w s2 ls) :
    Calls Tryz.prog 17 #[s1, s2] w fun e w' => e = .returned (.bool true) ∧ Below w.heap.size w w' := by
  go_enter Tryz.func17, Tryz.ntmps17
  go_wp2_with fail
  refine (same2_any s1 s2 ls w h1 h2).mono ?_
  rintro e w' ⟨rfl, hb⟩
  go_wp2
  go_ret
  exact ⟨rfl, hb⟩
end Go.Proofs.YtpkpjmebkikgdaaGreat
