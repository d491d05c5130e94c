/- What package crc does: bitsOn, times. -/
import Derived.Test.YtdpoiieblbmofaaCrcRef2
import Derived.Deep.LoopGhost
namespace Go.Proofs.Ytdpoiieblbmofaa
open Go.RowKit

theorem low_bit (s : Nat) (h : s < 4294967296) (h1 : s % 2 = 1) : bits .xor .u32 ((s : Int) / 2) 2197175160 = ((stp s : Nat) : Int) := by
  rw [show (s : Int) / 2 = ((s / 2 : Nat) : Int) by omega, show (2197175160 : Int) = ((2197175160 : Nat) : Int) from rfl, bits_xor32 _ _ (by omega) (by omega)]
  unfold stp
  rw [if_pos h1]

set_option maxHeartbeats 1000000 in
theorem bitsOn_any (s n : Nat) (w : World) (h : s < 4294967296) (hn : n ≤ 9223372036854775807) :
    Calls Try.prog 115 #[.int .u32 s, .int .i64 n] w fun e w' => e = .returned (.int .u32 (stps n s : Nat)) ∧ w' = w := by
  go_enter Try.func115, Try.ntmps115
  go_wp2
  go_loop [0, 7] (fun t i => ∃ k : Nat, k ≤ n ∧ i = .int .i64 k ∧ t = .int .u32 (stps k s : Nat)) (fun _ i => n - (intOf i).toNat)
  case atStart => exact ⟨0, Nat.zero_le _, rfl, rfl⟩
  case round =>
    obtain ⟨k, hk, rfl, rfl⟩ := hrel
    have hq := stps_lt k s h
    by_cases hlt : k < n
    · have HS := hide (stps_succ k s)
      generalize stps k s = q at *
      by_cases h1 : q % 2 = 1
      · have ht : (bits .and .u32 (q : Int) 1 == 1) = true := by rw [bits_and1 q hq, h1]; rfl
        have E := hide (low_bit q hq h1)
        clear h1
        go_wp2
        go_round
        case rel => exact ⟨k + 1, by omega, by go_num, by rw [unhide HS, ← unhide E]⟩
        case measure => simp [intOf]; omega
      · have ht : (bits .and .u32 (q : Int) 1 == 1) = false := by rw [bits_and1 q hq, show q % 2 = 0 by omega]; rfl
        have e : (q : Int) / 2 = ((stp q : Nat) : Int) := by
          unfold stp
          rw [if_neg h1]
          omega
        have E := hide e
        clear e h1
        go_wp2
        go_round
        case rel => exact ⟨k + 1, by omega, by go_num, by rw [unhide HS, ← unhide E]⟩
        case measure => simp [intOf]; omega
    · obtain rfl : k = n := by omega
      go_wp2
      go_ret
      exact ⟨rfl, rfl⟩

theorem tacc_nil (n p b : Nat) : tacc n p 0 b = p := by
  induction n generalizing b with
  | zero => rfl
  | succ n ih => rw [tacc, if_neg (by omega)]; exact ih _

theorem left_zero (x n : Nat) (hx : x < 4294967296) (hd : 2 ^ (32 - n) ∣ x) (h : n = 0) : x = 0 := by
  subst h
  obtain ⟨c, rfl⟩ := hd
  rcases c with _ | c
  · rfl
  · simp only [Nat.mul_succ] at hx
    omega
theorem left_step (x m : Nat) (hm : m + 1 ≤ 32) (hd : 2 ^ (32 - (m + 1)) ∣ x) : 2 ^ (32 - m) ∣ x * 2 % 4294967296 := by
  have e : 32 - m = (32 - (m + 1)) + 1 := by omega
  have h1 : 2 ^ (32 - m) ∣ x * 2 := by rw [e, Nat.pow_succ]; exact Nat.mul_dvd_mul_right hd 2
  have h2 : 2 ^ (32 - m) ∣ 4294967296 := by
    show 2 ^ (32 - m) ∣ 2 ^ 32
    exact Nat.pow_dvd_pow 2 (by omega)
  exact (Nat.dvd_mod_iff h2).2 h1

end Go.Proofs.Ytdpoiieblbmofaa
