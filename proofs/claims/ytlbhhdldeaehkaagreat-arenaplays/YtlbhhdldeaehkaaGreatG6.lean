/- Texts of ours, one behind the other: CelHead. -/
import Derived.Test.YtlbhhdldeaehkaaGreatProg
import Derived.WalkKit
import Derived.ProofKit
import Derived.Below
import Derived.Laws.BitsAllLaws
/- The landed package cells, and the reference: Head, Size, Ptrs, Kind; the statements' awake. -/
namespace Go.Proofs.YtlbhhdldeaehkaaGreat
open Go.RowKit

theorem csize_t (h : Int) (w : World) (h0 : 0 ≤ h) (h1 : h < 4294967296) : Calls Tryz.prog 77 #[.int .u32 h] w fun e w' => e = .returned (.int .i64 (h / 4096)) ∧ w' = w := by
  go_enter Tryz.func77, Tryz.ntmps77
  go_wp2
  go_ret
  exact ⟨rfl, rfl⟩
theorem cptrs_t (h : Int) (w : World) (h0 : 0 ≤ h) (h1 : h < 4294967296) : Calls Tryz.prog 82 #[.int .u32 h] w fun e w' => e = .returned (.int .i64 (h / 16 % 256)) ∧ w' = w := by
  go_enter Tryz.func82, Tryz.ntmps82
  go_wp2
  go_ret
  exact ⟨rfl, rfl⟩
theorem ckind_t (h : Int) (w : World) (h0 : 0 ≤ h) (h1 : h < 4294967296) : Calls Tryz.prog 108 #[.int .u32 h] w fun e w' => e = .returned (.int .i64 (h % 16)) ∧ w' = w := by
  go_enter Tryz.func108, Tryz.ntmps108
  go_wp2
  go_ret
  exact ⟨rfl, rfl⟩
theorem rsize_t (h : Int) (w : World) (h0 : 0 ≤ h) (h1 : h < 4294967296) : Calls Tryz.prog 69 #[.int .u32 h] w fun e w' => e = .returned (.int .i64 (h / 4096)) ∧ w' = w := by
  go_enter Tryz.func69, Tryz.ntmps69
  go_wp2
  go_ret
  exact ⟨rfl, rfl⟩
theorem rptrs_t (h : Int) (w : World) (h0 : 0 ≤ h) (h1 : h < 4294967296) : Calls Tryz.prog 70 #[.int .u32 h] w fun e w' => e = .returned (.int .i64 (h / 16 % 256)) ∧ w' = w := by
  go_enter Tryz.func70, Tryz.ntmps70
  go_wp2
  go_ret
  exact ⟨rfl, rfl⟩
theorem rkind_t (h : Int) (w : World) (h0 : 0 ≤ h) (h1 : h < 4294967296) : Calls Tryz.prog 85 #[.int .u32 h] w fun e w' => e = .returned (.int .i64 (h % 16)) ∧ w' = w := by
  go_enter Tryz.func85, Tryz.ntmps85
  go_wp2
  go_ret
  exact ⟨rfl, rfl⟩
theorem or_add (a b k : Nat) (hb : b < 2 ^ k) : (a * 2 ^ k) ||| b = a * 2 ^ k + b := by
  rw [Nat.mul_comm]
  exact (Nat.two_pow_add_eq_or_of_lt hb a).symm
theorem head_or (s p k : Int) (h1 : 0 ≤ p) (h2 : p ≤ 255) (h3 : 0 ≤ k) (h4 : k ≤ 15) (h5 : p < s) (h6 : s < 1048576) : bits .or .u32 (bits .or .u32 (s * 4096) (p * 16)) k = s * 4096 + p * 16 + k := by
  obtain ⟨s, rfl⟩ := Int.eq_ofNat_of_zero_le (show 0 ≤ s by omega)
  obtain ⟨p, rfl⟩ := Int.eq_ofNat_of_zero_le h1
  obtain ⟨k, rfl⟩ := Int.eq_ofNat_of_zero_le h3
  have e1 : ((s : Int) * 4096) = ((s * 4096 : Nat) : Int) := by omega
  have e2 : ((p : Int) * 16) = ((p * 16 : Nat) : Int) := by omega
  rw [e1, e2, u32_or_nat _ _ (by omega) (by omega), or_add s (p * 16) 12 (by omega), u32_or_nat _ _ (by omega) (by omega)]
  have e3 : s * 2 ^ 12 + p * 16 = (s * 256 + p) * 2 ^ 4 := by omega
  rw [e3, or_add _ k 4 (by omega)]
  omega
theorem chead_t (s p k : Int) (w : World) (h1 : 0 ≤ p) (h2 : p ≤ 255) (h3 : 0 ≤ k) (h4 : k ≤ 15) (h5 : p < s) (h6 : s < 1048576) : Calls Tryz.prog 19 #[.int .i64 s, .int .i64 p, .int .i64 k] w fun e w' => e = .returned (.tuple #[.int .u32 (s * 4096 + p * 16 + k), .int .i64 0]) ∧ w' = w := by
  rw [← head_or s p k h1 h2 h3 h4 h5 h6]
  go_enter Tryz.func19, Tryz.ntmps19
  go_wp2
  go_ret2
  exact ⟨rfl, rfl⟩
theorem chead_f (s p k : Int) (w : World) (h : ¬ (0 ≤ p ∧ p ≤ 255 ∧ 0 ≤ k ∧ k ≤ 15 ∧ p < s ∧ s < 1048576)) : Calls Tryz.prog 19 #[.int .i64 s, .int .i64 p, .int .i64 k] w fun e w' => e = .returned (.tuple #[.int .u32 0, .int .i64 1]) ∧ w' = w := by
  have hc : p < 0 ∨ (0 ≤ p ∧ 255 < p) ∨ (0 ≤ p ∧ p ≤ 255 ∧ k < 0) ∨ (0 ≤ p ∧ p ≤ 255 ∧ 0 ≤ k ∧ 16 ≤ k) ∨ (0 ≤ p ∧ p ≤ 255 ∧ 0 ≤ k ∧ k < 16 ∧ s ≤ p) ∨ (0 ≤ p ∧ p ≤ 255 ∧ 0 ≤ k ∧ k < 16 ∧ p < s ∧ 1048576 ≤ s) := by omega
  clear h
  rcases hc with h | ⟨h1, h⟩ | ⟨h1, h2, h⟩ | ⟨h1, h2, h3, h⟩ | ⟨h1, h2, h3, h4, h⟩ | ⟨h1, h2, h3, h4, h5, h⟩
  all_goals
    go_enter Tryz.func19, Tryz.ntmps19
    go_wp2
    go_ret2
    exact ⟨rfl, rfl⟩
theorem rhead_t (s p k : Int) (w : World) (h1 : 0 ≤ p) (h2 : p ≤ 255) (h3 : 0 ≤ k) (h4 : k ≤ 15) (h5 : p < s) (h6 : s < 1048576) : Calls Tryz.prog 67 #[.int .i64 s, .int .i64 p, .int .i64 k] w fun e w' => e = .returned (.tuple #[.int .u32 (s * 4096 + p * 16 + k), .int .i64 0]) ∧ w' = w := by
  go_enter Tryz.func67, Tryz.ntmps67
  go_wp2
  go_ret2
  exact ⟨rfl, rfl⟩
theorem rhead_f (s p k : Int) (w : World) (h : ¬ (0 ≤ p ∧ p ≤ 255 ∧ 0 ≤ k ∧ k ≤ 15 ∧ p < s ∧ s < 1048576)) : Calls Tryz.prog 67 #[.int .i64 s, .int .i64 p, .int .i64 k] w fun e w' => e = .returned (.tuple #[.int .u32 0, .int .i64 1]) ∧ w' = w := by
  have hc : p < 0 ∨ (0 ≤ p ∧ 255 < p) ∨ (0 ≤ p ∧ p ≤ 255 ∧ k < 0) ∨ (0 ≤ p ∧ p ≤ 255 ∧ 0 ≤ k ∧ 15 < k) ∨ (0 ≤ p ∧ p ≤ 255 ∧ 0 ≤ k ∧ k ≤ 15 ∧ s < p + 1) ∨ (0 ≤ p ∧ p ≤ 255 ∧ 0 ≤ k ∧ k ≤ 15 ∧ p + 1 ≤ s ∧ 1048575 < s) := by omega
  clear h
  rcases hc with h | ⟨h1, h⟩ | ⟨h1, h2, h⟩ | ⟨h1, h2, h3, h⟩ | ⟨h1, h2, h3, h4, h⟩ | ⟨h1, h2, h3, h4, h5, h⟩
  all_goals
    go_enter Tryz.func67, Tryz.ntmps67
    go_wp2
    go_ret2
    exact ⟨rfl, rfl⟩
end Go.Proofs.YtlbhhdldeaehkaaGreat
