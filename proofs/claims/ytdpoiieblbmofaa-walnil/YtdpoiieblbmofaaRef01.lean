/- What the reference's Put and Get do: the same as the program's. -/
import Derived.Test.YtdpoiieblbmofaaAll
namespace Go.Proofs.Ytdpoiieblbmofaa
open Go.RowKit

theorem rget_arg (s : Value) (a n : Int) (w : World) (h : (n < 1 ∨ 8 < n) ∨ a < 0) :
    Calls Try.prog 67 #[s, .int .i64 a, .int .i64 n] w fun e w' => e = .returned (.tuple #[.int .u64 0, .int .i64 1]) ∧ w' = w := by
  by_cases h1 : n < 1
  · go_enter Try.func67, Try.ntmps67
    go_wp2
    go_ret2
    exact ⟨rfl, rfl⟩
  · have d1 : decide (n < 1) = false := by simp; omega
    by_cases h8 : 8 < n
    · clear h
      go_enter Try.func67, Try.ntmps67
      go_wp2
      go_ret2
      exact ⟨rfl, rfl⟩
    · have d8 : decide (8 < n) = false := by simp; omega
      have ha : a < 0 := by omega
      clear h
      go_enter Try.func67, Try.ntmps67
      go_wp2
      go_ret2
      exact ⟨rfl, rfl⟩

theorem rget_short (p : Option Addr) (len cap : Nat) (a n : Nat) (w : World) (h1 : 1 ≤ n) (h2 : n ≤ 8) (h : len < a + n) :
    Calls Try.prog 67 #[.slice p len cap, .int .i64 a, .int .i64 n] w fun e w' => e = .returned (.tuple #[.int .u64 0, .int .i64 10]) ∧ w' = w := by
  have d1 : decide ((n : Int) < 1) = false := by simp; omega
  have d8 : decide ((8 : Int) < n) = false := by simp; omega
  have da : decide ((a : Int) < 0) = false := by simp
  by_cases hal : len < a
  · have dl : decide ((len : Int) < a) = true := by simp; omega
    go_enter Try.func67, Try.ntmps67
    go_wp2
    go_ret2
    exact ⟨rfl, rfl⟩
  · have dl : decide ((len : Int) < a) = false := by simp; omega
    have hlt : (len : Int) - a < n := by omega
    go_enter Try.func67, Try.ntmps67
    go_wp2
    go_ret2
    exact ⟨rfl, rfl⟩

theorem or_shift (N c : Nat) (hN : N < 72057594037927936) (hc : c < 2 ^ 8) : bits .or .u64 ((N : Int) * 256) (c : Int) = ((c + 256 * N : Nat) : Int) := by
  rw [show (N : Int) * 256 = ((N * 256 : Nat) : Int) by omega, u64_or_nat _ _ (by omega) (by omega)]
  congr 1
  rw [show N * 256 = 2 ^ 8 * N by omega, ← Nat.two_pow_add_eq_or_of_lt hc]
  omega

theorem num_drop (xs : List UInt8) (k : Nat) (h : k < xs.length) : num (xs.drop k) = xs[k].toNat + 256 * num (xs.drop (k + 1)) := by
  rw [List.drop_eq_getElem_cons h, num]

set_option maxHeartbeats 1000000 in
theorem rget_ok (s : Value) (bs : List UInt8) (a n : Nat) (w : World) (hs : Row w s bs) (h1 : 1 ≤ n) (h2 : n ≤ 8) (h : a + n ≤ bs.length) :
    Calls Try.prog 67 #[s, .int .i64 a, .int .i64 n] w fun e w' => e = .returned (.tuple #[.int .u64 (num ((bs.drop a).take n) : Nat), .int .i64 0]) ∧ w' = w := by
  obtain ⟨b, off, cap, rfl, hc1, hc2, hc⟩ := hs.open (by intro e; rw [e] at h; simp at h; omega)
  unfold maxLen at hc2
  have d1 : decide ((n : Int) < 1) = false := by simp; omega
  have d8 : decide ((8 : Int) < n) = false := by simp; omega
  have da : decide ((a : Int) < 0) = false := by simp
  have dl : decide ((bs.length : Int) < a) = false := by simp; omega
  have hge : ¬ (bs.length : Int) - a < n := by omega
  have hlen : ((bs.drop a).take n).length = n := by simp; omega
  have hcx : ∀ k (hk : k < ((bs.drop a).take n).length), w.cell? ⟨b, off + (a + k), none⟩ = some (.int .u8 (((bs.drop a).take n)[k].toNat : Int)) := fun k hk => by
    rw [hc (a + k) (by omega)]; simp [B]
  clear hc
  go_enter Try.func67, Try.ntmps67
  go_wp2_with fail
  go_loop [8, 9] (fun t i => ∃ k : Nat, k ≤ n ∧ i = .int .i64 ((k : Int) - 1) ∧ t = .int .u64 (num (((bs.drop a).take n).drop k) : Nat)) (fun _ i => (intOf i + 1).toNat)
  case atStart => exact ⟨n, Nat.le_refl _, rfl, by rw [List.drop_of_length_le (by omega)]; rfl⟩
  case round =>
    obtain ⟨k, hk, rfl, rfl⟩ := hrel
    by_cases h0 : k = 0
    · subst h0
      go_wp2
      go_ret2
      exact ⟨by simp, rfl⟩
    · obtain ⟨m, rfl⟩ : ∃ m, k = m + 1 := ⟨k - 1, by omega⟩
      have hm : m < ((bs.drop a).take n).length := by omega
      have hce := hcx m hm
      have hnd := num_drop ((bs.drop a).take n) m hm
      have hnl : num (((bs.drop a).take n).drop (m + 1)) < 256 ^ (n - (m + 1)) := by
        have := num_lt (((bs.drop a).take n).drop (m + 1)); rwa [List.length_drop, hlen] at this
      have hp : 256 ^ (n - (m + 1)) ≤ 256 ^ 7 := Nat.pow_le_pow_right (by omega) (by omega)
      have hb := (((bs.drop a).take n)[m]).toNat_lt
      have HN := hide hnd
      have hN64 : num (((bs.drop a).take n).drop (m + 1)) < 72057594037927936 := by omega
      clear hcx hnd hnl hp
      generalize num (((bs.drop a).take n).drop (m + 1)) = N at *
      generalize ((bs.drop a).take n)[m].toNat = c at *
      go_wp2
      go_round
      case rel => exact ⟨m, by omega, rfl, by rw [or_shift N c hN64 hb, ← unhide HN]⟩
      case measure => simp [intOf]

theorem rget_any (s : Value) (bs : List UInt8) (a n : Int) (w : World) (hs : Row w s bs) :
    Calls Try.prog 67 #[s, .int .i64 a, .int .i64 n] w fun e w' => e = .returned (.tuple #[.int .u64 (getV bs a n : Nat), .int .i64 (getE bs a n)]) ∧ w' = w := by
  unfold getE getV
  by_cases h : (n < 1 ∨ 8 < n) ∨ a < 0
  · rw [if_pos h, if_pos h]
    exact rget_arg s a n w h
  · rw [if_neg h, if_neg h]
    obtain ⟨m, rfl⟩ := Int.eq_ofNat_of_zero_le (show 0 ≤ n by omega)
    obtain ⟨k, rfl⟩ := Int.eq_ofNat_of_zero_le (show 0 ≤ a by omega)
    rw [Int.toNat_natCast, Int.toNat_natCast]
    by_cases h2 : (bs.length : Int) < k + m
    · rw [if_pos h2, if_pos h2]
      obtain ⟨p, cap, rfl, hc1, hc2, _⟩ := hs
      exact rget_short p bs.length cap k m w (by omega) (by omega) (by omega)
    · rw [if_neg h2, if_neg h2]
      exact rget_ok s bs k m w hs (by omega) (by omega) (by omega)
end Go.Proofs.Ytdpoiieblbmofaa
