/- What the reference of package crc does: power, Join. -/
import Derived.Test.YtnbekfomohhgnaaCrcRef
namespace Go.Proofs.Ytnbekfomohhgnaa
open Go.RowKit

set_option maxHeartbeats 1000000 in
theorem rpower_any (n : Nat) (w : World) (hn : n ≤ 9223372036854775807) :
    Calls Try.prog 26 #[.int .i64 n] w fun e w' => e = .returned (.int .u32 (stps (8 * n) 2147483648 : Nat)) ∧ w' = w := by
  obtain ⟨R, hR⟩ : ∃ R, stps (8 * n) 2147483648 = R := ⟨_, rfl⟩
  rw [hR]
  have HR := hide hR
  clear hR
  go_enter Try.func26, Try.ntmps26
  go_wp2
  go_loop [0, 3, 4] (fun tn tp ts => ∃ r p s : Nat, tn = .int .i64 r ∧ tp = .int .u32 p ∧ ts = .int .u32 s ∧ r ≤ 9223372036854775807 ∧ p < 4294967296 ∧ s < 4294967296 ∧ Hid (∃ q m, p = stps q 2147483648 ∧ s = stps m 2147483648 ∧ q + m * r = 8 * n)) (fun tn _ _ => (intOf tn).toNat)
  case atStart => exact ⟨n, 2147483648, 8388608, rfl, rfl, rfl, hn, by omega, by omega, ⟨0, 8, rfl, by decide +kernel, by omega⟩⟩
  case round =>
    obtain ⟨r, p, s, rfl, rfl, rfl, hr, hp, hs, hq⟩ := hrel
    by_cases h0 : r = 0
    · subst h0
      obtain ⟨q, m, e1, _, e3⟩ := hq.out
      have HP := hide (show p = R by rw [e1, ← unhide HR, ← e3]; simp)
      clear hq e1 e3
      go_wp2
      go_ret
      exact ⟨by rw [← unhide HP]; rfl, rfl⟩
    · have hpos : 0 < r := by omega
      have hpar := and_one_i64 r
      have hss := hide (tms_lt s s hs)
      have hps := hide (tms_lt p s hs)
      by_cases h1 : r % 2 = 1
      · have hd : (bits .and .i64 (r : Int) 1 == 1) = true := by rw [hpar, h1]; rfl
        have HN : Hid (∃ q m, tms p s = stps q 2147483648 ∧ tms s s = stps m 2147483648 ∧ q + m * (r / 2) = 8 * n) := by
          obtain ⟨q, m, e1, e2, e3⟩ := hq.out
          refine ⟨q + m, m + m, by rw [e1, e2, tms_pow m _ (stps_lt q _ (by omega)), ← stps_add], by rw [e2, tms_pow m _ (stps_lt m _ (by omega)), ← stps_add], ?_⟩
          rw [show m * r = m * (2 * (r / 2) + 1) by congr 1; omega, Nat.mul_add, Nat.mul_one, ← Nat.mul_assoc] at e3
          rw [← Nat.two_mul, Nat.mul_comm 2 m]
          omega
        clear hpar hq h1
        go_wp2_with fail
        refine (rtimes_any p s w hp hs).mono ?_
        rintro e w ⟨rfl, rfl⟩
        go_wp2_with fail
        refine (rtimes_any s s w hs hs).mono ?_
        rintro e w ⟨rfl, rfl⟩
        go_wp2
        go_round
        case rel => exact ⟨r / 2, tms p s, tms s s, by go_num, rfl, rfl, by omega, unhide hps, unhide hss, unhide HN⟩
        case measure => simp [intOf]; omega
      · have hd : (bits .and .i64 (r : Int) 1 == 1) = false := by rw [hpar, show r % 2 = 0 by omega]; rfl
        have HN : Hid (∃ q m, p = stps q 2147483648 ∧ tms s s = stps m 2147483648 ∧ q + m * (r / 2) = 8 * n) := by
          obtain ⟨q, m, e1, e2, e3⟩ := hq.out
          refine ⟨q, m + m, e1, by rw [e2, tms_pow m _ (stps_lt m _ (by omega)), ← stps_add], ?_⟩
          rw [show m * r = m * (2 * (r / 2)) by congr 1; omega, ← Nat.mul_assoc] at e3
          rw [← Nat.two_mul, Nat.mul_comm 2 m]
          exact e3
        clear hpar hq h1
        go_wp2_with fail
        refine (rtimes_any s s w hs hs).mono ?_
        rintro e w ⟨rfl, rfl⟩
        go_wp2
        go_round
        case rel => exact ⟨r / 2, p, tms s s, by go_num, rfl, rfl, by omega, hp, unhide hss, unhide HN⟩
        case measure => simp [intOf]; omega

theorem rjoin_any (a b : Nat) (n : Int) (w : World) (ha : a < 4294967296) (hb : b < 4294967296) (hn : n ≤ 9223372036854775807) :
    Calls Try.prog 17 #[.int .u32 a, .int .u32 b, .int .i64 n] w fun e w' => e = .returned (.int .u32 (joinS a b n : Nat)) ∧ w' = w := by
  by_cases h : n < 1
  · have HJ := hide (show joinS a b n = a by unfold joinS; rw [if_pos h])
    go_enter Try.func17, Try.ntmps17
    go_wp2
    go_ret
    exact ⟨by rw [unhide HJ]; rfl, rfl⟩
  · obtain ⟨k, rfl⟩ := Int.eq_ofNat_of_zero_le (show 0 ≤ n by omega)
    have HJ := hide (show joinS a b (k : Nat) = stps (8 * k) a ^^^ b by unfold joinS; rw [if_neg h, Int.toNat_natCast])
    have hl := stps_lt (8 * k) 2147483648 (by omega)
    have hla := stps_lt (8 * k) a ha
    have HT := hide (tms_pow (8 * k) a ha)
    have hx : bits .xor .u32 ((stps (8 * k) a : Nat) : Int) (b : Int) = ((stps (8 * k) a ^^^ b : Nat) : Int) := bits_xor32 _ _ hla hb
    have HP := hide (rpower_any k w (by omega))
    generalize stps (8 * k) 2147483648 = p at *
    generalize stps (8 * k) a = q at *
    go_enter Try.func17, Try.ntmps17
    go_wp2_with fail
    refine Calls.mono (unhide HP) ?_
    rintro e w ⟨rfl, rfl⟩
    go_wp2_with fail
    refine (rtimes_any a p w ha hl).mono ?_
    rintro e w ⟨rfl, rfl⟩
    rw [unhide HT]
    go_wp2
    go_ret
    exact ⟨by rw [unhide HJ]; rfl, rfl⟩
end Go.Proofs.Ytnbekfomohhgnaa
