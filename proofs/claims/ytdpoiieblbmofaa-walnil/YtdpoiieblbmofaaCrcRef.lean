/- What the reference of package crc does: step, More, Sum, times, power, Join. -/
import Derived.Test.YtdpoiieblbmofaaBase
import Derived.Test.YtdpoiieblbmofaaCrcPlain2
namespace Go.Proofs.Ytdpoiieblbmofaa
open Go.RowKit

theorem and1 (s : Nat) : s &&& 1 = s % 2 := by
  have h := Nat.and_two_pow_sub_one_eq_mod s 1
  exact h
theorem bits_and1 (s : Nat) (h : s < 4294967296) : bits .and .u32 (s : Int) 1 = ((s % 2 : Nat) : Int) := by
  rw [show (1 : Int) = ((1 : Nat) : Int) from rfl, u32_and_nat _ _ h (by omega), and1]
theorem bits_xor32 (a b : Nat) (ha : a < 4294967296) (hb : b < 4294967296) : bits .xor .u32 (a : Int) (b : Int) = ((a ^^^ b : Nat) : Int) := u32_xor_nat a b ha hb

theorem rstep_any (s : Nat) (w : World) (h : s < 4294967296) :
    Calls Try.prog 100 #[.int .u32 s] w fun e w' => e = .returned (.int .u32 (stp s : Nat)) ∧ w' = w := by
  by_cases h1 : s % 2 = 1
  · have ht : (bits .and .u32 (s : Int) 1 == 1) = true := by rw [bits_and1 s h, h1]; rfl
    have e : bits .xor .u32 ((s : Int) / 2) 2197175160 = ((stp s : Nat) : Int) := by
      rw [show (s : Int) / 2 = ((s / 2 : Nat) : Int) by omega, show (2197175160 : Int) = ((2197175160 : Nat) : Int) from rfl, bits_xor32 _ _ (by omega) (by omega)]
      unfold stp
      rw [if_pos h1]
    have E := hide e
    clear e h1
    go_enter Try.func100, Try.ntmps100
    go_wp2
    go_ret
    exact ⟨by rw [← unhide E]; rfl, rfl⟩
  · have ht : (bits .and .u32 (s : Int) 1 == 1) = false := by rw [bits_and1 s h, show s % 2 = 0 by omega]; rfl
    have e : (s : Int) / 2 = ((stp s : Nat) : Int) := by
      unfold stp
      rw [if_neg h1]
      omega
    have E := hide e
    clear e h1
    go_enter Try.func100, Try.ntmps100
    go_wp2
    go_ret
    exact ⟨by rw [← unhide E]; rfl, rfl⟩

theorem raw_succ (s : Nat) (bs : List UInt8) (k : Nat) (h : k < bs.length) : raw s (bs.take (k + 1)) = feed (raw s (bs.take k)) bs[k] := by
  rw [List.take_succ_eq_append_getElem h, raw_append]
  rfl

set_option maxHeartbeats 1000000 in
theorem rmore_any (sum : Nat) (s : Value) (bs : List UInt8) (w : World) (hs : Row w s bs) (hsum : sum < 4294967296) (hroom : bs.length ≤ 140737488351232) :
    Calls Try.prog 86 #[.int .u32 sum, s] w fun e w' => e = .returned (.int .u32 (more sum bs : Nat)) ∧ w' = w := by
  have e0 : bits .xor .u32 (sum : Int) 4294967295 = ((sum ^^^ 4294967295 : Nat) : Int) := by
    rw [show (4294967295 : Int) = ((4294967295 : Nat) : Int) from rfl, bits_xor32 _ _ hsum (by omega)]
  have hx : sum ^^^ 4294967295 < 4294967296 := Nat.xor_lt_two_pow (n := 32) hsum (by omega)
  have hcx : ∀ k (h : k < bs.length), ∃ b off cap, s = .slice (some ⟨b, off, none⟩) bs.length cap ∧ bs.length ≤ cap ∧ w.cell? ⟨b, off + k, none⟩ = some (.int .u8 (bs[k].toNat : Int)) := by
    intro k hk
    obtain ⟨b, off, cap, h1, h2, h3, h4⟩ := hs.open (by intro e; rw [e] at hk; simp at hk)
    exact ⟨b, off, cap, h1, h2, h4 k hk⟩
  obtain ⟨p, c, l, rfl, hl⟩ := hs.shape
  subst hl
  have HCX := hide hcx
  generalize hy : sum ^^^ 4294967295 = y at *
  have HY := hide hy
  clear hcx hs hy
  go_enter Try.func86, Try.ntmps86
  go_wp2
  go_loop [5, 6] (fun t i => ∃ k : Nat, k ≤ bs.length ∧ i = .int .i64 k ∧ t = .int .u32 (raw y (bs.take k) : Nat)) (fun _ i => bs.length - (intOf i).toNat)
  case atStart => exact ⟨0, Nat.zero_le _, rfl, by simp [raw]⟩
  case round =>
    obtain ⟨k, hk, rfl, rfl⟩ := hrel
    have hr := raw_lt y (bs.take k) hx
    by_cases hlt : k < bs.length
    · obtain ⟨b, off, cap, es, hcap, hcell⟩ := unhide HCX k hlt
      simp only [Value.slice.injEq, true_and] at es
      obtain ⟨rfl, rfl⟩ := es
      have HR := hide (raw_succ y bs k hlt)
      have hb8 := (bs[k]).toNat_lt
      have ex : bits .xor .u32 ((raw y (bs.take k) : Nat) : Int) (bs[k].toNat : Int) = ((raw y (bs.take k) ^^^ bs[k].toNat : Nat) : Int) := bits_xor32 _ _ hr (by omega)
      have hxl : raw y (bs.take k) ^^^ bs[k].toNat < 4294967296 := Nat.xor_lt_two_pow (n := 32) hr (by omega)
      unfold feed at HR
      generalize raw y (bs.take k) = R at *
      generalize bs[k].toNat = c at *
      generalize hQ : R ^^^ c = Q at *
      clear hQ
      go_wp2
      go_loop [5, 7] (fun t j => ∃ m : Nat, m ≤ 8 ∧ j = .int .i64 m ∧ t = .int .u32 (stps m Q : Nat)) (fun _ j => 8 - (intOf j).toNat)
      case atStart => exact ⟨0, by omega, rfl, rfl⟩
      case round =>
        obtain ⟨m, hm, rfl, rfl⟩ := hrel
        have hq := stps_lt m Q hxl
        by_cases hm8 : m < 8
        · have HS := hide (stps_succ m Q)
          go_wp2_with fail
          refine (rstep_any _ _ hq).mono ?_
          rintro e w ⟨rfl, rfl⟩
          go_wp2
          go_round
          case rel => exact ⟨m + 1, by omega, by go_num, by rw [unhide HS]⟩
          case measure => simp [intOf]; omega
        · obtain rfl : m = 8 := by omega
          go_wp2
          go_round
          case rel => exact ⟨k + 1, by omega, by go_num, by rw [unhide HR]⟩
          case measure => simp [intOf]; omega
    · have hkn : k = bs.length := by omega
      subst hkn
      rw [List.take_of_length_le (Nat.le_refl _)] at hr ⊢
      have e1 : bits .xor .u32 ((raw y bs : Nat) : Int) 4294967295 = ((raw y bs ^^^ 4294967295 : Nat) : Int) := by
        rw [show (4294967295 : Int) = ((4294967295 : Nat) : Int) from rfl, bits_xor32 _ _ hr (by omega)]
      have HM : Hid (more sum bs = raw y bs ^^^ 4294967295) := by unfold Hid more; rw [unhide HY]
      go_wp2
      go_ret
      exact ⟨by rw [unhide HM]; rfl, rfl⟩

theorem rsum_any (s : Value) (bs : List UInt8) (w : World) (hs : Row w s bs) (hroom : bs.length ≤ 140737488351232) :
    Calls Try.prog 68 #[s] w fun e w' => e = .returned (.int .u32 (more 0 bs : Nat)) ∧ w' = w := by
  go_enter Try.func68, Try.ntmps68
  go_wp2_with fail
  refine (rmore_any 0 s bs w hs (by omega) hroom).mono ?_
  rintro e w ⟨rfl, rfl⟩
  go_wp2
  go_ret
  exact ⟨rfl, rfl⟩

theorem and_top (a : Nat) (h : a < 4294967296) : bits .and .u32 (a : Int) 2147483648 = ((if 2147483648 ≤ a then 2147483648 else 0 : Nat) : Int) := by
  rw [show (2147483648 : Int) = ((2147483648 : Nat) : Int) from rfl, u32_and_nat _ _ h (by omega)]
  congr 1
  have hb : a.testBit 31 = decide (2 ^ 31 ≤ a) := by
    rw [Nat.testBit_eq_decide_div_mod_eq]
    have h31 : a / 2 ^ 31 % 2 = 1 ↔ 2 ^ 31 ≤ a := by omega
    simp [h31]
  have key : a &&& 2 ^ 31 = if 2 ^ 31 ≤ a then 2 ^ 31 else 0 := by
    apply Nat.eq_of_testBit_eq
    intro i
    rw [Nat.testBit_and, Nat.testBit_two_pow]
    by_cases hi : 31 = i
    · subst hi
      rw [hb]
      by_cases h2 : 2 ^ 31 ≤ a
      · rw [if_pos h2, Nat.testBit_two_pow]
        simp [h2]
      · rw [if_neg h2]
        simp [h2]
    · by_cases h2 : 2 ^ 31 ≤ a
      · rw [if_pos h2, Nat.testBit_two_pow]
        simp [hi]
      · rw [if_neg h2]
        simp [hi]
  exact key

theorem and_one_i64 (r : Nat) : bits .and .i64 (r : Int) 1 = ((r % 2 : Nat) : Int) := by
  have h1 : (BitVec.ofInt 64 1).toNat = 2 ^ 1 - 1 := by decide
  have key : (BitVec.ofInt 64 (r : Int) &&& BitVec.ofInt 64 1).toNat = ((r : Int) % ((2 ^ 64 : Nat) : Int)).toNat % 2 ^ 1 := by
    rw [BitVec.toNat_and, BitVec.toNat_ofInt, h1, Nat.and_two_pow_sub_one_eq_mod]
  show IntKind.i64.wrap ((BitVec.ofInt 64 (r : Int) &&& BitVec.ofInt 64 1).toNat : Nat) = _
  rw [key, IntKind.wrap_i64]
  omega

theorem tacc_lt (n p a b : Nat) (hp : p < 4294967296) (hb : b < 4294967296) : tacc n p a b < 4294967296 := by
  induction n generalizing p a b with
  | zero => exact hp
  | succ n ih =>
    rw [tacc]
    refine ih _ _ _ ?_ (stp_lt b hb)
    split
    · exact Nat.xor_lt_two_pow (n := 32) hp hb
    · exact hp
theorem tms_lt (a b : Nat) (hb : b < 4294967296) : tms a b < 4294967296 := tacc_lt 32 0 a b (by omega) hb

end Go.Proofs.Ytdpoiieblbmofaa
