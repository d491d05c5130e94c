/- Plain facts on reading a number as bytes. -/
import Derived.Test.YtdpoiieblbmofaaVarPlain
namespace Go.Proofs.Ytdpoiieblbmofaa
open Go.RowKit

/-- May c not stand at place i of a number as bytes? -/
def badB (i c : Nat) : Bool := decide ((i = 9 ∧ 1 < c) ∨ (0 < i ∧ c = 0))

/-- What bytes are as a number, from place i on, v being what the bytes ahead bear: the error, the number, how many bytes it has. -/
def rvF : Nat → Nat → List UInt8 → Nat × Nat × Nat
  | _, _, [] => (10, 0, 0)
  | i, v, c :: r => if badB i c.toNat then (11, 0, 0) else if 128 ≤ c.toNat then rvF (i + 1) (v + c.toNat % 128 * 128 ^ i) r else (0, v + c.toNat % 128 * 128 ^ i, i + 1)

theorem rvF_bad (i v : Nat) (c : UInt8) (r : List UInt8) (h : badB i c.toNat = true) : rvF i v (c :: r) = (11, 0, 0) := by rw [rvF, if_pos h]
theorem rvF_more (i v : Nat) (c : UInt8) (r : List UInt8) (h : badB i c.toNat = false) (hc : 128 ≤ c.toNat) : rvF i v (c :: r) = rvF (i + 1) (v + c.toNat % 128 * 128 ^ i) r := by rw [rvF, if_neg (by simp [h]), if_pos hc]
theorem rvF_last (i v : Nat) (c : UInt8) (r : List UInt8) (h : badB i c.toNat = false) (hc : c.toNat < 128) : rvF i v (c :: r) = (0, v + c.toNat % 128 * 128 ^ i, i + 1) := by rw [rvF, if_neg (by simp [h]), if_neg (by omega)]

theorem bad_of_nine (i c : Nat) (h : badB i c = false) (hc : 128 ≤ c) : i ≠ 9 := by
  unfold badB at h
  simp at h
  omega

theorem pow128 (i : Nat) : (2 : Int) ^ (7 * i) = ((128 ^ i : Nat) : Int) := by
  rw [Int.pow_mul]; norm_cast
theorem and127 : ∀ n : Nat, n < 256 → n &&& 127 = n % 128 := by decide +kernel
theorem and128 : ∀ n : Nat, n < 256 → n &&& 128 = if 128 ≤ n then 128 else 0 := by decide +kernel
theorem bits_and127 (c : UInt8) : bits .and .u8 (c.toNat : Int) 127 = ((c.toNat % 128 : Nat) : Int) := by
  have hc := c.toNat_lt
  rw [show (127 : Int) = ((127 : Nat) : Int) from rfl, u8_and_nat _ _ (by omega) (by omega), and127 _ (by omega)]
theorem bits_and128 (c : UInt8) : bits .and .u8 (c.toNat : Int) 128 = (((if 128 ≤ c.toNat then 128 else 0) : Nat) : Int) := by
  have hc := c.toNat_lt
  rw [show (128 : Int) = ((128 : Nat) : Int) from rfl, u8_and_nat _ _ (by omega) (by omega), and128 _ (by omega)]
theorem pow_next (i v : Nat) (c : UInt8) (hv : v < 128 ^ i) : v + c.toNat % 128 * 128 ^ i < 128 ^ (i + 1) := by
  have h1 : c.toNat % 128 * 128 ^ i ≤ 127 * 128 ^ i := Nat.mul_le_mul_right _ (by omega)
  rw [Nat.pow_succ]
  omega
/-- A number that may stand, with its place i's byte: it is below 2^64. -/
theorem rv_lt (i v : Nat) (c : UInt8) (hi : i ≤ 9) (hv : v < 128 ^ i) (hb : badB i c.toNat = false) : v + c.toNat % 128 * 128 ^ i < 18446744073709551616 := by
  by_cases h9 : i = 9
  · subst h9
    have : c.toNat ≤ 1 := by unfold badB at hb; simp at hb; omega
    have h2 : c.toNat % 128 * 128 ^ 9 ≤ 1 * 128 ^ 9 := Nat.mul_le_mul_right _ (by omega)
    omega
  · have h1 := pow_next i v c hv
    have h2 : 128 ^ (i + 1) ≤ 128 ^ 9 := Nat.pow_le_pow_right (by omega) (by omega)
    omega
theorem rv_bits (i v : Nat) (c : UInt8) (hi : i ≤ 9) (hv : v < 128 ^ i) (hb : badB i c.toNat = false) :
    bits .or .u64 (v : Int) (IntKind.u64.wrap ((c.toNat : Int) % 128 * 2 ^ (7 * i))) = ((v + c.toNat % 128 * 128 ^ i : Nat) : Int) := by
  have hlt := rv_lt i v c hi hv hb
  have e : (c.toNat : Int) % 128 * 2 ^ (7 * i) = ((c.toNat % 128 * 128 ^ i : Nat) : Int) := by rw [pow128]; norm_cast
  rw [e, IntKind.wrap_u64, Int.emod_eq_of_lt (by omega) (by omega), u64_or_nat _ _ (by omega) (by omega)]
  congr 1
  have h2 : 128 ^ i = 2 ^ (7 * i) := by rw [Nat.pow_mul]
  rw [h2] at hv ⊢
  rw [Nat.or_comm, Nat.mul_comm, ← Nat.two_pow_add_eq_or_of_lt hv]
  omega

theorem rv_bits9 (v : Nat) (c : UInt8) (hv : v < 128 ^ 9) (hb : badB 9 c.toNat = false) :
    bits .or .u64 (v : Int) ((c.toNat : Int) % 128 * 9223372036854775808) = ((v + c.toNat % 128 * 128 ^ 9 : Nat) : Int) := by
  have h := rv_bits 9 v c (by omega) hv hb
  have hc : c.toNat ≤ 1 := by unfold badB at hb; simp at hb; omega
  rw [show (2 : Int) ^ (7 * 9) = 9223372036854775808 from rfl, IntKind.wrap_u64, Int.emod_eq_of_lt (by omega) (by omega)] at h
  exact h
theorem rv_bits0 (v : Nat) (c : UInt8) (hv : v < 128 ^ 0) (hb : badB 0 c.toNat = false) :
    bits .or .u64 (v : Int) ((c.toNat : Int) % 128) = ((v + c.toNat % 128 * 128 ^ 0 : Nat) : Int) := by
  have h := rv_bits 0 v c (by omega) hv hb
  rw [show (2 : Int) ^ (7 * 0) = 1 from rfl, Int.mul_one, IntKind.wrap_u64, Int.emod_eq_of_lt (by omega) (by omega)] at h
  exact h

theorem ret3 {a a' b b' : Int} (h1 : a = a') (h2 : b = b') : Ending.returned (.tuple #[.int .u64 a, .int .i64 b, .int .i64 0]) = .returned (.tuple #[.int .u64 a', .int .i64 b', .int .i64 ((0 : Nat) : Int)]) := by rw [h1, h2]; rfl

/-- What ReadVar answers as an error, the number, and the place behind it. -/
def readE (bs : List UInt8) (a : Int) : Int := if a < 0 then 1 else ((rvF 0 0 (bs.drop a.toNat)).1 : Nat)
def readV (bs : List UInt8) (a : Int) : Nat := if a < 0 then 0 else if (rvF 0 0 (bs.drop a.toNat)).1 = 0 then (rvF 0 0 (bs.drop a.toNat)).2.1 else 0
def readN (bs : List UInt8) (a : Int) : Int := if a < 0 then 0 else if (rvF 0 0 (bs.drop a.toNat)).1 = 0 then a + ((rvF 0 0 (bs.drop a.toNat)).2.2 : Nat) else 0
theorem read_of (bs : List UInt8) (a : Nat) (R : Nat × Nat × Nat) (hR : rvF 0 0 (bs.drop a) = R) :
    readE bs (a : Nat) = (R.1 : Nat) ∧ readV bs (a : Nat) = (if R.1 = 0 then R.2.1 else 0) ∧ readN bs (a : Nat) = if R.1 = 0 then ((a + R.2.2 : Nat) : Int) else 0 := by
  have h : ¬ ((a : Nat) : Int) < 0 := by omega
  refine ⟨?_, ?_, ?_⟩
  · unfold readE; rw [if_neg h, Int.toNat_natCast, hR]
  · unfold readV; rw [if_neg h, Int.toNat_natCast, hR]
  · unfold readN; rw [if_neg h, Int.toNat_natCast, hR]; split <;> omega
end Go.Proofs.Ytdpoiieblbmofaa
