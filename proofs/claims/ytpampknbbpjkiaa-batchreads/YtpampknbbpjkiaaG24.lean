/- Texts of ours, one behind the other: All. -/
import Derived.Test.YtpampknbbpjkiaaG13
/- Put and Get of package word, each in one contract for every argument. -/
namespace Go.Proofs.Ytpampknbbpjkiaa
open Go.RowKit

/-- What Put answers as an error. -/
def putE (v : Nat) (n : Int) : Int := if n < 1 ∨ 8 < n then 1 else if 256 ^ n.toNat ≤ v then 12 else 0
/-- The bytes that Put answers. -/
def putB (bs : List UInt8) (v : Nat) (n : Int) : List UInt8 := if n < 1 ∨ 8 < n then [] else if 256 ^ n.toNat ≤ v then [] else bs ++ le n.toNat v
/-- What Get answers as an error. -/
def getE (bs : List UInt8) (a n : Int) : Int := if (n < 1 ∨ 8 < n) ∨ a < 0 then 1 else if (bs.length : Int) < a + n then 10 else 0
/-- The number that Get answers. -/
def getV (bs : List UInt8) (a n : Int) : Nat := if (n < 1 ∨ 8 < n) ∨ a < 0 then 0 else if (bs.length : Int) < a + n then 0 else num ((bs.drop a.toNat).take n.toNat)

theorem get_any (s : Value) (bs : List UInt8) (a n : Int) (w : World) (hs : Row w s bs) (ha : a ≤ 9223372036854775807) :
    Calls Try.prog 88 #[s, .int .i64 a, .int .i64 n] w fun e w' => e = .returned (.tuple #[.int .u64 (getV bs a n : Nat), .int .i64 (getE bs a n)]) ∧ Below w.heap.size w w' := by
  unfold getE getV
  by_cases h : (n < 1 ∨ 8 < n) ∨ a < 0
  · rw [if_pos h, if_pos h]
    refine (get_arg s a n w h).mono ?_
    rintro e w' ⟨rfl, rfl⟩
    exact ⟨rfl, Below.refl _ _⟩
  · rw [if_neg h, if_neg h]
    obtain ⟨m, rfl⟩ := Int.eq_ofNat_of_zero_le (show 0 ≤ n by omega)
    obtain ⟨k, rfl⟩ := Int.eq_ofNat_of_zero_le (show 0 ≤ a by omega)
    rw [Int.toNat_natCast, Int.toNat_natCast]
    by_cases h2 : (bs.length : Int) < k + m
    · rw [if_pos h2, if_pos h2]
      obtain ⟨p, cap, rfl, hc1, hc2, _⟩ := hs
      unfold maxLen at hc2
      refine (get_short p bs.length cap k m w (by omega) (by omega) (by omega) (by omega) (by omega)).mono ?_
      rintro e w' ⟨rfl, rfl⟩
      exact ⟨rfl, Below.refl _ _⟩
    · rw [if_neg h2, if_neg h2]
      exact get_ok s bs k m w hs (by omega) (by omega) (by omega)
theorem putE_cases (v : Nat) (n : Int) : (putE v n = 0 ∧ 1 ≤ n ∧ n ≤ 8 ∧ v < 256 ^ n.toNat) ∨ ((putE v n == 0) = false ∧ ∀ bs, putB bs v n = []) := by
  unfold putE putB
  by_cases h : n < 1 ∨ 8 < n
  · rw [if_pos h]
    exact Or.inr ⟨rfl, fun bs => by rw [if_pos h]⟩
  · rw [if_neg h]
    by_cases h2 : 256 ^ n.toNat ≤ v
    · rw [if_pos h2]
      exact Or.inr ⟨rfl, fun bs => by rw [if_neg h, if_pos h2]⟩
    · rw [if_neg h2]
      exact Or.inl ⟨rfl, by omega, by omega, by omega⟩
theorem getE_cases (bs : List UInt8) (a n : Int) : (getE bs a n = 0 ∧ 1 ≤ n ∧ n ≤ 8 ∧ 0 ≤ a ∧ a + n ≤ bs.length ∧ getV bs a n = num ((bs.drop a.toNat).take n.toNat)) ∨ (getE bs a n == 0) = false := by
  unfold getE getV
  by_cases h : (n < 1 ∨ 8 < n) ∨ a < 0
  · rw [if_pos h]
    exact Or.inr rfl
  · rw [if_neg h, if_neg h]
    by_cases h2 : (bs.length : Int) < a + n
    · rw [if_pos h2]
      exact Or.inr rfl
    · rw [if_neg h2, if_neg h2]
      exact Or.inl ⟨rfl, by omega, by omega, by omega, by omega, rfl⟩
theorem putB_ok (bs : List UInt8) (v : Nat) (n : Int) (h1 : 1 ≤ n) (h2 : n ≤ 8) (h : v < 256 ^ n.toNat) : putB bs v n = bs ++ le n.toNat v := by
  unfold putB
  rw [if_neg (by omega), if_neg (by omega)]
theorem putE_ok (v : Nat) (n : Int) (h1 : 1 ≤ n) (h2 : n ≤ 8) (h : v < 256 ^ n.toNat) : putE v n = 0 := by
  unfold putE
  rw [if_neg (by omega), if_neg (by omega)]
theorem getE_ok (bs : List UInt8) (a n : Int) (h1 : 1 ≤ n) (h2 : n ≤ 8) (h3 : 0 ≤ a) (h : a + n ≤ bs.length) : getE bs a n = 0 := by
  unfold getE
  rw [if_neg (by omega), if_neg (by omega)]
theorem getV_ok (bs : List UInt8) (a n : Int) (h1 : 1 ≤ n) (h2 : n ≤ 8) (h3 : 0 ≤ a) (h : a + n ≤ bs.length) : getV bs a n = num ((bs.drop a.toNat).take n.toNat) := by
  unfold getV
  rw [if_neg (by omega), if_neg (by omega)]
end Go.Proofs.Ytpampknbbpjkiaa
