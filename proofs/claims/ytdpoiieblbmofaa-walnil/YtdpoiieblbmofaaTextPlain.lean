/- Plain facts on a text as bytes, and on reading one. -/
import Derived.Test.YtdpoiieblbmofaaRvPlain
namespace Go.Proofs.Ytdpoiieblbmofaa
open Go.RowKit

theorem rv_ok (xs : List UInt8) (i v : Nat) (h : (rvF i v xs).1 = 0) : i < (rvF i v xs).2.2 ∧ (rvF i v xs).2.2 ≤ i + xs.length := by
  induction xs generalizing i v with
  | nil => simp [rvF] at h
  | cons c r ih =>
    cases hb : badB i c.toNat with
    | true => rw [rvF_bad _ _ _ _ hb] at h; cases h
    | false =>
      by_cases hc : 128 ≤ c.toNat
      · rw [rvF_more _ _ _ _ hb hc] at h ⊢
        have := ih _ _ h
        simp only [List.length_cons]
        omega
      · rw [rvF_last _ _ _ _ hb (by omega)]
        simp only [List.length_cons]
        omega
theorem rv_val (xs : List UInt8) (i v : Nat) (hi : i ≤ 9) (hv : v < 128 ^ i) (h : (rvF i v xs).1 = 0) : (rvF i v xs).2.1 < 18446744073709551616 := by
  induction xs generalizing i v with
  | nil => simp [rvF] at h
  | cons c r ih =>
    cases hb : badB i c.toNat with
    | true => rw [rvF_bad _ _ _ _ hb] at h; cases h
    | false =>
      by_cases hc : 128 ≤ c.toNat
      · rw [rvF_more _ _ _ _ hb hc] at h ⊢
        have h9 := bad_of_nine i _ hb hc
        exact ih _ _ (by omega) (pow_next i v c hv) h
      · rw [rvF_last _ _ _ _ hb (by omega)]
        exact rv_lt i v c hi hv hb

theorem rv_err (xs : List UInt8) (i v : Nat) : (rvF i v xs).1 = 0 ∨ (rvF i v xs).1 = 10 ∨ (rvF i v xs).1 = 11 := by
  induction xs generalizing i v with
  | nil => simp [rvF]
  | cons c r ih =>
    cases hb : badB i c.toNat with
    | true => rw [rvF_bad _ _ _ _ hb]; simp
    | false =>
      by_cases hc : 128 ≤ c.toNat
      · rw [rvF_more _ _ _ _ hb hc]; exact ih _ _
      · rw [rvF_last _ _ _ _ hb (by omega)]; simp
theorem readE_vals (bs : List UInt8) (a : Int) : readE bs a = 0 ∨ readE bs a = 1 ∨ readE bs a = 10 ∨ readE bs a = 11 := by
  unfold readE
  split
  · simp
  · rcases rv_err (bs.drop a.toNat) 0 0 with h | h | h <;> rw [h] <;> simp

/-- Where ReadVar's error is 0: the place behind the number lies within the bytes, and the number is below 2^64. -/
theorem read_ok (bs : List UInt8) (a : Int) (h : readE bs a = 0) : 0 ≤ a ∧ a < readN bs a ∧ readN bs a ≤ bs.length ∧ readV bs a < 18446744073709551616 := by
  by_cases h0 : a < 0
  · unfold readE at h; rw [if_pos h0] at h; cases h
  · obtain ⟨k, rfl⟩ := Int.eq_ofNat_of_zero_le (show 0 ≤ a by omega)
    obtain ⟨e1, e2, e3⟩ := read_of bs k _ rfl
    rw [h] at e1
    have hz : (rvF 0 0 (bs.drop k)).1 = 0 := by omega
    rw [if_pos hz] at e2 e3
    have h1 := rv_ok _ _ _ hz
    have h2 := rv_val _ 0 0 (by omega) (by simp) hz
    rw [e2, e3]
    simp only [List.length_drop] at h1
    exact ⟨by omega, by omega, by omega, h2⟩

/-- What ReadText answers: the error, the bytes, the place behind them. -/
def textE (bs : List UInt8) (a m : Int) : Int :=
  if readE bs a = 0 then (if max m 0 < (readV bs a : Nat) then 4 else if (bs.length : Int) - readN bs a < (readV bs a : Nat) then 10 else 0) else readE bs a
def textB (bs : List UInt8) (a m : Int) : List UInt8 := if textE bs a m = 0 then (bs.drop (readN bs a).toNat).take (readV bs a) else []
def textN (bs : List UInt8) (a m : Int) : Int := if textE bs a m = 0 then readN bs a + (readV bs a : Nat) else 0
end Go.Proofs.Ytdpoiieblbmofaa
