/- Plain facts: a number's bytes have one form: what is read, written again, is the same bytes, and what is written is read. -/
import Derived.Test.YtdpoiieblbmofaaTextPlain
namespace Go.Proofs.Ytdpoiieblbmofaa

theorem ofNat_toNat (c : UInt8) : UInt8.ofNat c.toNat = c := by simp

theorem rv_back (xs : List UInt8) (i v : Nat) (hi : i ≤ 9) (h : (rvF i v xs).1 = 0) :
    ∃ y, (rvF i v xs).2.1 = v + y * 128 ^ i ∧ (0 < i → 0 < y) ∧ varF (9 - i) y = xs.take ((rvF i v xs).2.2 - i) := by
  induction xs generalizing i v with
  | nil => simp [rvF] at h
  | cons c r ih =>
    have hc8 := c.toNat_lt
    cases hb : badB i c.toNat with
    | true => rw [rvF_bad _ _ _ _ hb] at h; cases h
    | false =>
      by_cases hc : 128 ≤ c.toNat
      · have h9 := bad_of_nine i _ hb hc
        rw [rvF_more _ _ _ _ hb hc] at h ⊢
        obtain ⟨y, h1, h2, h3⟩ := ih (i + 1) _ (by omega) h
        have hy := h2 (by omega)
        have hC := (rv_ok r (i + 1) _ h).1
        refine ⟨c.toNat % 128 + 128 * y, ?_, fun _ => by omega, ?_⟩
        · rw [h1, Nat.pow_succ, Nat.add_mul, Nat.add_assoc]
          congr 2
          rw [Nat.mul_comm (128 ^ i) 128, ← Nat.mul_assoc, Nat.mul_comm y 128]
        · rw [show 9 - i = (9 - (i + 1)) + 1 by omega, varF_go _ _ (by omega), show (c.toNat % 128 + 128 * y) / 128 = y by omega, h3,
            show (c.toNat % 128 + 128 * y) % 128 + 128 = c.toNat by omega, ofNat_toNat,
            show (rvF (i + 1) (v + c.toNat % 128 * 128 ^ i) r).2.2 - i = ((rvF (i + 1) (v + c.toNat % 128 * 128 ^ i) r).2.2 - (i + 1)) + 1 by omega, List.take_succ_cons]
      · rw [rvF_last _ _ _ _ hb (by omega)]
        refine ⟨c.toNat, by simp only [Nat.mod_eq_of_lt (show c.toNat < 128 by omega)], fun h0 => ?_, ?_⟩
        · unfold badB at hb; simp at hb; omega
        · rw [varF_stop _ _ (by omega), ofNat_toNat, show i + 1 - i = 1 by omega]; rfl

theorem rv_forth (f i a y : Nat) (rest : List UInt8) (hf : i + f = 9) (hy : 0 < i → 0 < y) (h64 : y * 128 ^ i < 18446744073709551616) :
    rvF i a (varF f y ++ rest) = (0, a + y * 128 ^ i, i + (varF f y).length) := by
  induction f generalizing i a y with
  | zero =>
    obtain rfl : i = 9 := by omega
    have hy1 : y ≤ 1 := by
      rcases Nat.lt_or_ge y 2 with h | h
      · omega
      · have : 2 * 128 ^ 9 ≤ y * 128 ^ 9 := Nat.mul_le_mul_right _ h
        omega
    have hy0 := hy (by omega)
    obtain rfl : y = 1 := by omega
    have e : varF 0 1 = [1] := rfl
    rw [e, List.singleton_append, rvF_last 9 a 1 rest (by decide) (by decide)]
    rfl
  | succ f ih =>
    by_cases h : y < 128
    · rw [varF_stop _ _ h, List.singleton_append]
      have hn : (UInt8.ofNat y).toNat = y := by simp; omega
      have hb : badB i (UInt8.ofNat y).toNat = false := by rw [hn]; unfold badB; simp; omega
      rw [rvF_last i a _ rest hb (by omega), hn, Nat.mod_eq_of_lt h]
      rfl
    · have hn : (UInt8.ofNat (y % 128 + 128)).toNat = y % 128 + 128 := by simp; omega
      have hb : badB i (UInt8.ofNat (y % 128 + 128)).toNat = false := by rw [hn]; unfold badB; simp; omega
      have hs : y / 128 * 128 ^ (i + 1) + y % 128 * 128 ^ i = y * 128 ^ i := by
        have hd : y = 128 * (y / 128) + y % 128 := by omega
        rw [Nat.pow_succ]
        conv => rhs; rw [hd, Nat.add_mul]
        rw [Nat.mul_comm (128 ^ i) 128, ← Nat.mul_assoc, Nat.mul_comm (y / 128) 128]
      rw [varF_go _ _ (by omega), List.cons_append, rvF_more i a _ _ hb (by omega), hn]
      rw [ih (i + 1) _ (y / 128) (by omega) (fun _ => by omega) (by omega)]
      simp only [List.length_cons, Nat.add_mod_right, Nat.mod_mod, Prod.mk.injEq, true_and]
      exact ⟨by omega, by omega⟩

theorem rv_written (v : Nat) (rest : List UInt8) (hv : v < 18446744073709551616) : rvF 0 0 (varF 9 v ++ rest) = (0, v, (varF 9 v).length) := by
  have h := rv_forth 9 0 0 v rest rfl (by omega) (by omega)
  simpa using h

/-- What is read, written again, is the same bytes. -/
theorem read_back (bs : List UInt8) (a : Int) (h : readE bs a = 0) : varF 9 (readV bs a) = (bs.drop a.toNat).take ((readN bs a).toNat - a.toNat) := by
  obtain ⟨h0, _, _, _⟩ := read_ok bs a h
  obtain ⟨k, rfl⟩ := Int.eq_ofNat_of_zero_le h0
  obtain ⟨e1, e2, e3⟩ := read_of bs k _ rfl
  rw [h] at e1
  have hz : (rvF 0 0 (bs.drop k)).1 = 0 := by omega
  rw [if_pos hz] at e2 e3
  obtain ⟨y, h1, _, h3⟩ := rv_back (bs.drop k) 0 0 (by omega) hz
  have hy : y = (rvF 0 0 (bs.drop k)).2.1 := by rw [h1]; simp
  rw [e2, e3, Int.toNat_natCast, Int.toNat_natCast, Nat.add_sub_cancel_left, ← hy]
  exact h3

/-- What is written is read where it was written. -/
theorem read_written (hd rest : List UInt8) (v : Nat) (hv : v < 18446744073709551616) :
    readE (hd ++ varF 9 v ++ rest) (hd.length : Nat) = 0 ∧ readV (hd ++ varF 9 v ++ rest) (hd.length : Nat) = v ∧ readN (hd ++ varF 9 v ++ rest) (hd.length : Nat) = ((hd.length + (varF 9 v).length : Nat) : Int) := by
  have hd' : (hd ++ varF 9 v ++ rest).drop hd.length = varF 9 v ++ rest := by rw [List.append_assoc, List.drop_left]
  have hR : rvF 0 0 ((hd ++ varF 9 v ++ rest).drop hd.length) = (0, v, (varF 9 v).length) := by rw [hd']; exact rv_written v rest hv
  obtain ⟨e1, e2, e3⟩ := read_of _ _ _ hR
  exact ⟨e1, e2, e3⟩
end Go.Proofs.Ytdpoiieblbmofaa
