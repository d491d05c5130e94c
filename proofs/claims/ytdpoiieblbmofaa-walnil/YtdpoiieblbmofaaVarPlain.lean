/- Plain facts on a number as bytes (seven bits a byte): its length, and that no two numbers have the same bytes. -/
import Derived.Test.YtdpoiieblbmofaaPlain
namespace Go.Proofs.Ytdpoiieblbmofaa

theorem varF_len (f v : Nat) : 1 ≤ (varF f v).length ∧ (varF f v).length ≤ f + 1 := by
  induction f generalizing v with
  | zero => simp [varF]
  | succ f ih =>
    by_cases h : v < 128
    · rw [varF_stop _ _ h]; simp
    · rw [varF_go _ _ (by omega)]; have := ih (v / 128); simp only [List.length_cons]; omega

theorem varF_mono (f a b : Nat) (h : a ≤ b) : (varF f a).length ≤ (varF f b).length := by
  induction f generalizing a b with
  | zero => simp [varF]
  | succ f ih =>
    by_cases ha : a < 128
    · rw [varF_stop _ _ ha]; exact (varF_len (f + 1) b).1
    · rw [varF_go _ _ (by omega), varF_go _ _ (by omega)]
      have := ih (a / 128) (b / 128) (Nat.div_le_div_right h)
      simp only [List.length_cons]; omega

theorem ofNat_inj {a b : Nat} (ha : a < 256) (hb : b < 256) (h : UInt8.ofNat a = UInt8.ofNat b) : a = b := by
  have := congrArg UInt8.toNat h
  simp at this
  omega

theorem varF_inj (f a b : Nat) (ha : a < 128 ^ (f + 1)) (hb : b < 128 ^ (f + 1)) (h : varF f a = varF f b) : a = b := by
  induction f generalizing a b with
  | zero =>
    simp [varF] at h ha hb
    exact ofNat_inj (by omega) (by omega) h
  | succ f ih =>
    by_cases h1 : a < 128
    · by_cases h2 : b < 128
      · rw [varF_stop _ _ h1, varF_stop _ _ h2] at h
        exact ofNat_inj (by omega) (by omega) (List.cons.inj h).1
      · rw [varF_stop _ _ h1, varF_go _ _ (by omega)] at h
        have := ofNat_inj (by omega) (by omega) (List.cons.inj h).1
        omega
    · by_cases h2 : b < 128
      · rw [varF_go _ _ (by omega), varF_stop _ _ h2] at h
        have := ofNat_inj (by omega) (by omega) (List.cons.inj h).1
        omega
      · rw [varF_go _ _ (by omega), varF_go _ _ (by omega)] at h
        have e1 := ofNat_inj (by omega) (by omega) (List.cons.inj h).1
        have e2 := ih (a / 128) (b / 128) (pow_step f a ha) (pow_step f b hb) (List.cons.inj h).2
        omega

theorem varF_beq (a b : Nat) (ha : a < 18446744073709551616) (hb : b < 18446744073709551616) : (varF 9 a == varF 9 b) = decide (a = b) := by
  rw [Bool.eq_iff_iff]
  simp only [beq_iff_eq, decide_eq_true_eq]
  exact ⟨fun h => varF_inj 9 a b (by omega) (by omega) h, fun h => by rw [h]⟩
theorem eq_dec (a b : Nat) : (((a : Int) == (b : Int)) == decide (a = b)) = true := by
  have : ((a : Int) == (b : Int)) = decide (a = b) := by
    rw [Bool.eq_iff_iff]
    simp only [beq_iff_eq, decide_eq_true_eq]
    omega
  rw [this]
  simp
end Go.Proofs.Ytdpoiieblbmofaa
