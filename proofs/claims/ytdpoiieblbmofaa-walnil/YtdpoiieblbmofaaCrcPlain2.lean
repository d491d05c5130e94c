/- More plain facts for package crc: four bits at a time; products of remainders; sums joined; bursts; the sum of three texts. -/
import Derived.Test.YtdpoiieblbmofaaCrcPlain
namespace Go.Proofs.Ytdpoiieblbmofaa

theorem split_low (k v : Nat) : v = 2 ^ k * (v / 2 ^ k) ^^^ v % 2 ^ k := by
  have hlt : v % 2 ^ k < 2 ^ k := Nat.mod_lt _ (Nat.pow_pos (by omega))
  have h := Nat.two_pow_add_eq_or_of_lt hlt (v / 2 ^ k)
  have h2 : 2 ^ k * (v / 2 ^ k) ||| v % 2 ^ k = 2 ^ k * (v / 2 ^ k) ^^^ v % 2 ^ k := by
    apply Nat.eq_of_testBit_eq
    intro i
    rw [Nat.testBit_or, Nat.testBit_xor]
    by_cases hi : i < k
    · rw [Nat.testBit_two_pow_mul]
      simp [show ¬ k ≤ i by omega]
    · have : (v % 2 ^ k).testBit i = false := Nat.testBit_lt_two_pow (Nat.lt_of_lt_of_le hlt (Nat.pow_le_pow_right (by omega) (by omega)))
      rw [this]
      simp
  rw [← h2, ← h]
  exact (Nat.div_add_mod v (2 ^ k)).symm

/-- k bits at a time. -/
theorem stps_low (k s : Nat) : stps k s = stps k (s % 2 ^ k) ^^^ s / 2 ^ k := by
  conv => lhs; rw [split_low k s, stps_xor, stps_shift]
  rw [Nat.xor_comm]

/-! ### Products -/
def tacc : Nat → Nat → Nat → Nat → Nat
  | 0, p, _, _ => p
  | n + 1, p, a, b => tacc n (if 2147483648 ≤ a then p ^^^ b else p) (a * 2 % 4294967296) (stp b)
def tms (a b : Nat) : Nat := tacc 32 0 a b

theorem stp_stps (k b : Nat) : stp (stps k b) = stps k (stp b) := by
  rw [← stps_succ, stps]
theorem tacc_stps (n k p a b : Nat) : tacc n (stps k p) a (stps k b) = stps k (tacc n p a b) := by
  induction n generalizing p a b with
  | zero => rfl
  | succ n ih =>
    rw [tacc, tacc, stp_stps, ← ih]
    congr 1
    split
    · rw [stps_xor]
    · rfl
theorem tms_stps (k a b : Nat) : tms a (stps k b) = stps k (tms a b) := by
  unfold tms
  rw [← tacc_stps, stps_zero]
theorem xor_add_low (t n r : Nat) (h : r < 2 ^ n) : t * 2 ^ n + r = t * 2 ^ n ^^^ r := by
  have h1 := split_low n (t * 2 ^ n + r)
  have e1 : (t * 2 ^ n + r) / 2 ^ n = t := by
    rw [Nat.mul_comm, Nat.mul_add_div (Nat.pow_pos (by omega)), Nat.div_eq_of_lt h, Nat.add_zero]
  have e2 : (t * 2 ^ n + r) % 2 ^ n = r := by
    rw [Nat.mul_comm, Nat.mul_add_mod, Nat.mod_eq_of_lt h]
  rw [e1, e2] at h1
  rw [Nat.mul_comm t]
  rwa [Nat.mul_comm t] at h1
theorem tacc_one (n p a : Nat) (hn : n ≤ 32) (ha : a < 4294967296) : tacc n p a (2 ^ n / 2) = p ^^^ a / 2 ^ (32 - n) := by
  induction n generalizing p a with
  | zero =>
    rw [tacc, Nat.div_eq_of_lt (by simpa using ha), Nat.xor_zero]
  | succ n ih =>
    have e0 : 2 ^ (n + 1) / 2 = 2 ^ n := by rw [Nat.pow_succ]; omega
    rw [tacc, e0]
    by_cases h0 : n = 0
    · subst h0
      rw [tacc]
      split
      · congr 1
        omega
      · rw [Nat.div_eq_of_lt (by omega), Nat.xor_zero]
    · have e1 : stp (2 ^ n) = 2 ^ n / 2 := by
        obtain ⟨m, rfl⟩ : ∃ m, n = m + 1 := ⟨n - 1, by omega⟩
        unfold stp
        rw [if_neg (by rw [Nat.pow_succ]; omega)]
      rw [e1, ih _ _ (by omega) (Nat.mod_lt _ (by omega))]
      have hp : 2 ^ (32 - n) = 2 * 2 ^ (32 - (n + 1)) := by rw [show 32 - n = (32 - (n + 1)) + 1 by omega, Nat.pow_succ, Nat.mul_comm]
      have hq : 2147483648 = 2 ^ n * 2 ^ (32 - (n + 1)) := by rw [← Nat.pow_add, show n + (32 - (n + 1)) = 31 by omega]
      have hpos : 0 < 2 ^ (32 - (n + 1)) := Nat.pow_pos (by omega)
      split
      · rename_i hge
        obtain ⟨r, rfl⟩ : ∃ r, a = 2147483648 + r := ⟨a - 2147483648, by omega⟩
        have hr : r < 2147483648 := by omega
        rw [show (2147483648 + r) * 2 % 4294967296 = 2 * r by omega, hp, Nat.mul_div_mul_left _ _ (by omega)]
        have hd : (2147483648 + r) / 2 ^ (32 - (n + 1)) = 1 * 2 ^ n + r / 2 ^ (32 - (n + 1)) := by
          rw [hq, Nat.mul_comm, Nat.mul_add_div hpos, Nat.one_mul]
        have hlt : r / 2 ^ (32 - (n + 1)) < 2 ^ n := by
          rw [Nat.div_lt_iff_lt_mul hpos, ← hq]; exact hr
        rw [hd, xor_add_low 1 n _ hlt, Nat.one_mul, Nat.xor_assoc]
      · rw [show a * 2 % 4294967296 = 2 * a by omega, hp, Nat.mul_div_mul_left _ _ (by omega)]
theorem tms_one (a : Nat) (ha : a < 4294967296) : tms a 2147483648 = a := by
  have h := tacc_one 32 0 a (by omega) ha
  simpa [tms] using h
/-- To multiply by a power of x is so many steps. -/
theorem tms_pow (k a : Nat) (ha : a < 4294967296) : tms a (stps k 2147483648) = stps k a := by
  rw [tms_stps, tms_one a ha]

/-! ### Sums in parts -/
/-- Two sums as one. -/
def joinS (a b : Nat) (n : Int) : Nat := if n < 1 then a else stps (8 * n.toNat) a ^^^ b
theorem more_more (s : Nat) (a b : List UInt8) : more (more s a) b = more s (a ++ b) := by
  unfold more
  rw [Nat.xor_assoc, Nat.xor_self, Nat.xor_zero, raw_append]
theorem more_join (s : Nat) (b : List UInt8) : more s b = stps (8 * b.length) s ^^^ more 0 b := by
  unfold more
  rw [Nat.zero_xor, Nat.xor_comm s, raw_lin, ← Nat.xor_assoc, Nat.xor_comm (raw 4294967295 b)]
theorem joinS_more (a : Nat) (b : List UInt8) : joinS a (more 0 b) (b.length : Nat) = more a b := by
  unfold joinS
  by_cases h : b.length = 0
  · have hb : b = [] := List.eq_nil_of_length_eq_zero h
    subst hb
    rw [if_pos (by simp)]
    simp [more, raw, Nat.xor_assoc]
  · rw [if_neg (by omega), Int.toNat_natCast, more_join a b]
theorem joinS_assoc (a b c : Nat) (n m : Nat) : joinS (joinS a b n) c m = joinS a (joinS b c m) (n + m : Nat) ∨ n = 0 := by
  by_cases hn : n = 0
  · exact Or.inr hn
  · left
    unfold joinS
    by_cases hm : m = 0
    · subst hm
      simp
    · rw [if_neg (show ¬ ((n : Nat) : Int) < 1 by omega), if_neg (show ¬ ((m : Nat) : Int) < 1 by omega), if_neg (show ¬ ((n + m : Nat) : Int) < 1 by omega)]
      simp only [Int.toNat_natCast]
      rw [stps_xor, ← stps_add, Nat.xor_assoc, show 8 * n + 8 * m = 8 * (n + m) by omega, if_neg (show ¬ ((m : Nat) : Int) < 1 by omega)]

/-! ### Three texts, turned into one another -/
def xor3 : List UInt8 → List UInt8 → List UInt8 → List UInt8
  | a :: r, b :: s, c :: t => (a ^^^ b ^^^ c) :: xor3 r s t
  | _, _, _ => []
theorem feed3 (x y z : Nat) (a b c : UInt8) : feed (x ^^^ y ^^^ z) (a ^^^ b ^^^ c) = feed x a ^^^ feed y b ^^^ feed z c := by
  unfold feed
  rw [← stps_xor, ← stps_xor, UInt8.toNat_xor, UInt8.toNat_xor]
  congr 1
  apply Nat.eq_of_testBit_eq
  intro i
  simp only [Nat.testBit_xor]
  cases x.testBit i <;> cases y.testBit i <;> cases z.testBit i <;> cases a.toNat.testBit i <;> cases b.toNat.testBit i <;> cases c.toNat.testBit i <;> rfl
theorem raw3 (x y z : Nat) (a b c : List UInt8) (hb : b.length = a.length) (hc : c.length = a.length) : raw (x ^^^ y ^^^ z) (xor3 a b c) = raw x a ^^^ raw y b ^^^ raw z c := by
  induction a generalizing x y z b c with
  | nil =>
    obtain rfl : b = [] := List.eq_nil_of_length_eq_zero hb
    obtain rfl : c = [] := List.eq_nil_of_length_eq_zero hc
    rfl
  | cons p r ih =>
    match b, c, hb, hc with
    | q :: s, u :: t, hb, hc =>
      rw [xor3, raw_cons, raw_cons, raw_cons, raw_cons, feed3]
      exact ih _ _ _ s t (by simpa using hb) (by simpa using hc)
theorem more3 (a b c : List UInt8) (hb : b.length = a.length) (hc : c.length = a.length) : more 0 (xor3 a b c) = more 0 a ^^^ more 0 b ^^^ more 0 c := by
  have h := raw3 4294967295 4294967295 4294967295 a b c hb hc
  rw [show 4294967295 ^^^ 4294967295 ^^^ 4294967295 = 4294967295 by decide] at h
  unfold more
  rw [Nat.zero_xor, h]
  apply Nat.eq_of_testBit_eq
  intro i
  simp only [Nat.testBit_xor]
  cases (raw 4294967295 a).testBit i <;> cases (raw 4294967295 b).testBit i <;> cases (raw 4294967295 c).testBit i <;> cases (4294967295 : Nat).testBit i <;> rfl

/-! ### Bursts -/
/-- Turned bits, one behind the other; a place past the end turns nothing. -/
def turnAll (bs : List UInt8) : List Nat → List UInt8
  | [] => bs
  | p :: r => turnAll (if p < 8 * bs.length then turn bs p else bs) r
def Dall (n : Nat) : List Nat → Nat
  | [] => 0
  | p :: r => (if p < n then D n p else 0) ^^^ Dall n r
theorem raw_turnAll (s : Nat) (bs : List UInt8) (ps : List Nat) : raw s (turnAll bs ps) = raw s bs ^^^ Dall (8 * bs.length) ps := by
  induction ps generalizing bs with
  | nil => simp [turnAll, Dall]
  | cons p r ih =>
    rw [turnAll, Dall, ih]
    by_cases h : p < 8 * bs.length
    · rw [if_pos h, if_pos h, raw_turn_D s bs p h, length_turn, Nat.xor_assoc]
    · rw [if_neg h, if_neg h, Nat.zero_xor]
theorem D_pow (n a i : Nat) (h : a + i ≤ n) : D n (a + i) = stps (n - a) (2 ^ i) := by
  have e := stps_shift i 1
  rw [Nat.mul_one] at e
  unfold D
  rw [show n - a = i + (n - (a + i)) by omega, stps_add, e]
/-- The bits of a pattern that lie ahead of the end, as a number. -/
def patt (r : Nat) : List Nat → Nat
  | [] => 0
  | i :: t => (if i < r then 2 ^ i else 0) ^^^ patt r t
theorem Dall_patt (n a : Nat) (is : List Nat) (ha : a ≤ n) : Dall n (is.map (a + ·)) = stps (n - a) (patt (n - a) is) := by
  induction is with
  | nil => rw [patt, stps_zero]; rfl
  | cons i t ih =>
    rw [List.map_cons, Dall, patt, stps_xor, ih]
    congr 1
    by_cases h : a + i < n
    · rw [if_pos h, if_pos (by omega), D_pow n a i (by omega)]
    · rw [if_neg h, if_neg (by omega), stps_zero]
theorem raw_burst (s : Nat) (bs : List UInt8) (a : Nat) (is : List Nat) (ha : a ≤ 8 * bs.length) (hlt : patt (8 * bs.length - a) is < 4294967296) (hne : patt (8 * bs.length - a) is ≠ 0) :
    raw s (turnAll bs (is.map (a + ·))) ≠ raw s bs := by
  intro h
  rw [raw_turnAll, Dall_patt _ _ _ ha] at h
  exact hne (stps_eq_zero _ _ hlt (xor_cancel _ _ h))
end Go.Proofs.Ytdpoiieblbmofaa
