/- Texts of ours, one behind the other: Plain, VarPlain, RvPlain, TextPlain, OnePlain, FrPlain, SecPlain, SecPlain2, LayPlain, DiskPlain, WalPlain, WalRawPlain, TurnBit. -/
import Derived.Test.YtpkpjmebkikgdaaG3
import Derived.WalkKit
import Derived.Laws.BitsAllLaws
import Derived.Laws.CopyOwn
/- The plain half of the proofs about package word: numbers as bytes, rows of bytes in memory; nothing here speaks of the program. -/
namespace Go.Proofs.Ytpkpjmebkikgdaa
open Go.RowKit

theorem ret_true {b : Bool} (h : b = true) : Ending.returned (.bool b) = .returned (.bool true) := by rw [h]
theorem hide {p : Prop} (h : p) : Hid p := h
theorem unhide {p : Prop} (h : Hid p) : p := h

/-- A byte as a value. -/
def B (u : UInt8) : Value := .int .u8 (u.toNat : Int)

/-- The bytes of a number as bytes, with fuel: seven bits a byte, the lowest first. -/
def varF : Nat → Nat → List UInt8
  | 0, v => [UInt8.ofNat v]
  | f + 1, v => if v < 128 then [UInt8.ofNat v] else UInt8.ofNat (v % 128 + 128) :: varF f (v / 128)

theorem or128 : ∀ n : Nat, n < 256 → n ||| 128 = n % 128 + 128 := by decide +kernel
theorem bits_or128 (x : Nat) : bits .or .u8 ((x : Int) % 256) 128 = ((UInt8.ofNat (x % 128 + 128)).toNat : Int) := by
  have h : ((x : Int) % 256) = ((x % 256 : Nat) : Int) := by omega
  rw [h, show (128 : Int) = ((128 : Nat) : Int) from rfl, u8_or_nat _ _ (by omega) (by omega), or128 _ (by omega)]
  congr 1
  simp
  omega
theorem B_or128 (x : Nat) : B (UInt8.ofNat (x % 128 + 128)) = .int .u8 (bits .or .u8 ((x : Int) % 256) 128) := by unfold B; rw [bits_or128]
theorem varF_stop (f x : Nat) (h : x < 128) : varF f x = [UInt8.ofNat x] := by cases f <;> simp [varF, h]
theorem varF_go (f x : Nat) (h : 128 ≤ x) : varF (f + 1) x = UInt8.ofNat (x % 128 + 128) :: varF f (x / 128) := by
  rw [varF, if_neg (by omega)]
theorem pow_step (f x : Nat) (h : x < 128 ^ (f + 1 + 1)) : x / 128 < 128 ^ (f + 1) := by
  rw [Nat.div_lt_iff_lt_mul (by omega)]
  rw [Nat.pow_succ 128 (f + 1)] at h
  exact h

/-- v in n bytes, the lowest first. -/
def le (n v : Nat) : List UInt8 := (List.range n).map fun i => UInt8.ofNat (v / 256 ^ i)
theorem length_le (n v : Nat) : (le n v).length = n := by simp [le]
theorem le_succ (n v : Nat) : le (n + 1) v = le n v ++ [UInt8.ofNat (v / 256 ^ n)] := by simp [le, List.range_succ]

theorem le_add (a b v : Nat) : le (a + b) v = le a v ++ le b (v / 256 ^ a) := by
  induction b with
  | zero => simp [le]
  | succ b ih => rw [← Nat.add_assoc, le_succ, ih, le_succ, List.append_assoc, Nat.div_div_eq_div_mul, Nat.pow_add]

/-- The number that bytes are, the lowest first. -/
def num : List UInt8 → Nat
  | [] => 0
  | b :: r => b.toNat + 256 * num r
theorem num_append (a b : List UInt8) : num (a ++ b) = num a + 256 ^ a.length * num b := by
  induction a with
  | nil => simp [num]
  | cons x r ih => simp only [List.cons_append, num, ih, List.length_cons, Nat.pow_succ]; rw [Nat.mul_add, Nat.mul_comm (256 ^ r.length) 256, Nat.mul_assoc]; omega
theorem num_lt (a : List UInt8) : num a < 256 ^ a.length := by
  induction a with
  | nil => simp [num]
  | cons x r ih => have := x.toNat_lt; simp only [num, List.length_cons, Nat.pow_succ]; omega
theorem num_le (n v : Nat) : num (le n v) = v % 256 ^ n := by
  induction n with
  | zero => simp [le, num, Nat.mod_one]
  | succ n ih =>
    rw [le_succ, num_append, ih, length_le]
    simp only [num, Nat.mul_zero, Nat.add_zero]
    rw [Nat.pow_succ, Nat.mod_mul]
    simp

theorem le_num (bs : List UInt8) : le bs.length (num bs) = bs := by
  induction bs with
  | nil => rfl
  | cons x r ih =>
    have hx := x.toNat_lt
    rw [List.length_cons, Nat.add_comm, le_add, num, Nat.pow_one]
    have e1 : (x.toNat + 256 * num r) / 256 = num r := by omega
    rw [e1, ih]
    have e2 : le 1 (x.toNat + 256 * num r) = [x] := by
      simp [le, List.range_succ]
    rw [e2]
    rfl

theorem pow_cast (i : Nat) : (2 : Int) ^ (8 * i) = ((256 ^ i : Nat) : Int) := by
  rw [Int.pow_mul]; norm_cast
theorem put_byte (v i : Nat) : (v : Int) / 2 ^ (8 * i) % 256 = ((UInt8.ofNat (v / 256 ^ i)).toNat : Int) := by
  rw [pow_cast]
  simp
theorem room_div (v n : Nat) : ((v : Int) / 2 ^ (8 * n) == 0) = decide (v < 256 ^ n) := by
  rw [pow_cast, Bool.eq_iff_iff]
  simp only [beq_iff_eq, decide_eq_true_eq]
  have h : (v : Int) / ((256 ^ n : Nat) : Int) = ((v / 256 ^ n : Nat) : Int) := by simp
  rw [h]
  have := Nat.div_eq_zero_iff (a := v) (b := 256 ^ n)
  have hp : 0 < 256 ^ n := Nat.pow_pos (by omega)
  omega
theorem pow_le8 (i : Nat) (h : i < 8) : 256 ^ i * 256 ≤ 18446744073709551616 := by
  have : 256 ^ (i + 1) ≤ 256 ^ 8 := Nat.pow_le_pow_right (by omega) (by omega)
  rw [Nat.pow_succ] at this
  exact this
theorem get_bits (x i : Nat) (c : UInt8) (hi : i < 8) (hx : x < 256 ^ i) :
    bits .or .u64 (x : Int) (IntKind.u64.wrap ((c.toNat : Int) * 2 ^ (8 * i))) = ((x + c.toNat * 256 ^ i : Nat) : Int) := by
  have hc := c.toNat_lt
  have h8 := pow_le8 i hi
  have hm : c.toNat * 256 ^ i ≤ 255 * 256 ^ i := Nat.mul_le_mul_right _ (by omega)
  have e : (c.toNat : Int) * 2 ^ (8 * i) = ((c.toNat * 256 ^ i : Nat) : Int) := by rw [pow_cast]; norm_cast
  rw [e, IntKind.wrap_u64, Int.emod_eq_of_lt (by omega) (by omega), u64_or_nat _ _ (by omega) (by omega)]
  congr 1
  have h2 : 256 ^ i = 2 ^ (8 * i) := by rw [Nat.pow_mul]
  rw [h2] at hx ⊢
  rw [Nat.or_comm, Nat.mul_comm, ← Nat.two_pow_add_eq_or_of_lt hx]
  omega

/-- A slice value that reads as these bytes in this world: whatever its address where there are none. -/
def Row (w : World) (s : Value) (bs : List UInt8) : Prop :=
  ∃ (a : Option Addr) (cap : Nat), s = .slice a bs.length cap ∧ bs.length ≤ cap ∧ cap ≤ maxLen ∧ (a = none → cap = 0) ∧
    (bs = [] ∨ ∃ b off, a = some ⟨b, off, none⟩ ∧ ∀ j (h : j < bs.length), w.cell? ⟨b, off + j, none⟩ = some (B bs[j]))

theorem Row.below {w w' : World} {s : Value} {bs : List UInt8} (h : Row w s bs) (hb : Below w.heap.size w w') : Row w' s bs := by
  obtain ⟨a, cap, hs, h1, h2, h3, h4⟩ := h
  refine ⟨a, cap, hs, h1, h2, h3, ?_⟩
  rcases h4 with h4 | ⟨b, off, ha, hc⟩
  · exact Or.inl h4
  · exact Or.inr ⟨b, off, ha, fun j hj => (hb.cell (World.block_lt_of_cell? w _ (hc j hj))).trans (hc j hj)⟩

theorem Row.nil (w : World) : Row w (.slice none 0 0) [] := ⟨none, 0, rfl, Nat.le_refl _, by unfold maxLen; omega, fun _ => rfl, Or.inl rfl⟩

theorem row_of_owns {w : World} {base e : Nat} {s : Value} {bs : List UInt8} (h : w.ownsRow base e 1 s bs.length (bs.map B)) : Row w s bs := by
  have h0 := h
  rcases h.2 with ⟨rfl, h2⟩ | ⟨g, cap, cur, rfl, hg, hh, hnc, hcp, hcs, htake⟩
  · obtain rfl : bs = [] := List.length_eq_zero_iff.1 h2
    exact Row.nil w
  · refine ⟨_, cap, rfl, hnc, hcp, (by simp), Or.inr ⟨g, 0, rfl, fun j hj => ?_⟩⟩
    rw [Nat.zero_add, h0.cellAt j (by omega)]
    simp [hj]

theorem Row.shape {w : World} {s : Value} {bs : List UInt8} (h : Row w s bs) : ∃ (p : Option Addr) (c l : Nat), s = .slice p l c ∧ bs.length = l := by
  obtain ⟨a, cap, hs, _⟩ := h
  exact ⟨a, cap, bs.length, hs, rfl⟩

theorem Row.open {w : World} {s : Value} {bs : List UInt8} (h : Row w s bs) (hne : bs ≠ []) :
    ∃ b off cap, s = .slice (some ⟨b, off, none⟩) bs.length cap ∧ bs.length ≤ cap ∧ cap ≤ maxLen ∧ ∀ j (h : j < bs.length), w.cell? ⟨b, off + j, none⟩ = some (B bs[j]) := by
  obtain ⟨a, cap, hs, h1, h2, h3, h4⟩ := h
  rcases h4 with h4 | ⟨b, off, ha, hc⟩
  · exact absurd h4 hne
  · subst ha
    exact ⟨b, off, cap, hs, h1, h2, hc⟩

theorem Row.cut {w : World} {bs : List UInt8} {b off : Nat} (hc : ∀ j (h : j < bs.length), w.cell? ⟨b, off + j, none⟩ = some (B bs[j])) (q m cap : Nat) (hq : q + m ≤ bs.length) (hm : m ≤ cap) (hcap : cap ≤ maxLen) :
    Row w (.slice (some ⟨b, off + q, none⟩) m cap) ((bs.drop q).take m) := by
  have hl : ((bs.drop q).take m).length = m := by simp; omega
  refine ⟨some ⟨b, off + q, none⟩, cap, by rw [hl], by rw [hl]; exact hm, hcap, by simp, Or.inr ⟨b, off + q, rfl, fun j hj => ?_⟩⟩
  rw [Nat.add_assoc, hc (q + j) (by omega)]
  simp

/-- A block that is known whole: bytes of the call's own. -/
theorem row_of_block {w : World} {g e : Nat} {bs : List UInt8} (h : w.heap[g]? = some (.cells (bs.map B).toArray e (0, 0))) (o n cap : Nat) (ho : o + n ≤ bs.length) (hn : n ≤ cap) (hc : cap ≤ maxLen) :
    Row w (.slice (some ⟨g, o, none⟩) n cap) ((bs.drop o).take n) := by
  have hl : ((bs.drop o).take n).length = n := by simp; omega
  refine ⟨some ⟨g, o, none⟩, cap, by rw [hl], by rw [hl]; exact hn, hc, by simp, Or.inr ⟨g, o, rfl, fun j hj => ?_⟩⟩
  rw [cell_of_row w g (o + j) _ e (0, 0) h]
  have hj' : o + j < bs.length := by rw [hl] at hj; omega
  simp [hj']
end Go.Proofs.Ytpkpjmebkikgdaa

/- Plain facts on a number as bytes (seven bits a byte): its length, and that no two numbers have the same bytes. -/
namespace Go.Proofs.Ytpkpjmebkikgdaa

theorem varF_len (f v : Nat) : 1 ≤ (varF f v).length ∧ (varF f v).length ≤ f + 1 := by
  induction f generalizing v with
  | zero => simp [varF]
  | succ f ih =>
    by_cases h : v < 128
    · rw [varF_stop _ _ h]; simp
    · rw [varF_go _ _ (by omega)]; have := ih (v / 128); simp only [List.length_cons]; omega

theorem varF_mono (f a b : Nat) (h : a ≤ b) : (varF f a).length ≤ (varF f b).length := by
  induction f generalizing a b with
  | zero => simp [varF]
  | succ f ih =>
    by_cases ha : a < 128
    · rw [varF_stop _ _ ha]; exact (varF_len (f + 1) b).1
    · rw [varF_go _ _ (by omega), varF_go _ _ (by omega)]
      have := ih (a / 128) (b / 128) (Nat.div_le_div_right h)
      simp only [List.length_cons]; omega

theorem ofNat_inj {a b : Nat} (ha : a < 256) (hb : b < 256) (h : UInt8.ofNat a = UInt8.ofNat b) : a = b := by
  have := congrArg UInt8.toNat h
  simp at this
  omega

theorem varF_inj (f a b : Nat) (ha : a < 128 ^ (f + 1)) (hb : b < 128 ^ (f + 1)) (h : varF f a = varF f b) : a = b := by
  induction f generalizing a b with
  | zero =>
    simp [varF] at h ha hb
    exact ofNat_inj (by omega) (by omega) h
  | succ f ih =>
    by_cases h1 : a < 128
    · by_cases h2 : b < 128
      · rw [varF_stop _ _ h1, varF_stop _ _ h2] at h
        exact ofNat_inj (by omega) (by omega) (List.cons.inj h).1
      · rw [varF_stop _ _ h1, varF_go _ _ (by omega)] at h
        have := ofNat_inj (by omega) (by omega) (List.cons.inj h).1
        omega
    · by_cases h2 : b < 128
      · rw [varF_go _ _ (by omega), varF_stop _ _ h2] at h
        have := ofNat_inj (by omega) (by omega) (List.cons.inj h).1
        omega
      · rw [varF_go _ _ (by omega), varF_go _ _ (by omega)] at h
        have e1 := ofNat_inj (by omega) (by omega) (List.cons.inj h).1
        have e2 := ih (a / 128) (b / 128) (pow_step f a ha) (pow_step f b hb) (List.cons.inj h).2
        omega

theorem varF_beq (a b : Nat) (ha : a < 18446744073709551616) (hb : b < 18446744073709551616) : (varF 9 a == varF 9 b) = decide (a = b) := by
  rw [Bool.eq_iff_iff]
  simp only [beq_iff_eq, decide_eq_true_eq]
  exact ⟨fun h => varF_inj 9 a b (by omega) (by omega) h, fun h => by rw [h]⟩
theorem eq_dec (a b : Nat) : (((a : Int) == (b : Int)) == decide (a = b)) = true := by
  have : ((a : Int) == (b : Int)) = decide (a = b) := by
    rw [Bool.eq_iff_iff]
    simp only [beq_iff_eq, decide_eq_true_eq]
    omega
  rw [this]
  simp
end Go.Proofs.Ytpkpjmebkikgdaa

/- Plain facts on reading a number as bytes. -/
namespace Go.Proofs.Ytpkpjmebkikgdaa
open Go.RowKit

/-- May c not stand at place i of a number as bytes? -/
def badB (i c : Nat) : Bool := decide ((i = 9 ∧ 1 < c) ∨ (0 < i ∧ c = 0))

/-- What bytes are as a number, from place i on, v being what the bytes ahead bear: the error, the number, how many bytes it has. -/
def rvF : Nat → Nat → List UInt8 → Nat × Nat × Nat
  | _, _, [] => (10, 0, 0)
  | i, v, c :: r => if badB i c.toNat then (11, 0, 0) else if 128 ≤ c.toNat then rvF (i + 1) (v + c.toNat % 128 * 128 ^ i) r else (0, v + c.toNat % 128 * 128 ^ i, i + 1)

theorem rvF_bad (i v : Nat) (c : UInt8) (r : List UInt8) (h : badB i c.toNat = true) : rvF i v (c :: r) = (11, 0, 0) := by rw [rvF, if_pos h]
theorem rvF_more (i v : Nat) (c : UInt8) (r : List UInt8) (h : badB i c.toNat = false) (hc : 128 ≤ c.toNat) : rvF i v (c :: r) = rvF (i + 1) (v + c.toNat % 128 * 128 ^ i) r := by rw [rvF, if_neg (by simp [h]), if_pos hc]
theorem rvF_last (i v : Nat) (c : UInt8) (r : List UInt8) (h : badB i c.toNat = false) (hc : c.toNat < 128) : rvF i v (c :: r) = (0, v + c.toNat % 128 * 128 ^ i, i + 1) := by rw [rvF, if_neg (by simp [h]), if_neg (by omega)]

theorem bad_of_nine (i c : Nat) (h : badB i c = false) (hc : 128 ≤ c) : i ≠ 9 := by
  unfold badB at h
  simp at h
  omega

theorem pow128 (i : Nat) : (2 : Int) ^ (7 * i) = ((128 ^ i : Nat) : Int) := by
  rw [Int.pow_mul]; norm_cast
theorem and127 : ∀ n : Nat, n < 256 → n &&& 127 = n % 128 := by decide +kernel
theorem and128 : ∀ n : Nat, n < 256 → n &&& 128 = if 128 ≤ n then 128 else 0 := by decide +kernel
theorem bits_and127 (c : UInt8) : bits .and .u8 (c.toNat : Int) 127 = ((c.toNat % 128 : Nat) : Int) := by
  have hc := c.toNat_lt
  rw [show (127 : Int) = ((127 : Nat) : Int) from rfl, u8_and_nat _ _ (by omega) (by omega), and127 _ (by omega)]
theorem bits_and128 (c : UInt8) : bits .and .u8 (c.toNat : Int) 128 = (((if 128 ≤ c.toNat then 128 else 0) : Nat) : Int) := by
  have hc := c.toNat_lt
  rw [show (128 : Int) = ((128 : Nat) : Int) from rfl, u8_and_nat _ _ (by omega) (by omega), and128 _ (by omega)]
theorem pow_next (i v : Nat) (c : UInt8) (hv : v < 128 ^ i) : v + c.toNat % 128 * 128 ^ i < 128 ^ (i + 1) := by
  have h1 : c.toNat % 128 * 128 ^ i ≤ 127 * 128 ^ i := Nat.mul_le_mul_right _ (by omega)
  rw [Nat.pow_succ]
  omega
/-- A number that may stand, with its place i's byte: it is below 2^64. -/
theorem rv_lt (i v : Nat) (c : UInt8) (hi : i ≤ 9) (hv : v < 128 ^ i) (hb : badB i c.toNat = false) : v + c.toNat % 128 * 128 ^ i < 18446744073709551616 := by
  by_cases h9 : i = 9
  · subst h9
    have : c.toNat ≤ 1 := by unfold badB at hb; simp at hb; omega
    have h2 : c.toNat % 128 * 128 ^ 9 ≤ 1 * 128 ^ 9 := Nat.mul_le_mul_right _ (by omega)
    omega
  · have h1 := pow_next i v c hv
    have h2 : 128 ^ (i + 1) ≤ 128 ^ 9 := Nat.pow_le_pow_right (by omega) (by omega)
    omega
theorem rv_bits (i v : Nat) (c : UInt8) (hi : i ≤ 9) (hv : v < 128 ^ i) (hb : badB i c.toNat = false) :
    bits .or .u64 (v : Int) (IntKind.u64.wrap ((c.toNat : Int) % 128 * 2 ^ (7 * i))) = ((v + c.toNat % 128 * 128 ^ i : Nat) : Int) := by
  have hlt := rv_lt i v c hi hv hb
  have e : (c.toNat : Int) % 128 * 2 ^ (7 * i) = ((c.toNat % 128 * 128 ^ i : Nat) : Int) := by rw [pow128]; norm_cast
  rw [e, IntKind.wrap_u64, Int.emod_eq_of_lt (by omega) (by omega), u64_or_nat _ _ (by omega) (by omega)]
  congr 1
  have h2 : 128 ^ i = 2 ^ (7 * i) := by rw [Nat.pow_mul]
  rw [h2] at hv ⊢
  rw [Nat.or_comm, Nat.mul_comm, ← Nat.two_pow_add_eq_or_of_lt hv]
  omega

theorem rv_bits9 (v : Nat) (c : UInt8) (hv : v < 128 ^ 9) (hb : badB 9 c.toNat = false) :
    bits .or .u64 (v : Int) ((c.toNat : Int) % 128 * 9223372036854775808) = ((v + c.toNat % 128 * 128 ^ 9 : Nat) : Int) := by
  have h := rv_bits 9 v c (by omega) hv hb
  have hc : c.toNat ≤ 1 := by unfold badB at hb; simp at hb; omega
  rw [show (2 : Int) ^ (7 * 9) = 9223372036854775808 from rfl, IntKind.wrap_u64, Int.emod_eq_of_lt (by omega) (by omega)] at h
  exact h
theorem rv_bits0 (v : Nat) (c : UInt8) (hv : v < 128 ^ 0) (hb : badB 0 c.toNat = false) :
    bits .or .u64 (v : Int) ((c.toNat : Int) % 128) = ((v + c.toNat % 128 * 128 ^ 0 : Nat) : Int) := by
  have h := rv_bits 0 v c (by omega) hv hb
  rw [show (2 : Int) ^ (7 * 0) = 1 from rfl, Int.mul_one, IntKind.wrap_u64, Int.emod_eq_of_lt (by omega) (by omega)] at h
  exact h

theorem ret3 {a a' b b' : Int} (h1 : a = a') (h2 : b = b') : Ending.returned (.tuple #[.int .u64 a, .int .i64 b, .int .i64 0]) = .returned (.tuple #[.int .u64 a', .int .i64 b', .int .i64 ((0 : Nat) : Int)]) := by rw [h1, h2]; rfl

/-- What ReadVar answers as an error, the number, and the place behind it. -/
def readE (bs : List UInt8) (a : Int) : Int := if a < 0 then 1 else ((rvF 0 0 (bs.drop a.toNat)).1 : Nat)
def readV (bs : List UInt8) (a : Int) : Nat := if a < 0 then 0 else if (rvF 0 0 (bs.drop a.toNat)).1 = 0 then (rvF 0 0 (bs.drop a.toNat)).2.1 else 0
def readN (bs : List UInt8) (a : Int) : Int := if a < 0 then 0 else if (rvF 0 0 (bs.drop a.toNat)).1 = 0 then a + ((rvF 0 0 (bs.drop a.toNat)).2.2 : Nat) else 0
theorem read_of (bs : List UInt8) (a : Nat) (R : Nat × Nat × Nat) (hR : rvF 0 0 (bs.drop a) = R) :
    readE bs (a : Nat) = (R.1 : Nat) ∧ readV bs (a : Nat) = (if R.1 = 0 then R.2.1 else 0) ∧ readN bs (a : Nat) = if R.1 = 0 then ((a + R.2.2 : Nat) : Int) else 0 := by
  have h : ¬ ((a : Nat) : Int) < 0 := by omega
  refine ⟨?_, ?_, ?_⟩
  · unfold readE; rw [if_neg h, Int.toNat_natCast, hR]
  · unfold readV; rw [if_neg h, Int.toNat_natCast, hR]
  · unfold readN; rw [if_neg h, Int.toNat_natCast, hR]; split <;> omega
end Go.Proofs.Ytpkpjmebkikgdaa

/- Plain facts on a text as bytes, and on reading one. -/
namespace Go.Proofs.Ytpkpjmebkikgdaa
open Go.RowKit

theorem rv_ok (xs : List UInt8) (i v : Nat) (h : (rvF i v xs).1 = 0) : i < (rvF i v xs).2.2 ∧ (rvF i v xs).2.2 ≤ i + xs.length := by
  induction xs generalizing i v with
  | nil => simp [rvF] at h
  | cons c r ih =>
    cases hb : badB i c.toNat with
    | true => rw [rvF_bad _ _ _ _ hb] at h; cases h
    | false =>
      by_cases hc : 128 ≤ c.toNat
      · rw [rvF_more _ _ _ _ hb hc] at h ⊢
        have := ih _ _ h
        simp only [List.length_cons]
        omega
      · rw [rvF_last _ _ _ _ hb (by omega)]
        simp only [List.length_cons]
        omega
theorem rv_val (xs : List UInt8) (i v : Nat) (hi : i ≤ 9) (hv : v < 128 ^ i) (h : (rvF i v xs).1 = 0) : (rvF i v xs).2.1 < 18446744073709551616 := by
  induction xs generalizing i v with
  | nil => simp [rvF] at h
  | cons c r ih =>
    cases hb : badB i c.toNat with
    | true => rw [rvF_bad _ _ _ _ hb] at h; cases h
    | false =>
      by_cases hc : 128 ≤ c.toNat
      · rw [rvF_more _ _ _ _ hb hc] at h ⊢
        have h9 := bad_of_nine i _ hb hc
        exact ih _ _ (by omega) (pow_next i v c hv) h
      · rw [rvF_last _ _ _ _ hb (by omega)]
        exact rv_lt i v c hi hv hb

theorem rv_err (xs : List UInt8) (i v : Nat) : (rvF i v xs).1 = 0 ∨ (rvF i v xs).1 = 10 ∨ (rvF i v xs).1 = 11 := by
  induction xs generalizing i v with
  | nil => simp [rvF]
  | cons c r ih =>
    cases hb : badB i c.toNat with
    | true => rw [rvF_bad _ _ _ _ hb]; simp
    | false =>
      by_cases hc : 128 ≤ c.toNat
      · rw [rvF_more _ _ _ _ hb hc]; exact ih _ _
      · rw [rvF_last _ _ _ _ hb (by omega)]; simp
theorem readE_vals (bs : List UInt8) (a : Int) : readE bs a = 0 ∨ readE bs a = 1 ∨ readE bs a = 10 ∨ readE bs a = 11 := by
  unfold readE
  split
  · simp
  · rcases rv_err (bs.drop a.toNat) 0 0 with h | h | h <;> rw [h] <;> simp

/-- Where ReadVar's error is 0: the place behind the number lies within the bytes, and the number is below 2^64. -/
theorem read_ok (bs : List UInt8) (a : Int) (h : readE bs a = 0) : 0 ≤ a ∧ a < readN bs a ∧ readN bs a ≤ bs.length ∧ readV bs a < 18446744073709551616 := by
  by_cases h0 : a < 0
  · unfold readE at h; rw [if_pos h0] at h; cases h
  · obtain ⟨k, rfl⟩ := Int.eq_ofNat_of_zero_le (show 0 ≤ a by omega)
    obtain ⟨e1, e2, e3⟩ := read_of bs k _ rfl
    rw [h] at e1
    have hz : (rvF 0 0 (bs.drop k)).1 = 0 := by omega
    rw [if_pos hz] at e2 e3
    have h1 := rv_ok _ _ _ hz
    have h2 := rv_val _ 0 0 (by omega) (by simp) hz
    rw [e2, e3]
    simp only [List.length_drop] at h1
    exact ⟨by omega, by omega, by omega, h2⟩

/-- What ReadText answers: the error, the bytes, the place behind them. -/
def textE (bs : List UInt8) (a m : Int) : Int :=
  if readE bs a = 0 then (if max m 0 < (readV bs a : Nat) then 4 else if (bs.length : Int) - readN bs a < (readV bs a : Nat) then 10 else 0) else readE bs a
def textB (bs : List UInt8) (a m : Int) : List UInt8 := if textE bs a m = 0 then (bs.drop (readN bs a).toNat).take (readV bs a) else []
def textN (bs : List UInt8) (a m : Int) : Int := if textE bs a m = 0 then readN bs a + (readV bs a : Nat) else 0
end Go.Proofs.Ytpkpjmebkikgdaa

/- Plain facts: a number's bytes have one form: what is read, written again, is the same bytes, and what is written is read. -/
namespace Go.Proofs.Ytpkpjmebkikgdaa

theorem ofNat_toNat (c : UInt8) : UInt8.ofNat c.toNat = c := by simp

theorem rv_back (xs : List UInt8) (i v : Nat) (hi : i ≤ 9) (h : (rvF i v xs).1 = 0) :
    ∃ y, (rvF i v xs).2.1 = v + y * 128 ^ i ∧ (0 < i → 0 < y) ∧ varF (9 - i) y = xs.take ((rvF i v xs).2.2 - i) := by
  induction xs generalizing i v with
  | nil => simp [rvF] at h
  | cons c r ih =>
    have hc8 := c.toNat_lt
    cases hb : badB i c.toNat with
    | true => rw [rvF_bad _ _ _ _ hb] at h; cases h
    | false =>
      by_cases hc : 128 ≤ c.toNat
      · have h9 := bad_of_nine i _ hb hc
        rw [rvF_more _ _ _ _ hb hc] at h ⊢
        obtain ⟨y, h1, h2, h3⟩ := ih (i + 1) _ (by omega) h
        have hy := h2 (by omega)
        have hC := (rv_ok r (i + 1) _ h).1
        refine ⟨c.toNat % 128 + 128 * y, ?_, fun _ => by omega, ?_⟩
        · rw [h1, Nat.pow_succ, Nat.add_mul, Nat.add_assoc]
          congr 2
          rw [Nat.mul_comm (128 ^ i) 128, ← Nat.mul_assoc, Nat.mul_comm y 128]
        · rw [show 9 - i = (9 - (i + 1)) + 1 by omega, varF_go _ _ (by omega), show (c.toNat % 128 + 128 * y) / 128 = y by omega, h3,
            show (c.toNat % 128 + 128 * y) % 128 + 128 = c.toNat by omega, ofNat_toNat,
            show (rvF (i + 1) (v + c.toNat % 128 * 128 ^ i) r).2.2 - i = ((rvF (i + 1) (v + c.toNat % 128 * 128 ^ i) r).2.2 - (i + 1)) + 1 by omega, List.take_succ_cons]
      · rw [rvF_last _ _ _ _ hb (by omega)]
        refine ⟨c.toNat, by simp only [Nat.mod_eq_of_lt (show c.toNat < 128 by omega)], fun h0 => ?_, ?_⟩
        · unfold badB at hb; simp at hb; omega
        · rw [varF_stop _ _ (by omega), ofNat_toNat, show i + 1 - i = 1 by omega]; rfl

theorem rv_forth (f i a y : Nat) (rest : List UInt8) (hf : i + f = 9) (hy : 0 < i → 0 < y) (h64 : y * 128 ^ i < 18446744073709551616) :
    rvF i a (varF f y ++ rest) = (0, a + y * 128 ^ i, i + (varF f y).length) := by
  induction f generalizing i a y with
  | zero =>
    obtain rfl : i = 9 := by omega
    have hy1 : y ≤ 1 := by
      rcases Nat.lt_or_ge y 2 with h | h
      · omega
      · have : 2 * 128 ^ 9 ≤ y * 128 ^ 9 := Nat.mul_le_mul_right _ h
        omega
    have hy0 := hy (by omega)
    obtain rfl : y = 1 := by omega
    have e : varF 0 1 = [1] := rfl
    rw [e, List.singleton_append, rvF_last 9 a 1 rest (by decide) (by decide)]
    rfl
  | succ f ih =>
    by_cases h : y < 128
    · rw [varF_stop _ _ h, List.singleton_append]
      have hn : (UInt8.ofNat y).toNat = y := by simp; omega
      have hb : badB i (UInt8.ofNat y).toNat = false := by rw [hn]; unfold badB; simp; omega
      rw [rvF_last i a _ rest hb (by omega), hn, Nat.mod_eq_of_lt h]
      rfl
    · have hn : (UInt8.ofNat (y % 128 + 128)).toNat = y % 128 + 128 := by simp; omega
      have hb : badB i (UInt8.ofNat (y % 128 + 128)).toNat = false := by rw [hn]; unfold badB; simp; omega
      have hs : y / 128 * 128 ^ (i + 1) + y % 128 * 128 ^ i = y * 128 ^ i := by
        have hd : y = 128 * (y / 128) + y % 128 := by omega
        rw [Nat.pow_succ]
        conv => rhs; rw [hd, Nat.add_mul]
        rw [Nat.mul_comm (128 ^ i) 128, ← Nat.mul_assoc, Nat.mul_comm (y / 128) 128]
      rw [varF_go _ _ (by omega), List.cons_append, rvF_more i a _ _ hb (by omega), hn]
      rw [ih (i + 1) _ (y / 128) (by omega) (fun _ => by omega) (by omega)]
      simp only [List.length_cons, Nat.add_mod_right, Nat.mod_mod, Prod.mk.injEq, true_and]
      exact ⟨by omega, by omega⟩

theorem rv_written (v : Nat) (rest : List UInt8) (hv : v < 18446744073709551616) : rvF 0 0 (varF 9 v ++ rest) = (0, v, (varF 9 v).length) := by
  have h := rv_forth 9 0 0 v rest rfl (by omega) (by omega)
  simpa using h

/-- What is read, written again, is the same bytes. -/
theorem read_back (bs : List UInt8) (a : Int) (h : readE bs a = 0) : varF 9 (readV bs a) = (bs.drop a.toNat).take ((readN bs a).toNat - a.toNat) := by
  obtain ⟨h0, _, _, _⟩ := read_ok bs a h
  obtain ⟨k, rfl⟩ := Int.eq_ofNat_of_zero_le h0
  obtain ⟨e1, e2, e3⟩ := read_of bs k _ rfl
  rw [h] at e1
  have hz : (rvF 0 0 (bs.drop k)).1 = 0 := by omega
  rw [if_pos hz] at e2 e3
  obtain ⟨y, h1, _, h3⟩ := rv_back (bs.drop k) 0 0 (by omega) hz
  have hy : y = (rvF 0 0 (bs.drop k)).2.1 := by rw [h1]; simp
  rw [e2, e3, Int.toNat_natCast, Int.toNat_natCast, Nat.add_sub_cancel_left, ← hy]
  exact h3

/-- What is written is read where it was written. -/
theorem read_written (hd rest : List UInt8) (v : Nat) (hv : v < 18446744073709551616) :
    readE (hd ++ varF 9 v ++ rest) (hd.length : Nat) = 0 ∧ readV (hd ++ varF 9 v ++ rest) (hd.length : Nat) = v ∧ readN (hd ++ varF 9 v ++ rest) (hd.length : Nat) = ((hd.length + (varF 9 v).length : Nat) : Int) := by
  have hd' : (hd ++ varF 9 v ++ rest).drop hd.length = varF 9 v ++ rest := by rw [List.append_assoc, List.drop_left]
  have hR : rvF 0 0 ((hd ++ varF 9 v ++ rest).drop hd.length) = (0, v, (varF 9 v).length) := by rw [hd']; exact rv_written v rest hv
  obtain ⟨e1, e2, e3⟩ := read_of _ _ _ hR
  exact ⟨e1, e2, e3⟩
end Go.Proofs.Ytpkpjmebkikgdaa

/- Frames as plain data: what a frame is as bytes, what bytes are as a frame, how a record is cut, which frames are a record. Nothing here speaks of the program. -/
namespace Go.Proofs.Ytpkpjmebkikgdaa
open Go.RowKit

structure Fr where
  age : Nat
  first : Nat
  of : Int
  data : List UInt8
deriving DecidableEq

def zeroF : Fr := ⟨0, 0, 0, []⟩
def Fr.ok (f : Fr) : Prop := f.age < 18446744073709551616 ∧ f.first < 18446744073709551616 ∧ -9223372036854775808 ≤ f.of ∧ f.of ≤ 9223372036854775807 ∧ f.data.length ≤ 140737488351232

def mayF (f : Fr) : Bool := decide (1 ≤ f.of ∧ f.of ≤ 32 ∧ (f.data.length : Int) ≤ 440)
theorem may_iff (f : Fr) : mayF f = true ↔ 1 ≤ f.of ∧ f.of ≤ 32 ∧ (f.data.length : Int) ≤ 440 := by unfold mayF; simp
def bytesF (f : Fr) : List UInt8 := varF 9 f.age ++ varF 9 f.first ++ varF 9 f.of.toNat ++ f.data
def writeB (f : Fr) : List UInt8 := if mayF f = true then bytesF f else []
def writeE (f : Fr) : Int := if mayF f = true then 0 else 11

/-- What bytes are as a frame, and the error. -/
def readF (b : List UInt8) : Fr × Int :=
  if readE b 0 ≠ 0 then (zeroF, readE b 0)
  else if readE b (readN b 0) ≠ 0 then (zeroF, readE b (readN b 0))
  else if readE b (readN b (readN b 0)) ≠ 0 then (zeroF, readE b (readN b (readN b 0)))
  else if 32 < readV b (readN b (readN b 0)) then (zeroF, 11)
  else if mayF ⟨readV b 0, readV b (readN b 0), (readV b (readN b (readN b 0)) : Nat), b.drop (readN b (readN b (readN b 0))).toNat⟩ = true then
    (⟨readV b 0, readV b (readN b 0), (readV b (readN b (readN b 0)) : Nat), b.drop (readN b (readN b (readN b 0))).toNat⟩, 0)
  else (zeroF, 11)

def countN (n : Int) : Int := if n < 0 then 0 else if n = 0 then 1 else (n - 1) / 440 + 1
theorem count_pos {n : Int} (h : 0 ≤ n) : 1 ≤ countN n := by unfold countN; repeat' split
                                                             all_goals omega
theorem count_le {n : Int} (h : n ≤ 8192) : countN n ≤ 19 := by unfold countN; repeat' split
                                                                all_goals omega
/-- The part i of a record. -/
def partN (r : List UInt8) (i : Nat) : List UInt8 := (r.drop (i * 440)).take 440
def framesN (age first : Nat) (r : List UInt8) : List Fr := (List.range (countN r.length).toNat).map fun i => ⟨age, first, countN r.length, partN r i⟩
theorem length_frames (age first : Nat) (r : List UInt8) : ((framesN age first r).length : Int) = countN r.length := by
  have := count_pos (n := r.length) (by omega)
  unfold framesN
  simp
  omega
theorem frames_get (age first : Nat) (r : List UInt8) (i : Nat) (h : i < (framesN age first r).length) : (framesN age first r)[i] = ⟨age, first, countN r.length, partN r i⟩ := by
  simp [framesN]
theorem length_part (r : List UInt8) (i : Nat) : (partN r i).length = min 440 (r.length - i * 440) := by simp [partN]

def cutL (age first : Nat) (r : List UInt8) : List (List UInt8) := if 8192 < r.length then [] else (framesN age first r).map bytesF
def cutE (r : List UInt8) : Int := if 8192 < r.length then 4 else 0

/-- All that the frames bear. -/
def flatF (l : List Fr) : List UInt8 := (l.map Fr.data).flatten
def IsRec (l : List Fr) : Prop := l ≠ [] ∧ (flatF l).length ≤ 8192 ∧ l = framesN (l.headD zeroF).age (l.headD zeroF).first (flatF l)
instance (l : List Fr) : Decidable (IsRec l) := by unfold IsRec; infer_instance
def joinB (l : List Fr) : List UInt8 := if IsRec l then flatF l else []
def joinE (l : List Fr) : Int := if IsRec l then 0 else 11

theorem parts_flat (r : List UInt8) (k : Nat) : ((List.range k).map (partN r)).flatten = r.take (k * 440) := by
  induction k with
  | zero => simp
  | succ k ih =>
    rw [List.range_succ, List.map_append, List.flatten_append, ih, show (k + 1) * 440 = k * 440 + 440 by omega, List.take_add]
    simp [partN]
theorem flat_frames (age first : Nat) (r : List UInt8) : flatF (framesN age first r) = r := by
  unfold flatF framesN
  rw [List.map_map, show (Fr.data ∘ fun i => (⟨age, first, countN r.length, partN r i⟩ : Fr)) = partN r from rfl, parts_flat]
  apply List.take_of_length_le
  unfold countN
  repeat' split
  all_goals omega
theorem head_frames (age first : Nat) (r : List UInt8) : ((framesN age first r).headD zeroF).age = age ∧ ((framesN age first r).headD zeroF).first = first ∧ framesN age first r ≠ [] := by
  have h := length_frames age first r
  have hp := count_pos (n := r.length) (by omega)
  have h0 : 0 < (framesN age first r).length := by omega
  have hg := frames_get age first r 0 h0
  cases hl : framesN age first r with
  | nil => rw [hl] at h0; simp at h0
  | cons x xs =>
    have : x = ⟨age, first, countN r.length, partN r 0⟩ := by
      rw [← hg]; simp only [hl, List.getElem_cons_zero]
    rw [this]
    exact ⟨rfl, rfl, by simp⟩
/-- What is cut is a record, and that one. -/
theorem isRec_frames (age first : Nat) (r : List UInt8) (h : r.length ≤ 8192) : IsRec (framesN age first r) := by
  obtain ⟨h1, h2, h3⟩ := head_frames age first r
  refine ⟨h3, by rw [flat_frames]; exact h, ?_⟩
  rw [h1, h2, flat_frames]
theorem isRec_len {l : List Fr} (h : IsRec l) {j : Nat} (hj : j < l.length) : (l.length : Int) = l[j].of ∧ l[j].age = (l.headD zeroF).age ∧ l[j].first = (l.headD zeroF).first := by
  obtain ⟨_, _, e⟩ := h
  generalize (l.headD zeroF).age = a at *
  generalize (l.headD zeroF).first = b at *
  generalize flatF l = r at *
  subst e
  rw [frames_get, length_frames]
  exact ⟨rfl, rfl, rfl⟩

/-- Whether frame i of a record bears as much as it must. -/
def filledB (f : Fr) (i : Nat) : Bool := if (i : Int) < f.of - 1 then decide ((f.data.length : Int) = 440) else decide (f.of = 1 ∨ 0 < (f.data.length : Int))
def alikeB (a b : Fr) : Bool := decide (a.age = b.age ∧ a.first = b.first ∧ a.of = b.of)
def goodB (f f0 : Fr) (i : Nat) : Bool := alikeB f f0 && mayF f && filledB f i
def Whole (l : List Fr) : Prop := l ≠ [] ∧ (l.length : Int) = (l.headD zeroF).of ∧ (∀ i (h : i < l.length), goodB l[i] (l.headD zeroF) i = true) ∧ (flatF l).length ≤ 8192

theorem flat_cons (f : Fr) (l : List Fr) : flatF (f :: l) = f.data ++ flatF l := by simp [flatF]
/-- Parts of 440 bytes, but the last one, lie where they should. -/
theorem chunk : ∀ (l : List Fr), (∀ i (h : i < l.length), (i + 1 < l.length → l[i].data.length = 440) ∧ l[i].data.length ≤ 440) →
    (∀ i (h : i < l.length), partN (flatF l) i = l[i].data) ∧ (l ≠ [] → ∃ m, m = ((l.getLast?).getD zeroF).data.length ∧ (flatF l).length = (l.length - 1) * 440 + m)
  | [], _ => ⟨fun i h => by simp at h, fun h => absurd rfl h⟩
  | [f], h => by
    refine ⟨fun i hi => ?_, fun _ => ⟨_, rfl, ?_⟩⟩
    · have hi0 : i = 0 := by simpa using hi
      subst hi0
      have := (h 0 (by simp)).2
      simp only [List.getElem_cons_zero] at this ⊢
      rw [flat_cons]
      simp only [flatF, partN, List.map_nil, List.flatten_nil, List.append_nil, Nat.zero_mul, List.drop_zero]
      exact List.take_of_length_le this
    · simp [flatF]
  | f :: g :: l, h => by
    have hf := (h 0 (by simp)).1 (by simp)
    simp only [List.getElem_cons_zero] at hf
    obtain ⟨h1, h2⟩ := chunk (g :: l) (fun i hi => by have := h (i + 1) (by simpa using hi); simpa using this)
    refine ⟨fun i hi => ?_, fun _ => ?_⟩
    · rw [flat_cons]
      cases i with
      | zero =>
        simp only [List.getElem_cons_zero, partN, Nat.zero_mul, List.drop_zero]
        rw [List.take_append_of_le_length (by omega), List.take_of_length_le (by omega)]
      | succ i =>
        rw [List.getElem_cons_succ, ← h1 i (by simpa using hi)]
        unfold partN
        rw [show (i + 1) * 440 = f.data.length + i * 440 by omega, ← List.drop_drop, List.drop_left]
    · obtain ⟨m, hm, hl⟩ := h2 (by simp)
      refine ⟨m, by rw [hm, List.getLast?_cons_cons], ?_⟩
      rw [flat_cons, List.length_append, hl, hf]
      simp only [List.length_cons]
      omega
theorem good_iff (f f0 : Fr) (i : Nat) : goodB f f0 i = true ↔ (f.age = f0.age ∧ f.first = f0.first ∧ f.of = f0.of) ∧ (1 ≤ f.of ∧ f.of ≤ 32 ∧ (f.data.length : Int) ≤ 440) ∧ (((i : Int) < f.of - 1 → (f.data.length : Int) = 440) ∧ (¬ (i : Int) < f.of - 1 → f.of = 1 ∨ 0 < (f.data.length : Int))) := by
  unfold goodB alikeB filledB mayF
  by_cases h : (i : Int) < f.of - 1
  · simp [h, and_assoc]
  · simp [h, and_assoc]
theorem whole_isRec {l : List Fr} (h : Whole l) : IsRec l := by
  obtain ⟨h0, hof, hg, hl⟩ := h
  refine ⟨h0, hl, ?_⟩
  have hpos : 0 < l.length := List.length_pos_iff.2 h0
  obtain ⟨c1, c2⟩ := chunk l (fun i hi => by
    obtain ⟨⟨_, _, e⟩, ⟨_, _, e2⟩, e3, _⟩ := (good_iff _ _ _).1 (hg i hi)
    exact ⟨fun hi2 => by have := e3 (by omega); omega, by omega⟩)
  obtain ⟨m, hm, hlen⟩ := c2 h0
  have hlast : m ≤ 440 ∧ (l.length = 1 ∨ 0 < m) := by
    obtain ⟨⟨_, _, e⟩, ⟨_, _, e2⟩, _, e4⟩ := (good_iff _ _ _).1 (hg (l.length - 1) (by omega))
    have : m = l[l.length - 1].data.length := by
      rw [hm, List.getLast?_eq_getElem?, List.getElem?_eq_getElem (by omega)]
      rfl
    have h4 := e4 (by omega)
    omega
  have hc : countN ((flatF l).length : Int) = l.length := by
    rw [hlen]
    unfold countN
    repeat' split
    all_goals omega
  apply List.ext_getElem
  · have := length_frames (l.headD zeroF).age (l.headD zeroF).first (flatF l)
    omega
  · intro i h1 h2
    rw [frames_get, hc, c1 i h1]
    obtain ⟨⟨a1, a2, a3⟩, _⟩ := (good_iff _ _ _).1 (hg i h1)
    rw [← a1, ← a2, hof, ← a3]
theorem isRec_whole {l : List Fr} (h : IsRec l) : Whole l := by
  have hl := h.2.1
  have h0 := h.1
  have hpos : 0 < l.length := List.length_pos_iff.2 h0
  have hhd : l.headD zeroF = l[0] := by cases l with | nil => simp at hpos | cons x xs => rfl
  have hof := (isRec_len h hpos).1
  refine ⟨h0, by rw [hhd]; exact hof, fun i hi => ?_, hl⟩
  obtain ⟨e1, e2, e3⟩ := isRec_len h hi
  have hd : l[i].data = partN (flatF l) i := by
    have hd := congrArg (fun x : Option Fr => x.map Fr.data) (congrArg (fun x : List Fr => x[i]?) h.2.2)
    have hi2 : i < (framesN (l.headD zeroF).age (l.headD zeroF).first (flatF l)).length := by rw [← h.2.2]; exact hi
    simp only [List.getElem?_eq_getElem hi, List.getElem?_eq_getElem hi2, frames_get, Option.map_some, Option.some.injEq] at hd
    exact hd
  have hc : (l.length : Int) = countN ((flatF l).length : Int) := by
    have := congrArg List.length h.2.2
    have h2 := length_frames (l.headD zeroF).age (l.headD zeroF).first (flatF l)
    omega
  have hlen := length_part (flatF l) i
  rw [← hd] at hlen
  rw [good_iff]
  have hcp : countN ((flatF l).length : Int) ≤ 19 := count_le (by omega)
  unfold countN at hc hcp
  refine ⟨⟨e2, e3, by rw [← e1, hhd, hof]⟩, ⟨by omega, ?_, by omega⟩, ?_, ?_⟩
  · rw [← e1, hc]; repeat' split at hcp
    all_goals (repeat' split)
    all_goals omega
  · rw [← e1]
    repeat' split at hc
    all_goals omega
  · rw [← e1]
    repeat' split at hc
    all_goals omega
theorem whole_iff (l : List Fr) : Whole l ↔ IsRec l := ⟨whole_isRec, isRec_whole⟩

/-- What is written is read. -/
theorem read_bytes (f : Fr) (hok : f.ok) (h : mayF f = true) : readF (bytesF f) = (f, 0) := by
  obtain ⟨m1, m2, m3⟩ := (may_iff f).1 h
  obtain ⟨o1, o2, o3, o4, o5⟩ := hok
  obtain ⟨a1, a2, a3⟩ := read_written [] (varF 9 f.first ++ varF 9 f.of.toNat ++ f.data) f.age o1
  obtain ⟨b1, b2, b3⟩ := read_written (varF 9 f.age) (varF 9 f.of.toNat ++ f.data) f.first o2
  obtain ⟨c1, c2, c3⟩ := read_written (varF 9 f.age ++ varF 9 f.first) f.data f.of.toNat (by omega)
  have eb : [] ++ varF 9 f.age ++ (varF 9 f.first ++ varF 9 f.of.toNat ++ f.data) = bytesF f := by simp [bytesF]
  have ec : varF 9 f.age ++ varF 9 f.first ++ (varF 9 f.of.toNat ++ f.data) = bytesF f := by simp [bytesF]
  have ed : varF 9 f.age ++ varF 9 f.first ++ varF 9 f.of.toNat ++ f.data = bytesF f := rfl
  rw [eb] at a1 a2 a3
  rw [ec] at b1 b2 b3
  rw [ed] at c1 c2 c3
  have n1 : readN (bytesF f) 0 = ((varF 9 f.age).length : Nat) := by simpa using a3
  have n2 : readN (bytesF f) (readN (bytesF f) 0) = ((varF 9 f.age ++ varF 9 f.first).length : Nat) := by rw [n1, b3]; simp
  have z1 : readE (bytesF f) 0 = 0 := a1
  have z2 : readE (bytesF f) (readN (bytesF f) 0) = 0 := by rw [n1]; exact b1
  have z3 : readE (bytesF f) (readN (bytesF f) (readN (bytesF f) 0)) = 0 := by rw [n2]; exact c1
  have w1 : readV (bytesF f) 0 = f.age := a2
  have w2 : readV (bytesF f) (readN (bytesF f) 0) = f.first := by rw [n1]; exact b2
  have w3 : readV (bytesF f) (readN (bytesF f) (readN (bytesF f) 0)) = f.of.toNat := by rw [n2]; exact c2
  have w4 : (bytesF f).drop (readN (bytesF f) (readN (bytesF f) (readN (bytesF f) 0))).toNat = f.data := by
    rw [n2, c3, Int.toNat_natCast]
    unfold bytesF
    rw [← List.length_append, List.drop_left]
  unfold readF
  rw [w1, w2, w3, w4, if_neg (by simp [z1]), if_neg (by simp [z2]), if_neg (by simp [z3]), if_neg (by omega)]
  have e : (⟨f.age, f.first, (f.of.toNat : Int), f.data⟩ : Fr) = f := by
    have : (f.of.toNat : Int) = f.of := by omega
    rw [this]
  rw [e, if_pos h]
/-- What is read, written again, is the same bytes. -/
theorem bytes_read (b : List UInt8) (h : (readF b).2 = 0) : mayF (readF b).1 = true ∧ bytesF (readF b).1 = b ∧ ((readF b).1.age < 18446744073709551616 ∧ (readF b).1.first < 18446744073709551616) := by
  unfold readF at h ⊢
  by_cases h1 : readE b 0 = 0
  · rw [if_neg (by simp [h1])] at h ⊢
    by_cases h2 : readE b (readN b 0) = 0
    · rw [if_neg (by simp [h2])] at h ⊢
      by_cases h3 : readE b (readN b (readN b 0)) = 0
      · rw [if_neg (by simp [h3])] at h ⊢
        by_cases h4 : 32 < readV b (readN b (readN b 0))
        · rw [if_pos h4] at h; cases h
        · rw [if_neg h4] at h ⊢
          split at h
          · rename_i hm
            rw [if_pos hm]
            obtain ⟨a0, a1, a2, a3⟩ := read_ok b 0 h1
            obtain ⟨b0, b1, b2, b3⟩ := read_ok b _ h2
            obtain ⟨c0, c1, c2, c3⟩ := read_ok b _ h3
            refine ⟨hm, ?_, a3, b3⟩
            unfold bytesF
            simp only [Int.toNat_natCast]
            rw [read_back b 0 h1, read_back b _ h2, read_back b _ h3]
            generalize readN b 0 = p at *
            generalize readN b p = q at *
            generalize readN b q = r at *
            obtain ⟨p, rfl⟩ := Int.eq_ofNat_of_zero_le b0
            obtain ⟨q, rfl⟩ := Int.eq_ofNat_of_zero_le c0
            obtain ⟨r, rfl⟩ := Int.eq_ofNat_of_zero_le (show 0 ≤ r by omega)
            simp only [Int.toNat_natCast, Int.toNat_zero, List.drop_zero, Nat.sub_zero]
            have e1 : b.take p ++ (b.drop p).take (q - p) = b.take q := by rw [← List.take_add]; congr 1; omega
            have e2 : b.take q ++ (b.drop q).take (r - q) = b.take r := by rw [← List.take_add]; congr 1; omega
            rw [e1, e2, List.take_append_drop]
          · cases h
      · rw [if_pos h3] at h; exact absurd h h3
    · rw [if_pos h2] at h; exact absurd h h2
  · rw [if_pos h1] at h; exact absurd h h1
theorem part_may (age first : Nat) (r : List UInt8) (i : Nat) (h : r.length ≤ 8192) : mayF ⟨age, first, countN r.length, partN r i⟩ = true := by
  rw [may_iff]
  have := count_pos (n := r.length) (by omega)
  have := count_le (n := r.length) (by omega)
  have := length_part r i
  simp only
  omega
theorem length_bytesF (f : Fr) : (bytesF f).length ≤ 30 + f.data.length := by
  unfold bytesF
  have h1 := (varF_len 9 f.age).2
  have h2 := (varF_len 9 f.first).2
  have h3 := (varF_len 9 f.of.toNat).2
  simp only [List.length_append]
  omega
end Go.Proofs.Ytpkpjmebkikgdaa

/- The plain half of the proofs about package sector: what a sealed sector is, what bytes are as a sector. -/
namespace Go.Proofs.Ytpkpjmebkikgdaa
open Go.RowKit

/-- A kind is known. -/
def knownB (k : UInt8) : Bool := k == 0x17 || k == 0x2b || k == 0x4d || k == 0x8e || k == 0x71 || k == 0xb2
/-- The first 508 bytes of a sealed sector. -/
def body (k : UInt8) (turn : Nat) (p : List UInt8) : List UInt8 := [k, 0] ++ le 2 p.length ++ le 8 turn ++ p ++ List.replicate (496 - p.length) 0
/-- A sealed sector. -/
def sealed (k : UInt8) (turn : Nat) (p : List UInt8) : List UInt8 := body k turn p ++ le 4 (more 0 (body k turn p))
/-- What Seal answers: the bytes, the error. -/
def sealB (k : UInt8) (turn : Nat) (p : List UInt8) : List UInt8 := if knownB k = false then [] else if 496 < p.length then [] else sealed k turn p
def sealE (k : UInt8) (p : List UInt8) : Int := if knownB k = false then 1 else if 496 < p.length then 4 else 0

theorem length_body (k : UInt8) (turn : Nat) (p : List UInt8) (h : p.length ≤ 496) : (body k turn p).length = 508 := by
  simp [body, length_le]
  omega
theorem length_sealed (k : UInt8) (turn : Nat) (p : List UInt8) (h : p.length ≤ 496) : (sealed k turn p).length = 512 := by
  simp [sealed, length_le, length_body k turn p h]

/-- The number that stands at a place, in n bytes. -/
def numAt (b : List UInt8) (a n : Nat) : Nat := num ((b.drop a).take n)
/-- What Open answers: the kind, the turn, what it carries, the error. -/
def openR (b : List UInt8) : UInt8 × Nat × List UInt8 × Int :=
  if b.length ≠ 512 then (0, 0, [], 1)
  else if b.all (· == 0) = true then (0, 0, [], 0)
  else if numAt b 508 4 ≠ more 0 (b.take 508) then (0, 0, [], 30)
  else if knownB (b.getD 0 0) = false ∨ b.getD 1 0 ≠ 0 ∨ 496 < numAt b 2 2 then (0, 0, [], 11)
  else if ((b.drop (12 + numAt b 2 2)).take (496 - numAt b 2 2)).all (· == 0) = false then (0, 0, [], 11)
  else (b.getD 0 0, numAt b 4 8, (b.drop 12).take (numAt b 2 2), 0)
end Go.Proofs.Ytpkpjmebkikgdaa

/- The plain half of the proofs about package sector, more: what is sealed is opened, and back; turned bits. Nothing here speaks of the program. -/
namespace Go.Proofs.Ytpkpjmebkikgdaa
open Go.RowKit

theorem mid (A M C : List UInt8) : ((A ++ M ++ C).drop A.length).take M.length = M := by simp
theorem mid' (A M C : List UInt8) (a m : Nat) (ha : A.length = a) (hm : M.length = m) : ((A ++ M ++ C).drop a).take m = M := by
  subst ha hm; exact mid A M C

theorem num_le' (n v : Nat) (h : v < 256 ^ n) : num (le n v) = v := by rw [num_le, Nat.mod_eq_of_lt h]

theorem more_lt0' (bs : List UInt8) : more 0 bs < 4294967296 := Nat.xor_lt_two_pow (n := 32) (raw_lt _ bs (by decide)) (by omega)

theorem known_ne (k : UInt8) (h : knownB k = true) : k ≠ 0 := by
  intro e
  subst e
  revert h
  decide

theorem open_sealed (k : UInt8) (turn : Nat) (p : List UInt8) (hk : knownB k = true) (ht : turn < 18446744073709551616) (hp : p.length ≤ 496) : openR (sealed k turn p) = (k, turn, p, 0) := by
  have hl := length_sealed k turn p hp
  have hb := length_body k turn p hp
  have hk0 := known_ne k hk
  have g0 : (sealed k turn p).getD 0 0 = k := rfl
  have g1 : (sealed k turn p).getD 1 0 = 0 := rfl
  have hz : (sealed k turn p).all (· == 0) = false := by
    rw [List.all_eq_false]
    refine ⟨k, ?_, by simpa using hk0⟩
    simp [sealed, body]
  have ht508 : (sealed k turn p).take 508 = body k turn p := by
    unfold sealed
    rw [← hb, List.take_left']
    rfl
  have hsum : numAt (sealed k turn p) 508 4 = more 0 (body k turn p) := by
    have e := mid' (body k turn p) (le 4 (more 0 (body k turn p))) [] 508 4 hb (length_le _ _)
    rw [List.append_nil] at e
    unfold numAt sealed
    rw [e, num_le' 4 _ (more_lt0' _)]
  have shape : sealed k turn p = [k, 0] ++ le 2 p.length ++ (le 8 turn ++ p ++ List.replicate (496 - p.length) 0 ++ le 4 (more 0 (body k turn p))) := by
    simp [sealed, body, List.append_assoc]
  have hn : numAt (sealed k turn p) 2 2 = p.length := by
    unfold numAt
    rw [shape, mid' _ _ _ 2 2 rfl (length_le _ _), num_le' 2 _ (by omega)]
  have shape2 : sealed k turn p = ([k, 0] ++ le 2 p.length) ++ le 8 turn ++ (p ++ List.replicate (496 - p.length) 0 ++ le 4 (more 0 (body k turn p))) := by
    simp [sealed, body, List.append_assoc]
  have htn : numAt (sealed k turn p) 4 8 = turn := by
    unfold numAt
    rw [shape2, mid' _ _ _ 4 8 (by simp [length_le]) (length_le _ _), num_le' 8 _ ht]
  have shape3 : sealed k turn p = ([k, 0] ++ le 2 p.length ++ le 8 turn) ++ p ++ (List.replicate (496 - p.length) 0 ++ le 4 (more 0 (body k turn p))) := by
    simp [sealed, body, List.append_assoc]
  have hpay : ((sealed k turn p).drop 12).take p.length = p := by
    rw [shape3, mid' _ _ _ 12 p.length (by simp [length_le]) rfl]
  have shape4 : sealed k turn p = ([k, 0] ++ le 2 p.length ++ le 8 turn ++ p) ++ List.replicate (496 - p.length) 0 ++ le 4 (more 0 (body k turn p)) := by
    simp [sealed, body, List.append_assoc]
  have hrest : ((sealed k turn p).drop (12 + p.length)).take (496 - p.length) = List.replicate (496 - p.length) 0 := by
    rw [shape4, mid' _ _ _ (12 + p.length) (496 - p.length) (by simp [length_le]; omega) (by simp)]
  unfold openR
  rw [if_neg (by omega), hz, if_neg (by decide), hsum, ht508, if_neg (by simp), g0, g1, hn, htn, hpay, hrest]
  rw [if_neg (by rw [hk]; simp; omega), if_neg (by simp)]

theorem take_all (b : List UInt8) (n : Nat) (h : b.length = n) : b.take n = b := List.take_of_length_le (by omega)
theorem cut_at (b : List UInt8) (a m : Nat) : b.drop a = (b.drop a).take m ++ b.drop (a + m) := by
  rw [← List.drop_drop]
  exact (List.take_append_drop m (b.drop a)).symm
theorem zeros_of (l : List UInt8) (h : l.all (· == 0) = true) : l = List.replicate l.length 0 := by
  rw [List.eq_replicate_iff]
  exact ⟨rfl, fun x hx => by have := List.all_eq_true.1 h x hx; simpa using this⟩
theorem le_numAt (b : List UInt8) (a n : Nat) (h : a + n ≤ b.length) : le n (numAt b a n) = (b.drop a).take n := by
  have hl : ((b.drop a).take n).length = n := by simp; omega
  have e := le_num ((b.drop a).take n)
  rw [hl] at e
  exact e

theorem sealed_open (b : List UInt8) (h0 : (openR b).2.2.2 = 0) (hk : (openR b).1 ≠ 0) : sealed (openR b).1 (openR b).2.1 (openR b).2.2.1 = b ∧ knownB (openR b).1 = true ∧ (openR b).2.2.1.length ≤ 496 := by
  unfold openR at h0 hk ⊢
  by_cases hl : b.length ≠ 512
  · rw [if_pos hl] at h0; cases h0
  rw [if_neg hl] at h0 hk ⊢
  by_cases hz : b.all (· == 0) = true
  · rw [if_pos hz] at hk; exact absurd rfl hk
  rw [if_neg hz] at h0 hk ⊢
  by_cases hs : numAt b 508 4 ≠ more 0 (b.take 508)
  · rw [if_pos hs] at h0; cases h0
  rw [if_neg hs] at h0 hk ⊢
  by_cases hf : knownB (b.getD 0 0) = false ∨ b.getD 1 0 ≠ 0 ∨ 496 < numAt b 2 2
  · rw [if_pos hf] at h0; cases h0
  rw [if_neg hf] at h0 hk ⊢
  by_cases hr : ((b.drop (12 + numAt b 2 2)).take (496 - numAt b 2 2)).all (· == 0) = false
  · rw [if_pos hr] at h0; cases h0
  rw [if_neg hr]
  have hl' : b.length = 512 := by omega
  have hs' : numAt b 508 4 = more 0 (b.take 508) := Decidable.byContradiction hs
  have hk1 : knownB (b.getD 0 0) = true := by cases h : knownB (b.getD 0 0) <;> simp_all
  have hb1 : b.getD 1 0 = 0 := Decidable.byContradiction fun h => hf (Or.inr (Or.inl h))
  have hn : numAt b 2 2 ≤ 496 := by omega
  have hr' : ((b.drop (12 + numAt b 2 2)).take (496 - numAt b 2 2)).all (· == 0) = true := by simpa using hr
  have l2 := le_numAt b 2 2 (by omega)
  have l8 := le_numAt b 4 8 (by omega)
  have l4 := le_numAt b 508 4 (by omega)
  have hz2 := zeros_of _ hr'
  have hzl : ((b.drop (12 + numAt b 2 2)).take (496 - numAt b 2 2)).length = 496 - numAt b 2 2 := by simp; omega
  rw [hzl] at hz2
  have hpl : ((b.drop 12).take (numAt b 2 2)).length = numAt b 2 2 := by simp; omega
  have h2 : b.take 2 = [b.getD 0 0, 0] := by
    match b, hl', hb1 with
    | x :: y :: r, _, hb1 =>
      have : y = 0 := hb1
      subst this
      rfl
  have hbody : body (b.getD 0 0) (numAt b 4 8) ((b.drop 12).take (numAt b 2 2)) = b.take 508 := by
    unfold body
    rw [hpl, l2, l8, ← hz2, ← h2]
    generalize numAt b 2 2 = n at *
    have e1 : b.take 508 = b.take 2 ++ (b.drop 2).take 2 ++ (b.drop 4).take 8 ++ (b.drop 12).take n ++ (b.drop (12 + n)).take (496 - n) := by
      have a1 : b.take (2 + 2) = b.take 2 ++ (b.drop 2).take 2 := List.take_add
      have a2 : b.take (2 + 2 + 8) = b.take (2 + 2) ++ (b.drop (2 + 2)).take 8 := List.take_add
      have a3 : b.take (2 + 2 + 8 + n) = b.take (2 + 2 + 8) ++ (b.drop (2 + 2 + 8)).take n := List.take_add
      have a4 : b.take (2 + 2 + 8 + n + (496 - n)) = b.take (2 + 2 + 8 + n) ++ (b.drop (2 + 2 + 8 + n)).take (496 - n) := List.take_add
      rw [a3, a2, a1, show 2 + 2 + 8 + n + (496 - n) = 508 by omega] at a4
      exact a4
    exact e1.symm
  refine ⟨?_, hk1, by show ((b.drop 12).take (numAt b 2 2)).length ≤ 496; omega⟩
  show body (b.getD 0 0) (numAt b 4 8) ((b.drop 12).take (numAt b 2 2)) ++ le 4 (more 0 (body (b.getD 0 0) (numAt b 4 8) ((b.drop 12).take (numAt b 2 2)))) = b
  rw [hbody, ← hs', l4]
  have e2 : (b.drop 508).take 4 = b.drop 508 := List.take_of_length_le (by simp; omega)
  rw [e2, List.take_append_drop]

theorem sealed_inj (k k' : UInt8) (t t' : Nat) (a b : List UInt8) (hk : knownB k = true) (hk' : knownB k' = true) (ht : t < 18446744073709551616) (ht' : t' < 18446744073709551616) (ha : a.length ≤ 496) (hb : b.length ≤ 496) (h : sealed k t a = sealed k' t' b) : k = k' ∧ t = t' ∧ a = b := by
  have e1 := open_sealed k t a hk ht ha
  have e2 := open_sealed k' t' b hk' ht' hb
  rw [h, e2] at e1
  simp only [Prod.mk.injEq, and_true] at e1
  exact ⟨e1.1.symm, e1.2.1.symm, e1.2.2.symm⟩

/-! ### Turned bits -/
theorem le_four (v : Nat) : le 4 v = four v := by
  simp [le, four, List.range_succ]

/-- A right sum: the register comes to its end. -/
theorem raw_of_right (b : List UInt8) (hl : b.length = 512) (h : numAt b 508 4 = more 0 (b.take 508)) : raw 4294967295 b = stps 32 4294967295 := by
  have l4 := le_numAt b 508 4 (by omega)
  have e2 : (b.drop 508).take 4 = b.drop 508 := List.take_of_length_le (by simp; omega)
  rw [e2, h, le_four] at l4
  have e : b = b.take 508 ++ four (more 0 (b.take 508)) := by rw [l4, List.take_append_drop]
  rw [e]
  exact (right_iff _ _ (more_lt0' _)).2 rfl
theorem raw_sealed (k : UInt8) (turn : Nat) (p : List UInt8) : raw 4294967295 (sealed k turn p) = stps 32 4294967295 := by
  unfold sealed
  rw [le_four]
  exact (right_iff _ _ (more_lt0' _)).2 rfl

/-- What a turned bit makes of the first byte. -/
def bit0 (p : Nat) : UInt8 := if p < 8 then UInt8.ofNat (2 ^ p) else 0
theorem turn_first (b : List UInt8) (p : Nat) (hb : 0 < b.length) : (turn b p).getD 0 0 = b.getD 0 0 ^^^ bit0 p := by
  unfold turn bit0
  by_cases h : p < 8
  · rw [if_pos h, show p / 8 = 0 by omega, show p % 8 = p by omega]
    match b, hb with
    | x :: r, _ => rfl
  · rw [if_neg h]
    obtain ⟨q, hq⟩ : ∃ q, p / 8 = q + 1 := ⟨p / 8 - 1, by omega⟩
    rw [hq]
    match b, hb with
    | x :: r, _ =>
      show x = x ^^^ 0
      simp
theorem few_bits : ∀ i j k : Fin 9, knownB (bit0 i.val ^^^ bit0 j.val ^^^ bit0 k.val) = false := by decide +kernel
theorem bit0_cap (p : Nat) : ∃ i : Fin 9, bit0 p = bit0 i.val := by
  by_cases h : p < 8
  · exact ⟨⟨p, by omega⟩, rfl⟩
  · exact ⟨⟨8, by omega⟩, by show bit0 p = bit0 8; rw [bit0, if_neg h]; rfl⟩
theorem few_known (i j k : Nat) : knownB (bit0 i ^^^ bit0 j ^^^ bit0 k) = false := by
  obtain ⟨a, ha⟩ := bit0_cap i
  obtain ⟨b, hb⟩ := bit0_cap j
  obtain ⟨c, hc⟩ := bit0_cap k
  rw [ha, hb, hc]
  exact few_bits a b c
theorem bit0_eight : bit0 8 = 0 := rfl
theorem xor_u8_cancel (a b : UInt8) (h : a ^^^ b = 0) : a = b := by
  apply UInt8.toNat_inj.1
  apply xor_eq_zero
  rw [← UInt8.toNat_xor, h]
  rfl

theorem zeros_all (b : List UInt8) (h : b.all (· == 0) = true) (hl : 0 < b.length) : b.getD 0 0 = 0 := by
  match b, hl with
  | x :: r, _ =>
    have := List.all_eq_true.1 h x (by simp)
    simpa using this

/-- One or three places that differ: how the bytes behind them fare. -/
def Places (n : Nat) (ps : List Nat) : Prop := (∃ i, ps = [i] ∧ i < n) ∨ ∃ i j k, ps = [i, j, k] ∧ i ≠ j ∧ j ≠ k ∧ i ≠ k ∧ i < n ∧ j < n ∧ k < n

theorem turnAll_one (L : List UInt8) (i : Nat) (hi : i < 8 * L.length) : turnAll L [i] = turn L i := by
  rw [turnAll, if_pos hi, turnAll]
theorem turnAll_three (L : List UInt8) (i j k : Nat) (hi : i < 8 * L.length) (hj : j < 8 * L.length) (hk : k < 8 * L.length) : turnAll L [i, j, k] = turn (turn (turn L i) j) k := by
  rw [turnAll, if_pos hi, turnAll, if_pos (by rw [length_turn]; exact hj), turnAll_one _ _ (by rw [length_turn, length_turn]; exact hk)]

theorem places_raw (s : Nat) (L : List UInt8) (ps : List Nat) (hl : L.length = 512) (hp : Places 4096 ps) : raw s (turnAll L ps) ≠ raw s L := by
  rcases hp with ⟨i, rfl, hi⟩ | ⟨i, j, k, rfl, hij, hjk, hik, hi, hj, hk⟩
  · rw [turnAll_one _ _ (by omega)]
    exact raw_one s L i (by omega)
  · rw [turnAll_three _ _ _ _ (by omega) (by omega) (by omega)]
    exact raw_three s L i j k (by omega) hij hjk hik (by omega) (by omega) (by omega)
theorem places_first (L : List UInt8) (ps : List Nat) (hl : L.length = 512) (hp : Places 4096 ps) : ∃ i j k, (turnAll L ps).getD 0 0 = L.getD 0 0 ^^^ (bit0 i ^^^ bit0 j ^^^ bit0 k) := by
  rcases hp with ⟨i, rfl, hi⟩ | ⟨i, j, k, rfl, _, _, _, hi, hj, hk⟩
  · refine ⟨i, 8, 8, ?_⟩
    rw [turnAll_one _ _ (by omega), turn_first _ _ (by omega), bit0_eight]
    simp
  · refine ⟨i, j, k, ?_⟩
    rw [turnAll_three _ _ _ _ (by omega) (by omega) (by omega), turn_first _ _ (by simp [length_turn]; omega), turn_first _ _ (by simp [length_turn]; omega), turn_first _ _ (by omega)]
    rw [UInt8.xor_assoc, UInt8.xor_assoc, UInt8.xor_assoc]
theorem places_length (L : List UInt8) (ps : List Nat) (hl : L.length = 512) (hp : Places 4096 ps) : (turnAll L ps).length = 512 := by
  rcases hp with ⟨i, rfl, hi⟩ | ⟨i, j, k, rfl, _, _, _, hi, hj, hk⟩
  · rw [turnAll_one _ _ (by omega), length_turn, hl]
  · rw [turnAll_three _ _ _ _ (by omega) (by omega) (by omega), length_turn, length_turn, length_turn, hl]

/-- A sealed sector with one or three turned bits is refused by its sum. -/
theorem open_turned (k : UInt8) (turn : Nat) (p : List UInt8) (ps : List Nat) (hk : knownB k = true) (hpl : p.length ≤ 496) (hp : Places 4096 ps) : openR (turnAll (sealed k turn p) ps) = (0, 0, [], 30) := by
  have hl := length_sealed k turn p hpl
  have hl' := places_length _ ps hl hp
  have hr := places_raw 4294967295 _ ps hl hp
  obtain ⟨i, j, m, hf⟩ := places_first _ ps hl hp
  have g0 : (sealed k turn p).getD 0 0 = k := rfl
  rw [g0] at hf
  rw [raw_sealed] at hr
  generalize turnAll (sealed k turn p) ps = L at *
  have hz : ¬ L.all (· == 0) = true := by
    intro h
    rw [zeros_all L h (by omega)] at hf
    have e := xor_u8_cancel _ _ hf.symm
    rw [e, few_known] at hk
    cases hk
  unfold openR
  rw [if_neg (by omega), if_neg hz, if_pos (fun h => hr (raw_of_right L hl' h))]

/-- A blank sector with one or three turned bits is refused, too. -/
theorem open_blank_turned (ps : List Nat) (hp : Places 4096 ps) : openR (turnAll (List.replicate 512 0) ps) = (0, 0, [], 30) ∨ openR (turnAll (List.replicate 512 0) ps) = (0, 0, [], 11) := by
  have hl : (List.replicate 512 (0 : UInt8)).length = 512 := List.length_replicate
  have hl' := places_length _ ps hl hp
  have hr := places_raw 0 _ ps hl hp
  obtain ⟨i, j, m, hf⟩ := places_first _ ps hl hp
  have g0 : (List.replicate 512 (0 : UInt8)).getD 0 0 = 0 := rfl
  rw [g0, UInt8.zero_xor] at hf
  have hz : ¬ (turnAll (List.replicate 512 (0 : UInt8)) ps).all (· == 0) = true := by
    intro h
    have e := zeros_of _ h
    rw [hl'] at e
    rw [e] at hr
    exact hr rfl
  generalize turnAll (List.replicate 512 (0 : UInt8)) ps = L at *
  unfold openR
  rw [if_neg (by omega), if_neg hz]
  by_cases hs : numAt L 508 4 ≠ more 0 (L.take 508)
  · rw [if_pos hs]
    exact Or.inl rfl
  · rw [if_neg hs, if_pos (Or.inl (by rw [hf]; exact few_known i j m))]
    exact Or.inr rfl
end Go.Proofs.Ytpkpjmebkikgdaa

/- The plain half of the proofs about package layout: what a device's layout is. Nothing here speaks of the program. -/
namespace Go.Proofs.Ytpkpjmebkikgdaa
open Go.RowKit

/-- The sizes of a layout of n sectors, n from 256 to 65536. -/
def lz (n : Int) : Int := (n - 13) / 8
def lseg (n : Int) : Int := (n - (13 + 3 * lz n)) / 32
/-- A layout as a value. -/
def layV (n : Int) : Value := .agg #[.int .i64 n, .int .i64 3, .int .i64 13, .int .i64 (lz n), .int .i64 (13 + lz n), .int .i64 (13 + 2 * lz n), .int .i64 (lz n), .int .i64 (13 + 3 * lz n), .int .i64 (lseg n)]
def layZ : Value := .agg #[.int .i64 0, .int .i64 0, .int .i64 0, .int .i64 0, .int .i64 0, .int .i64 0, .int .i64 0, .int .i64 0, .int .i64 0]
def Fits (n : Int) : Prop := 256 ≤ n ∧ n ≤ 65536
instance (n : Int) : Decidable (Fits n) := inferInstanceAs (Decidable (_ ∧ _))
def planV (n : Int) : Value := if Fits n then layV n else layZ
def planE (n : Int) : Int := if Fits n then 0 else 1
/-- Which region a sector is of. -/
def regN (n a : Int) : Int :=
  if 0 ≤ a ∧ a < 2 then 1 else if a = 2 then 2 else if 3 ≤ a ∧ a < 3 + 10 then 3
  else if 13 ≤ a ∧ a < 13 + lz n then 4 else if 13 + lz n ≤ a ∧ a < 13 + lz n + lz n then 5
  else if 13 + 2 * lz n ≤ a ∧ a < 13 + 2 * lz n + lz n then 6
  else if 13 + 3 * lz n ≤ a ∧ a < 13 + 3 * lz n + lseg n * 32 then 7 else 0
def segN (n m : Int) : Int := if m < 0 ∨ lseg n ≤ m then -1 else 13 + 3 * lz n + m * 32
def capN (n : Int) : Int := lseg n * 31
def physN (n a : Int) : Int := if a < 0 ∨ capN n ≤ a then 0 else 13 + 3 * lz n + a / 31 * 32 + 1 + a % 31
def physB (n a : Int) : Bool := decide (¬ (a < 0 ∨ capN n ≤ a))
def isVal (n a : Int) : Prop := regN n a = 7 ∧ (a - (13 + 3 * lz n)) % 32 ≠ 0
instance (n a : Int) : Decidable (isVal n a) := inferInstanceAs (Decidable (_ ∧ _))
def logicN (n a : Int) : Int := if isVal n a then (a - (13 + 3 * lz n)) / 32 * 31 + (a - (13 + 3 * lz n)) % 32 - 1 else 0
def logicB (n a : Int) : Bool := decide (isVal n a)
def logN (n : Int) (t : Nat) : Int := 13 + ((t % (lz n).toNat : Nat) : Int)

/-- Bounds that all the rest goes by. -/
theorem lz_le (n : Int) (h : Fits n) : 30 ≤ lz n ∧ lz n ≤ 8190 ∧ 8 * lz n ≤ n - 13 ∧ n - 13 < 8 * lz n + 8 := by
  obtain ⟨h1, h2⟩ := h
  unfold lz
  omega
theorem lseg_le (n : Int) (h : Fits n) : 4 ≤ lseg n ∧ lseg n ≤ 2048 ∧ 13 + 3 * lz n + 32 * lseg n ≤ n ∧ n < 13 + 3 * lz n + 32 * lseg n + 32 := by
  obtain ⟨a, b, c, d⟩ := lz_le n h
  obtain ⟨h1, h2⟩ := h
  unfold lseg
  omega
end Go.Proofs.Ytpkpjmebkikgdaa

/- The plain half of the proofs about package disk: a device as the document has it. -/
namespace Go.Proofs.Ytpkpjmebkikgdaa
open Go.RowKit

/-- A device: how many sectors, what is kept of each, the writes that wait, how many writes or flushes until one is hit (0: none), whether it is down, how often a bit was turned; and how many writes and flushes there were since it was armed or started. -/
structure DK where
  n : Nat
  kept : Nat → List UInt8
  waits : List (Nat × List UInt8)
  armed : Nat
  fell : Bool
  turns : Nat
  ticks : Nat

def blank : List UInt8 := List.replicate 512 0
theorem length_blank : blank.length = 512 := by unfold blank; rw [List.length_replicate]

/-- A sector is kept. -/
def keep1 (f : Nat → List UInt8) (a : Nat × List UInt8) : Nat → List UInt8 := fun k => if k = a.1 then a.2 else f k
/-- All writes are kept, in order. -/
def keepAll (f : Nat → List UInt8) (l : List (Nat × List UInt8)) : Nat → List UInt8 := l.foldl keep1 f
/-- Those that are told to be kept, in order; 'i' the number of the first. -/
def keepSome (ks : List Bool) (f : Nat → List UInt8) : Nat → List (Nat × List UInt8) → Nat → List UInt8
  | _, [] => f
  | i, a :: l => keepSome ks (if ks.getD i false = true then keep1 f a else f) (i + 1) l
/-- What is shown of a sector where b is kept. -/
def shownB (at_ : Nat) (b : List UInt8) (l : List (Nat × List UInt8)) : List UInt8 := l.foldl (fun acc x => if x.1 = at_ then x.2 else acc) b
/-- A bit is turned. -/
def tog (b : List UInt8) (bit : Nat) : List UInt8 := b.set (bit / 8) (b.getD (bit / 8) 0 ^^^ UInt8.ofNat (2 ^ (bit % 8)))

namespace DK
def new (n : Nat) : DK := ⟨n, fun _ => blank, [], 0, false, 0, 0⟩
def shown (s : DK) (at_ : Nat) : List UInt8 := shownB at_ (s.kept at_) s.waits
def noSuch (s : DK) (at_ : Int) : Bool := decide (at_ < 0 ∨ (s.n : Int) ≤ at_)
/-- The count of writes and flushes goes on. -/
def tick (s : DK) : DK := { s with armed := s.armed - 1, fell := s.armed == 1, ticks := s.ticks + 1 }
def writeE (s : DK) (at_ : Int) (b : List UInt8) : Int := if s.fell = true then 40 else if s.noSuch at_ = true ∨ b.length ≠ 512 then 1 else if s.armed = 1 then 40 else 0
def write (s : DK) (at_ : Int) (b : List UInt8) : DK := if s.fell = true then s else if s.noSuch at_ = true ∨ b.length ≠ 512 then s else { s with waits := s.waits ++ [(at_.toNat, b)] }.tick
def readE (s : DK) (at_ : Int) : Int := if s.fell = true then 40 else if s.noSuch at_ = true then 1 else 0
def readB (s : DK) (at_ : Int) : List UInt8 := if s.fell = true then [] else if s.noSuch at_ = true then [] else s.shown at_.toNat
def flushE (s : DK) : Int := if s.fell = true then 40 else if s.armed = 1 then 40 else 0
def flush (s : DK) : DK := if s.fell = true then s else if s.armed = 1 then s.tick else { s with kept := keepAll s.kept s.waits, waits := [] }.tick
def armE (s : DK) : Int := if s.fell = true then 40 else 0
def arm (s : DK) (n : Int) : DK := if s.fell = true then s else { s with armed := n.toNat, ticks := 0 }
def crash (s : DK) (ks : List Bool) : DK := { s with fell := true, kept := keepSome ks s.kept 0 s.waits, waits := [] }
def start (s : DK) : DK := if s.fell = true then { s with fell := false, armed := 0, waits := [], ticks := 0 } else s
def flipE (s : DK) (at_ bit : Int) : Int := if s.noSuch at_ = true ∨ bit < 0 ∨ 4096 ≤ bit then 1 else 0
def flip (s : DK) (at_ bit : Int) : DK := if s.noSuch at_ = true ∨ bit < 0 ∨ 4096 ≤ bit then s else { s with kept := keep1 s.kept (at_.toNat, tog (s.kept at_.toNat) bit.toNat), turns := s.turns + 1 }

/-- Every sector has its bytes, every write that waits has one. -/
structure Ok (s : DK) : Prop where
  size : s.n ≤ 65536
  kept : ∀ k, (s.kept k).length = 512
  waits : ∀ a ∈ s.waits, a.1 < s.n ∧ a.2.length = 512
  armed : s.armed ≤ 9223372036854775807
end DK

theorem length_tog (b : List UInt8) (bit : Nat) : (tog b bit).length = b.length := by simp [tog]
theorem length_keep1 {f : Nat → List UInt8} {a : Nat × List UInt8} (h : ∀ k, (f k).length = 512) (ha : a.2.length = 512) : ∀ k, (keep1 f a k).length = 512 := by
  intro k
  unfold keep1
  split
  · exact ha
  · exact h k
theorem length_keepAll {f : Nat → List UInt8} {l : List (Nat × List UInt8)} (h : ∀ k, (f k).length = 512) (hl : ∀ a ∈ l, a.2.length = 512) : ∀ k, (keepAll f l k).length = 512 := by
  induction l generalizing f with
  | nil => exact h
  | cons a l ih => exact ih (length_keep1 h (hl a (by simp))) (fun x hx => hl x (by simp [hx]))
theorem length_keepSome {ks : List Bool} {f : Nat → List UInt8} {l : List (Nat × List UInt8)} {i : Nat} (h : ∀ k, (f k).length = 512) (hl : ∀ a ∈ l, a.2.length = 512) : ∀ k, (keepSome ks f i l k).length = 512 := by
  induction l generalizing f i with
  | nil => exact h
  | cons a l ih =>
    unfold keepSome
    refine ih ?_ (fun x hx => hl x (by simp [hx]))
    split
    · exact length_keep1 h (hl a (by simp))
    · exact h
theorem length_shownB {at_ : Nat} {b : List UInt8} {l : List (Nat × List UInt8)} (h : b.length = 512) (hl : ∀ a ∈ l, a.2.length = 512) : (shownB at_ b l).length = 512 := by
  induction l generalizing b with
  | nil => exact h
  | cons a l ih =>
    unfold shownB
    rw [List.foldl_cons]
    refine ih ?_ (fun x hx => hl x (by simp [hx]))
    split
    · exact hl a (by simp)
    · exact h

namespace DK
theorem Ok.new {n : Nat} (h : n ≤ 65536) : (DK.new n).Ok := ⟨h, fun _ => length_blank, (fun a ha => by cases ha), Nat.zero_le _⟩
theorem Ok.shown {s : DK} (h : s.Ok) (k : Nat) : (s.shown k).length = 512 := length_shownB (h.kept k) (fun a ha => (h.waits a ha).2)
theorem Ok.tick {s : DK} (h : s.Ok) : s.tick.Ok := ⟨h.size, h.kept, h.waits, Nat.le_trans (Nat.sub_le _ _) h.armed⟩
theorem noSuch_false {s : DK} {a : Int} (h : s.noSuch a = false) : 0 ≤ a ∧ a < s.n ∧ a.toNat < s.n := by
  have := of_decide_eq_false h
  omega
theorem Ok.write {s : DK} (h : s.Ok) (a : Int) (b : List UInt8) : (s.write a b).Ok := by
  unfold DK.write
  split
  · exact h
  · split
    · exact h
    · rename_i hc
      refine Ok.tick ⟨h.size, h.kept, fun x hx => ?_, h.armed⟩
      rcases List.mem_append.1 hx with hx | hx
      · exact h.waits x hx
      · simp only [List.mem_singleton] at hx
        subst hx
        have h1 : s.noSuch a = false := by
          cases hn : s.noSuch a with
          | false => rfl
          | true => exact absurd (Or.inl hn) hc
        exact ⟨(noSuch_false h1).2.2, Decidable.byContradiction fun hl => hc (Or.inr hl)⟩
theorem Ok.flush {s : DK} (h : s.Ok) : s.flush.Ok := by
  unfold DK.flush
  split
  · exact h
  · split
    · exact h.tick
    · exact Ok.tick ⟨h.size, length_keepAll h.kept (fun a ha => (h.waits a ha).2), (fun a ha => by cases ha), h.armed⟩
theorem Ok.arm {s : DK} (h : s.Ok) (n : Int) (hn : n ≤ 9223372036854775807) : (s.arm n).Ok := by
  unfold DK.arm
  split
  · exact h
  · exact ⟨h.size, h.kept, h.waits, by show n.toNat ≤ _; omega⟩
theorem Ok.crash {s : DK} (h : s.Ok) (ks : List Bool) : (s.crash ks).Ok := ⟨h.size, length_keepSome h.kept (fun a ha => (h.waits a ha).2), (fun a ha => by cases ha), h.armed⟩
theorem Ok.start {s : DK} (h : s.Ok) : s.start.Ok := by
  unfold DK.start
  split
  · exact ⟨h.size, h.kept, (fun a ha => by cases ha), Nat.zero_le _⟩
  · exact h
theorem Ok.flip {s : DK} (h : s.Ok) (a b : Int) : (s.flip a b).Ok := by
  unfold DK.flip
  split
  · exact h
  · exact ⟨h.size, length_keep1 h.kept (by rw [length_tog]; exact h.kept _), h.waits, h.armed⟩
end DK
end Go.Proofs.Ytpkpjmebkikgdaa

/- The log as plain data: what a sector bears for a turn, which frames stand as one record's, which records an opening reads. Nothing here speaks of the program. -/
namespace Go.Proofs.Ytpkpjmebkikgdaa
open Go.RowKit

/-- What bytes of a sector bear for the turn t: a frame (of none, where they bear none), or ErrBad. -/
def bearsW (b : List UInt8) (t : Nat) : Fr × Int :=
  if (openR b).2.2.2 ≠ 0 then (zeroF, 5)
  else if (openR b).1 ≠ 77 ∨ (openR b).2.1 ≠ t then (zeroF, 0)
  else if (readF (openR b).2.2.1).2 ≠ 0 then (zeroF, 0) else ((readF (openR b).2.2.1).1, 0)
/-- What the sector of turn t bears, as an opening from the turn o on sees it; sh: the bytes of each turn's sector, R: how many sectors the ring has. -/
def frameW (sh : Nat → List UInt8) (R o t : Nat) : Fr × Int := if R ≤ t - o then (zeroF, 0) else bearsW (sh t) t

/-- The rest of the frames of one record, k of them, from the turn t on, behind acc. -/
def scanW (fr : Nat → Fr × Int) (h : Fr) : Nat → Nat → List Fr → List Fr × Int
  | 0, _, acc => (acc, 0)
  | k + 1, t, acc =>
    if (fr t).2 ≠ 0 then ([], (fr t).2)
    else if (fr t).1.first ≠ h.first ∨ (fr t).1.age ≠ h.age ∨ (fr t).1.of ≠ h.of then ([], 0)
    else scanW fr h k (t + 1) (acc ++ [(fr t).1])
def headBad (h : Fr) (t p A : Nat) : Prop := h.of < 1 ∨ h.first ≠ t ∨ h.age < p ∨ A ≤ h.age
instance (h : Fr) (t p A : Nat) : Decidable (headBad h t p A) := inferInstanceAs (Decidable (_ ∨ _))
/-- The frames that stand as one record's from the turn t on. -/
def partsW (fr : Nat → Fr × Int) (A t p : Nat) : List Fr × Int :=
  if (fr t).2 ≠ 0 then ([], (fr t).2)
  else if headBad (fr t).1 t p A then ([], 0)
  else scanW fr (fr t).1 ((fr t).1.of.toNat - 1) (t + 1) [(fr t).1]

/-- A log: its age, its turns, where its records begin and of which ages they are, and whether it has answered ErrDown. -/
structure LG where
  age : Nat
  first : Nat
  next : Nat
  starts : List (Nat × Nat)
  fallen : Bool

def LG.add (L : LG) (a k : Nat) : LG := { L with starts := L.starts ++ [(L.next, a)], next := L.next + k }
def LG.down (L : LG) : LG := { L with fallen := true }
def LG.least (L : LG) : Nat := match L.starts with | [] => L.age | p :: _ => p.2
/-- Bounds: the turns, and how many records there are. -/
structure LG.Ok (L : LG) (R : Nat) : Prop where
  age : L.age < 18446744073709551616
  le : L.first ≤ L.next
  ring : L.next ≤ L.first + R
  next : L.next < 9223372036854775808
  count : L.starts.length ≤ L.next - L.first
  turns : ∀ p ∈ L.starts, L.first ≤ p.1 ∧ p.1 < L.next ∧ p.2 < 18446744073709551616
  sorted : L.starts.Pairwise (fun a b => a.1 < b.1)

/-- What an opening reads: records and the log behind them, or an error. -/
def recallW (fr : Nat → Fr × Int) (A : Nat) : Nat → Nat → List (List UInt8) → LG → List (List UInt8) × LG × Int
  | 0, _, recs, L => (recs, L, 0)
  | k + 1, p, recs, L =>
    if (partsW fr A L.next p).2 ≠ 0 then ([], L, (partsW fr A L.next p).2)
    else if joinE (partsW fr A L.next p).1 ≠ 0 then (recs, L, 0)
    else recallW fr A k ((partsW fr A L.next p).1.headD zeroF).age (recs ++ [joinB (partsW fr A L.next p).1]) (L.add ((partsW fr A L.next p).1.headD zeroF).age (partsW fr A L.next p).1.length)

/-- The error of a frame is 0 or 5. -/
theorem bears_err (b : List UInt8) (t : Nat) : (bearsW b t).2 = 0 ∨ (bearsW b t).2 = 5 := by
  unfold bearsW
  repeat' split
  all_goals simp
theorem frame_err (sh : Nat → List UInt8) (R o t : Nat) : (frameW sh R o t).2 = 0 ∨ (frameW sh R o t).2 = 5 := by
  unfold frameW
  split
  · exact Or.inl rfl
  · exact bears_err _ _
theorem bears_may (b : List UInt8) (t : Nat) (h : 1 ≤ (bearsW b t).1.of) : mayF (bearsW b t).1 = true ∧ (bearsW b t).1.age < 18446744073709551616 ∧ (bearsW b t).1.first < 18446744073709551616 := by
  revert h
  unfold bearsW
  split
  · intro h; simp [zeroF] at h
  · split
    · intro h; simp [zeroF] at h
    · split
      · intro h; simp [zeroF] at h
      · rename_i h1
        intro _
        obtain ⟨a, _, c⟩ := bytes_read _ (show (readF (openR b).2.2.1).2 = 0 by omega)
        exact ⟨a, c⟩
theorem frame_may (sh : Nat → List UInt8) (R o t : Nat) (h : 1 ≤ (frameW sh R o t).1.of) : mayF (frameW sh R o t).1 = true ∧ (frameW sh R o t).1.age < 18446744073709551616 ∧ (frameW sh R o t).1.first < 18446744073709551616 ∧ t - o < R := by
  revert h
  unfold frameW
  split
  · intro h; simp [zeroF] at h
  · intro h
    obtain ⟨a, b, c⟩ := bears_may _ _ h
    exact ⟨a, b, c, by omega⟩
theorem bears_ok (b : List UInt8) (t : Nat) : (bearsW b t).1.ok := by
  unfold bearsW
  have hz : zeroF.ok := by unfold Fr.ok zeroF; simp
  split
  · exact hz
  · split
    · exact hz
    · split
      · exact hz
      · rename_i h1
        obtain ⟨a, b', c⟩ := bytes_read _ (show (readF (openR b).2.2.1).2 = 0 by omega)
        obtain ⟨m1, m2, m3⟩ := (may_iff _).1 a
        exact ⟨c.1, c.2, by dsimp only; omega, by dsimp only; omega, by dsimp only; omega⟩
theorem frame_ok (sh : Nat → List UInt8) (R o t : Nat) : (frameW sh R o t).1.ok := by
  unfold frameW
  split
  · unfold Fr.ok zeroF; simp
  · exact bears_ok _ _

/-- What scan answers without an error, and not nothing: what stood before, and so many frames, all within the ring. -/
theorem scan_some (sh : Nat → List UInt8) (R o : Nat) (h : Fr) (h1 : 1 ≤ h.of) : ∀ (k t : Nat) (acc : List Fr), (scanW (frameW sh R o) h k t acc).1 ≠ [] → acc ≠ [] →
    (scanW (frameW sh R o) h k t acc).1 = acc ++ (List.range k).map (fun i => (frameW sh R o (t + i)).1) ∧ (scanW (frameW sh R o) h k t acc).2 = 0 ∧ ∀ i, i < k → t + i - o < R
  | 0, t, acc, _, _ => ⟨by simp [scanW], rfl, fun i hi => absurd hi (by omega)⟩
  | k + 1, t, acc, hne, ha => by
    unfold scanW at hne ⊢
    split
    · rename_i hc; rw [if_pos hc] at hne; exact absurd rfl hne
    · rename_i hc
      rw [if_neg hc] at hne
      split
      · rename_i hd; rw [if_pos hd] at hne; exact absurd rfl hne
      · rename_i hd
        rw [if_neg hd] at hne
        obtain ⟨i1, i2, i3⟩ := scan_some sh R o h h1 k (t + 1) _ hne (by simp)
        have hof : (frameW sh R o t).1.of = h.of := Decidable.byContradiction fun x => hd (Or.inr (Or.inr x))
        obtain ⟨_, _, _, hr⟩ := frame_may sh R o t (by omega)
        refine ⟨?_, i2, fun i hi => ?_⟩
        · rw [i1, List.range_succ_eq_map, List.map_cons, List.map_map, List.append_assoc]
          have : (fun i => (frameW sh R o (t + 1 + i)).1) = ((fun i => (frameW sh R o (t + i)).1) ∘ Nat.succ) := by
            funext i; simp only [Function.comp, Nat.succ_eq_add_one]; rw [show t + 1 + i = t + (i + 1) by omega]
          rw [this]
          rfl
        · cases i with
          | zero => exact hr
          | succ i => have := i3 i (by omega); omega
/-- Frames that stand as one record's. -/
theorem parts_some (sh : Nat → List UInt8) (R o A t p : Nat) (h : (partsW (frameW sh R o) A t p).1 ≠ []) :
    (partsW (frameW sh R o) A t p).1 = (List.range (frameW sh R o t).1.of.toNat).map (fun i => (frameW sh R o (t + i)).1) ∧ (partsW (frameW sh R o) A t p).2 = 0 ∧ ¬ headBad (frameW sh R o t).1 t p A ∧
      (∀ i, i < (frameW sh R o t).1.of.toNat → t + i - o < R) ∧ (partsW (frameW sh R o) A t p).1.headD zeroF = (frameW sh R o t).1 := by
  unfold partsW at h ⊢
  split
  · rename_i hc; rw [if_pos hc] at h; exact absurd rfl h
  · rename_i hc
    rw [if_neg hc] at h
    split
    · rename_i hd; rw [if_pos hd] at h; exact absurd rfl h
    · rename_i hd
      rw [if_neg hd] at h
      have h1 : 1 ≤ (frameW sh R o t).1.of := by
        unfold headBad at hd
        omega
      obtain ⟨a, b, c⟩ := scan_some sh R o _ h1 _ _ _ h (by simp)
      obtain ⟨_, _, _, hr⟩ := frame_may sh R o t h1
      have e : (frameW sh R o t).1.of.toNat = ((frameW sh R o t).1.of.toNat - 1) + 1 := by omega
      refine ⟨?_, b, hd, fun i hi => ?_, ?_⟩
      · rw [a]
        generalize (frameW sh R o t).1.of.toNat - 1 = k at *
        rw [e, List.range_succ_eq_map, List.map_cons, List.map_map]
        have : (fun i => (frameW sh R o (t + 1 + i)).1) = ((fun i => (frameW sh R o (t + i)).1) ∘ Nat.succ) := by
          funext i; simp only [Function.comp, Nat.succ_eq_add_one]; rw [show t + 1 + i = t + (i + 1) by omega]
        rw [this]
        rfl
      · cases i with
        | zero => exact hr
        | succ i => have := c i (by omega); omega
      · rw [a]; rfl
theorem parts_len (sh : Nat → List UInt8) (R o A t p : Nat) (h : (partsW (frameW sh R o) A t p).1 ≠ []) (ht : o ≤ t) :
    1 ≤ (partsW (frameW sh R o) A t p).1.length ∧ (partsW (frameW sh R o) A t p).1.length ≤ 32 ∧ t + (partsW (frameW sh R o) A t p).1.length ≤ o + R ∧ ((partsW (frameW sh R o) A t p).1.headD zeroF).age < A := by
  obtain ⟨a, b, c, d, e⟩ := parts_some sh R o A t p h
  have h1 : 1 ≤ (frameW sh R o t).1.of ∧ (frameW sh R o t).1.age < A := by unfold headBad at c; omega
  obtain ⟨m, _⟩ := frame_may sh R o t h1.1
  obtain ⟨_, m2, _⟩ := (may_iff _).1 m
  have hl : (partsW (frameW sh R o) A t p).1.length = (frameW sh R o t).1.of.toNat := by rw [a]; simp
  have := d ((frameW sh R o t).1.of.toNat - 1) (by omega)
  rw [hl, e]
  omega
theorem parts_err (sh : Nat → List UInt8) (R o A t p : Nat) : (partsW (frameW sh R o) A t p).2 = 0 ∨ ((partsW (frameW sh R o) A t p).2 = 5 ∧ (partsW (frameW sh R o) A t p).1 = []) := by
  by_cases h : (partsW (frameW sh R o) A t p).1 = []
  · have key : ∀ (h : Fr) (k t : Nat) (acc : List Fr), (scanW (frameW sh R o) h k t acc).2 = 0 ∨ (scanW (frameW sh R o) h k t acc).2 = 5 := by
      intro h k
      induction k with
      | zero => intro t acc; exact Or.inl rfl
      | succ k ih =>
        intro t acc
        unfold scanW
        split
        · exact frame_err sh R o t
        · split
          · exact Or.inl rfl
          · exact ih _ _
    rcases (show (partsW (frameW sh R o) A t p).2 = 0 ∨ (partsW (frameW sh R o) A t p).2 = 5 by
      unfold partsW
      split
      · exact frame_err sh R o t
      · split
        · exact Or.inl rfl
        · exact key _ _ _ _) with h2 | h2
    · exact Or.inl h2
    · exact Or.inr ⟨h2, h⟩
  · exact Or.inl (parts_some sh R o A t p h).2.1
end Go.Proofs.Ytpkpjmebkikgdaa

/- The statement's own reading of a record, sector by sector, and what an opening reads. Nothing here speaks of the program. -/
namespace Go.Proofs.Ytpkpjmebkikgdaa
open Go.RowKit

section
variable (fr : Nat → Fr × Int) (A t p : Nat)
/-- What is so when k sectors were taken. -/
def WhI (k : Nat) (acc : List Fr) : Prop :=
  (k = 0 ∧ acc = []) ∨ (1 ≤ k ∧ (fr t).2 = 0 ∧ ¬ headBad (fr t).1 t p A ∧ acc.headD zeroF = (fr t).1 ∧ acc.length = k ∧ k ≤ (fr t).1.of.toNat ∧ partsW fr A t p = scanW fr (fr t).1 ((fr t).1.of.toNat - k) (t + k) acc)
variable {fr A t p}
theorem WhI.len {k : Nat} {acc : List Fr} (h : WhI fr A t p k acc) : acc.length = k := by
  rcases h with ⟨rfl, rfl⟩ | ⟨_, _, _, _, h, _⟩
  · rfl
  · exact h
/-- It is still to be gone on. -/
def WhM (fr : Nat → Fr × Int) (t k : Nat) : Prop := k = 0 ∨ k < (fr t).1.of.toNat
instance (fr : Nat → Fr × Int) (t k : Nat) : Decidable (WhM fr t k) := inferInstanceAs (Decidable (_ ∨ _))
theorem WhI.bad {k : Nat} {acc : List Fr} (h : WhI fr A t p k acc) (hm : WhM fr t k) (he : (fr (t + k)).2 ≠ 0) : partsW fr A t p = ([], (fr (t + k)).2) := by
  rcases h with ⟨rfl, rfl⟩ | ⟨h1, _, _, _, _, _, h2⟩
  · rw [Nat.add_zero] at he ⊢
    unfold partsW
    rw [if_pos he]
  · rw [h2]
    have hk : k < (fr t).1.of.toNat := by rcases hm with e | e; omega; exact e
    obtain ⟨d, hd⟩ : ∃ d, (fr t).1.of.toNat - k = d + 1 := ⟨(fr t).1.of.toNat - k - 1, by omega⟩
    rw [hd, scanW, if_pos he]
theorem WhI.none {k : Nat} {acc : List Fr} (h : WhI fr A t p k acc) (hm : WhM fr t k) (he : (fr (t + k)).2 = 0) (hb : (fr (t + k)).1.of < 1 ∨ (fr (t + k)).1.first ≠ t ∨ A ≤ (fr (t + k)).1.age ∨ (fr (t + k)).1.age < p ∨ (0 < k ∧ ((fr (t + k)).1.of ≠ (fr t).1.of ∨ (fr (t + k)).1.age ≠ (fr t).1.age))) : partsW fr A t p = ([], 0) := by
  rcases h with ⟨rfl, rfl⟩ | ⟨h1, h3, h4, _, _, _, h2⟩
  · rw [Nat.add_zero] at he hb
    unfold partsW
    rw [if_neg (by rw [he]; simp), if_pos]
    unfold headBad
    omega
  · rw [h2]
    have hk : k < (fr t).1.of.toNat := by rcases hm with e | e; omega; exact e
    obtain ⟨d, hd⟩ : ∃ d, (fr t).1.of.toNat - k = d + 1 := ⟨(fr t).1.of.toNat - k - 1, by omega⟩
    rw [hd, scanW, if_neg (by rw [he]; simp), if_pos]
    unfold headBad at h4
    by_cases a1 : (fr (t + k)).1.age = (fr t).1.age
    · by_cases a2 : (fr (t + k)).1.of = (fr t).1.of
      · omega
      · exact Or.inr (Or.inr a2)
    · exact Or.inr (Or.inl a1)
theorem WhI.more {k : Nat} {acc : List Fr} (h : WhI fr A t p k acc) (hm : WhM fr t k) (he : (fr (t + k)).2 = 0) (hb : ¬ ((fr (t + k)).1.of < 1 ∨ (fr (t + k)).1.first ≠ t ∨ A ≤ (fr (t + k)).1.age ∨ (fr (t + k)).1.age < p ∨ (0 < k ∧ ((fr (t + k)).1.of ≠ (fr t).1.of ∨ (fr (t + k)).1.age ≠ (fr t).1.age)))) : WhI fr A t p (k + 1) (acc ++ [(fr (t + k)).1]) := by
  right
  rcases h with ⟨rfl, rfl⟩ | ⟨h1, h3, h4, h5, h6, h7, h2⟩
  · rw [Nat.add_zero] at he hb ⊢
    have hh : ¬ headBad (fr t).1 t p A := by unfold headBad; omega
    refine ⟨Nat.le_refl _, he, hh, rfl, rfl, by omega, ?_⟩
    unfold partsW
    rw [if_neg (by rw [he]; simp), if_neg hh]
    rfl
  · have hk : k < (fr t).1.of.toNat := by rcases hm with e | e; omega; exact e
    obtain ⟨d, hd⟩ : ∃ d, (fr t).1.of.toNat - k = d + 1 := ⟨(fr t).1.of.toNat - k - 1, by omega⟩
    refine ⟨by omega, h3, h4, ?_, by simp [h6], by omega, ?_⟩
    · cases acc with
      | nil => simp at h6; omega
      | cons x l => exact h5
    · rw [h2, hd, scanW, if_neg (by rw [he]; simp), if_neg, show (fr t).1.of.toNat - (k + 1) = d by omega, show t + k + 1 = t + (k + 1) by omega]
      unfold headBad at h4
      omega
theorem WhI.whole {k : Nat} {acc : List Fr} (h : WhI fr A t p k acc) (hm : ¬ WhM fr t k) : partsW fr A t p = (acc, 0) ∧ 1 ≤ k ∧ acc.headD zeroF = (fr t).1 := by
  rcases h with ⟨rfl, rfl⟩ | ⟨h1, h3, h4, h5, h6, h7, h2⟩
  · exact absurd (Or.inl rfl) hm
  · have hk : ¬ k < (fr t).1.of.toNat := fun e => hm (Or.inr e)
    have hd : (fr t).1.of.toNat - k = 0 := by omega
    rw [h2, hd, scanW]
    exact ⟨rfl, h1, h5⟩
end
theorem open_len (b : List UInt8) : (openR b).2.2.1.length ≤ 496 := by
  unfold openR
  repeat' split
  all_goals simp
  omega
theorem open_turn (b : List UInt8) : (openR b).2.1 < 18446744073709551616 := by
  unfold openR
  repeat' split
  all_goals first | (simp; done) | (have := num_lt ((b.drop 4).take 8); have h2 : ((b.drop 4).take 8).length ≤ 8 := by simp; omega
                                    exact Nat.lt_of_lt_of_le this (Nat.pow_le_pow_right (n := 256) (by omega) h2))
theorem mod30 (n : Nat) : (n : Int).tmod 30 = ((n % 30 : Nat) : Int) ∧ n % 30 < 30 ∧ wrap64 ((n % 30 : Nat) : Int) = ((n % 30 : Nat) : Int) ∧ ((n % 30 : Nat) : Int) < 30 ∧ (0 : Int) ≤ ((n % 30 : Nat) : Int) := by
  have h : n % 30 < 30 := Nat.mod_lt _ (by decide)
  refine ⟨?_, h, ?_, by omega, by omega⟩
  · rw [Int.tmod_eq_emod_of_nonneg (by omega)]; omega
  · simp only [wrap64]; omega
/-- A frame of a sector, step by step. -/
theorem bears_bad {b : List UInt8} {t : Nat} (h : (openR b).2.2.2 ≠ 0) : bearsW b t = (zeroF, 5) := by unfold bearsW; rw [if_pos h]
theorem bears_none {b : List UInt8} {t : Nat} (h : (openR b).2.2.2 = 0) (h2 : (openR b).1 ≠ 77 ∨ (openR b).2.1 ≠ t ∨ (readF (openR b).2.2.1).2 ≠ 0) : bearsW b t = (zeroF, 0) := by
  unfold bearsW
  rw [if_neg (by rw [h]; simp)]
  by_cases h3 : (openR b).1 ≠ 77 ∨ (openR b).2.1 ≠ t
  · rw [if_pos h3]
  · rw [if_neg h3, if_pos]
    rcases h2 with h2 | h2 | h2
    · exact absurd (Or.inl h2) h3
    · exact absurd (Or.inr h2) h3
    · exact h2
theorem bears_frame {b : List UInt8} {t : Nat} (h : (openR b).2.2.2 = 0) (h2 : ¬ ((openR b).1 ≠ 77 ∨ (openR b).2.1 ≠ t ∨ (readF (openR b).2.2.1).2 ≠ 0)) : bearsW b t = ((readF (openR b).2.2.1).1, 0) := by
  unfold bearsW
  rw [if_neg (by rw [h]; simp), if_neg (fun h3 => h2 (h3.elim Or.inl (fun h4 => Or.inr (Or.inl h4)))), if_neg (fun h3 => h2 (Or.inr (Or.inr h3)))]
/-- What the statement's own function tells of the record that begins at a turn. -/
def whN (W : List Fr × Int) : Nat := if W.2 ≠ 0 then 0 else if joinE W.1 ≠ 0 then 0 else W.1.length
def whA (W : List Fr × Int) : Nat := if W.2 ≠ 0 then 0 else if joinE W.1 ≠ 0 then 0 else (W.1.headD zeroF).age
def whB (W : List Fr × Int) : List UInt8 := if W.2 ≠ 0 then [] else if joinE W.1 ≠ 0 then [] else joinB W.1
end Go.Proofs.Ytpkpjmebkikgdaa

/- One turned bit of a byte, and of a row of bytes in memory; nothing here speaks of the program. -/
namespace Go.Proofs.Ytpkpjmebkikgdaa
open Go.RowKit

theorem shift8 : ∀ r : Nat, r < 8 → (2 ^ r % 256 : Nat) = (UInt8.ofNat (2 ^ r)).toNat := by decide
theorem turn_bit (u : UInt8) (r : Nat) (hr : r < 8) : bits .xor .u8 (u.toNat : Int) ((2 : Int) ^ r % 256) = ((u ^^^ UInt8.ofNat (2 ^ r)).toNat : Int) := by
  have hu := u.toNat_lt
  have e : (2 : Int) ^ r % 256 = ((2 ^ r % 256 : Nat) : Int) := by rw [Int.natCast_emod, Int.natCast_pow]; rfl
  rw [e, u8_xor_nat _ _ (by omega) (by omega), UInt8.toNat_xor, ← shift8 r hr]
theorem set_cells {cur : Array Value} {l : List UInt8} {n q : Nat} {u : UInt8} (h : cur.toList.take n = l.map B) (_hq : q < n) : (cur.setIfInBounds q (B u)).toList.take n = (l.set q u).map B := by
  rw [Array.toList_setIfInBounds, List.take_set, h, List.map_set]
end Go.Proofs.Ytpkpjmebkikgdaa
