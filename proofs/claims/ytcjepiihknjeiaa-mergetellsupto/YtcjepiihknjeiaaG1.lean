/- Texts of ours, one behind the other: Plain, VarPlain, RvPlain, TextPlain, OnePlain. -/
import Derived.WalkKit
import Derived.Laws.BitsAllLaws
import Derived.Laws.CopyOwn
/- The plain half of the proofs about package word: numbers as bytes, rows of bytes in memory; nothing here speaks of the program. -/
namespace Go.Proofs.Ytcjepiihknjeiaa
open Go.RowKit

theorem ret_true {b : Bool} (h : b = true) : Ending.returned (.bool b) = .returned (.bool true) := by rw [h]
theorem hide {p : Prop} (h : p) : Hid p := h
theorem unhide {p : Prop} (h : Hid p) : p := h

/-- A byte as a value. -/
def B (u : UInt8) : Value := .int .u8 (u.toNat : Int)

/-- The bytes of a number as bytes, with fuel: seven bits a byte, the lowest first. -/
def varF : Nat → Nat → List UInt8
  | 0, v => [UInt8.ofNat v]
  | f + 1, v => if v < 128 then [UInt8.ofNat v] else UInt8.ofNat (v % 128 + 128) :: varF f (v / 128)

theorem or128 : ∀ n : Nat, n < 256 → n ||| 128 = n % 128 + 128 := by decide +kernel
theorem bits_or128 (x : Nat) : bits .or .u8 ((x : Int) % 256) 128 = ((UInt8.ofNat (x % 128 + 128)).toNat : Int) := by
  have h : ((x : Int) % 256) = ((x % 256 : Nat) : Int) := by omega
  rw [h, show (128 : Int) = ((128 : Nat) : Int) from rfl, u8_or_nat _ _ (by omega) (by omega), or128 _ (by omega)]
  congr 1
  simp
  omega
theorem B_or128 (x : Nat) : B (UInt8.ofNat (x % 128 + 128)) = .int .u8 (bits .or .u8 ((x : Int) % 256) 128) := by unfold B; rw [bits_or128]
theorem varF_stop (f x : Nat) (h : x < 128) : varF f x = [UInt8.ofNat x] := by cases f <;> simp [varF, h]
theorem varF_go (f x : Nat) (h : 128 ≤ x) : varF (f + 1) x = UInt8.ofNat (x % 128 + 128) :: varF f (x / 128) := by
  rw [varF, if_neg (by omega)]
theorem pow_step (f x : Nat) (h : x < 128 ^ (f + 1 + 1)) : x / 128 < 128 ^ (f + 1) := by
  rw [Nat.div_lt_iff_lt_mul (by omega)]
  rw [Nat.pow_succ 128 (f + 1)] at h
  exact h

/-- v in n bytes, the lowest first. -/
def le (n v : Nat) : List UInt8 := (List.range n).map fun i => UInt8.ofNat (v / 256 ^ i)
theorem length_le (n v : Nat) : (le n v).length = n := by simp [le]
theorem le_succ (n v : Nat) : le (n + 1) v = le n v ++ [UInt8.ofNat (v / 256 ^ n)] := by simp [le, List.range_succ]

theorem le_add (a b v : Nat) : le (a + b) v = le a v ++ le b (v / 256 ^ a) := by
  induction b with
  | zero => simp [le]
  | succ b ih => rw [← Nat.add_assoc, le_succ, ih, le_succ, List.append_assoc, Nat.div_div_eq_div_mul, Nat.pow_add]

/-- The number that bytes are, the lowest first. -/
def num : List UInt8 → Nat
  | [] => 0
  | b :: r => b.toNat + 256 * num r
theorem num_append (a b : List UInt8) : num (a ++ b) = num a + 256 ^ a.length * num b := by
  induction a with
  | nil => simp [num]
  | cons x r ih => simp only [List.cons_append, num, ih, List.length_cons, Nat.pow_succ]; rw [Nat.mul_add, Nat.mul_comm (256 ^ r.length) 256, Nat.mul_assoc]; omega
theorem num_lt (a : List UInt8) : num a < 256 ^ a.length := by
  induction a with
  | nil => simp [num]
  | cons x r ih => have := x.toNat_lt; simp only [num, List.length_cons, Nat.pow_succ]; omega
theorem num_le (n v : Nat) : num (le n v) = v % 256 ^ n := by
  induction n with
  | zero => simp [le, num, Nat.mod_one]
  | succ n ih =>
    rw [le_succ, num_append, ih, length_le]
    simp only [num, Nat.mul_zero, Nat.add_zero]
    rw [Nat.pow_succ, Nat.mod_mul]
    simp

theorem le_num (bs : List UInt8) : le bs.length (num bs) = bs := by
  induction bs with
  | nil => rfl
  | cons x r ih =>
    have hx := x.toNat_lt
    rw [List.length_cons, Nat.add_comm, le_add, num, Nat.pow_one]
    have e1 : (x.toNat + 256 * num r) / 256 = num r := by omega
    rw [e1, ih]
    have e2 : le 1 (x.toNat + 256 * num r) = [x] := by
      simp [le, List.range_succ]
    rw [e2]
    rfl

theorem pow_cast (i : Nat) : (2 : Int) ^ (8 * i) = ((256 ^ i : Nat) : Int) := by
  rw [Int.pow_mul]; norm_cast
theorem put_byte (v i : Nat) : (v : Int) / 2 ^ (8 * i) % 256 = ((UInt8.ofNat (v / 256 ^ i)).toNat : Int) := by
  rw [pow_cast]
  simp
theorem room_div (v n : Nat) : ((v : Int) / 2 ^ (8 * n) == 0) = decide (v < 256 ^ n) := by
  rw [pow_cast, Bool.eq_iff_iff]
  simp only [beq_iff_eq, decide_eq_true_eq]
  have h : (v : Int) / ((256 ^ n : Nat) : Int) = ((v / 256 ^ n : Nat) : Int) := by simp
  rw [h]
  have := Nat.div_eq_zero_iff (a := v) (b := 256 ^ n)
  have hp : 0 < 256 ^ n := Nat.pow_pos (by omega)
  omega
theorem pow_le8 (i : Nat) (h : i < 8) : 256 ^ i * 256 ≤ 18446744073709551616 := by
  have : 256 ^ (i + 1) ≤ 256 ^ 8 := Nat.pow_le_pow_right (by omega) (by omega)
  rw [Nat.pow_succ] at this
  exact this
theorem get_bits (x i : Nat) (c : UInt8) (hi : i < 8) (hx : x < 256 ^ i) :
    bits .or .u64 (x : Int) (IntKind.u64.wrap ((c.toNat : Int) * 2 ^ (8 * i))) = ((x + c.toNat * 256 ^ i : Nat) : Int) := by
  have hc := c.toNat_lt
  have h8 := pow_le8 i hi
  have hm : c.toNat * 256 ^ i ≤ 255 * 256 ^ i := Nat.mul_le_mul_right _ (by omega)
  have e : (c.toNat : Int) * 2 ^ (8 * i) = ((c.toNat * 256 ^ i : Nat) : Int) := by rw [pow_cast]; norm_cast
  rw [e, IntKind.wrap_u64, Int.emod_eq_of_lt (by omega) (by omega), u64_or_nat _ _ (by omega) (by omega)]
  congr 1
  have h2 : 256 ^ i = 2 ^ (8 * i) := by rw [Nat.pow_mul]
  rw [h2] at hx ⊢
  rw [Nat.or_comm, Nat.mul_comm, ← Nat.two_pow_add_eq_or_of_lt hx]
  omega

/-- A slice value that reads as these bytes in this world: whatever its address where there are none. -/
def Row (w : World) (s : Value) (bs : List UInt8) : Prop :=
  ∃ (a : Option Addr) (cap : Nat), s = .slice a bs.length cap ∧ bs.length ≤ cap ∧ cap ≤ maxLen ∧ (a = none → cap = 0) ∧
    (bs = [] ∨ ∃ b off, a = some ⟨b, off, none⟩ ∧ ∀ j (h : j < bs.length), w.cell? ⟨b, off + j, none⟩ = some (B bs[j]))

theorem Row.below {w w' : World} {s : Value} {bs : List UInt8} (h : Row w s bs) (hb : Below w.heap.size w w') : Row w' s bs := by
  obtain ⟨a, cap, hs, h1, h2, h3, h4⟩ := h
  refine ⟨a, cap, hs, h1, h2, h3, ?_⟩
  rcases h4 with h4 | ⟨b, off, ha, hc⟩
  · exact Or.inl h4
  · exact Or.inr ⟨b, off, ha, fun j hj => (hb.cell (World.block_lt_of_cell? w _ (hc j hj))).trans (hc j hj)⟩

theorem Row.nil (w : World) : Row w (.slice none 0 0) [] := ⟨none, 0, rfl, Nat.le_refl _, by unfold maxLen; omega, fun _ => rfl, Or.inl rfl⟩

theorem row_of_owns {w : World} {base e : Nat} {s : Value} {bs : List UInt8} (h : w.ownsRow base e 1 s bs.length (bs.map B)) : Row w s bs := by
  have h0 := h
  rcases h.2 with ⟨rfl, h2⟩ | ⟨g, cap, cur, rfl, hg, hh, hnc, hcp, hcs, htake⟩
  · obtain rfl : bs = [] := List.length_eq_zero_iff.1 h2
    exact Row.nil w
  · refine ⟨_, cap, rfl, hnc, hcp, (by simp), Or.inr ⟨g, 0, rfl, fun j hj => ?_⟩⟩
    rw [Nat.zero_add, h0.cellAt j (by omega)]
    simp [hj]

theorem Row.shape {w : World} {s : Value} {bs : List UInt8} (h : Row w s bs) : ∃ (p : Option Addr) (c l : Nat), s = .slice p l c ∧ bs.length = l := by
  obtain ⟨a, cap, hs, _⟩ := h
  exact ⟨a, cap, bs.length, hs, rfl⟩

theorem Row.open {w : World} {s : Value} {bs : List UInt8} (h : Row w s bs) (hne : bs ≠ []) :
    ∃ b off cap, s = .slice (some ⟨b, off, none⟩) bs.length cap ∧ bs.length ≤ cap ∧ cap ≤ maxLen ∧ ∀ j (h : j < bs.length), w.cell? ⟨b, off + j, none⟩ = some (B bs[j]) := by
  obtain ⟨a, cap, hs, h1, h2, h3, h4⟩ := h
  rcases h4 with h4 | ⟨b, off, ha, hc⟩
  · exact absurd h4 hne
  · subst ha
    exact ⟨b, off, cap, hs, h1, h2, hc⟩

theorem Row.cut {w : World} {bs : List UInt8} {b off : Nat} (hc : ∀ j (h : j < bs.length), w.cell? ⟨b, off + j, none⟩ = some (B bs[j])) (q m cap : Nat) (hq : q + m ≤ bs.length) (hm : m ≤ cap) (hcap : cap ≤ maxLen) :
    Row w (.slice (some ⟨b, off + q, none⟩) m cap) ((bs.drop q).take m) := by
  have hl : ((bs.drop q).take m).length = m := by simp; omega
  refine ⟨some ⟨b, off + q, none⟩, cap, by rw [hl], by rw [hl]; exact hm, hcap, by simp, Or.inr ⟨b, off + q, rfl, fun j hj => ?_⟩⟩
  rw [Nat.add_assoc, hc (q + j) (by omega)]
  simp

/-- A block that is known whole: bytes of the call's own. -/
theorem row_of_block {w : World} {g e : Nat} {bs : List UInt8} (h : w.heap[g]? = some (.cells (bs.map B).toArray e (0, 0))) (o n cap : Nat) (ho : o + n ≤ bs.length) (hn : n ≤ cap) (hc : cap ≤ maxLen) :
    Row w (.slice (some ⟨g, o, none⟩) n cap) ((bs.drop o).take n) := by
  have hl : ((bs.drop o).take n).length = n := by simp; omega
  refine ⟨some ⟨g, o, none⟩, cap, by rw [hl], by rw [hl]; exact hn, hc, by simp, Or.inr ⟨g, o, rfl, fun j hj => ?_⟩⟩
  rw [cell_of_row w g (o + j) _ e (0, 0) h]
  have hj' : o + j < bs.length := by rw [hl] at hj; omega
  simp [hj']
end Go.Proofs.Ytcjepiihknjeiaa

/- Plain facts on a number as bytes (seven bits a byte): its length, and that no two numbers have the same bytes. -/
namespace Go.Proofs.Ytcjepiihknjeiaa

theorem varF_len (f v : Nat) : 1 ≤ (varF f v).length ∧ (varF f v).length ≤ f + 1 := by
  induction f generalizing v with
  | zero => simp [varF]
  | succ f ih =>
    by_cases h : v < 128
    · rw [varF_stop _ _ h]; simp
    · rw [varF_go _ _ (by omega)]; have := ih (v / 128); simp only [List.length_cons]; omega

theorem varF_mono (f a b : Nat) (h : a ≤ b) : (varF f a).length ≤ (varF f b).length := by
  induction f generalizing a b with
  | zero => simp [varF]
  | succ f ih =>
    by_cases ha : a < 128
    · rw [varF_stop _ _ ha]; exact (varF_len (f + 1) b).1
    · rw [varF_go _ _ (by omega), varF_go _ _ (by omega)]
      have := ih (a / 128) (b / 128) (Nat.div_le_div_right h)
      simp only [List.length_cons]; omega

theorem ofNat_inj {a b : Nat} (ha : a < 256) (hb : b < 256) (h : UInt8.ofNat a = UInt8.ofNat b) : a = b := by
  have := congrArg UInt8.toNat h
  simp at this
  omega

theorem varF_inj (f a b : Nat) (ha : a < 128 ^ (f + 1)) (hb : b < 128 ^ (f + 1)) (h : varF f a = varF f b) : a = b := by
  induction f generalizing a b with
  | zero =>
    simp [varF] at h ha hb
    exact ofNat_inj (by omega) (by omega) h
  | succ f ih =>
    by_cases h1 : a < 128
    · by_cases h2 : b < 128
      · rw [varF_stop _ _ h1, varF_stop _ _ h2] at h
        exact ofNat_inj (by omega) (by omega) (List.cons.inj h).1
      · rw [varF_stop _ _ h1, varF_go _ _ (by omega)] at h
        have := ofNat_inj (by omega) (by omega) (List.cons.inj h).1
        omega
    · by_cases h2 : b < 128
      · rw [varF_go _ _ (by omega), varF_stop _ _ h2] at h
        have := ofNat_inj (by omega) (by omega) (List.cons.inj h).1
        omega
      · rw [varF_go _ _ (by omega), varF_go _ _ (by omega)] at h
        have e1 := ofNat_inj (by omega) (by omega) (List.cons.inj h).1
        have e2 := ih (a / 128) (b / 128) (pow_step f a ha) (pow_step f b hb) (List.cons.inj h).2
        omega

theorem varF_beq (a b : Nat) (ha : a < 18446744073709551616) (hb : b < 18446744073709551616) : (varF 9 a == varF 9 b) = decide (a = b) := by
  rw [Bool.eq_iff_iff]
  simp only [beq_iff_eq, decide_eq_true_eq]
  exact ⟨fun h => varF_inj 9 a b (by omega) (by omega) h, fun h => by rw [h]⟩
theorem eq_dec (a b : Nat) : (((a : Int) == (b : Int)) == decide (a = b)) = true := by
  have : ((a : Int) == (b : Int)) = decide (a = b) := by
    rw [Bool.eq_iff_iff]
    simp only [beq_iff_eq, decide_eq_true_eq]
    omega
  rw [this]
  simp
end Go.Proofs.Ytcjepiihknjeiaa

/- Plain facts on reading a number as bytes. -/
namespace Go.Proofs.Ytcjepiihknjeiaa
open Go.RowKit

/-- May c not stand at place i of a number as bytes? -/
def badB (i c : Nat) : Bool := decide ((i = 9 ∧ 1 < c) ∨ (0 < i ∧ c = 0))

/-- What bytes are as a number, from place i on, v being what the bytes ahead bear: the error, the number, how many bytes it has. -/
def rvF : Nat → Nat → List UInt8 → Nat × Nat × Nat
  | _, _, [] => (10, 0, 0)
  | i, v, c :: r => if badB i c.toNat then (11, 0, 0) else if 128 ≤ c.toNat then rvF (i + 1) (v + c.toNat % 128 * 128 ^ i) r else (0, v + c.toNat % 128 * 128 ^ i, i + 1)

theorem rvF_bad (i v : Nat) (c : UInt8) (r : List UInt8) (h : badB i c.toNat = true) : rvF i v (c :: r) = (11, 0, 0) := by rw [rvF, if_pos h]
theorem rvF_more (i v : Nat) (c : UInt8) (r : List UInt8) (h : badB i c.toNat = false) (hc : 128 ≤ c.toNat) : rvF i v (c :: r) = rvF (i + 1) (v + c.toNat % 128 * 128 ^ i) r := by rw [rvF, if_neg (by simp [h]), if_pos hc]
theorem rvF_last (i v : Nat) (c : UInt8) (r : List UInt8) (h : badB i c.toNat = false) (hc : c.toNat < 128) : rvF i v (c :: r) = (0, v + c.toNat % 128 * 128 ^ i, i + 1) := by rw [rvF, if_neg (by simp [h]), if_neg (by omega)]

theorem bad_of_nine (i c : Nat) (h : badB i c = false) (hc : 128 ≤ c) : i ≠ 9 := by
  unfold badB at h
  simp at h
  omega

theorem pow128 (i : Nat) : (2 : Int) ^ (7 * i) = ((128 ^ i : Nat) : Int) := by
  rw [Int.pow_mul]; norm_cast
theorem and127 : ∀ n : Nat, n < 256 → n &&& 127 = n % 128 := by decide +kernel
theorem and128 : ∀ n : Nat, n < 256 → n &&& 128 = if 128 ≤ n then 128 else 0 := by decide +kernel
theorem bits_and127 (c : UInt8) : bits .and .u8 (c.toNat : Int) 127 = ((c.toNat % 128 : Nat) : Int) := by
  have hc := c.toNat_lt
  rw [show (127 : Int) = ((127 : Nat) : Int) from rfl, u8_and_nat _ _ (by omega) (by omega), and127 _ (by omega)]
theorem bits_and128 (c : UInt8) : bits .and .u8 (c.toNat : Int) 128 = (((if 128 ≤ c.toNat then 128 else 0) : Nat) : Int) := by
  have hc := c.toNat_lt
  rw [show (128 : Int) = ((128 : Nat) : Int) from rfl, u8_and_nat _ _ (by omega) (by omega), and128 _ (by omega)]
theorem pow_next (i v : Nat) (c : UInt8) (hv : v < 128 ^ i) : v + c.toNat % 128 * 128 ^ i < 128 ^ (i + 1) := by
  have h1 : c.toNat % 128 * 128 ^ i ≤ 127 * 128 ^ i := Nat.mul_le_mul_right _ (by omega)
  rw [Nat.pow_succ]
  omega
/-- A number that may stand, with its place i's byte: it is below 2^64. -/
theorem rv_lt (i v : Nat) (c : UInt8) (hi : i ≤ 9) (hv : v < 128 ^ i) (hb : badB i c.toNat = false) : v + c.toNat % 128 * 128 ^ i < 18446744073709551616 := by
  by_cases h9 : i = 9
  · subst h9
    have : c.toNat ≤ 1 := by unfold badB at hb; simp at hb; omega
    have h2 : c.toNat % 128 * 128 ^ 9 ≤ 1 * 128 ^ 9 := Nat.mul_le_mul_right _ (by omega)
    omega
  · have h1 := pow_next i v c hv
    have h2 : 128 ^ (i + 1) ≤ 128 ^ 9 := Nat.pow_le_pow_right (by omega) (by omega)
    omega
theorem rv_bits (i v : Nat) (c : UInt8) (hi : i ≤ 9) (hv : v < 128 ^ i) (hb : badB i c.toNat = false) :
    bits .or .u64 (v : Int) (IntKind.u64.wrap ((c.toNat : Int) % 128 * 2 ^ (7 * i))) = ((v + c.toNat % 128 * 128 ^ i : Nat) : Int) := by
  have hlt := rv_lt i v c hi hv hb
  have e : (c.toNat : Int) % 128 * 2 ^ (7 * i) = ((c.toNat % 128 * 128 ^ i : Nat) : Int) := by rw [pow128]; norm_cast
  rw [e, IntKind.wrap_u64, Int.emod_eq_of_lt (by omega) (by omega), u64_or_nat _ _ (by omega) (by omega)]
  congr 1
  have h2 : 128 ^ i = 2 ^ (7 * i) := by rw [Nat.pow_mul]
  rw [h2] at hv ⊢
  rw [Nat.or_comm, Nat.mul_comm, ← Nat.two_pow_add_eq_or_of_lt hv]
  omega

theorem rv_bits9 (v : Nat) (c : UInt8) (hv : v < 128 ^ 9) (hb : badB 9 c.toNat = false) :
    bits .or .u64 (v : Int) ((c.toNat : Int) % 128 * 9223372036854775808) = ((v + c.toNat % 128 * 128 ^ 9 : Nat) : Int) := by
  have h := rv_bits 9 v c (by omega) hv hb
  have hc : c.toNat ≤ 1 := by unfold badB at hb; simp at hb; omega
  rw [show (2 : Int) ^ (7 * 9) = 9223372036854775808 from rfl, IntKind.wrap_u64, Int.emod_eq_of_lt (by omega) (by omega)] at h
  exact h
theorem rv_bits0 (v : Nat) (c : UInt8) (hv : v < 128 ^ 0) (hb : badB 0 c.toNat = false) :
    bits .or .u64 (v : Int) ((c.toNat : Int) % 128) = ((v + c.toNat % 128 * 128 ^ 0 : Nat) : Int) := by
  have h := rv_bits 0 v c (by omega) hv hb
  rw [show (2 : Int) ^ (7 * 0) = 1 from rfl, Int.mul_one, IntKind.wrap_u64, Int.emod_eq_of_lt (by omega) (by omega)] at h
  exact h

theorem ret3 {a a' b b' : Int} (h1 : a = a') (h2 : b = b') : Ending.returned (.tuple #[.int .u64 a, .int .i64 b, .int .i64 0]) = .returned (.tuple #[.int .u64 a', .int .i64 b', .int .i64 ((0 : Nat) : Int)]) := by rw [h1, h2]; rfl

/-- What ReadVar answers as an error, the number, and the place behind it. -/
def readE (bs : List UInt8) (a : Int) : Int := if a < 0 then 1 else ((rvF 0 0 (bs.drop a.toNat)).1 : Nat)
def readV (bs : List UInt8) (a : Int) : Nat := if a < 0 then 0 else if (rvF 0 0 (bs.drop a.toNat)).1 = 0 then (rvF 0 0 (bs.drop a.toNat)).2.1 else 0
def readN (bs : List UInt8) (a : Int) : Int := if a < 0 then 0 else if (rvF 0 0 (bs.drop a.toNat)).1 = 0 then a + ((rvF 0 0 (bs.drop a.toNat)).2.2 : Nat) else 0
theorem read_of (bs : List UInt8) (a : Nat) (R : Nat × Nat × Nat) (hR : rvF 0 0 (bs.drop a) = R) :
    readE bs (a : Nat) = (R.1 : Nat) ∧ readV bs (a : Nat) = (if R.1 = 0 then R.2.1 else 0) ∧ readN bs (a : Nat) = if R.1 = 0 then ((a + R.2.2 : Nat) : Int) else 0 := by
  have h : ¬ ((a : Nat) : Int) < 0 := by omega
  refine ⟨?_, ?_, ?_⟩
  · unfold readE; rw [if_neg h, Int.toNat_natCast, hR]
  · unfold readV; rw [if_neg h, Int.toNat_natCast, hR]
  · unfold readN; rw [if_neg h, Int.toNat_natCast, hR]; split <;> omega
end Go.Proofs.Ytcjepiihknjeiaa

/- Plain facts on a text as bytes, and on reading one. -/
namespace Go.Proofs.Ytcjepiihknjeiaa
open Go.RowKit

theorem rv_ok (xs : List UInt8) (i v : Nat) (h : (rvF i v xs).1 = 0) : i < (rvF i v xs).2.2 ∧ (rvF i v xs).2.2 ≤ i + xs.length := by
  induction xs generalizing i v with
  | nil => simp [rvF] at h
  | cons c r ih =>
    cases hb : badB i c.toNat with
    | true => rw [rvF_bad _ _ _ _ hb] at h; cases h
    | false =>
      by_cases hc : 128 ≤ c.toNat
      · rw [rvF_more _ _ _ _ hb hc] at h ⊢
        have := ih _ _ h
        simp only [List.length_cons]
        omega
      · rw [rvF_last _ _ _ _ hb (by omega)]
        simp only [List.length_cons]
        omega
theorem rv_val (xs : List UInt8) (i v : Nat) (hi : i ≤ 9) (hv : v < 128 ^ i) (h : (rvF i v xs).1 = 0) : (rvF i v xs).2.1 < 18446744073709551616 := by
  induction xs generalizing i v with
  | nil => simp [rvF] at h
  | cons c r ih =>
    cases hb : badB i c.toNat with
    | true => rw [rvF_bad _ _ _ _ hb] at h; cases h
    | false =>
      by_cases hc : 128 ≤ c.toNat
      · rw [rvF_more _ _ _ _ hb hc] at h ⊢
        have h9 := bad_of_nine i _ hb hc
        exact ih _ _ (by omega) (pow_next i v c hv) h
      · rw [rvF_last _ _ _ _ hb (by omega)]
        exact rv_lt i v c hi hv hb

theorem rv_err (xs : List UInt8) (i v : Nat) : (rvF i v xs).1 = 0 ∨ (rvF i v xs).1 = 10 ∨ (rvF i v xs).1 = 11 := by
  induction xs generalizing i v with
  | nil => simp [rvF]
  | cons c r ih =>
    cases hb : badB i c.toNat with
    | true => rw [rvF_bad _ _ _ _ hb]; simp
    | false =>
      by_cases hc : 128 ≤ c.toNat
      · rw [rvF_more _ _ _ _ hb hc]; exact ih _ _
      · rw [rvF_last _ _ _ _ hb (by omega)]; simp
theorem readE_vals (bs : List UInt8) (a : Int) : readE bs a = 0 ∨ readE bs a = 1 ∨ readE bs a = 10 ∨ readE bs a = 11 := by
  unfold readE
  split
  · simp
  · rcases rv_err (bs.drop a.toNat) 0 0 with h | h | h <;> rw [h] <;> simp

/-- Where ReadVar's error is 0: the place behind the number lies within the bytes, and the number is below 2^64. -/
theorem read_ok (bs : List UInt8) (a : Int) (h : readE bs a = 0) : 0 ≤ a ∧ a < readN bs a ∧ readN bs a ≤ bs.length ∧ readV bs a < 18446744073709551616 := by
  by_cases h0 : a < 0
  · unfold readE at h; rw [if_pos h0] at h; cases h
  · obtain ⟨k, rfl⟩ := Int.eq_ofNat_of_zero_le (show 0 ≤ a by omega)
    obtain ⟨e1, e2, e3⟩ := read_of bs k _ rfl
    rw [h] at e1
    have hz : (rvF 0 0 (bs.drop k)).1 = 0 := by omega
    rw [if_pos hz] at e2 e3
    have h1 := rv_ok _ _ _ hz
    have h2 := rv_val _ 0 0 (by omega) (by simp) hz
    rw [e2, e3]
    simp only [List.length_drop] at h1
    exact ⟨by omega, by omega, by omega, h2⟩

/-- What ReadText answers: the error, the bytes, the place behind them. -/
def textE (bs : List UInt8) (a m : Int) : Int :=
  if readE bs a = 0 then (if max m 0 < (readV bs a : Nat) then 4 else if (bs.length : Int) - readN bs a < (readV bs a : Nat) then 10 else 0) else readE bs a
def textB (bs : List UInt8) (a m : Int) : List UInt8 := if textE bs a m = 0 then (bs.drop (readN bs a).toNat).take (readV bs a) else []
def textN (bs : List UInt8) (a m : Int) : Int := if textE bs a m = 0 then readN bs a + (readV bs a : Nat) else 0
end Go.Proofs.Ytcjepiihknjeiaa

/- Plain facts: a number's bytes have one form: what is read, written again, is the same bytes, and what is written is read. -/
namespace Go.Proofs.Ytcjepiihknjeiaa

theorem ofNat_toNat (c : UInt8) : UInt8.ofNat c.toNat = c := by simp

theorem rv_back (xs : List UInt8) (i v : Nat) (hi : i ≤ 9) (h : (rvF i v xs).1 = 0) :
    ∃ y, (rvF i v xs).2.1 = v + y * 128 ^ i ∧ (0 < i → 0 < y) ∧ varF (9 - i) y = xs.take ((rvF i v xs).2.2 - i) := by
  induction xs generalizing i v with
  | nil => simp [rvF] at h
  | cons c r ih =>
    have hc8 := c.toNat_lt
    cases hb : badB i c.toNat with
    | true => rw [rvF_bad _ _ _ _ hb] at h; cases h
    | false =>
      by_cases hc : 128 ≤ c.toNat
      · have h9 := bad_of_nine i _ hb hc
        rw [rvF_more _ _ _ _ hb hc] at h ⊢
        obtain ⟨y, h1, h2, h3⟩ := ih (i + 1) _ (by omega) h
        have hy := h2 (by omega)
        have hC := (rv_ok r (i + 1) _ h).1
        refine ⟨c.toNat % 128 + 128 * y, ?_, fun _ => by omega, ?_⟩
        · rw [h1, Nat.pow_succ, Nat.add_mul, Nat.add_assoc]
          congr 2
          rw [Nat.mul_comm (128 ^ i) 128, ← Nat.mul_assoc, Nat.mul_comm y 128]
        · rw [show 9 - i = (9 - (i + 1)) + 1 by omega, varF_go _ _ (by omega), show (c.toNat % 128 + 128 * y) / 128 = y by omega, h3,
            show (c.toNat % 128 + 128 * y) % 128 + 128 = c.toNat by omega, ofNat_toNat,
            show (rvF (i + 1) (v + c.toNat % 128 * 128 ^ i) r).2.2 - i = ((rvF (i + 1) (v + c.toNat % 128 * 128 ^ i) r).2.2 - (i + 1)) + 1 by omega, List.take_succ_cons]
      · rw [rvF_last _ _ _ _ hb (by omega)]
        refine ⟨c.toNat, by simp only [Nat.mod_eq_of_lt (show c.toNat < 128 by omega)], fun h0 => ?_, ?_⟩
        · unfold badB at hb; simp at hb; omega
        · rw [varF_stop _ _ (by omega), ofNat_toNat, show i + 1 - i = 1 by omega]; rfl

theorem rv_forth (f i a y : Nat) (rest : List UInt8) (hf : i + f = 9) (hy : 0 < i → 0 < y) (h64 : y * 128 ^ i < 18446744073709551616) :
    rvF i a (varF f y ++ rest) = (0, a + y * 128 ^ i, i + (varF f y).length) := by
  induction f generalizing i a y with
  | zero =>
    obtain rfl : i = 9 := by omega
    have hy1 : y ≤ 1 := by
      rcases Nat.lt_or_ge y 2 with h | h
      · omega
      · have : 2 * 128 ^ 9 ≤ y * 128 ^ 9 := Nat.mul_le_mul_right _ h
        omega
    have hy0 := hy (by omega)
    obtain rfl : y = 1 := by omega
    have e : varF 0 1 = [1] := rfl
    rw [e, List.singleton_append, rvF_last 9 a 1 rest (by decide) (by decide)]
    rfl
  | succ f ih =>
    by_cases h : y < 128
    · rw [varF_stop _ _ h, List.singleton_append]
      have hn : (UInt8.ofNat y).toNat = y := by simp; omega
      have hb : badB i (UInt8.ofNat y).toNat = false := by rw [hn]; unfold badB; simp; omega
      rw [rvF_last i a _ rest hb (by omega), hn, Nat.mod_eq_of_lt h]
      rfl
    · have hn : (UInt8.ofNat (y % 128 + 128)).toNat = y % 128 + 128 := by simp; omega
      have hb : badB i (UInt8.ofNat (y % 128 + 128)).toNat = false := by rw [hn]; unfold badB; simp; omega
      have hs : y / 128 * 128 ^ (i + 1) + y % 128 * 128 ^ i = y * 128 ^ i := by
        have hd : y = 128 * (y / 128) + y % 128 := by omega
        rw [Nat.pow_succ]
        conv => rhs; rw [hd, Nat.add_mul]
        rw [Nat.mul_comm (128 ^ i) 128, ← Nat.mul_assoc, Nat.mul_comm (y / 128) 128]
      rw [varF_go _ _ (by omega), List.cons_append, rvF_more i a _ _ hb (by omega), hn]
      rw [ih (i + 1) _ (y / 128) (by omega) (fun _ => by omega) (by omega)]
      simp only [List.length_cons, Nat.add_mod_right, Nat.mod_mod, Prod.mk.injEq, true_and]
      exact ⟨by omega, by omega⟩

theorem rv_written (v : Nat) (rest : List UInt8) (hv : v < 18446744073709551616) : rvF 0 0 (varF 9 v ++ rest) = (0, v, (varF 9 v).length) := by
  have h := rv_forth 9 0 0 v rest rfl (by omega) (by omega)
  simpa using h

/-- What is read, written again, is the same bytes. -/
theorem read_back (bs : List UInt8) (a : Int) (h : readE bs a = 0) : varF 9 (readV bs a) = (bs.drop a.toNat).take ((readN bs a).toNat - a.toNat) := by
  obtain ⟨h0, _, _, _⟩ := read_ok bs a h
  obtain ⟨k, rfl⟩ := Int.eq_ofNat_of_zero_le h0
  obtain ⟨e1, e2, e3⟩ := read_of bs k _ rfl
  rw [h] at e1
  have hz : (rvF 0 0 (bs.drop k)).1 = 0 := by omega
  rw [if_pos hz] at e2 e3
  obtain ⟨y, h1, _, h3⟩ := rv_back (bs.drop k) 0 0 (by omega) hz
  have hy : y = (rvF 0 0 (bs.drop k)).2.1 := by rw [h1]; simp
  rw [e2, e3, Int.toNat_natCast, Int.toNat_natCast, Nat.add_sub_cancel_left, ← hy]
  exact h3

/-- What is written is read where it was written. -/
theorem read_written (hd rest : List UInt8) (v : Nat) (hv : v < 18446744073709551616) :
    readE (hd ++ varF 9 v ++ rest) (hd.length : Nat) = 0 ∧ readV (hd ++ varF 9 v ++ rest) (hd.length : Nat) = v ∧ readN (hd ++ varF 9 v ++ rest) (hd.length : Nat) = ((hd.length + (varF 9 v).length : Nat) : Int) := by
  have hd' : (hd ++ varF 9 v ++ rest).drop hd.length = varF 9 v ++ rest := by rw [List.append_assoc, List.drop_left]
  have hR : rvF 0 0 ((hd ++ varF 9 v ++ rest).drop hd.length) = (0, v, (varF 9 v).length) := by rw [hd']; exact rv_written v rest hv
  obtain ⟨e1, e2, e3⟩ := read_of _ _ _ hR
  exact ⟨e1, e2, e3⟩
end Go.Proofs.Ytcjepiihknjeiaa
