/- Texts of ours, one behind the other: Plain. -/
import Derived.WalkKit
import Derived.Laws.BitsAllLaws
import Derived.Laws.CopyOwn
/- The plain half of the proofs about package word: numbers as bytes, rows of bytes in memory; nothing here speaks of the program. -/
namespace Go.Proofs.Ytgnfgeebcphglaa
open Go.RowKit

theorem ret_true {b : Bool} (h : b = true) : Ending.returned (.bool b) = .returned (.bool true) := by rw [h]
theorem hide {p : Prop} (h : p) : Hid p := h
theorem unhide {p : Prop} (h : Hid p) : p := h

/-- A byte as a value. -/
def B (u : UInt8) : Value := .int .u8 (u.toNat : Int)

/-- The bytes of a number as bytes, with fuel: seven bits a byte, the lowest first. -/
def varF : Nat → Nat → List UInt8
  | 0, v => [UInt8.ofNat v]
  | f + 1, v => if v < 128 then [UInt8.ofNat v] else UInt8.ofNat (v % 128 + 128) :: varF f (v / 128)

theorem or128 : ∀ n : Nat, n < 256 → n ||| 128 = n % 128 + 128 := by decide +kernel
theorem bits_or128 (x : Nat) : bits .or .u8 ((x : Int) % 256) 128 = ((UInt8.ofNat (x % 128 + 128)).toNat : Int) := by
  have h : ((x : Int) % 256) = ((x % 256 : Nat) : Int) := by omega
  rw [h, show (128 : Int) = ((128 : Nat) : Int) from rfl, u8_or_nat _ _ (by omega) (by omega), or128 _ (by omega)]
  congr 1
  simp
  omega
theorem B_or128 (x : Nat) : B (UInt8.ofNat (x % 128 + 128)) = .int .u8 (bits .or .u8 ((x : Int) % 256) 128) := by unfold B; rw [bits_or128]
theorem varF_stop (f x : Nat) (h : x < 128) : varF f x = [UInt8.ofNat x] := by cases f <;> simp [varF, h]
theorem varF_go (f x : Nat) (h : 128 ≤ x) : varF (f + 1) x = UInt8.ofNat (x % 128 + 128) :: varF f (x / 128) := by
  rw [varF, if_neg (by omega)]
theorem pow_step (f x : Nat) (h : x < 128 ^ (f + 1 + 1)) : x / 128 < 128 ^ (f + 1) := by
  rw [Nat.div_lt_iff_lt_mul (by omega)]
  rw [Nat.pow_succ 128 (f + 1)] at h
  exact h

/-- v in n bytes, the lowest first. -/
def le (n v : Nat) : List UInt8 := (List.range n).map fun i => UInt8.ofNat (v / 256 ^ i)
theorem length_le (n v : Nat) : (le n v).length = n := by simp [le]
theorem le_succ (n v : Nat) : le (n + 1) v = le n v ++ [UInt8.ofNat (v / 256 ^ n)] := by simp [le, List.range_succ]

theorem le_add (a b v : Nat) : le (a + b) v = le a v ++ le b (v / 256 ^ a) := by
  induction b with
  | zero => simp [le]
  | succ b ih => rw [← Nat.add_assoc, le_succ, ih, le_succ, List.append_assoc, Nat.div_div_eq_div_mul, Nat.pow_add]

/-- The number that bytes are, the lowest first. -/
def num : List UInt8 → Nat
  | [] => 0
  | b :: r => b.toNat + 256 * num r
theorem num_append (a b : List UInt8) : num (a ++ b) = num a + 256 ^ a.length * num b := by
  induction a with
  | nil => simp [num]
  | cons x r ih => simp only [List.cons_append, num, ih, List.length_cons, Nat.pow_succ]; rw [Nat.mul_add, Nat.mul_comm (256 ^ r.length) 256, Nat.mul_assoc]; omega
theorem num_lt (a : List UInt8) : num a < 256 ^ a.length := by
  induction a with
  | nil => simp [num]
  | cons x r ih => have := x.toNat_lt; simp only [num, List.length_cons, Nat.pow_succ]; omega
theorem num_le (n v : Nat) : num (le n v) = v % 256 ^ n := by
  induction n with
  | zero => simp [le, num, Nat.mod_one]
  | succ n ih =>
    rw [le_succ, num_append, ih, length_le]
    simp only [num, Nat.mul_zero, Nat.add_zero]
    rw [Nat.pow_succ, Nat.mod_mul]
    simp

theorem le_num (bs : List UInt8) : le bs.length (num bs) = bs := by
  induction bs with
  | nil => rfl
  | cons x r ih =>
    have hx := x.toNat_lt
    rw [List.length_cons, Nat.add_comm, le_add, num, Nat.pow_one]
    have e1 : (x.toNat + 256 * num r) / 256 = num r := by omega
    rw [e1, ih]
    have e2 : le 1 (x.toNat + 256 * num r) = [x] := by
      simp [le, List.range_succ]
    rw [e2]
    rfl

theorem pow_cast (i : Nat) : (2 : Int) ^ (8 * i) = ((256 ^ i : Nat) : Int) := by
  rw [Int.pow_mul]; norm_cast
theorem put_byte (v i : Nat) : (v : Int) / 2 ^ (8 * i) % 256 = ((UInt8.ofNat (v / 256 ^ i)).toNat : Int) := by
  rw [pow_cast]
  simp
theorem room_div (v n : Nat) : ((v : Int) / 2 ^ (8 * n) == 0) = decide (v < 256 ^ n) := by
  rw [pow_cast, Bool.eq_iff_iff]
  simp only [beq_iff_eq, decide_eq_true_eq]
  have h : (v : Int) / ((256 ^ n : Nat) : Int) = ((v / 256 ^ n : Nat) : Int) := by simp
  rw [h]
  have := Nat.div_eq_zero_iff (a := v) (b := 256 ^ n)
  have hp : 0 < 256 ^ n := Nat.pow_pos (by omega)
  omega
theorem pow_le8 (i : Nat) (h : i < 8) : 256 ^ i * 256 ≤ 18446744073709551616 := by
  have : 256 ^ (i + 1) ≤ 256 ^ 8 := Nat.pow_le_pow_right (by omega) (by omega)
  rw [Nat.pow_succ] at this
  exact this
theorem get_bits (x i : Nat) (c : UInt8) (hi : i < 8) (hx : x < 256 ^ i) :
    bits .or .u64 (x : Int) (IntKind.u64.wrap ((c.toNat : Int) * 2 ^ (8 * i))) = ((x + c.toNat * 256 ^ i : Nat) : Int) := by
  have hc := c.toNat_lt
  have h8 := pow_le8 i hi
  have hm : c.toNat * 256 ^ i ≤ 255 * 256 ^ i := Nat.mul_le_mul_right _ (by omega)
  have e : (c.toNat : Int) * 2 ^ (8 * i) = ((c.toNat * 256 ^ i : Nat) : Int) := by rw [pow_cast]; norm_cast
  rw [e, IntKind.wrap_u64, Int.emod_eq_of_lt (by omega) (by omega), u64_or_nat _ _ (by omega) (by omega)]
  congr 1
  have h2 : 256 ^ i = 2 ^ (8 * i) := by rw [Nat.pow_mul]
  rw [h2] at hx ⊢
  rw [Nat.or_comm, Nat.mul_comm, ← Nat.two_pow_add_eq_or_of_lt hx]
  omega

/-- A slice value that reads as these bytes in this world: whatever its address where there are none. -/
def Row (w : World) (s : Value) (bs : List UInt8) : Prop :=
  ∃ (a : Option Addr) (cap : Nat), s = .slice a bs.length cap ∧ bs.length ≤ cap ∧ cap ≤ maxLen ∧ (a = none → cap = 0) ∧
    (bs = [] ∨ ∃ b off, a = some ⟨b, off, none⟩ ∧ ∀ j (h : j < bs.length), w.cell? ⟨b, off + j, none⟩ = some (B bs[j]))

theorem Row.below {w w' : World} {s : Value} {bs : List UInt8} (h : Row w s bs) (hb : Below w.heap.size w w') : Row w' s bs := by
  obtain ⟨a, cap, hs, h1, h2, h3, h4⟩ := h
  refine ⟨a, cap, hs, h1, h2, h3, ?_⟩
  rcases h4 with h4 | ⟨b, off, ha, hc⟩
  · exact Or.inl h4
  · exact Or.inr ⟨b, off, ha, fun j hj => (hb.cell (World.block_lt_of_cell? w _ (hc j hj))).trans (hc j hj)⟩

theorem Row.nil (w : World) : Row w (.slice none 0 0) [] := ⟨none, 0, rfl, Nat.le_refl _, by unfold maxLen; omega, fun _ => rfl, Or.inl rfl⟩

theorem row_of_owns {w : World} {base e : Nat} {s : Value} {bs : List UInt8} (h : w.ownsRow base e 1 s bs.length (bs.map B)) : Row w s bs := by
  have h0 := h
  rcases h.2 with ⟨rfl, h2⟩ | ⟨g, cap, cur, rfl, hg, hh, hnc, hcp, hcs, htake⟩
  · obtain rfl : bs = [] := List.length_eq_zero_iff.1 h2
    exact Row.nil w
  · refine ⟨_, cap, rfl, hnc, hcp, (by simp), Or.inr ⟨g, 0, rfl, fun j hj => ?_⟩⟩
    rw [Nat.zero_add, h0.cellAt j (by omega)]
    simp [hj]

theorem Row.shape {w : World} {s : Value} {bs : List UInt8} (h : Row w s bs) : ∃ (p : Option Addr) (c l : Nat), s = .slice p l c ∧ bs.length = l := by
  obtain ⟨a, cap, hs, _⟩ := h
  exact ⟨a, cap, bs.length, hs, rfl⟩

theorem Row.open {w : World} {s : Value} {bs : List UInt8} (h : Row w s bs) (hne : bs ≠ []) :
    ∃ b off cap, s = .slice (some ⟨b, off, none⟩) bs.length cap ∧ bs.length ≤ cap ∧ cap ≤ maxLen ∧ ∀ j (h : j < bs.length), w.cell? ⟨b, off + j, none⟩ = some (B bs[j]) := by
  obtain ⟨a, cap, hs, h1, h2, h3, h4⟩ := h
  rcases h4 with h4 | ⟨b, off, ha, hc⟩
  · exact absurd h4 hne
  · subst ha
    exact ⟨b, off, cap, hs, h1, h2, hc⟩

theorem Row.cut {w : World} {bs : List UInt8} {b off : Nat} (hc : ∀ j (h : j < bs.length), w.cell? ⟨b, off + j, none⟩ = some (B bs[j])) (q m cap : Nat) (hq : q + m ≤ bs.length) (hm : m ≤ cap) (hcap : cap ≤ maxLen) :
    Row w (.slice (some ⟨b, off + q, none⟩) m cap) ((bs.drop q).take m) := by
  have hl : ((bs.drop q).take m).length = m := by simp; omega
  refine ⟨some ⟨b, off + q, none⟩, cap, by rw [hl], by rw [hl]; exact hm, hcap, by simp, Or.inr ⟨b, off + q, rfl, fun j hj => ?_⟩⟩
  rw [Nat.add_assoc, hc (q + j) (by omega)]
  simp

/-- A block that is known whole: bytes of the call's own. -/
theorem row_of_block {w : World} {g e : Nat} {bs : List UInt8} (h : w.heap[g]? = some (.cells (bs.map B).toArray e (0, 0))) (o n cap : Nat) (ho : o + n ≤ bs.length) (hn : n ≤ cap) (hc : cap ≤ maxLen) :
    Row w (.slice (some ⟨g, o, none⟩) n cap) ((bs.drop o).take n) := by
  have hl : ((bs.drop o).take n).length = n := by simp; omega
  refine ⟨some ⟨g, o, none⟩, cap, by rw [hl], by rw [hl]; exact hn, hc, by simp, Or.inr ⟨g, o, rfl, fun j hj => ?_⟩⟩
  rw [cell_of_row w g (o + j) _ e (0, 0) h]
  have hj' : o + j < bs.length := by rw [hl] at hj; omega
  simp [hj']
end Go.Proofs.Ytgnfgeebcphglaa
