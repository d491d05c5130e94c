/- Texts of ours, one behind the other: Word2, Put. -/
import Derived.Test.YtjkkdijoogiipaaG11
import Derived.Laws.EntriesVeiled
/- What Zero of package word does, out of the contracts of what it calls. -/
namespace Go.Proofs.Ytjkkdijoogiipaa
open Go.RowKit

theorem all_zero (bs : List UInt8) (h : ∀ j (h : j < bs.length), bs[j] = 0) : bs.all (· == 0) = true := by
  rw [List.all_eq_true]
  intro x hx
  obtain ⟨j, hj, rfl⟩ := List.getElem_of_mem hx
  simp [h j hj]
theorem not_all_zero (bs : List UInt8) (j : Nat) (hj : j < bs.length) (h : bs[j] ≠ 0) : bs.all (· == 0) = false := by
  rw [Bool.eq_false_iff]
  intro ha
  rw [List.all_eq_true] at ha
  exact h (by simpa using ha _ (List.getElem_mem hj))
theorem beq_byte (u : UInt8) : ((u.toNat : Int) == 0) = (u == 0) := by
  rw [Bool.eq_iff_iff]
  simp only [beq_iff_eq]
  constructor
  · intro h; exact UInt8.toNat_inj.1 (by simpa using h)
  · intro h; simp [h]

end Go.Proofs.Ytjkkdijoogiipaa

/- What Put of package word does. -/
namespace Go.Proofs.Ytjkkdijoogiipaa
open Go.RowKit

/-- The row while v is being put behind bs: i of its n bytes are there. -/
def fill (bs : List UInt8) (n v i : Nat) : List UInt8 := bs ++ le i v ++ List.replicate (n - i) 0
theorem length_fill (bs : List UInt8) (n v i : Nat) (h : i ≤ n) : (fill bs n v i).length = bs.length + n := by simp [fill, length_le]; omega
theorem fill_zero (bs : List UInt8) (n v : Nat) : fill bs n v 0 = bs ++ List.replicate n 0 := by simp [fill, le]
theorem fill_all (bs : List UInt8) (n v : Nat) : fill bs n v n = bs ++ le n v := by simp [fill]
theorem fill_step (bs : List UInt8) (n v i : Nat) (h : i < n) : (fill bs n v i).set (bs.length + i) (UInt8.ofNat (v / 256 ^ i)) = fill bs n v (i + 1) := by
  have e : n - i = (n - (i + 1)) + 1 := by omega
  unfold fill
  rw [e, List.replicate_succ, List.set_append, if_neg (by simp [length_le]), le_succ]
  simp [length_le]

end Go.Proofs.Ytjkkdijoogiipaa
