/- What Zero of package word does, out of the contracts of what it calls. -/
import Derived.Test.YtpiekbjpnifjlaaWord
import Derived.Laws.EntriesVeiled
namespace Go.Proofs.Ytpiekbjpnifjlaa
open Go.RowKit

theorem all_zero (bs : List UInt8) (h : ∀ j (h : j < bs.length), bs[j] = 0) : bs.all (· == 0) = true := by
  rw [List.all_eq_true]
  intro x hx
  obtain ⟨j, hj, rfl⟩ := List.getElem_of_mem hx
  simp [h j hj]
theorem not_all_zero (bs : List UInt8) (j : Nat) (hj : j < bs.length) (h : bs[j] ≠ 0) : bs.all (· == 0) = false := by
  rw [Bool.eq_false_iff]
  intro ha
  rw [List.all_eq_true] at ha
  exact h (by simpa using ha _ (List.getElem_mem hj))
theorem beq_byte (u : UInt8) : ((u.toNat : Int) == 0) = (u == 0) := by
  rw [Bool.eq_iff_iff]
  simp only [beq_iff_eq]
  constructor
  · intro h; exact UInt8.toNat_inj.1 (by simpa using h)
  · intro h; simp [h]

end Go.Proofs.Ytpiekbjpnifjlaa
