/- Texts of ours, one behind the other: SecRef2. -/
import Derived.Test.YtpkpjmebkikgdaaGreatG5
import Derived.Test.YtpkpjmebkikgdaaGreatG13
import Derived.Test.YtpkpjmebkikgdaaGreatG15
import Derived.Test.YtpkpjmebkikgdaaGreatG16
/- What the reference of package sector does: Open. -/
namespace Go.Proofs.YtpkpjmebkikgdaaGreat
open Go.RowKit

/-- What a struct's variable holds in its three cells. -/
theorem three_cells {w : World} {g e : Nat} {x y z : Value} (h : w.heap[g]? = some (.cells #[x, y, z] e (0, 0))) :
    w.cell? ⟨g, 0, none⟩ = some x ∧ w.cell? ⟨g, 1, none⟩ = some y ∧ w.cell? ⟨g, 2, none⟩ = some z ∧ w.frozen? ⟨g, 0, none⟩ = false ∧ w.frozen? ⟨g, 1, none⟩ = false ∧ w.frozen? ⟨g, 2, none⟩ = false := by
  refine ⟨?_, ?_, ?_, ?_, ?_, ?_⟩
  · rw [cell_of_row w g 0 _ e (0, 0) h]; rfl
  · rw [cell_of_row w g 1 _ e (0, 0) h]; rfl
  · rw [cell_of_row w g 2 _ e (0, 0) h]; rfl
  · simp [World.frozen?, h]
  · simp [World.frozen?, h]
  · simp [World.frozen?, h]

theorem numAt_lt (b : List UInt8) (a n : Nat) : numAt b a n < 256 ^ n := by
  have h1 := num_lt ((b.drop a).take n)
  have h2 : ((b.drop a).take n).length ≤ n := by simp; omega
  exact Nat.lt_of_lt_of_le h1 (Nat.pow_le_pow_right (by omega) h2)

theorem sowns_base {w : World} {base base' e n : Nat} {v : Value} {xs : List Value} (h : w.ownsRow base e 1 v n xs) (hb : base' ≤ base) : w.ownsRow base' e 1 v n xs :=
  ⟨h.1, h.2.elim Or.inl (fun ⟨g, cap, cur, hv, hg, r⟩ => Or.inr ⟨g, cap, cur, hv, Nat.le_trans hb hg, r⟩)⟩

end Go.Proofs.YtpkpjmebkikgdaaGreat
