/- Nine cells of a variable; nothing here speaks of the program. -/
import Derived.Test.YtdpoiieblbmofaaMem
namespace Go.Proofs.Ytdpoiieblbmofaa
open Go.RowKit

/-- Nine cells of a variable. -/
theorem nine_cells {w : World} {g e : Nat} {a b c d x y z u v : Value} (h : w.heap[g]? = some (.cells #[a, b, c, d, x, y, z, u, v] e (0, 0))) :
    w.cell? ⟨g, 0, none⟩ = some a ∧ w.cell? ⟨g, 1, none⟩ = some b ∧ w.cell? ⟨g, 2, none⟩ = some c ∧ w.cell? ⟨g, 3, none⟩ = some d ∧ w.cell? ⟨g, 4, none⟩ = some x ∧ w.cell? ⟨g, 5, none⟩ = some y ∧ w.cell? ⟨g, 6, none⟩ = some z ∧ w.cell? ⟨g, 7, none⟩ = some u ∧ w.cell? ⟨g, 8, none⟩ = some v := by
  refine ⟨?_, ?_, ?_, ?_, ?_, ?_, ?_, ?_, ?_⟩
  all_goals (rw [cell_of_row w g _ _ e (0, 0) h]; rfl)
end Go.Proofs.Ytdpoiieblbmofaa
