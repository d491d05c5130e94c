/- Rows of bools in memory; nothing here speaks of the program. -/
import Derived.Test.YtdpoiieblbmofaaVRow
namespace Go.Proofs.Ytdpoiieblbmofaa
open Go.RowKit

/-- A slice value that reads as these bools in this world. -/
def BRow (w : World) (s : Value) (bs : List Bool) : Prop := VRow w s (bs.map Value.bool)

theorem BRow.shape {w : World} {s : Value} {bs : List Bool} (h : BRow w s bs) : ∃ (p : Option Addr) (c : Nat), s = .slice p bs.length c ∧ bs.length ≤ c ∧ c ≤ maxLen := by
  obtain ⟨a, cap, hs, h1, h2, _⟩ := VRow.shape h
  rw [List.length_map] at hs h1
  exact ⟨a, cap, hs, h1, h2⟩
theorem BRow.below {w w' : World} {s : Value} {bs : List Bool} (h : BRow w s bs) (hb : Below w.heap.size w w') : BRow w' s bs := VRow.below h hb
/-- The cell of one of them. -/
theorem BRow.at {w : World} {s : Value} {bs : List Bool} (h : BRow w s bs) (j : Nat) (hj : j < bs.length) : ∃ b off cap, s = .slice (some ⟨b, off, none⟩) bs.length cap ∧ bs.length ≤ cap ∧ w.cell? ⟨b, off + j, none⟩ = some (.bool bs[j]) := by
  obtain ⟨b, off, cap, hs, h1, _, hc⟩ := VRow.open h (by intro e; rw [List.map_eq_nil_iff.1 e] at hj; cases hj)
  rw [List.length_map] at hs h1
  exact ⟨b, off, cap, hs, h1, hc j _ (by simp [List.getElem?_eq_getElem hj])⟩
/-- It stands where a call keeps all but what it does not lie in. -/
theorem BRow.keep {F : Nat → Prop} {w w' : World} {s : Value} {bs : List Bool} (h : BRow w s bs) (hk : Keep F w w') (hn : ∀ b off c, s = .slice (some ⟨b, off, none⟩) bs.length c → bs ≠ [] → ¬ F b) : BRow w' s bs :=
  VRow.keep h hk fun b off c e hv => hn b off c (by rw [List.length_map] at e; exact e) (by intro e'; subst e'; exact hv rfl)
end Go.Proofs.Ytdpoiieblbmofaa
