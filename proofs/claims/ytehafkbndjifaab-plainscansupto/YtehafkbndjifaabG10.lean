/- Texts of ours, one behind the other: Concat. -/
import Derived.Test.YtehafkbndjifaabG7
import Derived.Test.YtehafkbndjifaabG9
import Derived.Lib.AppendZeros
/- What slices.Grow of nil and slices.Concat of texts do, and bytes.Clone, and the helper CopyBytes. -/
namespace Go.Proofs.Ytehafkbndjifaab
open Go.RowKit

theorem Rows2.shape {w : World} {s : Value} {ls : List (List UInt8)} (h : Rows2 w s ls) : ∃ (p : Option Addr) (c : Nat), s = .slice p ls.length c ∧ ls.length ≤ c ∧ c ≤ maxLen ∧ (p = none → c = 0) := by
  obtain ⟨a, cap, hs, h1, h2, h3, _⟩ := h
  exact ⟨a, cap, hs, h1, h2, h3⟩
theorem Rows2.open {w : World} {s : Value} {ls : List (List UInt8)} (h : Rows2 w s ls) (hne : ls ≠ []) :
    ∃ b off cap, s = .slice (some ⟨b, off, none⟩) ls.length cap ∧ ls.length ≤ cap ∧ cap ≤ maxLen ∧ ∀ j (h : j < ls.length), ∃ v, w.cell? ⟨b, off + j, none⟩ = some v ∧ Row w v ls[j] := by
  obtain ⟨a, cap, hs, h1, h2, h3, h4⟩ := h
  rcases h4 with h4 | ⟨b, off, rfl, hc⟩
  · exact absurd h4 hne
  · exact ⟨b, off, cap, hs, h1, h2, hc⟩
theorem row_len {w : World} {v : Value} {bs : List UInt8} (h : Row w v bs) : bs.length ≤ 9223372036854775807 := by
  obtain ⟨a, cap, _, h1, h2, _⟩ := h
  unfold maxLen at h2
  omega

theorem sum_take (ls : List (List UInt8)) (k : Nat) (h : k < ls.length) : (ls.take (k + 1)).flatten = (ls.take k).flatten ++ ls[k] := by
  rw [List.take_succ_eq_append_getElem h, List.flatten_append]
  simp
theorem len_take (ls : List (List UInt8)) (k : Nat) : (ls.take k).flatten.length ≤ ls.flatten.length := by
  conv => rhs; rw [← List.take_append_drop k ls, List.flatten_append, List.length_append]
  omega

end Go.Proofs.Ytehafkbndjifaab
