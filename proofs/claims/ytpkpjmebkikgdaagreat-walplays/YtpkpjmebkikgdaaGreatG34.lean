/- Texts of ours, one behind the other: BoolReads. -/
import Derived.Test.YtpkpjmebkikgdaaGreatG2
import Derived.Test.YtpkpjmebkikgdaaGreatG5
/- A slice of bools that came in, by its shape. -/
namespace Go.Proofs.YtpkpjmebkikgdaaGreat
open Go.RowKit

theorem bools_of_reads {w : World} {v : Value} {d : Dt} (h : Reads limSaid w (.row 1 .bool) [v] d) : ∃ bs : List Bool, BRow w v bs ∧ bs.length ≤ 140737488351232 := by
  obtain ⟨a, cap, l, h1, h2, h3, h4, h5, h6, h7⟩ := h
  simp only [List.cons.injEq, and_true] at h1
  have hb : ∀ j (hj : j < l.length), ∃ b : Bool, ∀ q off, a = some ⟨q, off, none⟩ → w.cell? ⟨q, off + j, none⟩ = some (.bool b) := by
    intro j hj
    rcases h7 with rfl | ⟨b, off, ha, hc⟩
    · cases hj
    · obtain ⟨cs, e1, e2, x, e3, _⟩ := hc j hj
      refine ⟨x, fun q off' ha' => ?_⟩
      rw [ha] at ha'
      cases ha'
      have := e2 0 (.bool x) (by rw [e3]; rfl)
      simpa [Sh.size] using this
  obtain ⟨f, hf⟩ := Go.Deep.choose_lt hb
  have hlen : (((List.range l.length).map f)).length = l.length := by simp
  refine ⟨(List.range l.length).map f, ⟨a, cap, by rw [List.length_map, hlen]; exact h1, by rw [List.length_map, hlen]; exact h3, h4, h5, ?_⟩, by rw [hlen]; unfold limSaid reachBytes at h6; omega⟩
  by_cases h0 : l = []
  · left; subst h0; rfl
  · right
    rcases h7 with h7 | ⟨b, off, ha, hc⟩
    · exact absurd h7 h0
    · refine ⟨b, off, ha, fun j v hv => ?_⟩
      rw [List.getElem?_map, List.getElem?_map] at hv
      obtain ⟨x, hx, rfl⟩ := Option.map_eq_some_iff.1 hv
      obtain ⟨y, hy, rfl⟩ := Option.map_eq_some_iff.1 hx
      obtain ⟨hj, rfl⟩ := List.getElem?_eq_some_iff.1 hy
      have hj' : j < l.length := by simpa using hj
      rw [List.getElem_range]
      exact hf j hj' b off ha
end Go.Proofs.YtpkpjmebkikgdaaGreat
