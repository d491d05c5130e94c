/- Texts of ours, one behind the other: CelArgs. -/
import Derived.Test.YtlbhhdldeaehkaaGreatG2
import Derived.Test.YtlbhhdldeaehkaaGreatG4
/- Slices of numbers that came in, by shapes. -/
namespace Go.Proofs.YtlbhhdldeaehkaaGreat
open Go.RowKit

theorem nums_of_reads {lim : Nat → Nat → Prop} {w : World} {v : Value} {d : Dt} {b : Nat} {k : IntKind} (h : Reads lim w (.row b (.int k)) [v] d) : ∃ l : List Int, VRow w v (l.map (Value.int k)) ∧ lim l.length b ∧ ∀ x ∈ l, (Lit.int k x).wf = true := by
  obtain ⟨a, cap, l, e, rfl, h1, h2, h3, h4, h5⟩ := h
  simp only [List.cons.injEq, and_true] at e
  subst e
  rcases h5 with rfl | ⟨g, off, rfl, hc⟩
  · exact ⟨[], ⟨a, cap, rfl, h1, h2, h3, Or.inl rfl⟩, h4, fun x hx => by cases hx⟩
  · have hx : ∀ j (h : j < l.length), ∃ u : Int, w.cell? ⟨g, off + j, none⟩ = some (.int k u) ∧ (Lit.int k u).wf = true := by
      intro j hj
      obtain ⟨cs, h1, h2, n, rfl, hw, _⟩ := hc j hj
      have := h2 0 _ rfl
      simp only [Sh.size, Nat.mul_one, Nat.add_zero] at this
      exact ⟨n, this, hw⟩
    have hch : ∃ f : Nat → Int, ∀ j, j < l.length → w.cell? ⟨g, off + j, none⟩ = some (.int k (f j)) ∧ (Lit.int k (f j)).wf = true := by
      refine ⟨fun j => if h : j < l.length then (hx j h).choose else 0, fun j hj => ?_⟩
      simp only [hj, dif_pos]
      exact (hx j hj).choose_spec
    obtain ⟨f, hf⟩ := hch
    refine ⟨(List.range l.length).map f, ⟨_, cap, by simp, by simpa using h1, h2, by simp, Or.inr ⟨g, off, rfl, fun j u hu => ?_⟩⟩, by simpa using h4, fun z hz => ?_⟩
    · rw [List.getElem?_map, List.getElem?_map] at hu
      by_cases hj : j < l.length
      · rw [List.getElem?_range hj] at hu
        simp only [Option.map_some, Option.some.injEq] at hu
        rw [← hu]
        exact (hf j hj).1
      · rw [List.getElem?_eq_none (by simpa using hj)] at hu
        cases hu
    · obtain ⟨j, hj, rfl⟩ := List.mem_map.1 hz
      exact (hf j (List.mem_range.1 hj)).2
end Go.Proofs.YtlbhhdldeaehkaaGreat
