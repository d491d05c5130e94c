/- Texts of ours, one behind the other: KArgs. -/
import Derived.Test.YtcjepiihknjeiaaG2
import Derived.Test.YtcjepiihknjeiaaG4
/- Slices of structs that came in, by shapes, whatever their cells; nothing here speaks of the program. -/
namespace Go.Proofs.Ytcjepiihknjeiaa
open Go.RowKit

theorem krow_of_reads {lim : Nat → Nat → Prop} {w : World} {v : Value} {d : Dt} {b k : Nat} {X : Type} {C : X → List Value} {P : X → Prop} {e : Sh} (x0 : X) (hk : ∀ x, (C x).length = k) (hk0 : 0 < k) (he : e.size = k) (hE : ∀ {cs : List Value} {d : Dt}, Reads lim w e cs d → ∃ x, cs = C x ∧ P x)
    (h : Reads lim w (.row b e) [v] d) : ∃ l : List X, KRow k w v l.length (l.flatMap C) ∧ (∀ x ∈ l, P x) ∧ lim l.length b := by
  obtain ⟨a, cap, l, e1, rfl, h1, h2, h3, h4, h5⟩ := h
  simp only [List.cons.injEq, and_true] at e1
  subst e1
  rcases h5 with rfl | ⟨g, off, rfl, hc⟩
  · exact ⟨[], ⟨a, cap, rfl, h1, h2, h3, by simp, Or.inl rfl⟩, by simp, h4⟩
  · have hx : ∀ j (h : j < l.length), ∃ x : X, (∀ i u, (C x)[i]? = some u → w.cell? ⟨g, off + j * k + i, none⟩ = some u) ∧ P x := by
      intro j hj
      obtain ⟨cs, g1, g2, g3⟩ := hc j hj
      obtain ⟨x, rfl, ho⟩ := hE g3
      rw [he] at g2
      exact ⟨x, g2, ho⟩
    have hch : ∃ F : Nat → X, ∀ j, j < l.length → (∀ i u, (C (F j))[i]? = some u → w.cell? ⟨g, off + j * k + i, none⟩ = some u) ∧ P (F j) := by
      refine ⟨fun j => if h : j < l.length then (hx j h).choose else x0, fun j hj => ?_⟩
      simp only [hj, dif_pos]
      exact (hx j hj).choose_spec
    obtain ⟨F, hF⟩ := hch
    have hlen : ((List.range l.length).map F).length = l.length := by simp
    refine ⟨(List.range l.length).map F, ⟨_, cap, by rw [hlen], by rw [hlen]; exact h1, h2, h3, flat_len hk _, Or.inr ⟨g, off, rfl, fun j u hu => ?_⟩⟩, fun x hc => ?_, by rw [hlen]; exact h4⟩
    · have hjl := (List.getElem?_eq_some_iff.1 hu).1
      rw [flat_len hk, hlen] at hjl
      have hjk : j / k < l.length := (Nat.div_lt_iff_lt_mul hk0).2 hjl
      have hg := flat_get hk ((List.range l.length).map F) (j / k) (by rw [hlen]; exact hjk) (j % k) (Nat.mod_lt _ hk0)
      have hdm : j / k * k + j % k = j := Nat.div_add_mod' j k
      rw [hdm, hu] at hg
      have e : ((List.range l.length).map F)[j / k]'(by rw [hlen]; exact hjk) = F (j / k) := by simp
      rw [e] at hg
      have := (hF (j / k) hjk).1 (j % k) u hg.symm
      rw [← this, Nat.add_assoc, hdm]
    · simp only [List.mem_map, List.mem_range] at hc
      obtain ⟨j, hj, rfl⟩ := hc
      exact (hF j hj).2
end Go.Proofs.Ytcjepiihknjeiaa
