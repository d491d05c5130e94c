/- Rows of one-cell values in memory, whatever they are; nothing here speaks of the program. -/
import Derived.Test.YtdpoiieblbmofaaMoves
namespace Go.Proofs.Ytdpoiieblbmofaa
open Go.RowKit

/-- A slice value whose cells are these values: whatever its address where there are none. -/
def VRow (w : World) (s : Value) (vs : List Value) : Prop :=
  ∃ (a : Option Addr) (cap : Nat), s = .slice a vs.length cap ∧ vs.length ≤ cap ∧ cap ≤ maxLen ∧ (a = none → cap = 0) ∧
    (vs = [] ∨ ∃ b off, a = some ⟨b, off, none⟩ ∧ ∀ (j : Nat) (v : Value), vs[j]? = some v → w.cell? ⟨b, off + j, none⟩ = some v)

theorem VRow.nil (w : World) : VRow w (.slice none 0 0) [] := ⟨none, 0, rfl, Nat.le_refl _, by unfold maxLen; omega, fun _ => rfl, Or.inl rfl⟩
theorem VRow.shape {w : World} {s : Value} {vs : List Value} (h : VRow w s vs) : ∃ (p : Option Addr) (c : Nat), s = .slice p vs.length c ∧ vs.length ≤ c ∧ c ≤ maxLen ∧ (p = none → c = 0) := by
  obtain ⟨a, cap, hs, h1, h2, h3, _⟩ := h
  exact ⟨a, cap, hs, h1, h2, h3⟩
theorem VRow.open {w : World} {s : Value} {vs : List Value} (h : VRow w s vs) (hne : vs ≠ []) :
    ∃ b off cap, s = .slice (some ⟨b, off, none⟩) vs.length cap ∧ vs.length ≤ cap ∧ cap ≤ maxLen ∧ ∀ (j : Nat) (v : Value), vs[j]? = some v → w.cell? ⟨b, off + j, none⟩ = some v := by
  obtain ⟨a, cap, hs, h1, h2, h3, h4⟩ := h
  rcases h4 with h4 | ⟨b, off, ha, hc⟩
  · exact absurd h4 hne
  · subst ha
    exact ⟨b, off, cap, hs, h1, h2, hc⟩
theorem VRow.stays {w w' : World} {s : Value} {vs : List Value} (h : VRow w s vs) (hk : ∀ b off c, s = .slice (some ⟨b, off, none⟩) vs.length c → vs ≠ [] → b < w.heap.size → w'.heap[b]? = w.heap[b]?) : VRow w' s vs := by
  obtain ⟨a, cap, hs, h1, h2, h3, h4⟩ := h
  refine ⟨a, cap, hs, h1, h2, h3, ?_⟩
  rcases h4 with h4 | ⟨b, off, ha, hc⟩
  · exact Or.inl h4
  · by_cases hv : vs = []
    · exact Or.inl hv
    · subst ha
      exact Or.inr ⟨b, off, rfl, fun j v hj => (World.cell?_of_block (w := w) (a := ⟨b, off + j, none⟩) (hk b off cap hs hv (World.block_lt_of_cell? w _ (hc j v hj)))).trans (hc j v hj)⟩
theorem VRow.below {w w' : World} {s : Value} {vs : List Value} (h : VRow w s vs) (hb : Below w.heap.size w w') : VRow w' s vs := h.stays fun b _ _ _ _ hl => hb.block b hl
theorem VRow.keep {F : Nat → Prop} {w w' : World} {s : Value} {vs : List Value} (h : VRow w s vs) (hk : Keep F w w') (hn : ∀ b off c, s = .slice (some ⟨b, off, none⟩) vs.length c → vs ≠ [] → ¬ F b) : VRow w' s vs :=
  h.stays fun b off c e hv hl => hk.block b hl (hn b off c e hv)
/-- Where a row of the call's own reads as values. -/
theorem vrow_of_owns {w : World} {base e : Nat} {s : Value} {vs : List Value} (h : w.ownsRow base e 1 s vs.length vs) : VRow w s vs := by
  rcases h.2 with ⟨rfl, h2⟩ | ⟨g, cap, cur, rfl, hg, hh, hnc, hcp, hcs, htake⟩
  · obtain rfl : vs = [] := List.length_eq_zero_iff.1 h2
    exact VRow.nil w
  · refine ⟨_, cap, rfl, hnc, hcp, (by simp), Or.inr ⟨g, 0, rfl, fun j v hv => ?_⟩⟩
    have := h.cells (g := g) rfl j v hv
    rwa [Addr.add_lit] at this
/-- The cells of a row, as the laws on copy and append ask for them. -/
theorem VRow.pos {w : World} {a : Option Addr} {n c : Nat} {vs : List Value} (h : VRow w (.slice a n c) vs) : 0 < vs.length → ∃ ad, a = some ad ∧ ∀ (j : Nat) (v : Value), vs[j]? = some v → w.cell? (ad.add j) = some v := by
  intro hp
  obtain ⟨b, off, cap, e, _, _, hc⟩ := h.open (by intro e; rw [e] at hp; simp at hp)
  simp only [Value.slice.injEq] at e
  obtain ⟨rfl, _, _⟩ := e
  exact ⟨_, rfl, fun j v hv => by rw [Addr.add_lit]; exact hc j v hv⟩
end Go.Proofs.Ytdpoiieblbmofaa
