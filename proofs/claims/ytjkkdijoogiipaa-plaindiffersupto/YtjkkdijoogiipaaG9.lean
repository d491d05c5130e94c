/- Texts of ours, one behind the other: Lists. -/
import Derived.Test.YtjkkdijoogiipaaG8
import Derived.Deep.Matrix
/- A slice of texts that came in, as a list of rows of bytes. -/
namespace Go.Proofs.Ytjkkdijoogiipaa
open Go.RowKit Go.ChangeShapes Go.WideShapes Go.ChangeAt

/-- A slice value that reads as these texts in this world. -/
def Rows2 (w : World) (s : Value) (ls : List (List UInt8)) : Prop :=
  ∃ (a : Option Addr) (cap : Nat), s = .slice a ls.length cap ∧ ls.length ≤ cap ∧ cap ≤ maxLen ∧ (a = none → cap = 0) ∧
    (ls = [] ∨ ∃ b off, a = some ⟨b, off, none⟩ ∧ ∀ j (h : j < ls.length), ∃ v, w.cell? ⟨b, off + j, none⟩ = some v ∧ Row w v ls[j])

theorem Rows2.nil (w : World) : Rows2 w (.slice none 0 0) [] := ⟨none, 0, rfl, Nat.le_refl _, by unfold maxLen; omega, fun _ => rfl, Or.inl rfl⟩

theorem Rows2.below {w w' : World} {s : Value} {ls : List (List UInt8)} (h : Rows2 w s ls) (hb : Below w.heap.size w w') : Rows2 w' s ls := by
  obtain ⟨a, cap, hs, h1, h2, h3, h4⟩ := h
  refine ⟨a, cap, hs, h1, h2, h3, ?_⟩
  rcases h4 with h4 | ⟨b, off, ha, hc⟩
  · exact Or.inl h4
  · refine Or.inr ⟨b, off, ha, fun j hj => ?_⟩
    obtain ⟨v, hv, hr⟩ := hc j hj
    exact ⟨v, (hb.cell (World.block_lt_of_cell? w _ hv)).trans hv, hr.below hb⟩

/-- How much the texts are, each counted with one more. -/
def tot (ls : List (List UInt8)) : Nat := (ls.map fun l => l.length + 1).sum

theorem rows_of_open {W : World} {a : Addr} {len cap : Nat} {A : Nat → Option Addr} {L C : Nat → Nat} {Z : Nat → List Int} (hl : len ≤ cap) (hm : cap ≤ maxLen)
    (hr : ∀ r, r < cap → W.cell? (a.add r) = some (.slice (A r) (L r) (C r)) ∧ L r ≤ C r ∧ C r ≤ maxLen ∧ (Z r).length = C r ∧ (∀ n ∈ Z r, (Lit.int .u8 n).wf = true) ∧ (A r = none → C r = 0) ∧
      ∀ a', A r = some a' → 0 ≤ a'.block ∧ ∀ c, c < C r → W.cell? (a'.add c) = some (.int .u8 ((Z r).getD c 0))) :
    ∃ ls : List (List UInt8), Rows2 W (.slice (some a) len cap) ls ∧ ls.map List.length = (List.range len).map L := by
  have hex : ∀ r, r < len → ∃ bs : List UInt8, Row W (.slice (A r) (L r) (C r)) bs ∧ bs.length = L r := by
    intro r hrl
    obtain ⟨_, h1, h2, h3, h4, h5, h6⟩ := hr r (by omega)
    cases hA : A r with
    | none =>
      have hC := h5 hA
      have hL : L r = 0 := by omega
      rw [hC, hL]
      exact ⟨[], Row.nil W, rfl⟩
    | some a' => exact row_of_cells h1 h2 h3 (fun i hi => (h6 a' hA).2 i (by omega)) h4
  obtain ⟨f, hf⟩ := Go.Deep.choose_lt hex
  have hlen : ((List.range len).map f).length = len := by simp
  refine ⟨(List.range len).map f, ⟨some a, cap, by rw [hlen], by rw [hlen]; exact hl, hm, by simp, ?_⟩, ?_⟩
  · by_cases h0 : len = 0
    · subst h0; left; rfl
    · right
      obtain ⟨b, off, spot⟩ := a
      have hspot : spot = none := by simpa [Addr.add] using World.cell?_spot (hr 0 (by omega)).1
      subst hspot
      refine ⟨b, off, rfl, fun j hj => ?_⟩
      have hj' : j < len := by simpa using hj
      have h := (hr j (by omega)).1
      rw [Addr.add_lit] at h
      refine ⟨_, h, ?_⟩
      simp only [List.getElem_map, List.getElem_range]
      exact (hf j hj').1
  · rw [List.map_map]
    apply List.map_congr_left
    intro r hr'
    exact (hf r (by simpa using hr')).2
end Go.Proofs.Ytjkkdijoogiipaa
