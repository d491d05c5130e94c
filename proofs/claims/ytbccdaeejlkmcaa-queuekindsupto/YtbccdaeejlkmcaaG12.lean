/- Texts of ours, one behind the other: QArgs. -/
import Derived.Test.YtbccdaeejlkmcaaG2
import Derived.Test.YtbccdaeejlkmcaaG6
/- What came into layer 8's statements: items, and scripts. -/
namespace Go.Proofs.Ytbccdaeejlkmcaa
open Go.RowKit

def itSh : Sh := .struct (.cons (.int .i64) (.cons .str .nil))
def opqSh : Sh := .struct (.cons (.int .i64) (.cons itSh .nil))
abbrev OpQ := Int × It
/-- A slice value that reads as this script. -/
def OpsQ (w : World) (s : Value) (l : List OpQ) : Prop :=
  ∃ (a : Option Addr) (cap : Nat), s = .slice a l.length cap ∧ l.length ≤ cap ∧ cap ≤ maxLen ∧
    (l = [] ∨ ∃ b off, a = some ⟨b, off, none⟩ ∧ ∀ j (h : j < l.length), w.cell? ⟨b, off + j * 3, none⟩ = some (.int .i64 l[j].1) ∧ w.cell? ⟨b, off + j * 3 + 1, none⟩ = some (.int .i64 l[j].2.1) ∧ w.cell? ⟨b, off + j * 3 + 2, none⟩ = some (.string l[j].2.2))
theorem it_of_reads {lim : Nat → Nat → Prop} {w : World} {cs : List Value} {d : Dt} (h : Reads lim w itSh cs d) : ∃ x : It, cs = iC x := by
  obtain ⟨c1, r1, d1, dr1, rfl, _, rfl, ⟨n1, rfl, _, _⟩, c2, r2, d2, dr2, rfl, _, rfl, ⟨s, rfl, _, _, _⟩, rfl, _⟩ := h
  exact ⟨(n1, s), rfl⟩
theorem opsq_of_reads {lim : Nat → Nat → Prop} {w : World} {v : Value} {d : Dt} (h : Reads lim w (.row 32 opqSh) [v] d) : ∃ l : List OpQ, OpsQ w v l := by
  obtain ⟨a, cap, l, h1, h2, h3, h4, h5, h6, h7⟩ := h
  simp only [List.cons.injEq, and_true] at h1
  have hb : ∀ j (hj : j < l.length), ∃ o : OpQ, ∀ b off, a = some ⟨b, off, none⟩ → w.cell? ⟨b, off + j * 3, none⟩ = some (.int .i64 o.1) ∧ w.cell? ⟨b, off + j * 3 + 1, none⟩ = some (.int .i64 o.2.1) ∧ w.cell? ⟨b, off + j * 3 + 2, none⟩ = some (.string o.2.2) := by
    intro j hj
    rcases h7 with rfl | ⟨b, off, ha, hc⟩
    · cases hj
    · obtain ⟨cs, e1, e2, c1, r1, d1, t1, q1, _, _, ⟨n1, rfl, _, _⟩, c2, r2, d2, t2, rfl, _, _, hi, rfl, _⟩ := hc j hj
      obtain ⟨x, rfl⟩ := it_of_reads hi
      have hs4 : opqSh.size = 3 := rfl
      rw [hs4] at e2
      refine ⟨(n1, x), fun b' off' ha' => ?_⟩
      rw [ha] at ha'
      cases ha'
      subst q1
      exact ⟨e2 0 _ rfl, e2 1 _ rfl, e2 2 _ rfl⟩
  obtain ⟨f, hf⟩ := Go.Deep.choose_lt hb
  have hlen : (((List.range l.length).map f)).length = l.length := by simp
  refine ⟨(List.range l.length).map f, a, cap, by rw [hlen]; exact h1, by rw [hlen]; exact h3, h4, ?_⟩
  by_cases h0 : l = []
  · left; subst h0; rfl
  · right
    rcases h7 with h7 | ⟨b, off, ha, hc⟩
    · exact absurd h7 h0
    · refine ⟨b, off, ha, fun j hj => ?_⟩
      have hj' : j < l.length := by simpa using hj
      simp only [List.getElem_map, List.getElem_range]
      exact hf j hj' b off ha
theorem ti_of_reads {lim : Nat → Nat → Prop} {w : World} {v : Value} {d : Dt} (h : Reads lim w (.row 24 itSh) [v] d) : ∃ l : List It, TI w v l ∧ lim l.length 24 := by
  obtain ⟨a, cap, l, h1, h2, h3, h4, h5, h6, h7⟩ := h
  simp only [List.cons.injEq, and_true] at h1
  have hb : ∀ j (hj : j < l.length), ∃ x : It, ∀ b off, a = some ⟨b, off, none⟩ → ∀ i u, (iC x)[i]? = some u → w.cell? ⟨b, off + j * 2 + i, none⟩ = some u := by
    intro j hj
    rcases h7 with rfl | ⟨b, off, ha, hc⟩
    · cases hj
    · obtain ⟨cs, e1, e2, hi⟩ := hc j hj
      obtain ⟨x, rfl⟩ := it_of_reads hi
      refine ⟨x, fun b' off' ha' => ?_⟩
      rw [ha] at ha'
      cases ha'
      exact e2
  obtain ⟨f, hf⟩ := Go.Deep.choose_lt hb
  have hlen : (((List.range l.length).map f)).length = l.length := by simp
  refine ⟨(List.range l.length).map f, ⟨a, cap, by rw [hlen]; exact h1, by rw [hlen]; exact h3, h4, h5, ?_⟩, by rw [hlen]; exact h6⟩
  by_cases h0 : l = []
  · left; subst h0; rfl
  · right
    rcases h7 with h7 | ⟨b, off, ha, hc⟩
    · exact absurd h7 h0
    · refine ⟨b, off, ha, fun j u hu => ?_⟩
      have hjl := (List.getElem?_eq_some_iff.1 hu).1
      rw [length_cellsI, hlen] at hjl
      have hj2 : j / 2 < l.length := by omega
      obtain ⟨g1, g2⟩ := cellsI_get ((List.range l.length).map f) (j / 2) (by rw [hlen]; exact hj2)
      simp only [List.getElem_map, List.getElem_range] at g1 g2
      have hc2 := hf (j / 2) hj2 b off ha
      by_cases hp : j % 2 = 0
      · have e : j / 2 * 2 = j := by omega
        rw [e, hu] at g1
        have := hc2 0 _ rfl
        rw [Nat.add_zero, e] at this
        rw [this]
        exact g1.symm
      · have e : j / 2 * 2 + 1 = j := by omega
        rw [e, hu] at g2
        have := hc2 1 _ rfl
        rw [Nat.add_assoc, e] at this
        rw [this]
        exact g2.symm
end Go.Proofs.Ytbccdaeejlkmcaa
