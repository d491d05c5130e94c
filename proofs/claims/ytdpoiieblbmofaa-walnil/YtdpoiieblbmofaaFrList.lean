/- A slice of frames: its cells, its parts. Nothing here speaks of what the program does. -/
import Derived.Test.YtdpoiieblbmofaaFrOwn
namespace Go.Proofs.Ytdpoiieblbmofaa
open Go.RowKit

theorem slice_of_row {w : World} {s : Value} {bs : List UInt8} (h : Row w s bs) : ∃ p l c, s = .slice p l c := by
  obtain ⟨p, c, l, e, _⟩ := h.shape
  exact ⟨p, l, c, e⟩

/-- The four cells of a frame whose data is the slice p.2. -/
def frC (p : Fr × Value) : List Value := [.int .u64 (p.1.age : Int), .int .u64 (p.1.first : Int), .int .i64 p.1.of, p.2]
def cellsL (l : List (Fr × Value)) : List Value := l.flatMap frC
theorem cellsL_append (a b : List (Fr × Value)) : cellsL (a ++ b) = cellsL a ++ cellsL b := by simp [cellsL]
theorem length_cellsL (l : List (Fr × Value)) : (cellsL l).length = l.length * 4 := by
  induction l with
  | nil => rfl
  | cons p l ih => simp only [cellsL, List.flatMap_cons, List.length_append, List.length_cons] at *; rw [ih]; simp [frC]; omega
theorem cellsL_get : ∀ (l : List (Fr × Value)) (j : Nat) (h : j < l.length) (i : Nat), i < 4 → (cellsL l)[j * 4 + i]? = (frC l[j])[i]?
  | p :: l, 0, h, i, hi => by
    simp only [cellsL, List.flatMap_cons, List.getElem_cons_zero, Nat.zero_mul, Nat.zero_add]
    rw [List.getElem?_append_left (by simp [frC]; omega)]
  | p :: l, j + 1, h, i, hi => by
    have := cellsL_get l j (by simpa using h) i hi
    simp only [cellsL, List.flatMap_cons, List.getElem_cons_succ] at *
    rw [List.getElem?_append_right (by simp [frC]; omega), ← this]
    congr 1
    simp [frC]
    omega

/-- A slice value that reads as these frames, each with the slice of its data. -/
def FL (w : World) (v : Value) (l : List (Fr × Value)) : Prop :=
  (∃ (a : Option Addr) (cap : Nat), v = .slice a l.length cap ∧ l.length ≤ cap ∧ cap ≤ maxLen ∧ (a = none → cap = 0) ∧
    (l = [] ∨ ∃ b off, a = some ⟨b, off, none⟩ ∧ ∀ j u, (cellsL l)[j]? = some u → w.cell? ⟨b, off + j, none⟩ = some u)) ∧
  ∀ p ∈ l, Row w p.2 p.1.data ∧ p.1.ok
/-- The frames. -/
def frs (l : List (Fr × Value)) : List Fr := l.map Prod.fst

theorem FL.nil (w : World) : FL w (.slice none 0 0) [] := ⟨⟨none, 0, rfl, Nat.le_refl _, by unfold maxLen; omega, fun _ => rfl, Or.inl rfl⟩, by simp⟩
theorem FL.below {w w' : World} {v : Value} {l : List (Fr × Value)} (h : FL w v l) (hb : Below w.heap.size w w') : FL w' v l := by
  obtain ⟨⟨a, cap, e, h1, h2, h3, h4⟩, h5⟩ := h
  refine ⟨⟨a, cap, e, h1, h2, h3, ?_⟩, fun p hp => ⟨(h5 p hp).1.below hb, (h5 p hp).2⟩⟩
  rcases h4 with h4 | ⟨b, off, ha, hc⟩
  · exact Or.inl h4
  · exact Or.inr ⟨b, off, ha, fun j u hu => (hb.cell (World.block_lt_of_cell? w _ (hc j u hu))).trans (hc j u hu)⟩
theorem FL.shape {w : World} {v : Value} {l : List (Fr × Value)} (h : FL w v l) : ∃ (a : Option Addr) (cap : Nat), v = .slice a l.length cap ∧ l.length ≤ cap ∧ cap ≤ maxLen ∧ (a = none → cap = 0) := by
  obtain ⟨⟨a, cap, e, h1, h2, h3, h4⟩, h5⟩ := h
  exact ⟨a, cap, e, h1, h2, h3⟩
theorem at4_of {w : World} {b off : Nat} {l : List (Fr × Value)} (hc : ∀ j u, (cellsL l)[j]? = some u → w.cell? ⟨b, off + j, none⟩ = some u) (j : Nat) (hj : j < l.length) :
    At4 w b (off + j * 4) (.int .u64 (l[j].1.age : Int)) (.int .u64 (l[j].1.first : Int)) (.int .i64 l[j].1.of) l[j].2 := by
  have h0 := hc (j * 4 + 0) _ (cellsL_get l j hj 0 (by omega))
  have h1 := hc (j * 4 + 1) _ (cellsL_get l j hj 1 (by omega))
  have h2 := hc (j * 4 + 2) _ (cellsL_get l j hj 2 (by omega))
  have h3 := hc (j * 4 + 3) _ (cellsL_get l j hj 3 (by omega))
  exact ⟨h0, h1, h2, h3⟩
theorem FL.open {w : World} {v : Value} {l : List (Fr × Value)} (h : FL w v l) (hne : l ≠ []) :
    ∃ b off cap, v = .slice (some ⟨b, off, none⟩) l.length cap ∧ l.length ≤ cap ∧ cap ≤ maxLen ∧ (∀ j u, (cellsL l)[j]? = some u → w.cell? ⟨b, off + j, none⟩ = some u) ∧
      ∀ j (h : j < l.length), At4 w b (off + j * 4) (.int .u64 (l[j].1.age : Int)) (.int .u64 (l[j].1.first : Int)) (.int .i64 l[j].1.of) l[j].2 ∧ Row w l[j].2 l[j].1.data := by
  obtain ⟨⟨a, cap, e, h1, h2, h3, h4⟩, h5⟩ := h
  rcases h4 with h4 | ⟨b, off, rfl, hc⟩
  · exact absurd h4 hne
  · exact ⟨b, off, cap, e, h1, h2, hc, fun j hj => ⟨at4_of hc j hj, (h5 _ (List.getElem_mem hj)).1⟩⟩
theorem FL.of_owns {w : World} {base e : Nat} {v : Value} {l : List (Fr × Value)} (h : w.ownsRow base e 4 v l.length (cellsL l)) (hr : ∀ p ∈ l, Row w p.2 p.1.data ∧ p.1.ok) : FL w v l := by
  refine ⟨?_, hr⟩
  rcases h.2 with ⟨rfl, h2⟩ | ⟨g, cap, cur, rfl, hg, hh, h1, h2, h3, h4⟩
  · have : l = [] := List.eq_nil_of_length_eq_zero h2
    subst this
    exact (FL.nil w).1
  · refine ⟨_, cap, rfl, h1, h2, by simp, Or.inr ⟨g, 0, rfl, fun j u hu => ?_⟩⟩
    rw [Nat.zero_add, cell_of_row w g j cur _ (0, 0) hh]
    rw [← h4] at hu
    obtain ⟨hj, rfl⟩ := List.getElem?_eq_some_iff.1 hu
    simp only [List.length_take, Array.length_toList] at hj
    rw [List.getElem_take, Array.getElem_toList]
    exact Array.getElem?_eq_getElem (by omega)
end Go.Proofs.Ytdpoiieblbmofaa
