/- Texts of ours, one behind the other: FrOwn, FrList. -/
import Derived.Test.YtehnjanllemnlaaG1
import Derived.Test.YtehnjanllemnlaaG12
import Derived.Test.YtehnjanllemnlaaG18
import Derived.Deep.RegionHeld3
/- What package frame does: mayBe, asBytes, Write, Count, part. -/
namespace Go.Proofs.Ytehnjanllemnlaa
open Go.RowKit

/-- A frame as a value: its numbers, and the slice of its data. -/
def fv (f : Fr) (s : Value) : Value := .agg #[.int .u64 (f.age : Int), .int .u64 (f.first : Int), .int .i64 f.of, s]

/-- Four cells of a block. -/
def At4 (w : World) (g off : Nat) (a b c d : Value) : Prop := w.cell? ⟨g, off, none⟩ = some a ∧ w.cell? ⟨g, off + 1, none⟩ = some b ∧ w.cell? ⟨g, off + 2, none⟩ = some c ∧ w.cell? ⟨g, off + 3, none⟩ = some d
theorem At4.below {w w' : World} {g off : Nat} {a b c d : Value} (h : At4 w g off a b c d) (hb : Below w.heap.size w w') : At4 w' g off a b c d := by
  obtain ⟨h1, h2, h3, h4⟩ := h
  have hl := World.block_lt_of_cell? w _ h1
  exact ⟨(hb.cell (p := ⟨g, off, none⟩) hl).trans h1, (hb.cell (p := ⟨g, off + 1, none⟩) hl).trans h2, (hb.cell (p := ⟨g, off + 2, none⟩) hl).trans h3, (hb.cell (p := ⟨g, off + 3, none⟩) hl).trans h4⟩
theorem at4_new (w : World) (a b c d : Value) (t : TypeId) : At4 (w.alloc (.cells #[a, b, c, d] t)) w.heap.size 0 a b c d := by
  have h := heap_alloc_new w (.cells #[a, b, c, d] t)
  refine ⟨?_, ?_, ?_, ?_⟩ <;> (rw [cell_of_row _ _ _ _ _ (0, 0) h]; rfl)

theorem owns_base {w : World} {base base' e sz : Nat} {v : Value} {n : Nat} {xs : List Value} (h : w.ownsRow base' e sz v n xs) (hb : base ≤ base') : w.ownsRow base e sz v n xs :=
  ⟨h.1, h.2.elim Or.inl fun ⟨g, cap, cur, hv, hg, r⟩ => Or.inr ⟨g, cap, cur, hv, Nat.le_trans hb hg, r⟩⟩

/-- Four texts in a block. -/
theorem rows2_four (w : World) (t : TypeId) (a b c d : Value) (la lb lc ld : List UInt8) (ha : Row w a la) (hb : Row w b lb) (hc : Row w c lc) (hd : Row w d ld) :
    Rows2 (w.alloc (.cells #[a, b, c, d] t)) (.slice (some ⟨w.heap.size, 0, none⟩) 4 4) [la, lb, lc, ld] := by
  have hbel : Below w.heap.size w (w.alloc (.cells #[a, b, c, d] t)) := (Below.refl _ _).alloc (Nat.le_refl _) _
  obtain ⟨h1, h2, h3, h4⟩ := at4_new w a b c d t
  refine ⟨_, 4, rfl, by simp, by unfold maxLen; omega, by simp, Or.inr ⟨_, 0, rfl, fun j hj => ?_⟩⟩
  have hj' : j < 4 := by simpa using hj
  rw [Nat.zero_add]
  match j, hj' with
  | 0, _ => exact ⟨a, h1, ha.below hbel⟩
  | 1, _ => exact ⟨b, h2, hb.below hbel⟩
  | 2, _ => exact ⟨c, h3, hc.below hbel⟩
  | 3, _ => exact ⟨d, h4, hd.below hbel⟩

theorem part_cells {w : World} {bs : List UInt8} {b off cap : Nat} (h : Row w (.slice (some ⟨b, off, none⟩) bs.length cap) bs) (i to : Nat) (hi : i * 440 ≤ bs.length) (hto : to = min (i * 440 + 440) bs.length) :
    Row w (.slice (some ⟨b, off + i * 440, none⟩) (to - i * 440) (to - i * 440)) (partN bs i) := by
  have hl := length_part bs i
  have hll : (partN bs i).length = to - i * 440 := by omega
  obtain ⟨a, c, e, h1, h2, h3, h4⟩ := h
  simp only [Value.slice.injEq, true_and] at e
  obtain ⟨rfl, rfl⟩ := e
  refine ⟨_, _, by rw [hll], by omega, by omega, by simp, ?_⟩
  rcases h4 with h4 | ⟨b', off', e, hc⟩
  · subst h4
    left
    simp [partN]
  · simp only [Option.some.injEq, Addr.mk.injEq, and_true] at e
    obtain ⟨rfl, rfl⟩ := e
    refine Or.inr ⟨b, off + i * 440, rfl, fun j hj => ?_⟩
    rw [Nat.add_assoc, hc _ (by omega)]
    simp [partN]
end Go.Proofs.Ytehnjanllemnlaa

/- A slice of frames: its cells, its parts. Nothing here speaks of what the program does. -/
namespace Go.Proofs.Ytehnjanllemnlaa
open Go.RowKit

theorem slice_of_row {w : World} {s : Value} {bs : List UInt8} (h : Row w s bs) : ∃ p l c, s = .slice p l c := by
  obtain ⟨p, c, l, e, _⟩ := h.shape
  exact ⟨p, l, c, e⟩

/-- The four cells of a frame whose data is the slice p.2. -/
def frC (p : Fr × Value) : List Value := [.int .u64 (p.1.age : Int), .int .u64 (p.1.first : Int), .int .i64 p.1.of, p.2]
def cellsL (l : List (Fr × Value)) : List Value := l.flatMap frC
theorem cellsL_append (a b : List (Fr × Value)) : cellsL (a ++ b) = cellsL a ++ cellsL b := by simp [cellsL]
theorem length_cellsL (l : List (Fr × Value)) : (cellsL l).length = l.length * 4 := by
  induction l with
  | nil => rfl
  | cons p l ih => simp only [cellsL, List.flatMap_cons, List.length_append, List.length_cons] at *; rw [ih]; simp [frC]; omega
theorem cellsL_get : ∀ (l : List (Fr × Value)) (j : Nat) (h : j < l.length) (i : Nat), i < 4 → (cellsL l)[j * 4 + i]? = (frC l[j])[i]?
  | p :: l, 0, h, i, hi => by
    simp only [cellsL, List.flatMap_cons, List.getElem_cons_zero, Nat.zero_mul, Nat.zero_add]
    rw [List.getElem?_append_left (by simp [frC]; omega)]
  | p :: l, j + 1, h, i, hi => by
    have := cellsL_get l j (by simpa using h) i hi
    simp only [cellsL, List.flatMap_cons, List.getElem_cons_succ] at *
    rw [List.getElem?_append_right (by simp [frC]; omega), ← this]
    congr 1
    simp [frC]
    omega

/-- A slice value that reads as these frames, each with the slice of its data. -/
def FL (w : World) (v : Value) (l : List (Fr × Value)) : Prop :=
  (∃ (a : Option Addr) (cap : Nat), v = .slice a l.length cap ∧ l.length ≤ cap ∧ cap ≤ maxLen ∧ (a = none → cap = 0) ∧
    (l = [] ∨ ∃ b off, a = some ⟨b, off, none⟩ ∧ ∀ j u, (cellsL l)[j]? = some u → w.cell? ⟨b, off + j, none⟩ = some u)) ∧
  ∀ p ∈ l, Row w p.2 p.1.data ∧ p.1.ok
/-- The frames. -/
def frs (l : List (Fr × Value)) : List Fr := l.map Prod.fst

theorem FL.nil (w : World) : FL w (.slice none 0 0) [] := ⟨⟨none, 0, rfl, Nat.le_refl _, by unfold maxLen; omega, fun _ => rfl, Or.inl rfl⟩, by simp⟩
theorem FL.below {w w' : World} {v : Value} {l : List (Fr × Value)} (h : FL w v l) (hb : Below w.heap.size w w') : FL w' v l := by
  obtain ⟨⟨a, cap, e, h1, h2, h3, h4⟩, h5⟩ := h
  refine ⟨⟨a, cap, e, h1, h2, h3, ?_⟩, fun p hp => ⟨(h5 p hp).1.below hb, (h5 p hp).2⟩⟩
  rcases h4 with h4 | ⟨b, off, ha, hc⟩
  · exact Or.inl h4
  · exact Or.inr ⟨b, off, ha, fun j u hu => (hb.cell (World.block_lt_of_cell? w _ (hc j u hu))).trans (hc j u hu)⟩
theorem FL.shape {w : World} {v : Value} {l : List (Fr × Value)} (h : FL w v l) : ∃ (a : Option Addr) (cap : Nat), v = .slice a l.length cap ∧ l.length ≤ cap ∧ cap ≤ maxLen ∧ (a = none → cap = 0) := by
  obtain ⟨⟨a, cap, e, h1, h2, h3, h4⟩, h5⟩ := h
  exact ⟨a, cap, e, h1, h2, h3⟩
theorem at4_of {w : World} {b off : Nat} {l : List (Fr × Value)} (hc : ∀ j u, (cellsL l)[j]? = some u → w.cell? ⟨b, off + j, none⟩ = some u) (j : Nat) (hj : j < l.length) :
    At4 w b (off + j * 4) (.int .u64 (l[j].1.age : Int)) (.int .u64 (l[j].1.first : Int)) (.int .i64 l[j].1.of) l[j].2 := by
  have h0 := hc (j * 4 + 0) _ (cellsL_get l j hj 0 (by omega))
  have h1 := hc (j * 4 + 1) _ (cellsL_get l j hj 1 (by omega))
  have h2 := hc (j * 4 + 2) _ (cellsL_get l j hj 2 (by omega))
  have h3 := hc (j * 4 + 3) _ (cellsL_get l j hj 3 (by omega))
  exact ⟨h0, h1, h2, h3⟩
theorem FL.open {w : World} {v : Value} {l : List (Fr × Value)} (h : FL w v l) (hne : l ≠ []) :
    ∃ b off cap, v = .slice (some ⟨b, off, none⟩) l.length cap ∧ l.length ≤ cap ∧ cap ≤ maxLen ∧ (∀ j u, (cellsL l)[j]? = some u → w.cell? ⟨b, off + j, none⟩ = some u) ∧
      ∀ j (h : j < l.length), At4 w b (off + j * 4) (.int .u64 (l[j].1.age : Int)) (.int .u64 (l[j].1.first : Int)) (.int .i64 l[j].1.of) l[j].2 ∧ Row w l[j].2 l[j].1.data := by
  obtain ⟨⟨a, cap, e, h1, h2, h3, h4⟩, h5⟩ := h
  rcases h4 with h4 | ⟨b, off, rfl, hc⟩
  · exact absurd h4 hne
  · exact ⟨b, off, cap, e, h1, h2, hc, fun j hj => ⟨at4_of hc j hj, (h5 _ (List.getElem_mem hj)).1⟩⟩
theorem FL.of_owns {w : World} {base e : Nat} {v : Value} {l : List (Fr × Value)} (h : w.ownsRow base e 4 v l.length (cellsL l)) (hr : ∀ p ∈ l, Row w p.2 p.1.data ∧ p.1.ok) : FL w v l := by
  refine ⟨?_, hr⟩
  rcases h.2 with ⟨rfl, h2⟩ | ⟨g, cap, cur, rfl, hg, hh, h1, h2, h3, h4⟩
  · have : l = [] := List.eq_nil_of_length_eq_zero h2
    subst this
    exact (FL.nil w).1
  · refine ⟨_, cap, rfl, h1, h2, by simp, Or.inr ⟨g, 0, rfl, fun j u hu => ?_⟩⟩
    rw [Nat.zero_add, cell_of_row w g j cur _ (0, 0) hh]
    rw [← h4] at hu
    obtain ⟨hj, rfl⟩ := List.getElem?_eq_some_iff.1 hu
    simp only [List.length_take, Array.length_toList] at hj
    rw [List.getElem_take, Array.getElem_toList]
    exact Array.getElem?_eq_getElem (by omega)
end Go.Proofs.Ytehnjanllemnlaa
