/- Texts of ours, one behind the other: QMem, Q1Mem, Q2Mem, QItems. -/
import Derived.Test.YtbccdaeejlkmcaaG4
import Derived.Test.YtbccdaeejlkmcaaG5
import Derived.Test.YtbccdaeejlkmcaaProg
/- A queue of things of two cells in memory: the line, and what moves in it. -/
namespace Go.Proofs.Ytbccdaeejlkmcaa
open Go.RowKit

abbrev It := Int × ByteArray
def itV (x : It) : Value := .agg #[.int .i64 x.1, .string x.2]
def itC (p : It × Nat) : List Value := [.int .i64 p.1.1, .string p.1.2, .int .u64 (p.2 : Int)]
def cellsQ (L : List (It × Nat)) : List Value := L.flatMap itC
theorem cellsQ_nil : cellsQ [] = [] := rfl
theorem cellsQ_cons (p : It × Nat) (L : List (It × Nat)) : cellsQ (p :: L) = itC p ++ cellsQ L := by simp [cellsQ]
theorem cellsQ_append (L M : List (It × Nat)) : cellsQ (L ++ M) = cellsQ L ++ cellsQ M := by simp [cellsQ]
theorem length_cellsQ (L : List (It × Nat)) : (cellsQ L).length = L.length * 3 := by
  induction L with
  | nil => rfl
  | cons p L ih => rw [cellsQ_cons, List.length_append, ih]; simp [itC]; omega
theorem cellsQ_get (L : List (It × Nat)) (i : Nat) (h : i < L.length) :
    (cellsQ L)[i * 3]? = some (.int .i64 L[i].1.1) ∧ (cellsQ L)[i * 3 + 1]? = some (.string L[i].1.2) ∧ (cellsQ L)[i * 3 + 2]? = some (.int .u64 (L[i].2 : Int)) := by
  induction L generalizing i with
  | nil => simp at h
  | cons p L ih =>
    rw [cellsQ_cons]
    cases i with
    | zero => simp [itC]
    | succ i =>
      have := ih i (by simpa using h)
      have e1 : (i + 1) * 3 = (itC p).length + i * 3 := by simp [itC]; omega
      rw [e1]
      refine ⟨?_, ?_, ?_⟩
      · rw [List.getElem?_append_right (by omega), Nat.add_sub_cancel_left]; exact this.1
      · rw [List.getElem?_append_right (by omega), show (itC p).length + i * 3 + 1 - (itC p).length = i * 3 + 1 by omega]; exact this.2.1
      · rw [List.getElem?_append_right (by omega), show (itC p).length + i * 3 + 2 - (itC p).length = i * 3 + 2 by omega]; exact this.2.2
theorem cellsQ_set (L : List (It × Nat)) (i : Nat) (x : It × Nat) (h : i < L.length) :
    (((cellsQ L).set (i * 3) (.int .i64 x.1.1)).set (i * 3 + 1) (.string x.1.2)).set (i * 3 + 2) (.int .u64 (x.2 : Int)) = cellsQ (L.set i x) := by
  induction L generalizing i with
  | nil => simp at h
  | cons p L ih =>
    cases i with
    | zero => simp [cellsQ_cons, itC]
    | succ i =>
      rw [List.set_cons_succ, cellsQ_cons, cellsQ_cons, ← ih i (by simpa using h)]
      have e1 : (i + 1) * 3 = (itC p).length + i * 3 := by simp [itC]; omega
      rw [e1, Nat.add_assoc, Nat.add_assoc]
      simp only [List.set_append_right _ _ (Nat.le_add_right _ _), Nat.add_sub_cancel_left]
theorem cellsQ_take (L : List (It × Nat)) (k : Nat) : cellsQ (L.take k) = (cellsQ L).take (k * 3) := by
  induction L generalizing k with
  | nil => simp [cellsQ]
  | cons p L ih =>
    cases k with
    | zero => simp [cellsQ]
    | succ k =>
      rw [List.take_succ_cons, cellsQ_cons, cellsQ_cons, ih]
      have e1 : (k + 1) * 3 = (itC p).length + k * 3 := by simp [itC]; omega
      rw [e1, List.take_length_add_append]
theorem oneCell_cellsQ (L : List (It × Nat)) : ∀ u ∈ cellsQ L, u.oneCell' = true := by
  intro u hu
  simp only [cellsQ, List.mem_flatMap] at hu
  obtain ⟨p, hp, hu⟩ := hu
  simp only [itC, List.mem_cons, List.not_mem_nil, or_false] at hu
  rcases hu with rfl | rfl | rfl <;> rfl

/-- The line of a queue: its block q (less, the items' slice, how many were pushed), and the items' row. -/
structure LQ (w : World) (q : Nat) (f : Value) (L : List (It × Nat)) (n : Nat) (v : Value) : Prop where
  blk : w.heap[q]? = some (.cells #[f, v, .int .u64 (n : Int)] 63 (0, 0))
  row : w.ownsRow 0 77 3 v L.length (cellsQ L)
  own : v.ownBlock ≠ some q
  small : L.length * 32 ≤ 140737488355328
/-- Its blocks. -/
def QF (q : Nat) (v : Value) (k : Nat) : Prop := k = q ∨ v.ownBlock = some k

theorem owns_keep {F : Nat → Prop} {w w' : World} {base e sz : Nat} {v : Value} {n : Nat} {xs : List Value} (h : w.ownsRow base e sz v n xs) (hk : Keep F w w') (hn : ∀ k, v.ownBlock = some k → ¬ F k) : w'.ownsRow base e sz v n xs := by
  refine ⟨h.1, ?_⟩
  rcases h.2 with h2 | ⟨g, cap, cur, rfl, hg, hh, r⟩
  · exact Or.inl h2
  · exact Or.inr ⟨g, cap, cur, rfl, hg, (hk.block g (Array.getElem?_eq_some_iff.1 hh).1 (hn g rfl)).trans hh, r⟩
theorem LQ.lt {w : World} {q n : Nat} {f v : Value} {L : List (It × Nat)} (h : LQ w q f L n v) : ∀ k, QF q v k → k < w.heap.size := by
  rintro k (rfl | hk)
  · exact (Array.getElem?_eq_some_iff.1 h.blk).1
  · exact (h.row.lt k hk).2
theorem LQ.keep {F : Nat → Prop} {w w' : World} {q n : Nat} {f v : Value} {L : List (It × Nat)} (h : LQ w q f L n v) (hk : Keep F w w') (hn : ∀ k, QF q v k → ¬ F k) : LQ w' q f L n v :=
  ⟨(hk.block q (h.lt q (Or.inl rfl)) (hn q (Or.inl rfl))).trans h.blk, owns_keep h.row hk (fun k e => hn k (Or.inr e)), h.own, h.small⟩
theorem LQ.below {w w' : World} {q n : Nat} {f v : Value} {L : List (It × Nat)} (h : LQ w q f L n v) (hb : Below w.heap.size w w') : LQ w' q f L n v :=
  h.keep (F := fun _ => False) (Keep.of_below hb) (fun _ _ => id)
theorem LQ.cells {w : World} {q n : Nat} {f v : Value} {L : List (It × Nat)} (h : LQ w q f L n v) :
    w.cell? ⟨q, 0, none⟩ = some f ∧ w.cell? ⟨q, 1, none⟩ = some v ∧ w.cell? ⟨q, 2, none⟩ = some (.int .u64 (n : Int)) ∧ ∀ j, w.frozen? ⟨q, j, none⟩ = false := by
  refine ⟨?_, ?_, ?_, fun j => by simp [World.frozen?, h.blk]⟩
  all_goals (rw [cell_of_row w q _ _ _ (0, 0) h.blk]; rfl)
/-- A line that is not empty, laid open. -/
theorem LQ.open {w : World} {q n : Nat} {f v : Value} {L : List (It × Nat)} (h : LQ w q f L n v) (h0 : 0 < L.length) :
    ∃ g cap, v = .slice (some ⟨g, 0, none⟩) L.length cap ∧ g ≠ q ∧ g < w.heap.size ∧ L.length ≤ cap ∧ cap ≤ maxLen ∧ (∀ j, w.frozen? ⟨g, j, none⟩ = false) ∧
      ∀ i (hi : i < L.length), w.cell? ⟨g, i * 3, none⟩ = some (.int .i64 L[i].1.1) ∧ w.cell? ⟨g, i * 3 + 1, none⟩ = some (.string L[i].1.2) ∧ w.cell? ⟨g, i * 3 + 2, none⟩ = some (.int .u64 (L[i].2 : Int)) := by
  have hr := h.row
  rcases hr.2 with ⟨_, e⟩ | ⟨g, cap, cur, rfl, hb, hh, h1, h2, h3, h4⟩
  · omega
  · refine ⟨g, cap, rfl, fun e => h.own (by simp [Value.ownBlock, e]), (Array.getElem?_eq_some_iff.1 hh).1, h1, h2, fun j => hr.frozenAt j, fun i hi => ?_⟩
    obtain ⟨c1, c2, c3⟩ := cellsQ_get L i hi
    refine ⟨?_, ?_, ?_⟩
    · rw [hr.cellAt (i * 3) (by omega)]; exact c1
    · rw [hr.cellAt (i * 3 + 1) (by omega)]; exact c2
    · rw [hr.cellAt (i * 3 + 2) (by omega)]; exact c3
theorem LQ.shape {w : World} {q n : Nat} {f v : Value} {L : List (It × Nat)} (h : LQ w q f L n v) : ∃ p cap, v = .slice p L.length cap ∧ (p = none → L.length = 0 ∧ cap = 0) ∧ L.length ≤ cap ∧ cap ≤ maxLen := by
  rcases h.row.2 with ⟨rfl, e⟩ | ⟨g, cap, cur, rfl, hb, hh, h1, h2, _⟩
  · exact ⟨none, 0, by rw [e], fun _ => ⟨e, rfl⟩, by omega, by unfold maxLen; omega⟩
  · exact ⟨_, cap, rfl, fun e => (nomatch e), h1, h2⟩

/-- The i-th item is overwritten. -/
theorem LQ.set {w : World} {q n g cap : Nat} {f : Value} {L : List (It × Nat)} (h : LQ w q f L n (.slice (some ⟨g, 0, none⟩) L.length cap)) (i : Nat) (hi : i < L.length) (x : It × Nat) :
    LQ (((w.setCell ⟨g, i * 3, none⟩ (.int .i64 x.1.1)).setCell ⟨g, i * 3 + 1, none⟩ (.string x.1.2)).setCell ⟨g, i * 3 + 2, none⟩ (.int .u64 (x.2 : Int))) q f (L.set i x) n (.slice (some ⟨g, 0, none⟩) (L.set i x).length cap) ∧
    Keep (fun k => k = g) w (((w.setCell ⟨g, i * 3, none⟩ (.int .i64 x.1.1)).setCell ⟨g, i * 3 + 1, none⟩ (.string x.1.2)).setCell ⟨g, i * 3 + 2, none⟩ (.int .u64 (x.2 : Int))) := by
  obtain ⟨r1, g1⟩ := h.row.stored (i * 3) (.int .i64 x.1.1)
  obtain ⟨r2, g2⟩ := r1.stored (i * 3 + 1) (.string x.1.2)
  obtain ⟨r3, g3⟩ := r2.stored (i * 3 + 2) (.int .u64 (x.2 : Int))
  have hg := grown_trans (grown_trans g1 g2) g3
  have hk : Keep (fun k => k = g) w (((w.setCell ⟨g, i * 3, none⟩ (.int .i64 x.1.1)).setCell ⟨g, i * 3 + 1, none⟩ (.string x.1.2)).setCell ⟨g, i * 3 + 2, none⟩ (.int .u64 (x.2 : Int))) :=
    ⟨hg.os, hg.tape, hg.output, hg.size, fun k hk hn => hg.block k hk (fun e => hn (by simpa using e))⟩
  have hq : g ≠ q := fun e => h.own (by simp [Value.ownBlock, e])
  refine ⟨⟨?_, ?_, ?_, by rw [List.length_set]; exact h.small⟩, hk⟩
  · rw [List.length_set]
    exact (hk.block q (h.lt q (Or.inl rfl)) (fun e => hq e.symm)).trans h.blk
  · rw [List.length_set, ← cellsQ_set L i x hi]
    exact r3
  · simpa [Value.ownBlock] using hq
end Go.Proofs.Ytbccdaeejlkmcaa

/- A queue of things of one cell in memory: the line, and what moves in it. -/
namespace Go.Proofs.Ytbccdaeejlkmcaa.K1
open Go.RowKit

abbrev It := ByteArray
def itV (x : It) : Value := .string x
def itC (p : It × Nat) : List Value := [.string p.1, .int .u64 (p.2 : Int)]
def cellsQ (L : List (It × Nat)) : List Value := L.flatMap itC
theorem cellsQ_nil : cellsQ [] = [] := rfl
theorem cellsQ_cons (p : It × Nat) (L : List (It × Nat)) : cellsQ (p :: L) = itC p ++ cellsQ L := by simp [cellsQ]
theorem cellsQ_append (L M : List (It × Nat)) : cellsQ (L ++ M) = cellsQ L ++ cellsQ M := by simp [cellsQ]
theorem length_cellsQ (L : List (It × Nat)) : (cellsQ L).length = L.length * 2 := by
  induction L with
  | nil => rfl
  | cons p L ih => rw [cellsQ_cons, List.length_append, ih]; simp [itC]; omega
theorem cellsQ_get (L : List (It × Nat)) (i : Nat) (h : i < L.length) :
    (cellsQ L)[i * 2]? = some (.string L[i].1) ∧ (cellsQ L)[i * 2 + 1]? = some (.int .u64 (L[i].2 : Int)) := by
  induction L generalizing i with
  | nil => simp at h
  | cons p L ih =>
    rw [cellsQ_cons]
    cases i with
    | zero => simp [itC]
    | succ i =>
      have := ih i (by simpa using h)
      have e1 : (i + 1) * 2 = (itC p).length + i * 2 := by simp [itC]; omega
      rw [e1]
      refine ⟨?_, ?_⟩
      · rw [List.getElem?_append_right (by omega), Nat.add_sub_cancel_left]; exact this.1
      · rw [List.getElem?_append_right (by omega), show (itC p).length + i * 2 + 1 - (itC p).length = i * 2 + 1 by omega]; exact this.2
theorem cellsQ_set (L : List (It × Nat)) (i : Nat) (x : It × Nat) (h : i < L.length) :
    ((cellsQ L).set (i * 2) (.string x.1)).set (i * 2 + 1) (.int .u64 (x.2 : Int)) = cellsQ (L.set i x) := by
  induction L generalizing i with
  | nil => simp at h
  | cons p L ih =>
    cases i with
    | zero => simp [cellsQ_cons, itC]
    | succ i =>
      rw [List.set_cons_succ, cellsQ_cons, cellsQ_cons, ← ih i (by simpa using h)]
      have e1 : (i + 1) * 2 = (itC p).length + i * 2 := by simp [itC]; omega
      rw [e1, Nat.add_assoc]
      simp only [List.set_append_right _ _ (Nat.le_add_right _ _), Nat.add_sub_cancel_left]
theorem cellsQ_take (L : List (It × Nat)) (k : Nat) : cellsQ (L.take k) = (cellsQ L).take (k * 2) := by
  induction L generalizing k with
  | nil => simp [cellsQ]
  | cons p L ih =>
    cases k with
    | zero => simp [cellsQ]
    | succ k =>
      rw [List.take_succ_cons, cellsQ_cons, cellsQ_cons, ih]
      have e1 : (k + 1) * 2 = (itC p).length + k * 2 := by simp [itC]; omega
      rw [e1, List.take_length_add_append]
theorem oneCell_cellsQ (L : List (It × Nat)) : ∀ u ∈ cellsQ L, u.oneCell' = true := by
  intro u hu
  simp only [cellsQ, List.mem_flatMap] at hu
  obtain ⟨p, hp, hu⟩ := hu
  simp only [itC, List.mem_cons, List.not_mem_nil, or_false] at hu
  rcases hu with rfl | rfl <;> rfl

/-- The line of a queue: its block q (less, the items' slice, how many were pushed), and the items' row. -/
structure LQ (w : World) (q : Nat) (f : Value) (L : List (It × Nat)) (n : Nat) (v : Value) : Prop where
  blk : w.heap[q]? = some (.cells #[f, v, .int .u64 (n : Int)] 52 (0, 0))
  row : w.ownsRow 0 70 2 v L.length (cellsQ L)
  own : v.ownBlock ≠ some q
  small : L.length * 24 ≤ 140737488355328
/-- Its blocks. -/
def QF (q : Nat) (v : Value) (k : Nat) : Prop := k = q ∨ v.ownBlock = some k

theorem owns_keep {F : Nat → Prop} {w w' : World} {base e sz : Nat} {v : Value} {n : Nat} {xs : List Value} (h : w.ownsRow base e sz v n xs) (hk : Keep F w w') (hn : ∀ k, v.ownBlock = some k → ¬ F k) : w'.ownsRow base e sz v n xs := by
  refine ⟨h.1, ?_⟩
  rcases h.2 with h2 | ⟨g, cap, cur, rfl, hg, hh, r⟩
  · exact Or.inl h2
  · exact Or.inr ⟨g, cap, cur, rfl, hg, (hk.block g (Array.getElem?_eq_some_iff.1 hh).1 (hn g rfl)).trans hh, r⟩
theorem LQ.lt {w : World} {q n : Nat} {f v : Value} {L : List (It × Nat)} (h : LQ w q f L n v) : ∀ k, QF q v k → k < w.heap.size := by
  rintro k (rfl | hk)
  · exact (Array.getElem?_eq_some_iff.1 h.blk).1
  · exact (h.row.lt k hk).2
theorem LQ.keep {F : Nat → Prop} {w w' : World} {q n : Nat} {f v : Value} {L : List (It × Nat)} (h : LQ w q f L n v) (hk : Keep F w w') (hn : ∀ k, QF q v k → ¬ F k) : LQ w' q f L n v :=
  ⟨(hk.block q (h.lt q (Or.inl rfl)) (hn q (Or.inl rfl))).trans h.blk, owns_keep h.row hk (fun k e => hn k (Or.inr e)), h.own, h.small⟩
theorem LQ.below {w w' : World} {q n : Nat} {f v : Value} {L : List (It × Nat)} (h : LQ w q f L n v) (hb : Below w.heap.size w w') : LQ w' q f L n v :=
  h.keep (F := fun _ => False) (Keep.of_below hb) (fun _ _ => id)
theorem LQ.cells {w : World} {q n : Nat} {f v : Value} {L : List (It × Nat)} (h : LQ w q f L n v) :
    w.cell? ⟨q, 0, none⟩ = some f ∧ w.cell? ⟨q, 1, none⟩ = some v ∧ w.cell? ⟨q, 2, none⟩ = some (.int .u64 (n : Int)) ∧ ∀ j, w.frozen? ⟨q, j, none⟩ = false := by
  refine ⟨?_, ?_, ?_, fun j => by simp [World.frozen?, h.blk]⟩
  all_goals (rw [cell_of_row w q _ _ _ (0, 0) h.blk]; rfl)
/-- A line that is not empty, laid open. -/
theorem LQ.open {w : World} {q n : Nat} {f v : Value} {L : List (It × Nat)} (h : LQ w q f L n v) (h0 : 0 < L.length) :
    ∃ g cap, v = .slice (some ⟨g, 0, none⟩) L.length cap ∧ g ≠ q ∧ g < w.heap.size ∧ L.length ≤ cap ∧ cap ≤ maxLen ∧ (∀ j, w.frozen? ⟨g, j, none⟩ = false) ∧
      ∀ i (hi : i < L.length), w.cell? ⟨g, i * 2, none⟩ = some (.string L[i].1) ∧ w.cell? ⟨g, i * 2 + 1, none⟩ = some (.int .u64 (L[i].2 : Int)) := by
  have hr := h.row
  rcases hr.2 with ⟨_, e⟩ | ⟨g, cap, cur, rfl, hb, hh, h1, h2, h3, h4⟩
  · omega
  · refine ⟨g, cap, rfl, fun e => h.own (by simp [Value.ownBlock, e]), (Array.getElem?_eq_some_iff.1 hh).1, h1, h2, fun j => hr.frozenAt j, fun i hi => ?_⟩
    obtain ⟨c1, c2⟩ := cellsQ_get L i hi
    refine ⟨?_, ?_⟩
    · rw [hr.cellAt (i * 2) (by omega)]; exact c1
    · rw [hr.cellAt (i * 2 + 1) (by omega)]; exact c2
theorem LQ.shape {w : World} {q n : Nat} {f v : Value} {L : List (It × Nat)} (h : LQ w q f L n v) : ∃ p cap, v = .slice p L.length cap ∧ (p = none → L.length = 0 ∧ cap = 0) ∧ L.length ≤ cap ∧ cap ≤ maxLen := by
  rcases h.row.2 with ⟨rfl, e⟩ | ⟨g, cap, cur, rfl, hb, hh, h1, h2, _⟩
  · exact ⟨none, 0, by rw [e], fun _ => ⟨e, rfl⟩, by omega, by unfold maxLen; omega⟩
  · exact ⟨_, cap, rfl, fun e => (nomatch e), h1, h2⟩

/-- The i-th item is overwritten. -/
theorem LQ.set {w : World} {q n g cap : Nat} {f : Value} {L : List (It × Nat)} (h : LQ w q f L n (.slice (some ⟨g, 0, none⟩) L.length cap)) (i : Nat) (hi : i < L.length) (x : It × Nat) :
    LQ ((w.setCell ⟨g, i * 2, none⟩ (.string x.1)).setCell ⟨g, i * 2 + 1, none⟩ (.int .u64 (x.2 : Int))) q f (L.set i x) n (.slice (some ⟨g, 0, none⟩) (L.set i x).length cap) ∧
    Keep (fun k => k = g) w ((w.setCell ⟨g, i * 2, none⟩ (.string x.1)).setCell ⟨g, i * 2 + 1, none⟩ (.int .u64 (x.2 : Int))) := by
  obtain ⟨r1, g1⟩ := h.row.stored (i * 2) (.string x.1)
  obtain ⟨r2, g2⟩ := r1.stored (i * 2 + 1) (.int .u64 (x.2 : Int))
  have hg := grown_trans g1 g2
  have hk : Keep (fun k => k = g) w ((w.setCell ⟨g, i * 2, none⟩ (.string x.1)).setCell ⟨g, i * 2 + 1, none⟩ (.int .u64 (x.2 : Int))) :=
    ⟨hg.os, hg.tape, hg.output, hg.size, fun k hk hn => hg.block k hk (fun e => hn (by simpa using e))⟩
  have hq : g ≠ q := fun e => h.own (by simp [Value.ownBlock, e])
  refine ⟨⟨?_, ?_, ?_, by rw [List.length_set]; exact h.small⟩, hk⟩
  · rw [List.length_set]
    exact (hk.block q (h.lt q (Or.inl rfl)) (fun e => hq e.symm)).trans h.blk
  · rw [List.length_set, ← cellsQ_set L i x hi]
    exact r2
  · simpa [Value.ownBlock] using hq
end Go.Proofs.Ytbccdaeejlkmcaa.K1

/- A queue of things of two cells in memory: the line, and what moves in it. -/
namespace Go.Proofs.Ytbccdaeejlkmcaa.K2
open Go.RowKit

abbrev It := ByteArray × ByteArray
def itV (x : It) : Value := .agg #[.string x.1, .string x.2]
def itC (p : It × Nat) : List Value := [.string p.1.1, .string p.1.2, .int .u64 (p.2 : Int)]
def cellsQ (L : List (It × Nat)) : List Value := L.flatMap itC
theorem cellsQ_nil : cellsQ [] = [] := rfl
theorem cellsQ_cons (p : It × Nat) (L : List (It × Nat)) : cellsQ (p :: L) = itC p ++ cellsQ L := by simp [cellsQ]
theorem cellsQ_append (L M : List (It × Nat)) : cellsQ (L ++ M) = cellsQ L ++ cellsQ M := by simp [cellsQ]
theorem length_cellsQ (L : List (It × Nat)) : (cellsQ L).length = L.length * 3 := by
  induction L with
  | nil => rfl
  | cons p L ih => rw [cellsQ_cons, List.length_append, ih]; simp [itC]; omega
theorem cellsQ_get (L : List (It × Nat)) (i : Nat) (h : i < L.length) :
    (cellsQ L)[i * 3]? = some (.string L[i].1.1) ∧ (cellsQ L)[i * 3 + 1]? = some (.string L[i].1.2) ∧ (cellsQ L)[i * 3 + 2]? = some (.int .u64 (L[i].2 : Int)) := by
  induction L generalizing i with
  | nil => simp at h
  | cons p L ih =>
    rw [cellsQ_cons]
    cases i with
    | zero => simp [itC]
    | succ i =>
      have := ih i (by simpa using h)
      have e1 : (i + 1) * 3 = (itC p).length + i * 3 := by simp [itC]; omega
      rw [e1]
      refine ⟨?_, ?_, ?_⟩
      · rw [List.getElem?_append_right (by omega), Nat.add_sub_cancel_left]; exact this.1
      · rw [List.getElem?_append_right (by omega), show (itC p).length + i * 3 + 1 - (itC p).length = i * 3 + 1 by omega]; exact this.2.1
      · rw [List.getElem?_append_right (by omega), show (itC p).length + i * 3 + 2 - (itC p).length = i * 3 + 2 by omega]; exact this.2.2
theorem cellsQ_set (L : List (It × Nat)) (i : Nat) (x : It × Nat) (h : i < L.length) :
    (((cellsQ L).set (i * 3) (.string x.1.1)).set (i * 3 + 1) (.string x.1.2)).set (i * 3 + 2) (.int .u64 (x.2 : Int)) = cellsQ (L.set i x) := by
  induction L generalizing i with
  | nil => simp at h
  | cons p L ih =>
    cases i with
    | zero => simp [cellsQ_cons, itC]
    | succ i =>
      rw [List.set_cons_succ, cellsQ_cons, cellsQ_cons, ← ih i (by simpa using h)]
      have e1 : (i + 1) * 3 = (itC p).length + i * 3 := by simp [itC]; omega
      rw [e1, Nat.add_assoc, Nat.add_assoc]
      simp only [List.set_append_right _ _ (Nat.le_add_right _ _), Nat.add_sub_cancel_left]
theorem cellsQ_take (L : List (It × Nat)) (k : Nat) : cellsQ (L.take k) = (cellsQ L).take (k * 3) := by
  induction L generalizing k with
  | nil => simp [cellsQ]
  | cons p L ih =>
    cases k with
    | zero => simp [cellsQ]
    | succ k =>
      rw [List.take_succ_cons, cellsQ_cons, cellsQ_cons, ih]
      have e1 : (k + 1) * 3 = (itC p).length + k * 3 := by simp [itC]; omega
      rw [e1, List.take_length_add_append]
theorem oneCell_cellsQ (L : List (It × Nat)) : ∀ u ∈ cellsQ L, u.oneCell' = true := by
  intro u hu
  simp only [cellsQ, List.mem_flatMap] at hu
  obtain ⟨p, hp, hu⟩ := hu
  simp only [itC, List.mem_cons, List.not_mem_nil, or_false] at hu
  rcases hu with rfl | rfl | rfl <;> rfl

/-- The line of a queue: its block q (less, the items' slice, how many were pushed), and the items' row. -/
structure LQ (w : World) (q : Nat) (f : Value) (L : List (It × Nat)) (n : Nat) (v : Value) : Prop where
  blk : w.heap[q]? = some (.cells #[f, v, .int .u64 (n : Int)] 57 (0, 0))
  row : w.ownsRow 0 74 3 v L.length (cellsQ L)
  own : v.ownBlock ≠ some q
  small : L.length * 40 ≤ 140737488355328
/-- Its blocks. -/
def QF (q : Nat) (v : Value) (k : Nat) : Prop := k = q ∨ v.ownBlock = some k

theorem owns_keep {F : Nat → Prop} {w w' : World} {base e sz : Nat} {v : Value} {n : Nat} {xs : List Value} (h : w.ownsRow base e sz v n xs) (hk : Keep F w w') (hn : ∀ k, v.ownBlock = some k → ¬ F k) : w'.ownsRow base e sz v n xs := by
  refine ⟨h.1, ?_⟩
  rcases h.2 with h2 | ⟨g, cap, cur, rfl, hg, hh, r⟩
  · exact Or.inl h2
  · exact Or.inr ⟨g, cap, cur, rfl, hg, (hk.block g (Array.getElem?_eq_some_iff.1 hh).1 (hn g rfl)).trans hh, r⟩
theorem LQ.lt {w : World} {q n : Nat} {f v : Value} {L : List (It × Nat)} (h : LQ w q f L n v) : ∀ k, QF q v k → k < w.heap.size := by
  rintro k (rfl | hk)
  · exact (Array.getElem?_eq_some_iff.1 h.blk).1
  · exact (h.row.lt k hk).2
theorem LQ.keep {F : Nat → Prop} {w w' : World} {q n : Nat} {f v : Value} {L : List (It × Nat)} (h : LQ w q f L n v) (hk : Keep F w w') (hn : ∀ k, QF q v k → ¬ F k) : LQ w' q f L n v :=
  ⟨(hk.block q (h.lt q (Or.inl rfl)) (hn q (Or.inl rfl))).trans h.blk, owns_keep h.row hk (fun k e => hn k (Or.inr e)), h.own, h.small⟩
theorem LQ.below {w w' : World} {q n : Nat} {f v : Value} {L : List (It × Nat)} (h : LQ w q f L n v) (hb : Below w.heap.size w w') : LQ w' q f L n v :=
  h.keep (F := fun _ => False) (Keep.of_below hb) (fun _ _ => id)
theorem LQ.cells {w : World} {q n : Nat} {f v : Value} {L : List (It × Nat)} (h : LQ w q f L n v) :
    w.cell? ⟨q, 0, none⟩ = some f ∧ w.cell? ⟨q, 1, none⟩ = some v ∧ w.cell? ⟨q, 2, none⟩ = some (.int .u64 (n : Int)) ∧ ∀ j, w.frozen? ⟨q, j, none⟩ = false := by
  refine ⟨?_, ?_, ?_, fun j => by simp [World.frozen?, h.blk]⟩
  all_goals (rw [cell_of_row w q _ _ _ (0, 0) h.blk]; rfl)
/-- A line that is not empty, laid open. -/
theorem LQ.open {w : World} {q n : Nat} {f v : Value} {L : List (It × Nat)} (h : LQ w q f L n v) (h0 : 0 < L.length) :
    ∃ g cap, v = .slice (some ⟨g, 0, none⟩) L.length cap ∧ g ≠ q ∧ g < w.heap.size ∧ L.length ≤ cap ∧ cap ≤ maxLen ∧ (∀ j, w.frozen? ⟨g, j, none⟩ = false) ∧
      ∀ i (hi : i < L.length), w.cell? ⟨g, i * 3, none⟩ = some (.string L[i].1.1) ∧ w.cell? ⟨g, i * 3 + 1, none⟩ = some (.string L[i].1.2) ∧ w.cell? ⟨g, i * 3 + 2, none⟩ = some (.int .u64 (L[i].2 : Int)) := by
  have hr := h.row
  rcases hr.2 with ⟨_, e⟩ | ⟨g, cap, cur, rfl, hb, hh, h1, h2, h3, h4⟩
  · omega
  · refine ⟨g, cap, rfl, fun e => h.own (by simp [Value.ownBlock, e]), (Array.getElem?_eq_some_iff.1 hh).1, h1, h2, fun j => hr.frozenAt j, fun i hi => ?_⟩
    obtain ⟨c1, c2, c3⟩ := cellsQ_get L i hi
    refine ⟨?_, ?_, ?_⟩
    · rw [hr.cellAt (i * 3) (by omega)]; exact c1
    · rw [hr.cellAt (i * 3 + 1) (by omega)]; exact c2
    · rw [hr.cellAt (i * 3 + 2) (by omega)]; exact c3
theorem LQ.shape {w : World} {q n : Nat} {f v : Value} {L : List (It × Nat)} (h : LQ w q f L n v) : ∃ p cap, v = .slice p L.length cap ∧ (p = none → L.length = 0 ∧ cap = 0) ∧ L.length ≤ cap ∧ cap ≤ maxLen := by
  rcases h.row.2 with ⟨rfl, e⟩ | ⟨g, cap, cur, rfl, hb, hh, h1, h2, _⟩
  · exact ⟨none, 0, by rw [e], fun _ => ⟨e, rfl⟩, by omega, by unfold maxLen; omega⟩
  · exact ⟨_, cap, rfl, fun e => (nomatch e), h1, h2⟩

/-- The i-th item is overwritten. -/
theorem LQ.set {w : World} {q n g cap : Nat} {f : Value} {L : List (It × Nat)} (h : LQ w q f L n (.slice (some ⟨g, 0, none⟩) L.length cap)) (i : Nat) (hi : i < L.length) (x : It × Nat) :
    LQ (((w.setCell ⟨g, i * 3, none⟩ (.string x.1.1)).setCell ⟨g, i * 3 + 1, none⟩ (.string x.1.2)).setCell ⟨g, i * 3 + 2, none⟩ (.int .u64 (x.2 : Int))) q f (L.set i x) n (.slice (some ⟨g, 0, none⟩) (L.set i x).length cap) ∧
    Keep (fun k => k = g) w (((w.setCell ⟨g, i * 3, none⟩ (.string x.1.1)).setCell ⟨g, i * 3 + 1, none⟩ (.string x.1.2)).setCell ⟨g, i * 3 + 2, none⟩ (.int .u64 (x.2 : Int))) := by
  obtain ⟨r1, g1⟩ := h.row.stored (i * 3) (.string x.1.1)
  obtain ⟨r2, g2⟩ := r1.stored (i * 3 + 1) (.string x.1.2)
  obtain ⟨r3, g3⟩ := r2.stored (i * 3 + 2) (.int .u64 (x.2 : Int))
  have hg := grown_trans (grown_trans g1 g2) g3
  have hk : Keep (fun k => k = g) w (((w.setCell ⟨g, i * 3, none⟩ (.string x.1.1)).setCell ⟨g, i * 3 + 1, none⟩ (.string x.1.2)).setCell ⟨g, i * 3 + 2, none⟩ (.int .u64 (x.2 : Int))) :=
    ⟨hg.os, hg.tape, hg.output, hg.size, fun k hk hn => hg.block k hk (fun e => hn (by simpa using e))⟩
  have hq : g ≠ q := fun e => h.own (by simp [Value.ownBlock, e])
  refine ⟨⟨?_, ?_, ?_, by rw [List.length_set]; exact h.small⟩, hk⟩
  · rw [List.length_set]
    exact (hk.block q (h.lt q (Or.inl rfl)) (fun e => hq e.symm)).trans h.blk
  · rw [List.length_set, ← cellsQ_set L i x hi]
    exact r3
  · simpa [Value.ownBlock] using hq
end Go.Proofs.Ytbccdaeejlkmcaa.K2

/- Rows of items. -/
namespace Go.Proofs.Ytbccdaeejlkmcaa
open Go.RowKit
def iC (x : It) : List Value := [.int .i64 x.1, .string x.2]
def cellsI (l : List It) : List Value := l.flatMap iC
theorem cellsI_cons (x : It) (l : List It) : cellsI (x :: l) = iC x ++ cellsI l := by simp [cellsI]
theorem cellsI_append (l m : List It) : cellsI (l ++ m) = cellsI l ++ cellsI m := by simp [cellsI]
theorem cellsI_one (x : It) : cellsI [x] = iC x := by simp [cellsI]
theorem length_cellsI (l : List It) : (cellsI l).length = l.length * 2 := by
  induction l with
  | nil => rfl
  | cons p L ih => rw [cellsI_cons, List.length_append, ih]; simp [iC]; omega
theorem cellsI_get (l : List It) (i : Nat) (h : i < l.length) : (cellsI l)[i * 2]? = some (.int .i64 l[i].1) ∧ (cellsI l)[i * 2 + 1]? = some (.string l[i].2) := by
  induction l generalizing i with
  | nil => simp at h
  | cons p L ih =>
    rw [cellsI_cons]
    cases i with
    | zero => simp [iC]
    | succ i =>
      have := ih i (by simpa using h)
      have e1 : (i + 1) * 2 = (iC p).length + i * 2 := by simp [iC]; omega
      rw [e1]
      refine ⟨?_, ?_⟩
      · rw [List.getElem?_append_right (by omega), Nat.add_sub_cancel_left]; exact this.1
      · rw [List.getElem?_append_right (by omega), show (iC p).length + i * 2 + 1 - (iC p).length = i * 2 + 1 by omega]; exact this.2
theorem cellsI_set (l : List It) (i : Nat) (x : It) (h : i < l.length) : ((cellsI l).set (i * 2) (.int .i64 x.1)).set (i * 2 + 1) (.string x.2) = cellsI (l.set i x) := by
  induction l generalizing i with
  | nil => simp at h
  | cons p L ih =>
    cases i with
    | zero => simp [cellsI_cons, iC]
    | succ i =>
      rw [List.set_cons_succ, cellsI_cons, cellsI_cons, ← ih i (by simpa using h)]
      have e1 : (i + 1) * 2 = (iC p).length + i * 2 := by simp [iC]; omega
      rw [e1, Nat.add_assoc]
      simp only [List.set_append_right _ _ (Nat.le_add_right _ _), Nat.add_sub_cancel_left]
theorem cellsI_take (l : List It) (k : Nat) : cellsI (l.take k) = (cellsI l).take (k * 2) := by
  induction l generalizing k with
  | nil => simp [cellsI]
  | cons p L ih =>
    cases k with
    | zero => simp [cellsI]
    | succ k =>
      rw [List.take_succ_cons, cellsI_cons, cellsI_cons, ih]
      have e1 : (k + 1) * 2 = (iC p).length + k * 2 := by simp [iC]; omega
      rw [e1, List.take_length_add_append]
theorem cellsI_drop (l : List It) (k : Nat) : cellsI (l.drop k) = (cellsI l).drop (k * 2) := by
  induction l generalizing k with
  | nil => simp [cellsI]
  | cons p L ih =>
    cases k with
    | zero => simp [cellsI]
    | succ k =>
      rw [List.drop_succ_cons, cellsI_cons, ih]
      have e1 : (k + 1) * 2 = (iC p).length + k * 2 := by simp [iC]; omega
      rw [e1, List.drop_length_add_append]
theorem oneCell_cellsI (l : List It) : ∀ u ∈ cellsI l, u.oneCell' = true := by
  intro u hu
  simp only [cellsI, List.mem_flatMap] at hu
  obtain ⟨p, hp, hu⟩ := hu
  simp only [iC, List.mem_cons, List.not_mem_nil, or_false] at hu
  rcases hu with rfl | rfl <;> rfl
theorem Try.info33 : (Try.prog.info? 33).map (fun i => (i.zero, i.size, i.bytes)) = some (some (.agg #[.int .i64 0, .string ⟨#[]⟩]), 2, 24) := by kernel_rfl

/-- A slice value that reads as these items, wherever they lie. -/
def TI (w : World) (s : Value) (l : List It) : Prop :=
  ∃ (a : Option Addr) (cap : Nat), s = .slice a l.length cap ∧ l.length ≤ cap ∧ cap ≤ maxLen ∧ (a = none → cap = 0) ∧
    (l = [] ∨ ∃ b off, a = some ⟨b, off, none⟩ ∧ ∀ j u, (cellsI l)[j]? = some u → w.cell? ⟨b, off + j, none⟩ = some u)
theorem TI.nil (w : World) : TI w (.slice none 0 0) [] := ⟨none, 0, rfl, by simp, Nat.zero_le _, fun _ => rfl, Or.inl rfl⟩
theorem TI.stays {w w' : World} {s : Value} {l : List It} (h : TI w s l) (hc : ∀ b off n c, s = .slice (some ⟨b, off, none⟩) n c → l ≠ [] → w'.heap[b]? = w.heap[b]?) : TI w' s l := by
  obtain ⟨a, cap, rfl, h1, h2, h3, h4⟩ := h
  refine ⟨a, cap, rfl, h1, h2, h3, ?_⟩
  rcases h4 with h4 | ⟨b, off, rfl, hc'⟩
  · exact Or.inl h4
  · by_cases hl : l = []
    · exact Or.inl hl
    · exact Or.inr ⟨b, off, rfl, fun j u hu => (World.cell?_of_block (w := w) (hc b off _ _ rfl hl)).trans (hc' j u hu)⟩
theorem TI.block {w : World} {s : Value} {l : List It} (h : TI w s l) {b off n c : Nat} (e : s = .slice (some ⟨b, off, none⟩) n c) (hl : l ≠ []) : b < w.heap.size := by
  obtain ⟨a, cap, rfl, h1, h2, h3, h4⟩ := h
  simp only [Value.slice.injEq] at e
  obtain ⟨rfl, _, _⟩ := e
  rcases h4 with h4 | ⟨b', off', e, hc'⟩
  · exact absurd h4 hl
  · simp only [Option.some.injEq, Addr.mk.injEq, and_true] at e
    obtain ⟨rfl, rfl⟩ := e
    cases l with
    | nil => exact absurd rfl hl
    | cons x l => exact World.block_lt_of_cell? w _ (hc' 0 _ (by rw [cellsI_cons]; rfl))
theorem TI.below {w w' : World} {s : Value} {l : List It} (h : TI w s l) (hb : Below w.heap.size w w') : TI w' s l := h.stays fun _ _ _ _ e hl => hb.block _ (h.block e hl)
theorem TI.keep {F : Nat → Prop} {w w' : World} {s : Value} {l : List It} (h : TI w s l) (hk : Keep F w w') (hn : ∀ b off n c, s = .slice (some ⟨b, off, none⟩) n c → l ≠ [] → ¬ F b) : TI w' s l := h.stays fun _ _ _ _ e hl => hk.block _ (h.block e hl) (hn _ _ _ _ e hl)
theorem TI.of_owns {w : World} {base : Nat} {s : Value} {l : List It} (h : w.ownsRow base 33 2 s l.length (cellsI l)) : TI w s l := by
  have hc := @World.ownsRow.cells w base _ _ s _ _ h
  rcases h.2 with ⟨rfl, h0⟩ | ⟨g, cap, cur, rfl, hb, hh, h1, h2, h3, h4⟩
  · have : l = [] := List.eq_nil_of_length_eq_zero h0
    subst this
    exact TI.nil w
  · refine ⟨_, cap, rfl, h1, h2, fun e => (nomatch e), Or.inr ⟨g, 0, rfl, fun j u hu => ?_⟩⟩
    have := hc (g := g) rfl j u hu
    rw [Addr.add_lit] at this
    exact this
theorem TI.at {w : World} {s : Value} {l : List It} (h : TI w s l) (h0 : 0 < l.length) : ∃ b off cap, s = .slice (some ⟨b, off, none⟩) l.length cap ∧ l.length ≤ cap ∧ cap ≤ maxLen ∧ b < w.heap.size ∧
    (∀ i (hi : i < l.length), w.cell? ⟨b, off + i * 2, none⟩ = some (.int .i64 l[i].1) ∧ w.cell? ⟨b, off + i * 2 + 1, none⟩ = some (.string l[i].2)) ∧ ∀ j u, (cellsI l)[j]? = some u → w.cell? ⟨b, off + j, none⟩ = some u := by
  have hb := @TI.block w s l h
  obtain ⟨a, cap, rfl, h1, h2, h3, h4⟩ := h
  rcases h4 with rfl | ⟨b, off, rfl, hc⟩
  · simp at h0
  · refine ⟨b, off, cap, rfl, h1, h2, hb rfl (fun e => by rw [e] at h0; simp at h0), fun i hi => ?_, hc⟩
    obtain ⟨g1, g2⟩ := cellsI_get l i hi
    exact ⟨hc _ _ g1, by rw [Nat.add_assoc]; exact hc _ _ g2⟩
theorem TI.shape {w : World} {s : Value} {l : List It} (h : TI w s l) : ∃ a cap, s = .slice a l.length cap ∧ l.length ≤ cap ∧ cap ≤ maxLen := by
  obtain ⟨a, cap, rfl, h1, h2, h3, h4⟩ := h
  exact ⟨a, cap, rfl, h1, h2⟩
end Go.Proofs.Ytbccdaeejlkmcaa
