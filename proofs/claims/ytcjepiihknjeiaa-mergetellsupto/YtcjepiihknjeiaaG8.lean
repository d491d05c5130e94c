/- Texts of ours, one behind the other: MgRow, QhMem, QhOwn1, BatMay1, BatMay2, MgRef1, HelpEnt. -/
import Derived.Test.YtcjepiihknjeiaaG3
import Derived.Test.YtcjepiihknjeiaaG4
import Derived.Test.YtcjepiihknjeiaaG5
import Derived.Test.YtcjepiihknjeiaaG7
import Derived.Test.YtcjepiihknjeiaaProg
import Derived.BigQuiet
import Derived.BigRegion
/- Entries in memory: slices that read as entries; which lists are right; nothing here speaks of a function of the program. -/
namespace Go.Proofs.Ytcjepiihknjeiaa
open Go.RowKit

def eC (x : En) : List Value := [.string x.1, .int .u64 x.2.1, .int .i64 x.2.2.1, .int .i64 x.2.2.2]
theorem eC_len (x : En) : (eC x).length = 4 := rfl
theorem eC_one (x : En) : ∀ u ∈ eC x, u.oneCell' = true := by
  intro u hu
  simp only [eC, List.mem_cons, List.not_mem_nil, or_false] at hu
  rcases hu with rfl | rfl | rfl | rfl <;> rfl
/-- A slice value that reads as these entries. -/
def ER (w : World) (v : Value) (l : List En) : Prop := KRow 4 w v l.length (l.flatMap eC)
theorem ER.below {w w' : World} {v : Value} {l : List En} (h : ER w v l) (hb : Below w.heap.size w w') : ER w' v l := KRow.below h hb
theorem ER.shape {w : World} {v : Value} {l : List En} (h : ER w v l) : ∃ (p : Option Addr) (c : Nat), v = .slice p l.length c ∧ l.length ≤ c ∧ c ≤ maxLen ∧ (p = none → c = 0) := KRow.shape h
/-- What it shows in each later world. -/
theorem ER.seen {w : World} {v : Value} {l : List En} (h : ER w v l) (hne : 0 < l.length) : ∃ b o c, v = .slice (some ⟨b, o, none⟩) l.length c ∧ l.length ≤ c ∧ c ≤ maxLen ∧ ∀ (k : Nat) (x : En), l[k]? = some x → ∀ W : World, Below w.heap.size w W →
    W.cell? ⟨b, o + k * 4, none⟩ = some (.string x.1) ∧ W.cell? ⟨b, o + k * 4 + 1, none⟩ = some (.int .u64 x.2.1) ∧ W.cell? ⟨b, o + k * 4 + 2, none⟩ = some (.int .i64 x.2.2.1) ∧ W.cell? ⟨b, o + k * 4 + 3, none⟩ = some (.int .i64 x.2.2.2) := by
  obtain ⟨b, off, cap, e, h1, h2, hc⟩ := KRow.open h hne
  refine ⟨b, off, cap, e, h1, h2, fun k x hx W hW => ?_⟩
  obtain ⟨hk, rfl⟩ := List.getElem?_eq_some_iff.1 hx
  have hg : ∀ i u, i < 4 → (eC l[k])[i]? = some u → W.cell? ⟨b, off + k * 4 + i, none⟩ = some u := fun i u hi hu => by
    have := hc (k * 4 + i) u (by rw [flat_get eC_len l k hk i hi]; exact hu)
    rw [← Nat.add_assoc] at this
    exact (hW.cell (World.block_lt_of_cell? w _ this)).trans this
  exact ⟨hg 0 _ (by omega) rfl, hg 1 _ (by omega) rfl, hg 2 _ (by omega) rfl, hg 3 _ (by omega) rfl⟩
/-- Is it by rising keys, all of them keys? (Told from the end: the last one by the one ahead of it.) -/
def okE (l : List En) (i : Nat) : Bool := match l[i]?, l[i - 1]? with
  | some x, some y => kmay x.1 && (decide (i = 0) || tl (kE y) (kE x))
  | _, _ => true
def rightE (l : List En) : Bool := (List.range l.length).all (okE l)
theorem rightE_all (l : List En) : rightE l = true ↔ ∀ i, i < l.length → okE l i = true := by
  unfold rightE
  rw [List.all_eq_true]
  exact ⟨fun h i hi => h i (List.mem_range.2 hi), fun h i hi => h i (List.mem_range.1 hi)⟩
theorem rightE_no (l : List En) (i : Nat) (h : i < l.length) (hn : okE l i = false) : rightE l = false := by
  cases hr : rightE l with
  | false => rfl
  | true => rw [(rightE_all l).1 hr i h] at hn; cases hn
theorem okE_at {l : List En} {i : Nat} (h : i < l.length) : okE l i = (kmay l[i].1 && (decide (i = 0) || tl (kE (l[i - 1]'(by omega))) (kE l[i]))) := by
  unfold okE
  rw [List.getElem?_eq_getElem h, List.getElem?_eq_getElem (show i - 1 < l.length by omega)]
theorem rightE_SE {l : List En} (h : rightE l = true) : SE l ∧ ∀ x ∈ l, kmay x.1 = true := by
  have hs : ∀ i (h1 : i + 1 < l.length), tl (kE (l[i]'(by omega))) (kE l[i + 1]) = true := fun i h1 => by
    have := (rightE_all l).1 h (i + 1) h1
    rw [okE_at h1] at this
    simp only [Nat.add_sub_cancel, Bool.and_eq_true, Bool.or_eq_true, decide_eq_true_eq] at this
    rcases this.2 with h2 | h2
    · omega
    · exact h2
  have hd : ∀ d i (h1 : i + d + 1 < l.length), tl (kE (l[i]'(by omega))) (kE l[i + d + 1]) = true := by
    intro d
    induction d with
    | zero => intro i h1; exact hs i h1
    | succ d ih =>
      intro i h1
      exact tl_trans _ _ _ (ih i (by omega)) (hs (i + d + 1) h1)
  refine ⟨?_, fun x hx => ?_⟩
  · unfold SE
    rw [List.pairwise_iff_getElem]
    intro i j hi hj hij
    obtain ⟨d, rfl⟩ : ∃ d, j = i + d + 1 := ⟨j - i - 1, by omega⟩
    exact hd d i hj
  · obtain ⟨i, hi, rfl⟩ := List.mem_iff_getElem.1 hx
    have := (rightE_all l).1 h i hi
    rw [okE_at hi] at this
    simp only [Bool.and_eq_true] at this
    exact this.1
end Go.Proofs.Ytcjepiihknjeiaa

/- A queue of heads in memory (a head: the number of its list, and a slice of entries that lies elsewhere): the line, and what moves in it. -/
namespace Go.Proofs.Ytcjepiihknjeiaa.QH
open Go.RowKit

/-- A head: the list's number, and what is left of it: where it lies, and what it is. -/
structure Hd where
  of : Int
  p : Option Addr
  n : Nat
  c : Nat
  es : List En
abbrev It := Hd
def Hd.zero : Hd := ⟨0, none, 0, 0, []⟩
/-- The block that its entries lie in. -/
def Hd.blk (x : Hd) (k : Nat) : Prop := ∃ o, x.p = some ⟨k, o, none⟩
/-- It reads as its entries, one at least. -/
structure HdE (w : World) (x : Hd) : Prop where
  len : x.n = x.es.length
  pos : 0 < x.es.length
  er : ER w (.slice x.p x.n x.c) x.es
theorem HdE.keep {F : Nat → Prop} {w w' : World} {x : Hd} (h : HdE w x) (hk : Keep F w w') (hn : ∀ k, x.blk k → ¬ F k) : HdE w' x :=
  ⟨h.len, h.pos, KRow.keep h.er hk fun b off c e _ => hn b ⟨off, by simp only [Value.slice.injEq] at e; exact e.1⟩⟩
theorem HdE.below {w w' : World} {x : Hd} (h : HdE w x) (hb : Below w.heap.size w w') : HdE w' x := ⟨h.len, h.pos, h.er.below hb⟩
theorem HdE.lt {w : World} {x : Hd} (h : HdE w x) : ∀ k, x.blk k → k < w.heap.size := by
  rintro k ⟨o, hk⟩
  obtain ⟨b, off, c, e, _, _, hc⟩ := h.er.seen h.pos
  simp only [Value.slice.injEq] at e
  rw [hk] at e
  obtain ⟨e1, _⟩ := e
  cases e1
  exact World.block_lt_of_cell? w _ (hc 0 (x.es[0]'h.pos) (List.getElem?_eq_getElem h.pos) w (Below.refl _ _)).1
def itV (x : It) : Value := .agg #[.int .i64 x.of, .slice x.p x.n x.c]
def itC (p : It × Nat) : List Value := [.int .i64 p.1.of, .slice p.1.p p.1.n p.1.c, .int .u64 (p.2 : Int)]
def cellsQ (L : List (It × Nat)) : List Value := L.flatMap itC
theorem cellsQ_nil : cellsQ [] = [] := rfl
theorem cellsQ_cons (p : It × Nat) (L : List (It × Nat)) : cellsQ (p :: L) = itC p ++ cellsQ L := by simp [cellsQ]
theorem cellsQ_append (L M : List (It × Nat)) : cellsQ (L ++ M) = cellsQ L ++ cellsQ M := by simp [cellsQ]
theorem length_cellsQ (L : List (It × Nat)) : (cellsQ L).length = L.length * 3 := by
  induction L with
  | nil => rfl
  | cons p L ih => rw [cellsQ_cons, List.length_append, ih]; simp [itC]; omega
theorem cellsQ_get (L : List (It × Nat)) (i : Nat) (h : i < L.length) :
    (cellsQ L)[i * 3]? = some (.int .i64 L[i].1.of) ∧ (cellsQ L)[i * 3 + 1]? = some (.slice L[i].1.p L[i].1.n L[i].1.c) ∧ (cellsQ L)[i * 3 + 2]? = some (.int .u64 (L[i].2 : Int)) := by
  induction L generalizing i with
  | nil => simp at h
  | cons p L ih =>
    rw [cellsQ_cons]
    cases i with
    | zero => simp [itC]
    | succ i =>
      have := ih i (by simpa using h)
      have e1 : (i + 1) * 3 = (itC p).length + i * 3 := by simp [itC]; omega
      rw [e1]
      refine ⟨?_, ?_, ?_⟩
      · rw [List.getElem?_append_right (by omega), Nat.add_sub_cancel_left]; exact this.1
      · rw [List.getElem?_append_right (by omega), show (itC p).length + i * 3 + 1 - (itC p).length = i * 3 + 1 by omega]; exact this.2.1
      · rw [List.getElem?_append_right (by omega), show (itC p).length + i * 3 + 2 - (itC p).length = i * 3 + 2 by omega]; exact this.2.2
theorem cellsQ_set (L : List (It × Nat)) (i : Nat) (x : It × Nat) (h : i < L.length) :
    (((cellsQ L).set (i * 3) (.int .i64 x.1.of)).set (i * 3 + 1) (.slice x.1.p x.1.n x.1.c)).set (i * 3 + 2) (.int .u64 (x.2 : Int)) = cellsQ (L.set i x) := by
  induction L generalizing i with
  | nil => simp at h
  | cons p L ih =>
    cases i with
    | zero => simp [cellsQ_cons, itC]
    | succ i =>
      rw [List.set_cons_succ, cellsQ_cons, cellsQ_cons, ← ih i (by simpa using h)]
      have e1 : (i + 1) * 3 = (itC p).length + i * 3 := by simp [itC]; omega
      rw [e1, Nat.add_assoc, Nat.add_assoc]
      simp only [List.set_append_right _ _ (Nat.le_add_right _ _), Nat.add_sub_cancel_left]
theorem cellsQ_take (L : List (It × Nat)) (k : Nat) : cellsQ (L.take k) = (cellsQ L).take (k * 3) := by
  induction L generalizing k with
  | nil => simp [cellsQ]
  | cons p L ih =>
    cases k with
    | zero => simp [cellsQ]
    | succ k =>
      rw [List.take_succ_cons, cellsQ_cons, cellsQ_cons, ih]
      have e1 : (k + 1) * 3 = (itC p).length + k * 3 := by simp [itC]; omega
      rw [e1, List.take_length_add_append]
theorem oneCell_cellsQ (L : List (It × Nat)) : ∀ u ∈ cellsQ L, u.oneCell' = true := by
  intro u hu
  simp only [cellsQ, List.mem_flatMap] at hu
  obtain ⟨p, hp, hu⟩ := hu
  simp only [itC, List.mem_cons, List.not_mem_nil, or_false] at hu
  rcases hu with rfl | rfl | rfl <;> rfl

/-- The line of a queue: its block q (less, the items' slice, how many were pushed), and the items' row. -/
structure LQR (w : World) (q : Nat) (f : Value) (L : List (It × Nat)) (n : Nat) (v : Value) : Prop where
  blk : w.heap[q]? = some (.cells #[f, v, .int .u64 (n : Int)] 87 (0, 0))
  row : w.ownsRow 0 92 3 v L.length (cellsQ L)
  own : v.ownBlock ≠ some q
  small : L.length * 40 ≤ 140737488355328
/-- Its blocks. -/
def QF (q : Nat) (v : Value) (k : Nat) : Prop := k = q ∨ v.ownBlock = some k

theorem owns_keep {F : Nat → Prop} {w w' : World} {base e sz : Nat} {v : Value} {n : Nat} {xs : List Value} (h : w.ownsRow base e sz v n xs) (hk : Keep F w w') (hn : ∀ k, v.ownBlock = some k → ¬ F k) : w'.ownsRow base e sz v n xs := by
  refine ⟨h.1, ?_⟩
  rcases h.2 with h2 | ⟨g, cap, cur, rfl, hg, hh, r⟩
  · exact Or.inl h2
  · exact Or.inr ⟨g, cap, cur, rfl, hg, (hk.block g (Array.getElem?_eq_some_iff.1 hh).1 (hn g rfl)).trans hh, r⟩
theorem LQR.lt {w : World} {q n : Nat} {f v : Value} {L : List (It × Nat)} (h : LQR w q f L n v) : ∀ k, QF q v k → k < w.heap.size := by
  rintro k (rfl | hk)
  · exact (Array.getElem?_eq_some_iff.1 h.blk).1
  · exact (h.row.lt k hk).2
theorem LQR.keep {F : Nat → Prop} {w w' : World} {q n : Nat} {f v : Value} {L : List (It × Nat)} (h : LQR w q f L n v) (hk : Keep F w w') (hn : ∀ k, QF q v k → ¬ F k) : LQR w' q f L n v :=
  ⟨(hk.block q (h.lt q (Or.inl rfl)) (hn q (Or.inl rfl))).trans h.blk, owns_keep h.row hk (fun k e => hn k (Or.inr e)), h.own, h.small⟩
theorem LQR.below {w w' : World} {q n : Nat} {f v : Value} {L : List (It × Nat)} (h : LQR w q f L n v) (hb : Below w.heap.size w w') : LQR w' q f L n v :=
  h.keep (F := fun _ => False) (Keep.of_below hb) (fun _ _ => id)
theorem LQR.cells {w : World} {q n : Nat} {f v : Value} {L : List (It × Nat)} (h : LQR w q f L n v) :
    w.cell? ⟨q, 0, none⟩ = some f ∧ w.cell? ⟨q, 1, none⟩ = some v ∧ w.cell? ⟨q, 2, none⟩ = some (.int .u64 (n : Int)) ∧ ∀ j, w.frozen? ⟨q, j, none⟩ = false := by
  refine ⟨?_, ?_, ?_, fun j => by simp [World.frozen?, h.blk]⟩
  all_goals (rw [cell_of_row w q _ _ _ (0, 0) h.blk]; rfl)
/-- A line that is not empty, laid open. -/
theorem LQR.open {w : World} {q n : Nat} {f v : Value} {L : List (It × Nat)} (h : LQR w q f L n v) (h0 : 0 < L.length) :
    ∃ g cap, v = .slice (some ⟨g, 0, none⟩) L.length cap ∧ g ≠ q ∧ g < w.heap.size ∧ L.length ≤ cap ∧ cap ≤ maxLen ∧ (∀ j, w.frozen? ⟨g, j, none⟩ = false) ∧
      ∀ i (hi : i < L.length), w.cell? ⟨g, i * 3, none⟩ = some (.int .i64 L[i].1.of) ∧ w.cell? ⟨g, i * 3 + 1, none⟩ = some (.slice L[i].1.p L[i].1.n L[i].1.c) ∧ w.cell? ⟨g, i * 3 + 2, none⟩ = some (.int .u64 (L[i].2 : Int)) := by
  have hr := h.row
  rcases hr.2 with ⟨_, e⟩ | ⟨g, cap, cur, rfl, hb, hh, h1, h2, h3, h4⟩
  · omega
  · refine ⟨g, cap, rfl, fun e => h.own (by simp [Value.ownBlock, e]), (Array.getElem?_eq_some_iff.1 hh).1, h1, h2, fun j => hr.frozenAt j, fun i hi => ?_⟩
    obtain ⟨c1, c2, c3⟩ := cellsQ_get L i hi
    refine ⟨?_, ?_, ?_⟩
    · rw [hr.cellAt (i * 3) (by omega)]; exact c1
    · rw [hr.cellAt (i * 3 + 1) (by omega)]; exact c2
    · rw [hr.cellAt (i * 3 + 2) (by omega)]; exact c3
theorem LQR.shape {w : World} {q n : Nat} {f v : Value} {L : List (It × Nat)} (h : LQR w q f L n v) : ∃ p cap, v = .slice p L.length cap ∧ (p = none → L.length = 0 ∧ cap = 0) ∧ L.length ≤ cap ∧ cap ≤ maxLen := by
  rcases h.row.2 with ⟨rfl, e⟩ | ⟨g, cap, cur, rfl, hb, hh, h1, h2, _⟩
  · exact ⟨none, 0, by rw [e], fun _ => ⟨e, rfl⟩, by omega, by unfold maxLen; omega⟩
  · exact ⟨_, cap, rfl, fun e => (nomatch e), h1, h2⟩

/-- The i-th item is overwritten. -/
theorem LQR.set {w : World} {q n g cap : Nat} {f : Value} {L : List (It × Nat)} (h : LQR w q f L n (.slice (some ⟨g, 0, none⟩) L.length cap)) (i : Nat) (hi : i < L.length) (x : It × Nat) :
    LQR (((w.setCell ⟨g, i * 3, none⟩ (.int .i64 x.1.of)).setCell ⟨g, i * 3 + 1, none⟩ (.slice x.1.p x.1.n x.1.c)).setCell ⟨g, i * 3 + 2, none⟩ (.int .u64 (x.2 : Int))) q f (L.set i x) n (.slice (some ⟨g, 0, none⟩) (L.set i x).length cap) ∧
    Keep (fun k => k = g) w (((w.setCell ⟨g, i * 3, none⟩ (.int .i64 x.1.of)).setCell ⟨g, i * 3 + 1, none⟩ (.slice x.1.p x.1.n x.1.c)).setCell ⟨g, i * 3 + 2, none⟩ (.int .u64 (x.2 : Int))) := by
  obtain ⟨r1, g1⟩ := h.row.stored (i * 3) (.int .i64 x.1.of)
  obtain ⟨r2, g2⟩ := r1.stored (i * 3 + 1) (.slice x.1.p x.1.n x.1.c)
  obtain ⟨r3, g3⟩ := r2.stored (i * 3 + 2) (.int .u64 (x.2 : Int))
  have hg := grown_trans (grown_trans g1 g2) g3
  have hk : Keep (fun k => k = g) w (((w.setCell ⟨g, i * 3, none⟩ (.int .i64 x.1.of)).setCell ⟨g, i * 3 + 1, none⟩ (.slice x.1.p x.1.n x.1.c)).setCell ⟨g, i * 3 + 2, none⟩ (.int .u64 (x.2 : Int))) :=
    ⟨hg.os, hg.tape, hg.output, hg.size, fun k hk hn => hg.block k hk (fun e => hn (by simpa using e))⟩
  have hq : g ≠ q := fun e => h.own (by simp [Value.ownBlock, e])
  refine ⟨⟨?_, ?_, ?_, by rw [List.length_set]; exact h.small⟩, hk⟩
  · rw [List.length_set]
    exact (hk.block q (h.lt q (Or.inl rfl)) (fun e => hq e.symm)).trans h.blk
  · rw [List.length_set, ← cellsQ_set L i x hi]
    exact r3
  · simpa [Value.ownBlock] using hq

/-- The same, and each head reads as its entries, which lie apart from the queue's own blocks. -/
structure LQ (w : World) (q : Nat) (f : Value) (L : List (It × Nat)) (n : Nat) (v : Value) : Prop where
  raw : LQR w q f L n v
  hds : ∀ p ∈ L, HdE w p.1 ∧ ∀ k, p.1.blk k → ¬ QF q v k
theorem LQ.blk {w : World} {q n : Nat} {f v : Value} {L : List (It × Nat)} (h : LQ w q f L n v) : w.heap[q]? = some (.cells #[f, v, .int .u64 (n : Int)] 87 (0, 0)) := h.raw.blk
theorem LQ.row {w : World} {q n : Nat} {f v : Value} {L : List (It × Nat)} (h : LQ w q f L n v) : w.ownsRow 0 92 3 v L.length (cellsQ L) := h.raw.row
theorem LQ.own {w : World} {q n : Nat} {f v : Value} {L : List (It × Nat)} (h : LQ w q f L n v) : v.ownBlock ≠ some q := h.raw.own
theorem LQ.small {w : World} {q n : Nat} {f v : Value} {L : List (It × Nat)} (h : LQ w q f L n v) : L.length * 40 ≤ 140737488355328 := h.raw.small
theorem LQ.lt {w : World} {q n : Nat} {f v : Value} {L : List (It × Nat)} (h : LQ w q f L n v) : ∀ k, QF q v k → k < w.heap.size := h.raw.lt
theorem LQ.keep {F : Nat → Prop} {w w' : World} {q n : Nat} {f v : Value} {L : List (It × Nat)} (h : LQ w q f L n v) (hk : Keep F w w') (hn : ∀ k, QF q v k → ¬ F k) (hd : ∀ p ∈ L, ∀ k, p.1.blk k → ¬ F k) : LQ w' q f L n v :=
  ⟨h.raw.keep hk hn, fun p hp => ⟨(h.hds p hp).1.keep hk (hd p hp), (h.hds p hp).2⟩⟩
theorem LQ.below {w w' : World} {q n : Nat} {f v : Value} {L : List (It × Nat)} (h : LQ w q f L n v) (hb : Below w.heap.size w w') : LQ w' q f L n v :=
  ⟨h.raw.below hb, fun p hp => ⟨(h.hds p hp).1.below hb, (h.hds p hp).2⟩⟩
theorem LQ.cells {w : World} {q n : Nat} {f v : Value} {L : List (It × Nat)} (h : LQ w q f L n v) :
    w.cell? ⟨q, 0, none⟩ = some f ∧ w.cell? ⟨q, 1, none⟩ = some v ∧ w.cell? ⟨q, 2, none⟩ = some (.int .u64 (n : Int)) ∧ ∀ j, w.frozen? ⟨q, j, none⟩ = false := h.raw.cells
theorem LQ.open {w : World} {q n : Nat} {f v : Value} {L : List (It × Nat)} (h : LQ w q f L n v) (h0 : 0 < L.length) :
    ∃ g cap, v = .slice (some ⟨g, 0, none⟩) L.length cap ∧ g ≠ q ∧ g < w.heap.size ∧ L.length ≤ cap ∧ cap ≤ maxLen ∧ (∀ j, w.frozen? ⟨g, j, none⟩ = false) ∧
      ∀ i (hi : i < L.length), w.cell? ⟨g, i * 3, none⟩ = some (.int .i64 L[i].1.of) ∧ w.cell? ⟨g, i * 3 + 1, none⟩ = some (.slice L[i].1.p L[i].1.n L[i].1.c) ∧ w.cell? ⟨g, i * 3 + 2, none⟩ = some (.int .u64 (L[i].2 : Int)) := h.raw.open h0
theorem LQ.shape {w : World} {q n : Nat} {f v : Value} {L : List (It × Nat)} (h : LQ w q f L n v) : ∃ p cap, v = .slice p L.length cap ∧ (p = none → L.length = 0 ∧ cap = 0) ∧ L.length ≤ cap ∧ cap ≤ maxLen := h.raw.shape
theorem QF.len {q g m m' cap : Nat} {k : Nat} : QF q (.slice (some ⟨g, 0, none⟩) m cap) k → QF q (.slice (some ⟨g, 0, none⟩) m' cap) k := fun h => h
theorem LQ.set {w : World} {q n g cap : Nat} {f : Value} {L : List (It × Nat)} (h : LQ w q f L n (.slice (some ⟨g, 0, none⟩) L.length cap)) (i : Nat) (hi : i < L.length) (x : It × Nat) (hx : HdE w x.1 ∧ ∀ k, x.1.blk k → ¬ QF q (.slice (some ⟨g, 0, none⟩) L.length cap) k) :
    LQ (((w.setCell ⟨g, i * 3, none⟩ (.int .i64 x.1.of)).setCell ⟨g, i * 3 + 1, none⟩ (.slice x.1.p x.1.n x.1.c)).setCell ⟨g, i * 3 + 2, none⟩ (.int .u64 (x.2 : Int))) q f (L.set i x) n (.slice (some ⟨g, 0, none⟩) (L.set i x).length cap) ∧
    Keep (fun k => k = g) w (((w.setCell ⟨g, i * 3, none⟩ (.int .i64 x.1.of)).setCell ⟨g, i * 3 + 1, none⟩ (.slice x.1.p x.1.n x.1.c)).setCell ⟨g, i * 3 + 2, none⟩ (.int .u64 (x.2 : Int))) := by
  obtain ⟨r, k⟩ := h.raw.set i hi x
  refine ⟨⟨r, fun p hp => ?_⟩, k⟩
  have hp2 : HdE w p.1 ∧ ∀ k, p.1.blk k → ¬ QF q (.slice (some ⟨g, 0, none⟩) L.length cap) k := by
    rcases List.mem_or_eq_of_mem_set hp with hp | rfl
    · exact h.hds p hp
    · exact hx
  exact ⟨hp2.1.keep k (fun j hj e => hp2.2 j hj (Or.inr (by subst e; rfl))), hp2.2⟩
end Go.Proofs.Ytcjepiihknjeiaa.QH

/- The landed package queue: the line's Len, Swap, Pop. -/
namespace Go.Proofs.Ytcjepiihknjeiaa.QH
open Go.RowKit

theorem llen_any (w : World) (q n : Nat) (f v : Value) (L : List (It × Nat)) (h : LQ w q f L n v) :
    Calls Try.prog 47 #[.pointer (some ⟨q, 0, none⟩)] w fun e w' => e = .returned (.int .i64 (L.length : Int)) ∧ Below w.heap.size w w' := by
  obtain ⟨p, cap, rfl, h1, h2, h3⟩ := h.shape
  obtain ⟨c0, c1, c2, fz⟩ := h.cells
  clear h h1 c0 c2 fz
  go_enter Try.func47, Try.ntmps47
  go_wp2
  go_ret
  exact ⟨rfl, Below.refl _ _⟩

/-- Two items overwritten, one behind the other. -/
theorem LQ.set2 {w : World} {q n g cap : Nat} {f : Value} {L : List (It × Nat)} (h : LQ w q f L n (.slice (some ⟨g, 0, none⟩) L.length cap)) (i j : Nat) (hi : i < L.length) (hj : j < L.length) (x y : It × Nat) (hx : HdE w x.1 ∧ ∀ k, x.1.blk k → ¬ QF q (.slice (some ⟨g, 0, none⟩) L.length cap) k) (hy : HdE w y.1 ∧ ∀ k, y.1.blk k → ¬ QF q (.slice (some ⟨g, 0, none⟩) L.length cap) k) :
    LQ ((((((w.setCell ⟨g, i * 3, none⟩ (.int .i64 x.1.of)).setCell ⟨g, i * 3 + 1, none⟩ (.slice x.1.p x.1.n x.1.c)).setCell ⟨g, i * 3 + 2, none⟩ (.int .u64 (x.2 : Int))).setCell ⟨g, j * 3, none⟩ (.int .i64 y.1.of)).setCell ⟨g, j * 3 + 1, none⟩ (.slice y.1.p y.1.n y.1.c)).setCell ⟨g, j * 3 + 2, none⟩ (.int .u64 (y.2 : Int))).drew q f ((L.set i x).set j y) n (.slice (some ⟨g, 0, none⟩) L.length cap) ∧
    Keep (fun k => (Value.slice (some ⟨g, 0, none⟩) L.length cap).ownBlock = some k) w ((((((w.setCell ⟨g, i * 3, none⟩ (.int .i64 x.1.of)).setCell ⟨g, i * 3 + 1, none⟩ (.slice x.1.p x.1.n x.1.c)).setCell ⟨g, i * 3 + 2, none⟩ (.int .u64 (x.2 : Int))).setCell ⟨g, j * 3, none⟩ (.int .i64 y.1.of)).setCell ⟨g, j * 3 + 1, none⟩ (.slice y.1.p y.1.n y.1.c)).setCell ⟨g, j * 3 + 2, none⟩ (.int .u64 (y.2 : Int))).drew := by
  obtain ⟨h1, k1⟩ := h.set i hi x hx
  obtain ⟨h2, k2⟩ := h1.set j (by rw [List.length_set]; exact hj) y ⟨hy.1.keep k1 (fun k hk e => hy.2 k hk (Or.inr (by subst e; rfl))), hy.2⟩
  have e1 : (L.set i x).length = L.length := List.length_set ..
  have e2 : ((L.set i x).set j y).length = L.length := by rw [List.length_set, e1]
  rw [e2] at h2
  have hb : ∀ W : World, Below W.heap.size W W.drew := fun W => (Below.refl _ W).drew
  refine ⟨h2.below (hb _), ?_⟩
  have k3 := (k1.trans k2 (fun x hx => Or.inl hx)).trans (Keep.of_below (F := fun _ => False) (hb _)) (fun x hx => hx.elim)
  exact k3.weak fun x hx => by simp [Value.ownBlock, hx]

set_option maxRecDepth 20000 in
set_option maxHeartbeats 2000000 in
theorem lswap_any (w : World) (q n i j : Nat) (f v : Value) (L : List (It × Nat)) (h : LQ w q f L n v) (hi : i < L.length) (hj : j < L.length) :
    Calls Try.prog 55 #[.pointer (some ⟨q, 0, none⟩), .int .i64 (i : Int), .int .i64 (j : Int)] w fun e w' => e = .returned (.tuple #[]) ∧ LQ w' q f (sw L i j hi hj) n v ∧ Keep (fun k => v.ownBlock = some k) w w' := by
  obtain ⟨g, cap, rfl, hgq, hgl, k1, k2, fzg, hc⟩ := h.open (by omega)
  obtain ⟨c0, c1, c2, fz⟩ := h.cells
  obtain ⟨a1, a2, a3⟩ := hc i hi
  obtain ⟨b1, b2, b3⟩ := hc j hj
  have H := hide (h.set2 i j hi hj L[j] L[i] (h.hds _ (List.getElem_mem hj)) (h.hds _ (List.getElem_mem hi)))
  have hsm := h.small
  have hil : (i : Int) < (L.length : Int) := by omega
  have hjl : (j : Int) < (L.length : Int) := by omega
  clear h hc k1 c0 c2 hsm
  by_cases hij : i = j
  · subst hij
    clear b1 b2 b3 hjl
    go_enter Try.func55, Try.ntmps55
    go_wp2_with fail
    go_region
    go_end0
    obtain ⟨h1, h2⟩ := unhide H
    exact ⟨rfl, h1, h2⟩
  · go_enter Try.func55, Try.ntmps55
    go_wp2_with fail
    go_region
    go_end0
    obtain ⟨h1, h2⟩ := unhide H
    exact ⟨rfl, h1, h2⟩
end Go.Proofs.Ytcjepiihknjeiaa.QH

/- The landed package batch: which changes may be. -/
namespace Go.Proofs.Ytcjepiihknjeiaa
open Go.RowKit

theorem kmayB_eq (a : ByteArray) : kmay a = kmayB a := rfl
end Go.Proofs.Ytcjepiihknjeiaa

/- The landed package batch: which lists of changes may be. -/
namespace Go.Proofs.Ytcjepiihknjeiaa
open Go.RowKit

/-- A region that draws its order, by a class of worlds that all its operations keep: one walk, in the order of the text. -/
theorem region_calm {P : Program} {id : Nat} {Q : Exit → Act → World → Prop} {a : Act} {w : World} {l : List Oper} (C : World → Prop) (hm : P.follows .mixedOrders = true) (hB : Region.lexB .any l.toArray = true) (hC : C { w with drawn := w.drawn + 1 })
    (h : wpQuiet P l.toArray C (fun a' => ∀ w', C w' → Q .normal a' w') l a) : (Code.region id l.toArray true).wp P Q a w :=
  wp_region_quiet hm hB hC (by simpa using h)

theorem rise_step {l : List Chg} {k : Nat} (h : k < l.length) (hp : ∀ i (hi : i < l.length), i < k → mayChg l[i] = true ∧ (0 < i → tl (l[i - 1]'(by omega)).key.toList l[i].key.toList = true))
    (h1 : mayChg l[k] = true) (h2 : ∀ (h0 : 0 < k), tl (l[k - 1]'(by omega)).key.toList l[k].key.toList = true) :
    ∀ i (hi : i < l.length), i < k + 1 → mayChg l[i] = true ∧ (0 < i → tl (l[i - 1]'(by omega)).key.toList l[i].key.toList = true) := by
  intro i hi hk
  by_cases e : i = k
  · subst e; exact ⟨h1, h2⟩
  · exact hp i hi (by omega)

end Go.Proofs.Ytcjepiihknjeiaa

/- The document's own answer of layer 12: Right. -/
namespace Go.Proofs.Ytcjepiihknjeiaa
open Go.RowKit

set_option maxRecDepth 20000 in
set_option maxHeartbeats 4000000 in
theorem eright_any (v : Value) (L : List En) (w : World) (h : ER w v L) (hks : ∀ x ∈ L, x.1.size ≤ 140737488351232) :
    Calls Try.prog 15 #[v] w fun e w' => e = .returned (.bool (rightE L)) ∧ Below w.heap.size w w' := by
  by_cases h0 : L.length = 0
  · obtain ⟨p1, c1, rfl, _⟩ := h.shape
    obtain rfl : L = [] := List.eq_nil_of_length_eq_zero h0
    go_enter Try.func15, Try.ntmps15
    go_wp2
    refine wp_loop_rounds 1 ?_
    rw [rounds_succ]
    go_wp2
    go_ret
    exact ⟨rfl, Below.refl _ _⟩
  obtain ⟨b1, o1, c1, rfl, k1, k2, hsn⟩ := h.seen (by omega)
  obtain ⟨l, hl⟩ : ∃ l, l = L.length := ⟨_, rfl⟩
  rw [← hl] at k1 ⊢
  unfold maxLen at k2
  have hl0 : (l : Int) ≤ 9223372036854775807 := by omega
  have HSN := hide hsn
  have HLN := hide hl
  have HKS := hide hks
  obtain ⟨R, hR⟩ : ∃ R, R = rightE L := ⟨_, rfl⟩
  rw [← hR]
  have HR := hide hR
  clear h hsn k1 k2 hl h0 hR hks
  go_enter Try.func15, Try.ntmps15
  go_wp2
  go_loopw [3] (fun i wr => ∃ k : Nat, k ≤ l ∧ i = .int .i64 k ∧ Hid ((∀ j, j < L.length → j < k → okE L j = true) ∧ Below w.heap.size w wr)) (fun i _ => l - (intOf i).toNat)
  case atStart => exact ⟨0, Nat.zero_le _, rfl, fun j _ hj => by omega, Below.refl _ _⟩
  case round =>
    obtain ⟨k, hk, rfl, hst⟩ := hrel
    obtain ⟨hn, hb⟩ := unhide hst
    by_cases hlt : (k : Int) < (l : Int)
    · have hl := unhide HLN
      have i1 : k < L.length := by omega
      have i0 : k - 1 < L.length := by omega
      obtain ⟨x, hx⟩ : ∃ x, L[k]? = some x := ⟨_, List.getElem?_eq_getElem i1⟩
      obtain ⟨y, hy⟩ : ∃ y, L[k - 1]? = some y := ⟨_, List.getElem?_eq_getElem i0⟩
      have HOK : Hid (okE L k = (kmay x.1 && (decide (k = 0) || tl (kE y) (kE x)))) := by unfold Hid okE; rw [hx, hy]
      have hyes : okE L k = true → ∀ j, j < L.length → j < k + 1 → okE L j = true := by
        intro ho j hj hjk
        by_cases g : j = k
        · subst g; exact ho
        · exact hn j hj (by omega)
      have hno : okE L k = false → R = false := fun ho => by rw [unhide HR]; exact rightE_no L k i1 ho
      have HYN := hide (And.intro hyes hno)
      obtain ⟨CC, hCC⟩ : ∃ CC : World → Prop, CC = fun w' => Below w.heap.size w w' := ⟨_, rfl⟩
      have HC0 : Hid (CC { wr with drawn := wr.drawn + 1 }) := by unfold Hid; rw [hCC]; exact hb.drew
      have HCW : Hid (∀ w', CC w' → Below w.heap.size w w') := by unfold Hid; rw [hCC]; exact fun w' hw => hw
      have HCC0 : Hid (∀ w', CC w' → w'.cell? ⟨b1, o1 + k * 4, none⟩ = some (.string x.1) ∧ w'.cell? ⟨b1, o1 + (k - 1) * 4, none⟩ = some (.string y.1)) := by
        unfold Hid
        rw [hCC]
        exact fun w' hw => ⟨(unhide HSN k x hx w' hw).1, (unhide HSN (k - 1) y hy w' hw).1⟩
      have HMY : Hid (∀ W, CC W → Calls Try.prog 26 #[.string x.1] W fun e w' => e = .returned (.bool (kmay x.1)) ∧ CC w') := fun W hW => (rmay_any x.1 W).mono fun e w'' hx => ⟨hx.1, hx.2 ▸ hW⟩
      have HML : Hid (∀ w', CC w' → Calls Try.prog 27 #[.string y.1, .string x.1] w' fun e w'' => e = .returned (.bool (tl (kE y) (kE x))) ∧ CC w'') := by
        unfold Hid
        rw [hCC]
        exact fun w' hw => (rless_any y.1 x.1 w' (unhide HKS y (List.mem_of_getElem? hy))).mono fun e w'' hx => ⟨hx.1, hw.trans (hx.2.mono hw.size)⟩
      generalize tl (kE y) (kE x) = TL at *
      generalize kmay x.1 = KM at *
      generalize x.1 = xk at *
      generalize y.1 = yk at *
      clear hn hb hl i1 i0 hyes hno hst hCC hx hy
      cases KM with
      | false =>
        have HCC := HCC0
        go_wp2_with fail
        refine region_calm CC (by kernel_rfl) (by kernel_rfl) (unhide HC0) ?_
        repeat (first
          | go_big_quiet_skip
          | (go_big_quiet_want
             apply Exists.intro
             refine ⟨fun w' hw' => ?_, ?_⟩
             · obtain ⟨c0, c1⟩ := unhide HCC w' hw'
               go_simp
               first | done | (with_reducible exact unhide HMY w' hw') | (with_reducible exact unhide HML w' hw') | rfl
             simp only [Act.put, List.setIfInBounds_toArray, List.set_cons_zero, List.set_cons_succ]
             go_big_quiet_on))
        refine wpQuiet_nil ?_
        intro w' hw'
        have HBW := hide (unhide HCW w' hw')
        go_wp2
        go_ret
        exact ⟨by rw [(unhide HYN).2 (by rw [unhide HOK]; rfl)]; rfl, unhide HBW⟩
      | true =>
        by_cases hk0 : k = 0
        · subst hk0
          have HCC := HCC0
          simp only [Nat.zero_mul, Nat.add_zero] at HCC
          go_wp2_with fail
          refine region_calm CC (by kernel_rfl) (by kernel_rfl) (unhide HC0) ?_
          repeat (first
            | go_big_quiet_skip
            | (go_big_quiet_want
               apply Exists.intro
               refine ⟨fun w' hw' => ?_, ?_⟩
               · obtain ⟨c0, c1⟩ := unhide HCC w' hw'
                 go_simp
                 first | done | (with_reducible exact unhide HMY w' hw') | (with_reducible exact unhide HML w' hw') | rfl
               simp only [Act.put, List.setIfInBounds_toArray, List.set_cons_zero, List.set_cons_succ]
               go_big_quiet_on))
          refine wpQuiet_nil ?_
          intro w' hw'
          have HBW := hide (unhide HCW w' hw')
          go_wp2
          go_roundw
          case rel => exact ⟨0 + 1, by omega, by go_num, (unhide HYN).1 (by rw [unhide HOK]; rfl), unhide HBW⟩
          case measure => simp [intOf]; omega
        · obtain ⟨m, rfl⟩ : ∃ m, k = m + 1 := ⟨k - 1, by omega⟩
          have HCC := HCC0
          simp only [Nat.add_sub_cancel] at HCC
          have HK0 : Hid (decide (m + 1 = 0) = false) := by simp [Hid]
          have hm1 : (m : Int) < l := by omega
          have hm2 : (m : Int) + 1 < l := by omega
          have hm3 : (0 : Int) ≤ (m : Int) + 1 := by omega
          have hm4 : ((m : Int) + 1).toNat = m + 1 := by omega
          have hwm : IntKind.i64.wrap (m : Int) = m := by rw [IntKind.wrap_i64]; omega
          clear hk0
          cases TL with
          | false =>
            go_wp2_with fail
            refine region_calm CC (by kernel_rfl) (by kernel_rfl) (unhide HC0) ?_
            repeat (first
              | go_big_quiet_skip
              | (go_big_quiet_want
                 apply Exists.intro
                 refine ⟨fun w' hw' => ?_, ?_⟩
                 · obtain ⟨c0, c1⟩ := unhide HCC w' hw'
                   go_simp
                   first | done | (with_reducible exact unhide HMY w' hw') | (with_reducible exact unhide HML w' hw') | rfl
                 simp only [Act.put, List.setIfInBounds_toArray, List.set_cons_zero, List.set_cons_succ]
                 go_big_quiet_on))
            refine wpQuiet_nil ?_
            intro w' hw'
            have HBW := hide (unhide HCW w' hw')
            go_wp2
            go_ret
            exact ⟨by rw [(unhide HYN).2 (by rw [unhide HOK, unhide HK0]; rfl)]; rfl, unhide HBW⟩
          | true =>
            go_wp2_with fail
            refine region_calm CC (by kernel_rfl) (by kernel_rfl) (unhide HC0) ?_
            repeat (first
              | go_big_quiet_skip
              | (go_big_quiet_want
                 apply Exists.intro
                 refine ⟨fun w' hw' => ?_, ?_⟩
                 · obtain ⟨c0, c1⟩ := unhide HCC w' hw'
                   go_simp
                   first | done | (with_reducible exact unhide HMY w' hw') | (with_reducible exact unhide HML w' hw') | rfl
                 simp only [Act.put, List.setIfInBounds_toArray, List.set_cons_zero, List.set_cons_succ]
                 go_big_quiet_on))
            refine wpQuiet_nil ?_
            intro w' hw'
            have HBW := hide (unhide HCW w' hw')
            go_wp2
            go_roundw
            case rel => exact ⟨m + 1 + 1, by omega, by go_num, (unhide HYN).1 (by rw [unhide HOK, unhide HK0]; rfl), unhide HBW⟩
            case measure => simp [intOf]; omega
    · have HA := hide (And.intro hn hb)
      clear hn hb hst
      go_wp2
      go_ret
      refine ⟨?_, (unhide HA).2⟩
      have hl := unhide HLN
      have : R = true := by
        rw [unhide HR, rightE_all]
        exact fun i hi => (unhide HA).1 i hi (by omega)
      rw [this]
      rfl
end Go.Proofs.Ytcjepiihknjeiaa

/- What the verifier's helpers do with slices of dunnage/api.Entry: Own, Plain, Same, Kept. (Written by mkhelpk.py.) -/
namespace Go.Proofs.Ytcjepiihknjeiaa.HEnt
open Go.RowKit

theorem info : (Try.prog.info? 37).map (fun i => (i.zero, i.size, i.bytes)) = some (some (.agg #[.string ⟨#[]⟩, .int .u64 0, .int .i64 0, .int .i64 0]), 4, 40) := by kernel_rfl
abbrev X : Type := ByteArray × Int × Int × Int
def C (x : X) : List Value := [.string x.1, .int .u64 x.2.1, .int .i64 x.2.2.1, .int .i64 x.2.2.2]
theorem C_len (x : X) : (C x).length = 4 := rfl
theorem set_take {cur : Array Value} {pre : List Value} {n : Nat} (a0 a1 a2 a3 : Value) (h : cur.toList.take n = pre) (hn : n + 4 ≤ cur.size) :
    ((((cur.setIfInBounds n a0).setIfInBounds (n + 1) a1).setIfInBounds (n + 2) a2).setIfInBounds (n + 3) a3).toList.take (n + 4) = pre ++ [a0, a1, a2, a3] := by
  simp only [Array.toList_setIfInBounds]
  have hl : cur.toList.length = cur.size := Array.length_toList
  have h0 := h
  have h1 := setk_take a0 h0 (by omega)
  have h2 := setk_take a1 h1 (by simp only [List.length_set]; omega)
  have h3 := setk_take a2 h2 (by simp only [List.length_set]; omega)
  have h4 := setk_take a3 h3 (by simp only [List.length_set]; omega)
  simpa using h4

/-- Rows of these. -/
abbrev R (w : World) (s : Value) (l : List X) : Prop := KRow 4 w s l.length (l.flatMap C)
theorem R.at {w : World} {b off : Nat} {l : List X} (h : ∀ (j : Nat) (v : Value), (l.flatMap C)[j]? = some v → w.cell? ⟨b, off + j, none⟩ = some v) (k : Nat) (hk : k < l.length) :
    w.cell? ⟨b, off + k * 4, none⟩ = some (.string l[k].1) ∧ w.cell? ⟨b, off + k * 4 + 1, none⟩ = some (.int .u64 l[k].2.1) ∧ w.cell? ⟨b, off + k * 4 + 2, none⟩ = some (.int .i64 l[k].2.2.1) ∧ w.cell? ⟨b, off + k * 4 + 3, none⟩ = some (.int .i64 l[k].2.2.2) := by
  have hc := fun i hi => flat_get C_len l k hk i hi
  refine ⟨?_, ?_, ?_, ?_⟩
  · exact h (k * 4) _ (by have := hc 0 (by omega); rw [Nat.add_zero] at this; rw [this]; rfl)
  · rw [Nat.add_assoc]; exact h (k * 4 + 1) _ (by rw [hc 1 (by omega)]; rfl)
  · rw [Nat.add_assoc]; exact h (k * 4 + 2) _ (by rw [hc 2 (by omega)]; rfl)
  · rw [Nat.add_assoc]; exact h (k * 4 + 3) _ (by rw [hc 3 (by omega)]; rfl)

/-- Block g holds these and three things f of spare room behind. -/
def Owned (w : World) (g : Nat) (l : List X) (f : X) : Prop := w.heap[g]? = some (.cells ((l ++ List.replicate 3 f).flatMap C).toArray 37 (0, 0))
theorem Owned.lt {w : World} {g : Nat} {l : List X} {f : X} (h : Owned w g l f) : g < w.heap.size := (Array.getElem?_eq_some_iff.1 h).1
theorem Owned.below {w w' : World} {g : Nat} {l : List X} {f : X} (h : Owned w g l f) (hb : Below w.heap.size w w') : Owned w' g l f := (hb.block g (Array.getElem?_eq_some_iff.1 h).1).trans h
theorem Owned.row {w : World} {g : Nat} {l : List X} {f : X} (h : Owned w g l f) (hm : l.length + 3 ≤ maxLen) : R w (.slice (some ⟨g, 0, none⟩) l.length (l.length + 3)) l := by
  refine ⟨_, _, rfl, by omega, hm, by simp, flat_len C_len l, Or.inr ⟨g, 0, rfl, fun j v hj => ?_⟩⟩
  rw [Nat.zero_add, cell_of_row w g j _ _ (0, 0) h, List.getElem?_toArray, List.flatMap_append, List.getElem?_append_left (List.getElem?_eq_some_iff.1 hj).1]
  exact hj
theorem Owned.spare {w : World} {g : Nat} {l : List X} {f : X} (h : Owned w g l f) (k : Nat) (h1 : l.length ≤ k) (h2 : k < l.length + 3) (i : Nat) (hi : i < 4) : w.cell? ⟨g, k * 4 + i, none⟩ = (C f)[i]? := by
  rw [cell_of_row w g _ _ _ (0, 0) h, List.getElem?_toArray, flat_get C_len (l ++ List.replicate 3 f) k (by simp; omega) i hi, List.getElem_append_right h1, List.getElem_replicate]

set_option maxRecDepth 20000 in
theorem plain1_any (c : X) (w : World) : Calls Try.prog 25 #[.agg #[.string c.1, .int .u64 c.2.1, .int .i64 c.2.2.1, .int .i64 c.2.2.2], .agg #[.string c.1, .int .u64 c.2.1, .int .i64 c.2.2.1, .int .i64 c.2.2.2]] w fun e w' => e = .returned (.bool true) ∧ Below w.heap.size w w' := by
  have HB := hide (fun o o' => ((Below.refl w.heap.size w).alloc (Nat.le_refl _) o).alloc (by simp) o')
  go_enter Try.func25, Try.ntmps25
  go_wp2
  go_ret
  exact ⟨by first | rfl | simp, unhide HB _ _⟩

theorem ent_plain1 (args : Array Value) (w : World) : (callFunc 25 args).run Try.prog w = .ok (.enter 25 args) w := by kernel_rfl

theorem cells_up {w w' : World} {b o : Nat} {v0 v1 v2 v3 : Value} (h : w.cell? ⟨b, o, none⟩ = some v0 ∧ w.cell? ⟨b, o + 1, none⟩ = some v1 ∧ w.cell? ⟨b, o + 2, none⟩ = some v2 ∧ w.cell? ⟨b, o + 3, none⟩ = some v3) (hb : Below w.heap.size w w') :
    w'.cell? ⟨b, o, none⟩ = some v0 ∧ w'.cell? ⟨b, o + 1, none⟩ = some v1 ∧ w'.cell? ⟨b, o + 2, none⟩ = some v2 ∧ w'.cell? ⟨b, o + 3, none⟩ = some v3 := by
  obtain ⟨a0, a1, a2, a3⟩ := h
  have hlt := World.block_lt_of_cell? w _ a0
  have hc := fun i => hb.cell (p := ⟨b, i, none⟩) hlt
  exact ⟨(hc _).trans a0, (hc _).trans a1, (hc _).trans a2, (hc _).trans a3⟩

set_option maxRecDepth 20000 in
set_option maxHeartbeats 2000000 in
theorem same_any (s1 s2 : Value) (l : List X) (w : World) (h1 : R w s1 l) (h2 : R w s2 l) :
    Calls Try.prog 24 #[s1, s2, .func (.func 25) #[] #[]] w fun e w' => e = .returned (.bool true) ∧ Below w.heap.size w w' := by
  by_cases h0 : l.length = 0
  · obtain rfl : l = [] := List.eq_nil_of_length_eq_zero h0
    obtain ⟨p1, c1, rfl, _⟩ := KRow.shape h1
    obtain ⟨p2, c2, rfl, _⟩ := KRow.shape h2
    simp only [List.length_nil]
    clear h1 h2 h0
    go_enter Try.func24, Try.ntmps24
    go_wp2
    refine wp_loop_rounds 1 ?_
    rw [rounds_succ]
    go_wp2
    go_ret
    exact ⟨rfl, Below.refl _ _⟩
  · obtain ⟨b1, o1, c1, rfl, hc1, hm1, hcell1⟩ := KRow.open h1 (by omega)
    obtain ⟨b2, o2, c2, rfl, hc2, hm2, hcell2⟩ := KRow.open h2 (by omega)
    unfold maxLen at hm1
    have hl0 : (l.length : Int) ≤ 9223372036854775807 := by omega
    have H1 := hide (fun k hk w' hb => cells_up (w' := w') (R.at hcell1 k hk) hb)
    have H2 := hide (fun k hk w' hb => cells_up (w' := w') (R.at hcell2 k hk) hb)
    clear h1 h2 hcell1 hcell2
    have hn : ((l.length : Int) == l.length) = true := by simp
    go_enter Try.func24, Try.ntmps24
    go_wp2
    go_loopw [7] (fun i wr => ∃ k : Nat, k ≤ l.length ∧ i = .int .i64 k ∧ Hid (Below w.heap.size w wr)) (fun i _ => l.length - (intOf i).toNat)
    case atStart => exact ⟨0, Nat.zero_le _, rfl, Below.refl _ _⟩
    case round =>
      obtain ⟨k, hk, rfl, hbel⟩ := hrel
      by_cases hlt : k < l.length
      · have hk1 : (k : Int) < l.length := by omega
        have HE := ent_plain1
        obtain ⟨CC, hCC⟩ : ∃ CC : World → Prop, CC = fun w' => Below w.heap.size w w' := ⟨_, rfl⟩
        have HC0 : Hid (CC { wr with drawn := wr.drawn + 1 }) := by
          unfold Hid
          rw [hCC]
          exact (unhide hbel).drew
        have HA : Hid (∀ w', CC w' → _) := fun w' hw => unhide H1 k hlt w' (by rw [hCC] at hw; exact hw)
        have HB : Hid (∀ w', CC w' → _) := fun w' hw => unhide H2 k hlt w' (by rw [hCC] at hw; exact hw)
        have HP : Hid (∀ w', CC w' → Calls Try.prog 25 #[.agg #[.string l[k].1, .int .u64 l[k].2.1, .int .i64 l[k].2.2.1, .int .i64 l[k].2.2.2], .agg #[.string l[k].1, .int .u64 l[k].2.1, .int .i64 l[k].2.2.1, .int .i64 l[k].2.2.2]] w' fun e w'' => e = .returned (.bool true) ∧ CC w'') := by
          unfold Hid
          rw [hCC]
          exact fun w' hb => (plain1_any l[k] w').mono fun e w'' hx => ⟨hx.1, hb.trans (hx.2.mono hb.size)⟩
        have HCW : Hid (∀ w', CC w' → Below w.heap.size w w') := by
          unfold Hid
          rw [hCC]
          exact fun w' hb => hb
        generalize l[k] = c at *
        clear hCC hbel
        go_wp2_with fail
        refine region_calm CC (by kernel_rfl) (by kernel_rfl) (unhide HC0) ?_
        repeat (first
          | go_big_quiet_skip
          | (go_big_quiet_want
             apply Exists.intro
             refine ⟨fun w' hw' => ?_, ?_⟩
             · obtain ⟨a0, a1, a2, a3⟩ := unhide HA w' hw'
               obtain ⟨e0, e1, e2, e3⟩ := unhide HB w' hw'
               go_simp
               first | done | rfl | exact unhide HP w' hw'
             simp only [Act.put, List.setIfInBounds_toArray, List.set_cons_zero, List.set_cons_succ]
             go_big_quiet_on))
        refine wpQuiet_nil ?_
        intro w' hw'
        have HBW := hide (unhide HCW w' hw')
        go_wp2
        go_roundw
        case rel => exact ⟨k + 1, by omega, by go_num, HBW⟩
        case measure => simp [intOf]; omega
      · have hkn : k = l.length := by omega
        subst hkn
        go_wp2
        go_ret
        exact ⟨rfl, unhide hbel⟩

set_option maxRecDepth 20000 in
theorem plain_any (s1 s2 : Value) (l : List X) (w : World) (h1 : R w s1 l) (h2 : R w s2 l) :
    Calls Try.prog 14 #[s1, s2] w fun e w' => e = .returned (.bool true) ∧ Below w.heap.size w w' := by
  go_enter Try.func14, Try.ntmps14
  go_wp2_with fail
  refine (same_any s1 s2 l w h1 h2).mono ?_
  rintro e w' ⟨rfl, hb⟩
  go_wp2
  go_ret
  exact ⟨rfl, hb⟩

end Go.Proofs.Ytcjepiihknjeiaa.HEnt
