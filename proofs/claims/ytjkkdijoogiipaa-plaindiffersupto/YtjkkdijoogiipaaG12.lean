/- Texts of ours, one behind the other: FrOwn, FrList, FrOwnL, ElRow, PrHelp, OpLastP, OpLastQ, OpHelp, OpCheck. -/
import Derived.Test.YtjkkdijoogiipaaG1
import Derived.Test.YtjkkdijoogiipaaG5
import Derived.Test.YtjkkdijoogiipaaG6
import Derived.Test.YtjkkdijoogiipaaG7
import Derived.Test.YtjkkdijoogiipaaG10
import Derived.Test.YtjkkdijoogiipaaG11
import Derived.Test.YtjkkdijoogiipaaG13
import Derived.Deep.RegionHeld3
import Derived.BigQuiet
import Derived.BigRegion
import Derived.Deep.RegionLaw
/- What package frame does: mayBe, asBytes, Write, Count, part. -/
namespace Go.Proofs.Ytjkkdijoogiipaa
open Go.RowKit

/-- A frame as a value: its numbers, and the slice of its data. -/
def fv (f : Fr) (s : Value) : Value := .agg #[.int .u64 (f.age : Int), .int .u64 (f.first : Int), .int .i64 f.of, s]

/-- Four cells of a block. -/
def At4 (w : World) (g off : Nat) (a b c d : Value) : Prop := w.cell? ⟨g, off, none⟩ = some a ∧ w.cell? ⟨g, off + 1, none⟩ = some b ∧ w.cell? ⟨g, off + 2, none⟩ = some c ∧ w.cell? ⟨g, off + 3, none⟩ = some d
theorem At4.below {w w' : World} {g off : Nat} {a b c d : Value} (h : At4 w g off a b c d) (hb : Below w.heap.size w w') : At4 w' g off a b c d := by
  obtain ⟨h1, h2, h3, h4⟩ := h
  have hl := World.block_lt_of_cell? w _ h1
  exact ⟨(hb.cell (p := ⟨g, off, none⟩) hl).trans h1, (hb.cell (p := ⟨g, off + 1, none⟩) hl).trans h2, (hb.cell (p := ⟨g, off + 2, none⟩) hl).trans h3, (hb.cell (p := ⟨g, off + 3, none⟩) hl).trans h4⟩
theorem at4_new (w : World) (a b c d : Value) (t : TypeId) : At4 (w.alloc (.cells #[a, b, c, d] t)) w.heap.size 0 a b c d := by
  have h := heap_alloc_new w (.cells #[a, b, c, d] t)
  refine ⟨?_, ?_, ?_, ?_⟩ <;> (rw [cell_of_row _ _ _ _ _ (0, 0) h]; rfl)

theorem owns_base {w : World} {base base' e sz : Nat} {v : Value} {n : Nat} {xs : List Value} (h : w.ownsRow base' e sz v n xs) (hb : base ≤ base') : w.ownsRow base e sz v n xs :=
  ⟨h.1, h.2.elim Or.inl fun ⟨g, cap, cur, hv, hg, r⟩ => Or.inr ⟨g, cap, cur, hv, Nat.le_trans hb hg, r⟩⟩

/-- Four texts in a block. -/
theorem rows2_four (w : World) (t : TypeId) (a b c d : Value) (la lb lc ld : List UInt8) (ha : Row w a la) (hb : Row w b lb) (hc : Row w c lc) (hd : Row w d ld) :
    Rows2 (w.alloc (.cells #[a, b, c, d] t)) (.slice (some ⟨w.heap.size, 0, none⟩) 4 4) [la, lb, lc, ld] := by
  have hbel : Below w.heap.size w (w.alloc (.cells #[a, b, c, d] t)) := (Below.refl _ _).alloc (Nat.le_refl _) _
  obtain ⟨h1, h2, h3, h4⟩ := at4_new w a b c d t
  refine ⟨_, 4, rfl, by simp, by unfold maxLen; omega, by simp, Or.inr ⟨_, 0, rfl, fun j hj => ?_⟩⟩
  have hj' : j < 4 := by simpa using hj
  rw [Nat.zero_add]
  match j, hj' with
  | 0, _ => exact ⟨a, h1, ha.below hbel⟩
  | 1, _ => exact ⟨b, h2, hb.below hbel⟩
  | 2, _ => exact ⟨c, h3, hc.below hbel⟩
  | 3, _ => exact ⟨d, h4, hd.below hbel⟩

theorem part_cells {w : World} {bs : List UInt8} {b off cap : Nat} (h : Row w (.slice (some ⟨b, off, none⟩) bs.length cap) bs) (i to : Nat) (hi : i * 440 ≤ bs.length) (hto : to = min (i * 440 + 440) bs.length) :
    Row w (.slice (some ⟨b, off + i * 440, none⟩) (to - i * 440) (to - i * 440)) (partN bs i) := by
  have hl := length_part bs i
  have hll : (partN bs i).length = to - i * 440 := by omega
  obtain ⟨a, c, e, h1, h2, h3, h4⟩ := h
  simp only [Value.slice.injEq, true_and] at e
  obtain ⟨rfl, rfl⟩ := e
  refine ⟨_, _, by rw [hll], by omega, by omega, by simp, ?_⟩
  rcases h4 with h4 | ⟨b', off', e, hc⟩
  · subst h4
    left
    simp [partN]
  · simp only [Option.some.injEq, Addr.mk.injEq, and_true] at e
    obtain ⟨rfl, rfl⟩ := e
    refine Or.inr ⟨b, off + i * 440, rfl, fun j hj => ?_⟩
    rw [Nat.add_assoc, hc _ (by omega)]
    simp [partN]
end Go.Proofs.Ytjkkdijoogiipaa

/- A slice of frames: its cells, its parts. Nothing here speaks of what the program does. -/
namespace Go.Proofs.Ytjkkdijoogiipaa
open Go.RowKit

theorem slice_of_row {w : World} {s : Value} {bs : List UInt8} (h : Row w s bs) : ∃ p l c, s = .slice p l c := by
  obtain ⟨p, c, l, e, _⟩ := h.shape
  exact ⟨p, l, c, e⟩

/-- The four cells of a frame whose data is the slice p.2. -/
def frC (p : Fr × Value) : List Value := [.int .u64 (p.1.age : Int), .int .u64 (p.1.first : Int), .int .i64 p.1.of, p.2]
def cellsL (l : List (Fr × Value)) : List Value := l.flatMap frC
theorem cellsL_append (a b : List (Fr × Value)) : cellsL (a ++ b) = cellsL a ++ cellsL b := by simp [cellsL]
theorem length_cellsL (l : List (Fr × Value)) : (cellsL l).length = l.length * 4 := by
  induction l with
  | nil => rfl
  | cons p l ih => simp only [cellsL, List.flatMap_cons, List.length_append, List.length_cons] at *; rw [ih]; simp [frC]; omega
theorem cellsL_get : ∀ (l : List (Fr × Value)) (j : Nat) (h : j < l.length) (i : Nat), i < 4 → (cellsL l)[j * 4 + i]? = (frC l[j])[i]?
  | p :: l, 0, h, i, hi => by
    simp only [cellsL, List.flatMap_cons, List.getElem_cons_zero, Nat.zero_mul, Nat.zero_add]
    rw [List.getElem?_append_left (by simp [frC]; omega)]
  | p :: l, j + 1, h, i, hi => by
    have := cellsL_get l j (by simpa using h) i hi
    simp only [cellsL, List.flatMap_cons, List.getElem_cons_succ] at *
    rw [List.getElem?_append_right (by simp [frC]; omega), ← this]
    congr 1
    simp [frC]
    omega

/-- A slice value that reads as these frames, each with the slice of its data. -/
def FL (w : World) (v : Value) (l : List (Fr × Value)) : Prop :=
  (∃ (a : Option Addr) (cap : Nat), v = .slice a l.length cap ∧ l.length ≤ cap ∧ cap ≤ maxLen ∧ (a = none → cap = 0) ∧
    (l = [] ∨ ∃ b off, a = some ⟨b, off, none⟩ ∧ ∀ j u, (cellsL l)[j]? = some u → w.cell? ⟨b, off + j, none⟩ = some u)) ∧
  ∀ p ∈ l, Row w p.2 p.1.data ∧ p.1.ok
/-- The frames. -/
def frs (l : List (Fr × Value)) : List Fr := l.map Prod.fst

theorem FL.nil (w : World) : FL w (.slice none 0 0) [] := ⟨⟨none, 0, rfl, Nat.le_refl _, by unfold maxLen; omega, fun _ => rfl, Or.inl rfl⟩, by simp⟩
theorem FL.below {w w' : World} {v : Value} {l : List (Fr × Value)} (h : FL w v l) (hb : Below w.heap.size w w') : FL w' v l := by
  obtain ⟨⟨a, cap, e, h1, h2, h3, h4⟩, h5⟩ := h
  refine ⟨⟨a, cap, e, h1, h2, h3, ?_⟩, fun p hp => ⟨(h5 p hp).1.below hb, (h5 p hp).2⟩⟩
  rcases h4 with h4 | ⟨b, off, ha, hc⟩
  · exact Or.inl h4
  · exact Or.inr ⟨b, off, ha, fun j u hu => (hb.cell (World.block_lt_of_cell? w _ (hc j u hu))).trans (hc j u hu)⟩
theorem FL.shape {w : World} {v : Value} {l : List (Fr × Value)} (h : FL w v l) : ∃ (a : Option Addr) (cap : Nat), v = .slice a l.length cap ∧ l.length ≤ cap ∧ cap ≤ maxLen ∧ (a = none → cap = 0) := by
  obtain ⟨⟨a, cap, e, h1, h2, h3, h4⟩, h5⟩ := h
  exact ⟨a, cap, e, h1, h2, h3⟩
theorem at4_of {w : World} {b off : Nat} {l : List (Fr × Value)} (hc : ∀ j u, (cellsL l)[j]? = some u → w.cell? ⟨b, off + j, none⟩ = some u) (j : Nat) (hj : j < l.length) :
    At4 w b (off + j * 4) (.int .u64 (l[j].1.age : Int)) (.int .u64 (l[j].1.first : Int)) (.int .i64 l[j].1.of) l[j].2 := by
  have h0 := hc (j * 4 + 0) _ (cellsL_get l j hj 0 (by omega))
  have h1 := hc (j * 4 + 1) _ (cellsL_get l j hj 1 (by omega))
  have h2 := hc (j * 4 + 2) _ (cellsL_get l j hj 2 (by omega))
  have h3 := hc (j * 4 + 3) _ (cellsL_get l j hj 3 (by omega))
  exact ⟨h0, h1, h2, h3⟩
theorem FL.open {w : World} {v : Value} {l : List (Fr × Value)} (h : FL w v l) (hne : l ≠ []) :
    ∃ b off cap, v = .slice (some ⟨b, off, none⟩) l.length cap ∧ l.length ≤ cap ∧ cap ≤ maxLen ∧ (∀ j u, (cellsL l)[j]? = some u → w.cell? ⟨b, off + j, none⟩ = some u) ∧
      ∀ j (h : j < l.length), At4 w b (off + j * 4) (.int .u64 (l[j].1.age : Int)) (.int .u64 (l[j].1.first : Int)) (.int .i64 l[j].1.of) l[j].2 ∧ Row w l[j].2 l[j].1.data := by
  obtain ⟨⟨a, cap, e, h1, h2, h3, h4⟩, h5⟩ := h
  rcases h4 with h4 | ⟨b, off, rfl, hc⟩
  · exact absurd h4 hne
  · exact ⟨b, off, cap, e, h1, h2, hc, fun j hj => ⟨at4_of hc j hj, (h5 _ (List.getElem_mem hj)).1⟩⟩
theorem FL.of_owns {w : World} {base e : Nat} {v : Value} {l : List (Fr × Value)} (h : w.ownsRow base e 4 v l.length (cellsL l)) (hr : ∀ p ∈ l, Row w p.2 p.1.data ∧ p.1.ok) : FL w v l := by
  refine ⟨?_, hr⟩
  rcases h.2 with ⟨rfl, h2⟩ | ⟨g, cap, cur, rfl, hg, hh, h1, h2, h3, h4⟩
  · have : l = [] := List.eq_nil_of_length_eq_zero h2
    subst this
    exact (FL.nil w).1
  · refine ⟨_, cap, rfl, h1, h2, by simp, Or.inr ⟨g, 0, rfl, fun j u hu => ?_⟩⟩
    rw [Nat.zero_add, cell_of_row w g j cur _ (0, 0) hh]
    rw [← h4] at hu
    obtain ⟨hj, rfl⟩ := List.getElem?_eq_some_iff.1 hu
    simp only [List.length_take, Array.length_toList] at hj
    rw [List.getElem_take, Array.getElem_toList]
    exact Array.getElem?_eq_getElem (by omega)
end Go.Proofs.Ytjkkdijoogiipaa

/- A slice of frames in memory of the call's own, to which frames are appended. -/
namespace Go.Proofs.Ytjkkdijoogiipaa
open Go.RowKit

theorem owns_below4 {w w' : World} {base e sz : Nat} {v : Value} {n : Nat} {xs : List Value} (h : w.ownsRow base e sz v n xs) (hb : Below w.heap.size w w') : w'.ownsRow base e sz v n xs := by
  refine ⟨h.1, ?_⟩
  rcases h.2 with h2 | ⟨g, cap, cur, hv, hg, hh, r⟩
  · exact Or.inl h2
  · exact Or.inr ⟨g, cap, cur, hv, hg, (hb.block g (Array.getElem?_eq_some_iff.1 hh).1).trans hh, r⟩
theorem row_block_lt {w : World} {t : Value} {bs : List UInt8} {b off n c : Nat} (h : Row w t bs) (e : t = .slice (some ⟨b, off, none⟩) n c) (hne : bs ≠ []) : b < w.heap.size := by
  obtain ⟨b', off', c', e', _, _, hc⟩ := h.open hne
  rw [e] at e'
  simp only [Value.slice.injEq, Option.some.injEq, Addr.mk.injEq, and_true] at e'
  obtain ⟨⟨rfl, rfl⟩, _, _⟩ := e'
  exact World.block_lt_of_cell? w _ (hc 0 (List.length_pos_iff.2 hne))
theorem oneCell_L (l : List (Fr × Value)) (h : ∀ p ∈ l, ∃ q n c, p.2 = .slice q n c) : ∀ u ∈ cellsL l, u.oneCell' = true := by
  intro u hu
  simp only [cellsL, List.mem_flatMap] at hu
  obtain ⟨p, hp, hu⟩ := hu
  obtain ⟨q, n, c, e⟩ := h p hp
  simp only [frC, List.mem_cons, List.not_mem_nil, or_false, e] at hu
  rcases hu with rfl | rfl | rfl | rfl <;> rfl
theorem length_frs (l : List (Fr × Value)) : (frs l).length = l.length := by simp [frs]
theorem frs_append (a b : List (Fr × Value)) : frs (a ++ b) = frs a ++ frs b := by simp [frs]
end Go.Proofs.Ytjkkdijoogiipaa

/- Rows of things with a key and a value of bytes (operations, pairs) in memory: as they came in, and of the call's own. -/
namespace Go.Proofs.Ytjkkdijoogiipaa
open Go.RowKit

/-- A thing in memory, and the bytes of its value. -/
abbrev El := Opv × List UInt8
abbrev vof (o : Opv) : Value := .slice o.p o.n o.c
/-- As plain data. -/
abbrev Dat := ByteArray × List UInt8 × Bool
def dat (L : List El) : List Dat := L.map fun x => (x.1.key, x.2, x.1.del)
theorem dat_len (L : List El) : (dat L).length = L.length := by simp [dat]
theorem dat_app (L M : List El) : dat (L ++ M) = dat L ++ dat M := by simp [dat]
theorem dat_get (L : List El) (j : Nat) (h : j < L.length) : (dat L)[j]'(by rw [dat_len]; exact h) = (L[j].1.key, L[j].2, L[j].1.del) := by simp [dat]
def elC (cf : Opv → List Value) (L : List El) : List Value := L.flatMap fun x => cf x.1
theorem elC_app (cf : Opv → List Value) (L M : List El) : elC cf (L ++ M) = elC cf L ++ elC cf M := by simp [elC]
theorem elC_one (cf : Opv → List Value) (x : El) : elC cf [x] = cf x.1 := by simp [elC]
theorem elC_len {k : Nat} {cf : Opv → List Value} (hk : ∀ o, (cf o).length = k) (L : List El) : (elC cf L).length = L.length * k := flat_len (f := fun x : El => cf x.1) (fun x => hk x.1) L
theorem elC_get {k : Nat} {cf : Opv → List Value} (hk : ∀ o, (cf o).length = k) (L : List El) (j : Nat) (h : j < L.length) (i : Nat) (hi : i < k) : (elC cf L)[j * k + i]? = (cf L[j].1)[i]? := flat_get (f := fun x : El => cf x.1) (fun x => hk x.1) L j h i hi
theorem elC_one_cell {cf : Opv → List Value} (h1 : ∀ o, ∀ u ∈ cf o, u.oneCell' = true) (L : List El) : ∀ u ∈ elC cf L, u.oneCell' = true := by
  intro u hu
  simp only [elC, List.mem_flatMap] at hu
  obtain ⟨x, _, hu⟩ := hu
  exact h1 x.1 u hu

/-- A slice value that reads as these things. -/
def EL (k : Nat) (cf : Opv → List Value) (w : World) (v : Value) (L : List El) : Prop := KRow k w v L.length (elC cf L) ∧ ∀ x ∈ L, Row w (vof x.1) x.2
theorem EL.below {k : Nat} {cf : Opv → List Value} {w w' : World} {v : Value} {L : List El} (h : EL k cf w v L) (hb : Below w.heap.size w w') : EL k cf w' v L := ⟨h.1.below hb, fun x hx => (h.2 x hx).below hb⟩
theorem EL.nil (k : Nat) (cf : Opv → List Value) (w : World) : EL k cf w (.slice none 0 0) [] := ⟨KRow.nil k w, fun x hx => by cases hx⟩
theorem EL.shape {k : Nat} {cf : Opv → List Value} {w : World} {v : Value} {L : List El} (h : EL k cf w v L) : ∃ (p : Option Addr) (c : Nat), v = .slice p L.length c ∧ L.length ≤ c ∧ c ≤ maxLen ∧ (p = none → c = 0) := h.1.shape
/-- The cells of a row that is not empty. -/
theorem EL.open {k : Nat} {cf : Opv → List Value} (hk : ∀ o, (cf o).length = k) {w : World} {v : Value} {L : List El} (h : EL k cf w v L) (hne : 0 < L.length) :
    ∃ b off cap, v = .slice (some ⟨b, off, none⟩) L.length cap ∧ L.length ≤ cap ∧ cap ≤ maxLen ∧ ∀ j (hj : j < L.length) i u, i < k → (cf L[j].1)[i]? = some u → w.cell? ⟨b, off + j * k + i, none⟩ = some u := by
  obtain ⟨b, off, cap, e, h1, h2, hc⟩ := h.1.open hne
  refine ⟨b, off, cap, e, h1, h2, fun j hj i u hi hu => ?_⟩
  have := hc (j * k + i) u (by rw [elC_get hk L j hj i hi]; exact hu)
  rwa [← Nat.add_assoc] at this

/-- A row of the call's own, to which things are appended; no value lies in its block. -/
def EO (T k : Nat) (cf : Opv → List Value) (w : World) (base : Nat) (v : Value) (L : List El) : Prop :=
  w.ownsRow base T k v L.length (elC cf L) ∧ ∀ x ∈ L, Row w (vof x.1) x.2 ∧ ∀ b off, x.1.p = some ⟨b, off, none⟩ → x.2 ≠ [] → v.ownBlock ≠ some b
theorem EO.nil (T k : Nat) (cf : Opv → List Value) (w : World) (base : Nat) : EO T k cf w base (.slice none 0 0) [] := ⟨World.ownsRow_nil _ _ _ _, fun x hx => by cases hx⟩
theorem EO.below {T k : Nat} {cf : Opv → List Value} {w w' : World} {base : Nat} {v : Value} {L : List El} (h : EO T k cf w base v L) (hb : Below w.heap.size w w') : EO T k cf w' base v L :=
  ⟨owns_below4 h.1 hb, fun x hx => ⟨(h.2 x hx).1.below hb, (h.2 x hx).2⟩⟩
theorem EO.base {T k : Nat} {cf : Opv → List Value} {w : World} {base base' : Nat} {v : Value} {L : List El} (h : EO T k cf w base v L) (hb : base' ≤ base) : EO T k cf w base' v L := by
  refine ⟨⟨h.1.1, ?_⟩, h.2⟩
  rcases h.1.2 with h2 | ⟨g, cap, cur, hv, hg, r⟩
  · exact Or.inl h2
  · exact Or.inr ⟨g, cap, cur, hv, Nat.le_trans hb hg, r⟩
theorem EO.el {T k : Nat} {cf : Opv → List Value} (hk : ∀ o, (cf o).length = k) {w : World} {base : Nat} {v : Value} {L : List El} (h : EO T k cf w base v L) : EL k cf w v L :=
  ⟨krow_of_owns h.1 (elC_len hk L), fun x hx => (h.2 x hx).1⟩
theorem EO.shape {T k : Nat} {cf : Opv → List Value} {w : World} {base : Nat} {v : Value} {L : List El} (h : EO T k cf w base v L) : ∃ p c, v = .slice p L.length c := by
  rcases h.1.2 with ⟨e, h0⟩ | ⟨g', cap', cur, e, _⟩
  · exact ⟨none, 0, by rw [e, h0]⟩
  · exact ⟨_, _, e⟩
/-- Where a row's values lie. -/
theorem row_lt {w : World} {o : Opv} {bs : List UInt8} {b off : Nat} (h : Row w (vof o) bs) (e : o.p = some ⟨b, off, none⟩) (hne : bs ≠ []) : b < w.heap.size := row_block_lt h (by unfold vof; rw [e]) hne
/-- More things behind. -/
theorem EO.more {T k : Nat} {cf : Opv → List Value} {W w2 : World} {base : Nat} {v v' : Value} {L M : List El} (h : EO T k cf W base v L)
    (hm : ∀ x ∈ M, Row W (vof x.1) x.2 ∧ ∀ b off, x.1.p = some ⟨b, off, none⟩ → x.2 ≠ [] → v.ownBlock ≠ some b)
    (hown : w2.ownsRow base T k v' (L.length + M.length) (elC cf L ++ elC cf M)) (hg : W.grownBy w2 v.ownBlock) (hv : v'.ownBlock = v.ownBlock ∨ v'.ownBlock = some W.heap.size) : EO T k cf w2 base v' (L ++ M) := by
  refine ⟨by rw [List.length_append, elC_app]; exact hown, fun x hx => ?_⟩
  obtain ⟨h2, h3⟩ : Row W (vof x.1) x.2 ∧ ∀ b off, x.1.p = some ⟨b, off, none⟩ → x.2 ≠ [] → v.ownBlock ≠ some b := by
    rcases List.mem_append.1 hx with hx | hx
    · exact h.2 x hx
    · exact hm x hx
  refine ⟨h2.grown hg (fun b off n c e hne => h3 b off (by unfold vof at e; simp only [Value.slice.injEq] at e; exact e.1) hne), fun b off e hne => ?_⟩
  rcases hv with hv | hv
  · rw [hv]; exact h3 b off e hne
  · rw [hv]
    have := row_lt h2 e hne
    intro e
    simp only [Option.some.injEq] at e
    omega
/-- All values lie in memory of the call's own. -/
def News (w : World) (base : Nat) (L : List El) : Prop := ∀ x ∈ L, Mine w base (vof x.1) x.2
theorem News.below {w w' : World} {base : Nat} {L : List El} (h : News w base L) (hb : Below w.heap.size w w') : News w' base L := fun x hx => (h x hx).below hb
theorem Mine.grown {w w' : World} {base : Nat} {g : Option Nat} {o : Opv} {bs : List UInt8} (h : Mine w base (vof o) bs) (hg : w.grownBy w' g) (hn : ∀ b off, o.p = some ⟨b, off, none⟩ → bs ≠ [] → g ≠ some b) : Mine w' base (vof o) bs := by
  refine ⟨h.1.grown hg (fun b off n c e hne => hn b off (by unfold vof at e; simp only [Value.slice.injEq] at e; exact e.1) hne), ?_⟩
  by_cases hne : bs = []
  · exact Or.inl hne
  rcases h.2 with h2 | ⟨b, off, cap, e, cur, ht, hb, hh⟩
  · exact Or.inl h2
  · exact Or.inr ⟨b, off, cap, e, cur, ht, hb, (hg.block b (Array.getElem?_eq_some_iff.1 hh).1 (fun e2 => hn b off (by unfold vof at ht; simp only [Value.slice.injEq] at ht; exact ht.1) hne e2.symm)).trans hh⟩
/-- No two values share a block. -/
def Dif (L : List El) : Prop := ∀ (i j : Nat) (x y : El) (b off off' : Nat), i ≠ j → L[i]? = some x → L[j]? = some y → x.2 ≠ [] → y.2 ≠ [] → x.1.p = some ⟨b, off, none⟩ → y.1.p = some ⟨b, off', none⟩ → False
theorem Dif.nil : Dif [] := fun i j x y b off off' _ hx => by simp at hx
theorem Dif.more {L : List El} {x : El} (h : Dif L) (n : Nat) (hl : ∀ y ∈ L, ∀ b off, y.2 ≠ [] → y.1.p = some ⟨b, off, none⟩ → b < n) (hx : ∀ b off, x.2 ≠ [] → x.1.p = some ⟨b, off, none⟩ → n ≤ b) : Dif (L ++ [x]) := by
  intro i j y z b off off' hij hy hz hy2 hz2 hyb hzb
  rw [List.getElem?_append] at hy hz
  split at hy
  · rename_i hi
    split at hz
    · exact h i j y z b off off' hij hy hz hy2 hz2 hyb hzb
    · have e : z = x := by
        obtain ⟨hq, e⟩ := List.getElem?_eq_some_iff.1 hz
        simp only [List.length_cons, List.length_nil] at hq
        have : j - L.length = 0 := by omega
        simp only [this, List.getElem_cons_zero] at e
        exact e.symm
      subst e
      have a1 := hl y (List.mem_of_getElem? hy) b off hy2 hyb
      have a2 := hx b off' hz2 hzb
      omega
  · rename_i hi
    have e : y = x := by
      obtain ⟨hq, e⟩ := List.getElem?_eq_some_iff.1 hy
      simp only [List.length_cons, List.length_nil] at hq
      have : i - L.length = 0 := by omega
      simp only [this, List.getElem_cons_zero] at e
      exact e.symm
    subst e
    split at hz
    · have a1 := hl z (List.mem_of_getElem? hz) b off' hz2 hzb
      have a2 := hx b off hy2 hyb
      omega
    · obtain ⟨hq, _⟩ := List.getElem?_eq_some_iff.1 hy
      obtain ⟨hq', _⟩ := List.getElem?_eq_some_iff.1 hz
      simp only [List.length_cons, List.length_nil] at hq hq'
      omega
/-- A value that was just made: its block, if it has bytes. -/
theorem Mine.blk {w : World} {base : Nat} {o : Opv} {bs : List UInt8} (h : Mine w base (vof o) bs) : ∀ b off, bs ≠ [] → o.p = some ⟨b, off, none⟩ → base ≤ b := by
  intro b off hne e
  rcases h.2 with h2 | ⟨g, off', cap, e', cur, ht, hg, hh⟩
  · exact absurd h2 hne
  · unfold vof at ht
    rw [e] at ht
    simp only [Value.slice.injEq, Option.some.injEq, Addr.mk.injEq, and_true] at ht
    omega
theorem mine_opv {w : World} {base : Nat} {t : Value} {bs : List UInt8} (h : Mine w base t bs) : ∃ p n c, t = .slice p n c := by
  obtain ⟨p, c, l, e, _⟩ := h.1.shape
  exact ⟨p, l, c, e⟩
theorem opC_one (o : Opv) : ∀ u ∈ opC o, u.oneCell' = true := by
  intro u hu
  simp only [opC, List.mem_cons, List.not_mem_nil, or_false] at hu
  rcases hu with rfl | rfl | rfl <;> rfl
/-- The cells of an operation. -/
theorem EL.op {w : World} {v : Value} {L : List El} (h : EL 3 opC w v L) (hne : 0 < L.length) :
    ∃ b off cap, v = .slice (some ⟨b, off, none⟩) L.length cap ∧ L.length ≤ cap ∧ cap ≤ maxLen ∧ ∀ j (hj : j < L.length), w.cell? ⟨b, off + j * 3, none⟩ = some (.string L[j].1.key) ∧ w.cell? ⟨b, off + j * 3 + 1, none⟩ = some (vof L[j].1) ∧ w.cell? ⟨b, off + j * 3 + 2, none⟩ = some (.bool L[j].1.del) := by
  obtain ⟨b, off, cap, e, h1, h2, hc⟩ := EL.open opC_len h hne
  exact ⟨b, off, cap, e, h1, h2, fun j hj => ⟨hc j hj 0 _ (by omega) rfl, hc j hj 1 _ (by omega) rfl, hc j hj 2 _ (by omega) rfl⟩⟩
end Go.Proofs.Ytjkkdijoogiipaa

/- The helpers of the statements, at pairs: Pair, Same, Pairs. -/
namespace Go.Proofs.Ytjkkdijoogiipaa
open Go.RowKit

/-- A pair in memory (an operation's key and value; its third part plays no part). -/
def prA (o : Opv) : Array Value := #[.string o.key, .slice o.p o.n o.c]
def prC (o : Opv) : List Value := [.string o.key, .slice o.p o.n o.c]
theorem prC_len (o : Opv) : (prC o).length = 2 := rfl
theorem prC_one (o : Opv) : ∀ u ∈ prC o, u.oneCell' = true := by
  intro u hu
  simp only [prC, List.mem_cons, List.not_mem_nil, or_false] at hu
  rcases hu with rfl | rfl <;> rfl
/-- Pairs as plain data. -/
abbrev Pd := ByteArray × List UInt8
def pdat (L : List El) : List Pd := L.map fun x => (x.1.key, x.2)
theorem pdat_len (L : List El) : (pdat L).length = L.length := by simp [pdat]
theorem pdat_app (L M : List El) : pdat (L ++ M) = pdat L ++ pdat M := by simp [pdat]
theorem pdat_get (L : List El) (j : Nat) (h : j < L.length) : (pdat L)[j]'(by rw [pdat_len]; exact h) = (L[j].1.key, L[j].2) := by simp [pdat]
theorem Try.info34 : (Try.prog.info? 34).map (fun i => (i.zero, i.size, i.bytes)) = some (some (.agg #[.string ⟨#[]⟩, .slice none 0 0]), 2, 40) := by kernel_rfl
/-- A region that draws its order, by a class of worlds that all its operations keep. -/
theorem region_pair {P : Program} {id : Nat} {Q : Exit → Act → World → Prop} {a : Act} {w : World} {l : List Oper} (C : World → Prop) (hm : P.follows .mixedOrders = true) (hB : Region.lexB .any l.toArray = true) (hC : C { w with drawn := w.drawn + 1 })
    (h : wpQuiet P l.toArray C (fun a' => ∀ w', C w' → Q .normal a' w') l a) : (Code.region id l.toArray true).wp P Q a w :=
  wp_region_quiet hm hB hC (by simpa using h)
/-- What a row of pairs that came in shows in each later world. -/
def SeenP (w : World) (b o : Nat) (L : List El) : Prop := ∀ (k : Nat) (hk : k < L.length) (W : World), Below w.heap.size w W → W.cell? ⟨b, o + k * 2, none⟩ = some (.string L[k].1.key) ∧ W.cell? ⟨b, o + k * 2 + 1, none⟩ = some (vof L[k].1) ∧ Row W (vof L[k].1) L[k].2
theorem EL.seenP {w : World} {v : Value} {L : List El} (h : EL 2 prC w v L) (hne : 0 < L.length) : ∃ b o c, v = .slice (some ⟨b, o, none⟩) L.length c ∧ L.length ≤ c ∧ c ≤ maxLen ∧ SeenP w b o L := by
  obtain ⟨b, off, cap, e, h1, h2, hc⟩ := EL.open prC_len h hne
  refine ⟨b, off, cap, e, h1, h2, fun k hk W hw => ?_⟩
  have a1 := hc k hk 0 _ (by omega) rfl
  have a2 := hc k hk 1 _ (by omega) rfl
  exact ⟨(hw.cell (World.block_lt_of_cell? w _ a1)).trans a1, (hw.cell (World.block_lt_of_cell? w _ a2)).trans a2, (h.2 _ (List.getElem_mem hk)).below hw⟩
def eqP (x y : El) : Bool := decide (x.1.key = y.1.key ∧ x.2 = y.2)

set_option maxRecDepth 20000 in
set_option maxHeartbeats 2000000 in
theorem hpair_any (x y : El) (w : World) (hx : Row w (vof x.1) x.2) (hy : Row w (vof y.1) y.2) :
    Calls Try.prog 25 #[.agg (prA x.1), .agg (prA y.1)] w fun e w' => e = .returned (.bool (eqP x y)) ∧ Below w.heap.size w w' := by
  obtain ⟨⟨ak, ap, an, ac, ad⟩, av⟩ := x
  obtain ⟨⟨bk, bp, bn, bc, bd⟩, bv⟩ := y
  have hE : eqP (⟨ak, ap, an, ac, ad⟩, av) (⟨bk, bp, bn, bc, bd⟩, bv) = (decide (ak = bk) && (av == bv)) := by
    unfold eqP
    by_cases h1 : ak = bk <;> by_cases h2 : av = bv <;> simp [h1, h2]
  unfold vof at hx hy
  unfold prA
  simp only at hx hy ⊢
  have HB := hide (fun (o1 o2 : Obj) => ((Below.refl w.heap.size w).alloc (Nat.le_refl _) o1).alloc (by simp) o2)
  have HY := hide (fun (o1 o2 : Obj) => bytes_any _ _ av bv ((w.alloc o1).alloc o2) (hx.below (unhide HB o1 o2)) (hy.below (unhide HB o1 o2)))
  generalize eqP (⟨ak, ap, an, ac, ad⟩, av) (⟨bk, bp, bn, bc, bd⟩, bv) = R at *
  generalize (av == bv) = VB at *
  have HE := hide hE
  clear hE hx hy
  by_cases hk : ak = bk
  · subst hk
    go_enter Try.func25, Try.ntmps25
    go_wp2_with (go_at_call 23; refine Calls.mono (unhide HY _ _) ?_; rintro e w' ⟨rfl, rfl⟩)
    go_ret
    exact ⟨by rw [unhide HE]; simp, unhide HB _ _⟩
  · have hk2 : (ak.toList == bk.toList) = false := by
      simp only [beq_eq_false_iff_ne]
      exact fun e => hk (bl_inj e)
    have HK : Hid (decide (ak = bk) = false) := decide_eq_false hk
    clear hk
    go_enter Try.func25, Try.ntmps25
    go_wp2
    go_ret
    exact ⟨by rw [unhide HE, unhide HK]; rfl, unhide HB _ _⟩

set_option maxRecDepth 20000 in
set_option maxHeartbeats 2000000 in
theorem hsamepairs_any (v1 v2 : Value) (L M : List El) (w : World) (h1 : EL 2 prC w v1 L) (h2 : EL 2 prC w v2 M) :
    Calls Try.prog 24 #[v1, v2, .func (.func 25) #[] #[]] w fun e w' => e = .returned (.bool (decide (pdat L = pdat M))) ∧ Below w.heap.size w w' := by
  obtain ⟨R, hR⟩ : ∃ R, R = decide (pdat L = pdat M) := ⟨_, rfl⟩
  rw [← hR]
  by_cases hlen : L.length = M.length
  · by_cases h0 : L.length = 0
    · obtain ⟨p1, c1, rfl, _⟩ := h1.shape
      obtain ⟨p2, c2, rfl, _⟩ := h2.shape
      have hT : R = true := by
        rw [hR]
        have e1 : L = [] := List.eq_nil_of_length_eq_zero h0
        have e2 : M = [] := List.eq_nil_of_length_eq_zero (by omega)
        rw [e1, e2]; simp
      rw [← hlen, h0, hT]
      go_enter Try.func24, Try.ntmps24
      go_wp2
      refine wp_loop_rounds 1 ?_
      rw [rounds_succ]
      go_wp2
      go_ret
      exact ⟨rfl, Below.refl _ _⟩
    obtain ⟨b1, o1, c1, rfl, k1, k2, hc1⟩ := h1.seenP (by omega)
    obtain ⟨b2, o2, c2, rfl, k3, k4, hc2⟩ := h2.seenP (by omega)
    rw [← hlen]
    obtain ⟨l, hl⟩ : ∃ l, l = L.length := ⟨_, rfl⟩
    rw [← hl] at k1 ⊢
    unfold maxLen at k2
    have hl0 : (l : Int) ≤ 9223372036854775807 := by omega
    have HS1 := hide hc1
    have HS2 := hide hc2
    have HLN := hide (And.intro hl hlen)
    have HR := hide hR
    clear h1 h2 hc1 hc2 k1 k2 k3 k4 hl hlen h0 hR
    go_enter Try.func24, Try.ntmps24
    go_wp2
    go_loopw [7] (fun i wr => ∃ k : Nat, k ≤ l ∧ i = .int .i64 k ∧ Hid ((pdat L).take k = (pdat M).take k ∧ Below w.heap.size w wr)) (fun i _ => l - (intOf i).toNat)
    case atStart => exact ⟨0, Nat.zero_le _, rfl, rfl, Below.refl _ _⟩
    case round =>
      obtain ⟨k, hk, rfl, hst⟩ := hrel
      obtain ⟨heq, hb⟩ := unhide hst
      by_cases hlt : (k : Int) < (l : Int)
      · obtain ⟨hl, hlen⟩ := unhide HLN
        have i1 : k < L.length := by omega
        have i2 : k < M.length := by omega
        have HCCa : Hid (∀ w', Below w.heap.size w w' → (w'.cell? ⟨b1, o1 + k * 2, none⟩ = some (.string L[k].1.key) ∧ w'.cell? ⟨b1, o1 + k * 2 + 1, none⟩ = some (vof L[k].1)) ∧ (w'.cell? ⟨b2, o2 + k * 2, none⟩ = some (.string M[k].1.key) ∧ w'.cell? ⟨b2, o2 + k * 2 + 1, none⟩ = some (vof M[k].1))) := fun w' hw => ⟨⟨(unhide HS1 k i1 w' hw).1, (unhide HS1 k i1 w' hw).2.1⟩, (unhide HS2 k i2 w' hw).1, (unhide HS2 k i2 w' hw).2.1⟩
        have HOPa : Hid (∀ w', Below w.heap.size w w' → Calls Try.prog 25 #[.agg (prA L[k].1), .agg (prA M[k].1)] w' fun e w'' => e = .returned (.bool (eqP L[k] M[k])) ∧ Below w.heap.size w w'') := fun w' hw =>
          (hpair_any L[k] M[k] w' (unhide HS1 k i1 w' hw).2.2 (unhide HS2 k i2 w' hw).2.2).mono fun e w'' hx => ⟨hx.1, hw.trans (hx.2.mono hw.size)⟩
        have hyes : eqP L[k] M[k] = true → (pdat L).take (k + 1) = (pdat M).take (k + 1) := by
          intro h
          have := of_decide_eq_true h
          rw [List.take_succ_eq_append_getElem (by rw [pdat_len]; exact i1), List.take_succ_eq_append_getElem (by rw [pdat_len]; exact i2), heq, pdat_get L k i1, pdat_get M k i2, this.1, this.2]
        have hno : eqP L[k] M[k] = false → R = false := by
          intro h
          rw [unhide HR]
          refine decide_eq_false fun e => ?_
          have e2 : (pdat L)[k]? = (pdat M)[k]? := by rw [e]
          rw [List.getElem?_eq_getElem (by rw [pdat_len]; exact i1), List.getElem?_eq_getElem (by rw [pdat_len]; exact i2), pdat_get L k i1, pdat_get M k i2, Option.some.injEq, Prod.mk.injEq] at e2
          exact (of_decide_eq_false h) e2
        generalize eqP L[k] M[k] = PX at *
        generalize L[k] = x at *
        generalize M[k] = y at *
        obtain ⟨⟨ak, ap, an, ac, ad⟩, av⟩ := x
        obtain ⟨⟨bk, bp, bn, bc, bd⟩, bv⟩ := y
        unfold prA at HOPa
        unfold vof at HCCa
        simp only at HOPa HCCa
        obtain ⟨CC, hCC⟩ : ∃ CC : World → Prop, CC = fun w' => Below w.heap.size w w' := ⟨_, rfl⟩
        have HC0 : Hid (CC { wr with drawn := wr.drawn + 1 }) := by rw [hCC]; exact hb.drew
        have HCW : Hid (∀ w', CC w' → Below w.heap.size w w') := by rw [hCC]; exact fun w' hw => hw
        have HCC : Hid (∀ w', CC w' → (w'.cell? ⟨b1, o1 + k * 2, none⟩ = some (.string ak) ∧ w'.cell? ⟨b1, o1 + k * 2 + 1, none⟩ = some (.slice ap an ac)) ∧ (w'.cell? ⟨b2, o2 + k * 2, none⟩ = some (.string bk) ∧ w'.cell? ⟨b2, o2 + k * 2 + 1, none⟩ = some (.slice bp bn bc))) := by rw [hCC]; exact unhide HCCa
        have HCL : Hid (∀ w', CC w' → Calls Try.prog 25 #[.agg #[.string ak, .slice ap an ac], .agg #[.string bk, .slice bp bn bc]] w' fun e w'' => e = .returned (.bool PX) ∧ CC w'') := by rw [hCC]; exact unhide HOPa
        have HYN := hide (And.intro hyes hno)
        clear hl hlen i1 i2 HCCa HOPa hyes hno hCC hb heq hst
        cases PX with
        | true =>
          go_wp2_with fail
          refine region_pair CC (by kernel_rfl) (by kernel_rfl) (unhide HC0) ?_
          repeat (first
            | go_big_quiet_skip
            | (go_big_quiet_want
               apply Exists.intro
               refine ⟨fun w' hw' => ?_, ?_⟩
               · obtain ⟨⟨c0, c1⟩, c2, c3⟩ := unhide HCC w' hw'
                 go_simp
                 first | done | rfl | exact unhide HCL w' hw'
               simp only [Act.put, List.setIfInBounds_toArray, List.set_cons_zero, List.set_cons_succ]
               go_big_quiet_on))
          refine wpQuiet_nil ?_
          intro w' hw'
          have HBW := hide (unhide HCW w' hw')
          clear hw' HCC HCL HC0
          go_wp2
          go_roundw
          case rel => exact ⟨k + 1, by omega, by go_num, (unhide HYN).1 (by first | rfl | trivial), unhide HBW⟩
          case measure => simp [intOf]; omega
        | false =>
          go_wp2_with fail
          refine region_pair CC (by kernel_rfl) (by kernel_rfl) (unhide HC0) ?_
          repeat (first
            | go_big_quiet_skip
            | (go_big_quiet_want
               apply Exists.intro
               refine ⟨fun w' hw' => ?_, ?_⟩
               · obtain ⟨⟨c0, c1⟩, c2, c3⟩ := unhide HCC w' hw'
                 go_simp
                 first | done | rfl | exact unhide HCL w' hw'
               simp only [Act.put, List.setIfInBounds_toArray, List.set_cons_zero, List.set_cons_succ]
               go_big_quiet_on))
          refine wpQuiet_nil ?_
          intro w' hw'
          have HBW := hide (unhide HCW w' hw')
          clear hw' HCC HCL HC0
          go_wp2
          go_ret
          exact ⟨by rw [(unhide HYN).2 (by first | rfl | trivial)]; rfl, unhide HBW⟩
      · have HA := hide (And.intro heq hb)
        clear heq hb hst
        go_wp2
        go_ret
        obtain ⟨heq, hb⟩ := unhide HA
        refine ⟨?_, hb⟩
        obtain ⟨hl, hlen⟩ := unhide HLN
        have hT : R = true := by
          rw [unhide HR]
          refine decide_eq_true ?_
          rw [List.take_of_length_le (by rw [pdat_len]; omega), List.take_of_length_le (by rw [pdat_len]; omega)] at heq
          exact heq
        rw [hT]
        rfl
  · obtain ⟨p1, c1, rfl, k1, k2, _⟩ := h1.shape
    obtain ⟨p2, c2, rfl, k3, k4, _⟩ := h2.shape
    unfold maxLen at k2 k4
    have hF : R = false := by
      rw [hR]
      refine decide_eq_false fun e => hlen ?_
      rw [← pdat_len, e, pdat_len]
    have hne : ((L.length : Int) != (M.length : Int)) = true := by simp; omega
    have hne2 : (L.length != M.length) = true := by simp [hlen]
    rw [hF]
    generalize L.length = n1 at *
    generalize M.length = n2 at *
    have hnn : ¬ (n1 : Int) = (n2 : Int) := by omega
    clear h1 h2 hR hF k1 k2 k3 k4
    go_enter Try.func24, Try.ntmps24
    go_wp2
    go_ret
    exact ⟨rfl, Below.refl _ _⟩

theorem hpairs_any (v1 v2 : Value) (L M : List El) (w : World) (h1 : EL 2 prC w v1 L) (h2 : EL 2 prC w v2 M) :
    Calls Try.prog 10 #[v1, v2] w fun e w' => e = .returned (.bool (decide (pdat L = pdat M))) ∧ Below w.heap.size w w' := by
  have HC := hide (hsamepairs_any v1 v2 L M w h1 h2)
  clear h1 h2
  generalize decide (pdat L = pdat M) = R at *
  go_enter Try.func10, Try.ntmps10
  go_wp2_with (go_at_call 24; refine Calls.mono (unhide HC) ?_; rintro e w2 ⟨rfl, hx2⟩; have HX2 := hide hx2; clear hx2)
  go_ret
  exact ⟨rfl, unhide HX2⟩
end Go.Proofs.Ytjkkdijoogiipaa

/- The last operations of each key, as plain lists: by inserting one behind the other, and by sorting; nothing here speaks of the program. -/
namespace Go.Proofs.Ytjkkdijoogiipaa
open Go.RowKit

abbrev kD (x : Dat) : List UInt8 := x.1.toList
/-- In strict order of their keys. -/
def Sd (l : List Dat) : Prop := l.Pairwise fun x y => tl (kD x) (kD y) = true
theorem sd_ext : ∀ (l m : List Dat), Sd l → Sd m → (∀ x, x ∈ l ↔ x ∈ m) → l = m
  | [], [], _, _, _ => rfl
  | [], b :: m, _, _, h => absurd ((h b).2 (by simp)) (by simp)
  | a :: l, [], _, _, h => absurd ((h a).1 (by simp)) (by simp)
  | a :: l, b :: m, h1, h2, h => by
    obtain ⟨h1a, h1b⟩ := List.pairwise_cons.1 h1
    obtain ⟨h2a, h2b⟩ := List.pairwise_cons.1 h2
    have hab : a = b := by
      rcases List.mem_cons.1 ((h a).1 (by simp)) with e | e
      · exact e
      · rcases List.mem_cons.1 ((h b).2 (by simp)) with e' | e'
        · exact e'.symm
        · have x1 := h2a a e
          have x2 := h1a b e'
          rw [tl_asym _ _ x1] at x2
          cases x2
    subst hab
    congr 1
    refine sd_ext l m h1b h2b fun x => ⟨fun hx => ?_, fun hx => ?_⟩
    · rcases List.mem_cons.1 ((h x).1 (List.mem_cons_of_mem _ hx)) with e | e
      · have := h1a x hx
        rw [e, tl_irr] at this
        cases this
      · exact e
    · rcases List.mem_cons.1 ((h x).2 (List.mem_cons_of_mem _ hx)) with e | e
      · have := h2a x hx
        rw [e, tl_irr] at this
        cases this
      · exact e
/-- Where a key stands among ordered ones. -/
def atD (out : List Dat) (o : Dat) : Nat := (out.takeWhile fun x => tl (kD x) (kD o)).length
/-- One more operation. -/
def insD (out : List Dat) (o : Dat) : List Dat :=
  if (out[atD out o]?).any (fun x => decide (kD x = kD o)) then out.set (atD out o) o else out.take (atD out o) ++ o :: out.drop (atD out o)
def lastD (l : List Dat) : List Dat := l.foldl insD []
theorem lastD_snoc (l : List Dat) (o : Dat) : lastD (l ++ [o]) = insD (lastD l) o := by simp [lastD, List.foldl_append]
/-- It is the last one of its key. -/
def Lk (l : List Dat) (o : Dat) : Prop := ∃ t : Nat, l[t]? = some o ∧ ∀ (t' : Nat) (y : Dat), t < t' → l[t']? = some y → kD y ≠ kD o
theorem lk_snoc (l : List Dat) (o x : Dat) : Lk (l ++ [o]) x ↔ x = o ∨ (Lk l x ∧ kD x ≠ kD o) := by
  constructor
  · rintro ⟨t, ht, hl⟩
    rw [List.getElem?_append] at ht
    split at ht
    · rename_i hlt
      refine Or.inr ⟨⟨t, ht, fun t' y h1 hy => ?_⟩, fun e => ?_⟩
      · obtain ⟨hq, _⟩ := List.getElem?_eq_some_iff.1 hy
        exact hl t' y h1 (by rw [List.getElem?_append_left hq]; exact hy)
      · exact hl l.length o hlt (by simp) e.symm
    · rename_i hge
      obtain ⟨hq, e⟩ := List.getElem?_eq_some_iff.1 ht
      simp only [List.length_cons, List.length_nil] at hq
      have : t - l.length = 0 := by omega
      simp only [this, List.getElem_cons_zero] at e
      exact Or.inl e.symm
  · rintro (rfl | ⟨⟨t, ht, hl⟩, hne⟩)
    · refine ⟨l.length, by simp, fun t' y h1 hy => ?_⟩
      obtain ⟨hq, _⟩ := List.getElem?_eq_some_iff.1 hy
      simp only [List.length_append, List.length_cons, List.length_nil] at hq
      omega
    · obtain ⟨hq, _⟩ := List.getElem?_eq_some_iff.1 ht
      refine ⟨t, by rw [List.getElem?_append_left hq]; exact ht, fun t' y h1 hy => ?_⟩
      rw [List.getElem?_append] at hy
      split at hy
      · exact hl t' y h1 hy
      · obtain ⟨hq', e⟩ := List.getElem?_eq_some_iff.1 hy
        simp only [List.length_cons, List.length_nil] at hq'
        have : t' - l.length = 0 := by omega
        simp only [this, List.getElem_cons_zero] at e
        rw [← e]
        exact fun h => hne h.symm
theorem atD_le (out : List Dat) (o : Dat) : atD out o ≤ out.length := by unfold atD; exact List.Sublist.length_le (List.takeWhile_sublist _)
/-- Ahead of the place all are below; at it and behind none is. -/
theorem atD_lo (out : List Dat) (o : Dat) (i : Nat) (x : Dat) (h : i < atD out o) (hx : out[i]? = some x) : tl (kD x) (kD o) = true := by
  induction out generalizing i with
  | nil => simp at hx
  | cons y out ih =>
    unfold atD at h
    rw [List.takeWhile_cons] at h
    split at h
    · rename_i hy
      cases i with
      | zero =>
        simp only [List.getElem?_cons_zero, Option.some.injEq] at hx
        rw [← hx]; exact hy
      | succ i =>
        simp only [List.length_cons, List.getElem?_cons_succ] at hx h
        exact ih i (by unfold atD; omega) hx
    · simp at h
theorem atD_at (out : List Dat) (o : Dat) (x : Dat) (hx : out[atD out o]? = some x) : tl (kD x) (kD o) = false := by
  induction out with
  | nil => simp at hx
  | cons y out ih =>
    unfold atD at hx
    rw [List.takeWhile_cons] at hx
    split at hx
    · rename_i hy
      simp only [List.length_cons, List.getElem?_cons_succ] at hx
      exact ih hx
    · rename_i hy
      simp only [List.length_nil, List.getElem?_cons_zero, Option.some.injEq] at hx
      rw [← hx]
      simpa using hy
/-- The insertion's place from what a search has found. -/
theorem atD_of {out : List Dat} {o : Dat} {k : Nat} (hk : k ≤ out.length) (h1 : ∀ i x, i < k → out[i]? = some x → tl (kD x) (kD o) = true) (h2 : ∀ x, out[k]? = some x → tl (kD x) (kD o) = false) : atD out o = k := by
  rcases Nat.lt_trichotomy (atD out o) k with h | h | h
  · have hlt : atD out o < out.length := by omega
    have a := atD_at out o out[atD out o] (List.getElem?_eq_getElem hlt)
    have b := h1 _ _ h (List.getElem?_eq_getElem hlt)
    rw [a] at b; cases b
  · exact h
  · have hlt : k < out.length := by have := atD_le out o; omega
    have a := atD_lo out o k out[k] h (List.getElem?_eq_getElem hlt)
    have b := h2 _ (List.getElem?_eq_getElem hlt)
    rw [a] at b; cases b
theorem sd_get {l : List Dat} (h : Sd l) {i j : Nat} {x y : Dat} (hij : i < j) (hx : l[i]? = some x) (hy : l[j]? = some y) : tl (kD x) (kD y) = true := by
  obtain ⟨h1, rfl⟩ := List.getElem?_eq_some_iff.1 hx
  obtain ⟨h2, rfl⟩ := List.getElem?_eq_some_iff.1 hy
  exact List.pairwise_iff_getElem.1 h i j h1 h2 hij
theorem tl_mix {a b c : List UInt8} (h1 : tl b a = false) (h2 : tl b c = true) : tl a c = true := by
  rcases Bool.eq_false_or_eq_true (tl a b) with h | h
  · exact tl_trans _ _ _ h h2
  · rw [tl_total _ _ h h1]; exact h2
/-- What one more operation makes of ordered ones. -/
theorem insD_all (out : List Dat) (o : Dat) (h : Sd out) : Sd (insD out o) ∧ ∀ x, x ∈ insD out o ↔ x = o ∨ (x ∈ out ∧ kD x ≠ kD o) := by
  have hle := atD_le out o
  have hlo := atD_lo out o
  have hat := atD_at out o
  unfold insD
  generalize atD out o = k at *
  have hhi : ∀ i x, k < i → out[i]? = some x → tl (kD o) (kD x) = true := by
    intro i x hi hx
    obtain ⟨hq, _⟩ := List.getElem?_eq_some_iff.1 hx
    have hk : k < out.length := by omega
    have e := List.getElem?_eq_getElem hk
    exact tl_mix (hat _ e) (sd_get h hi e hx)
  by_cases hc : (out[k]?).any (fun x => decide (kD x = kD o)) = true
  · rw [if_pos hc]
    obtain ⟨y, hy, hyk⟩ : ∃ y, out[k]? = some y ∧ kD y = kD o := by
      cases e : out[k]? with
      | none => rw [e] at hc; cases hc
      | some y => rw [e] at hc; exact ⟨y, rfl, of_decide_eq_true (by simpa using hc)⟩
    obtain ⟨hkl, hyg⟩ := List.getElem?_eq_some_iff.1 hy
    constructor
    · unfold Sd
      rw [List.pairwise_iff_getElem]
      intro i j hi hj hij
      simp only [List.length_set] at hi hj
      rw [List.getElem_set, List.getElem_set]
      have hp := List.pairwise_iff_getElem.1 h i j hi hj hij
      split
      · split
        · omega
        · rename_i e1 e2; subst e1; rw [hyg] at hp; unfold kD at hyk ⊢; unfold kD at hp; rw [← hyk]; exact hp
      · split
        · rename_i e1 e2; subst e2; rw [hyg] at hp; unfold kD at hyk ⊢; unfold kD at hp; rw [← hyk]; exact hp
        · exact hp
    · intro x
      constructor
      · intro hx
        obtain ⟨i, hi, e⟩ := List.mem_iff_getElem.1 hx
        rw [List.getElem_set] at e
        simp only [List.length_set] at hi
        split at e
        · exact Or.inl e.symm
        · rename_i hne
          refine Or.inr ⟨e ▸ List.getElem_mem hi, fun hk => ?_⟩
          rcases Nat.lt_trichotomy i k with g | g | g
          · have := hlo i x g (by rw [List.getElem?_eq_getElem hi, e])
            rw [hk, tl_irr] at this; cases this
          · exact hne g.symm
          · have := hhi i x g (by rw [List.getElem?_eq_getElem hi, e])
            rw [hk, tl_irr] at this; cases this
      · rintro (rfl | ⟨hx, hk⟩)
        · exact List.mem_iff_getElem.2 ⟨k, by rw [List.length_set]; exact hkl, by simp⟩
        · obtain ⟨i, hi, e⟩ := List.mem_iff_getElem.1 hx
          refine List.mem_iff_getElem.2 ⟨i, by rw [List.length_set]; exact hi, ?_⟩
          rw [List.getElem_set, if_neg, e]
          intro g
          subst g
          rw [hyg] at e
          rw [← e] at hk
          exact hk hyk
  · rw [if_neg hc]
    have hhi' : ∀ i x, k ≤ i → out[i]? = some x → tl (kD o) (kD x) = true := by
      intro i x hi hx
      by_cases g : i = k
      · subst g
        have hne : kD x ≠ kD o := fun e => hc (by rw [hx]; simp [e])
        rcases Bool.eq_false_or_eq_true (tl (kD o) (kD x)) with g | g
        · exact g
        · exact absurd (tl_total _ _ (hat x hx) g) hne
      · exact hhi i x (by omega) hx
    have hmt : ∀ x, x ∈ out.take k → tl (kD x) (kD o) = true := by
      intro x hx
      obtain ⟨i, hi, e⟩ := List.mem_iff_getElem.1 hx
      simp only [List.length_take] at hi
      rw [List.getElem_take] at e
      exact hlo i x (by omega) (by rw [List.getElem?_eq_getElem (by omega), e])
    have hmd : ∀ x, x ∈ out.drop k → tl (kD o) (kD x) = true := by
      intro x hx
      obtain ⟨i, hi, e⟩ := List.mem_iff_getElem.1 hx
      simp only [List.length_drop] at hi
      rw [List.getElem_drop] at e
      exact hhi' (k + i) x (by omega) (by rw [List.getElem?_eq_getElem (by omega), e])
    constructor
    · unfold Sd
      have hs := h
      unfold Sd at hs
      rw [← List.take_append_drop k out] at hs
      obtain ⟨s1, s2, s3⟩ := List.pairwise_append.1 hs
      rw [List.pairwise_append]
      refine ⟨s1, List.pairwise_cons.2 ⟨fun x hx => hmd x hx, s2⟩, fun x hx y hy => ?_⟩
      rcases List.mem_cons.1 hy with rfl | hy
      · exact hmt x hx
      · exact s3 x hx y hy
    · intro x
      rw [List.mem_append, List.mem_cons]
      have hm : x ∈ out ↔ x ∈ out.take k ∨ x ∈ out.drop k := by rw [← List.mem_append, List.take_append_drop]
      constructor
      · rintro (hx | rfl | hx)
        · exact Or.inr ⟨hm.2 (Or.inl hx), fun e => by have := hmt x hx; rw [e, tl_irr] at this; cases this⟩
        · exact Or.inl rfl
        · exact Or.inr ⟨hm.2 (Or.inr hx), fun e => by have := hmd x hx; rw [e, tl_irr] at this; cases this⟩
      · rintro (rfl | ⟨hx, _⟩)
        · exact Or.inr (Or.inl rfl)
        · rcases hm.1 hx with hx | hx
          · exact Or.inl hx
          · exact Or.inr (Or.inr hx)
theorem lastD_all (l : List Dat) : Sd (lastD l) ∧ ∀ x, x ∈ lastD l ↔ Lk l x := by
  suffices ∀ (n : Nat) (l : List Dat), l.length = n → Sd (lastD l) ∧ ∀ x, x ∈ lastD l ↔ Lk l x from this _ l rfl
  intro n
  induction n with
  | zero =>
    intro l hl
    obtain rfl : l = [] := List.eq_nil_of_length_eq_zero hl
    exact ⟨List.Pairwise.nil, fun x => ⟨fun h => by simp [lastD] at h, fun ⟨t, ht, _⟩ => by simp at ht⟩⟩
  | succ n ih =>
    intro l hl
    obtain ⟨l', o, rfl⟩ : ∃ l' o, l = l' ++ [o] := ⟨l.take n, l[n], by
      conv => lhs; rw [← List.take_append_drop n l]
      rw [List.drop_eq_getElem_cons (by omega), List.drop_eq_nil_of_le (by omega)]⟩
    obtain ⟨i1, i2⟩ := ih l' (by simpa using hl)
    obtain ⟨j1, j2⟩ := insD_all (lastD l') o i1
    rw [lastD_snoc]
    exact ⟨j1, fun x => by rw [j2, i2, lk_snoc]⟩

/-- Of a sorted row those that the next one does not share the key with. -/
def keepB (E : List (Opv × Nat)) (j : Nat) : Bool := match E[j]?, E[j + 1]? with
  | some x, some y => !decide (y.1.key = x.1.key)
  | _, _ => true
def dedTo (E : List (Opv × Nat)) : Nat → List (Opv × Nat)
  | 0 => []
  | i + 1 => dedTo E i ++ (if keepB E i then (E[i]?).toList else [])
theorem mem_ded (E : List (Opv × Nat)) (i : Nat) (x : Opv × Nat) : x ∈ dedTo E i ↔ ∃ j, j < i ∧ E[j]? = some x ∧ keepB E j = true := by
  induction i with
  | zero => simp [dedTo]
  | succ i ih =>
    rw [dedTo, List.mem_append, ih]
    constructor
    · rintro (⟨j, h1, h2, h3⟩ | h)
      · exact ⟨j, by omega, h2, h3⟩
      · split at h
        · rename_i hk
          rw [Option.mem_toList] at h
          exact ⟨i, by omega, h, hk⟩
        · simp at h
    · rintro ⟨j, h1, h2, h3⟩
      by_cases e : j = i
      · subst e
        refine Or.inr ?_
        rw [if_pos h3, Option.mem_toList]
        exact h2
      · exact Or.inl ⟨j, by omega, h2, h3⟩
theorem le_of_l2 {x y : Opv × Nat} (h : L2 klt x y) : tl y.1.key.toList x.1.key.toList = false := by
  rcases h with h | ⟨h, _⟩
  · exact tl_asym _ _ h
  · exact h
theorem lt_of_l2 {x y : Opv × Nat} (h : L2 klt x y) (hne : y.1.key ≠ x.1.key) : tl x.1.key.toList y.1.key.toList = true := by
  rcases h with h | ⟨h, _⟩
  · exact h
  · rcases Bool.eq_false_or_eq_true (tl x.1.key.toList y.1.key.toList) with g | g
    · exact g
    · exact absurd (bl_inj (tl_total _ _ h g)) hne
/-- What stays, kept, is below all behind it. -/
theorem keep_lt {E : List (Opv × Nat)} (h : So klt E 0 E.length) {j j' : Nat} {x y : Opv × Nat} (hj : j < j') (hx : E[j]? = some x) (hy : E[j']? = some y) (hk : keepB E j = true) : tl x.1.key.toList y.1.key.toList = true := by
  obtain ⟨hl, _⟩ := List.getElem?_eq_some_iff.1 hy
  have hl1 : j + 1 < E.length := by omega
  have e1 := List.getElem?_eq_getElem hl1
  have hne : E[j + 1].1.key ≠ x.1.key := by
    unfold keepB at hk
    rw [hx, e1] at hk
    simpa using hk
  have h1 := lt_of_l2 (h j (j + 1) x _ (by omega) (by omega) hl1 hx e1) hne
  by_cases e : j' = j + 1
  · subst e
    rw [e1, Option.some.injEq] at hy
    rw [← hy]; exact h1
  · have h2 := le_of_l2 (h (j + 1) j' _ y (by omega) (by omega) hl e1 hy)
    rcases Bool.eq_false_or_eq_true (tl E[j + 1].1.key.toList y.1.key.toList) with g | g
    · exact tl_trans _ _ _ h1 g
    · rw [← tl_total _ _ g h2]; exact h1
/-- Sorted and parted they are the last ones. -/
theorem ded_last {E : List (Opv × Nat)} {l : List Dat} {f : Opv × Nat → Dat} (h : So klt E 0 E.length) (hf : ∀ x ∈ E, l[x.2]? = some (f x) ∧ (f x).1 = x.1.key) (hs : ∀ t, t < l.length → ∃ x ∈ E, x.2 = t) : (dedTo E E.length).map f = lastD l := by
  obtain ⟨i1, i2⟩ := lastD_all l
  refine sd_ext _ _ ?_ i1 fun d => ?_
  · have hp : ∀ i, i ≤ E.length → (dedTo E i).Pairwise fun x y => tl x.1.key.toList y.1.key.toList = true := by
      intro i
      induction i with
      | zero => intro _; exact List.Pairwise.nil
      | succ i ih =>
        intro hi
        rw [dedTo, List.pairwise_append]
        refine ⟨ih (by omega), ?_, fun x hx y hy => ?_⟩
        · split
          · rw [List.getElem?_eq_getElem (by omega)]; simp
          · exact List.Pairwise.nil
        · split at hy
          · rw [Option.mem_toList] at hy
            obtain ⟨j, j1, j2, j3⟩ := (mem_ded E i x).1 hx
            exact keep_lt h j1 j2 hy j3
          · simp at hy
    unfold Sd
    rw [List.pairwise_map]
    refine (hp _ (Nat.le_refl _)).imp_of_mem fun {x y} hx hy hxy => ?_
    obtain ⟨_, _, e1, _⟩ := (mem_ded E _ x).1 hx
    obtain ⟨_, _, e2, _⟩ := (mem_ded E _ y).1 hy
    unfold kD
    rw [(hf x (List.mem_of_getElem? e1)).2, (hf y (List.mem_of_getElem? e2)).2]
    exact hxy
  · rw [i2, List.mem_map]
    constructor
    · rintro ⟨x, hx, rfl⟩
      obtain ⟨j, j1, j2, j3⟩ := (mem_ded E _ x).1 hx
      obtain ⟨e1, e2⟩ := hf x (List.mem_of_getElem? j2)
      refine ⟨x.2, e1, fun t' y ht hy hk => ?_⟩
      obtain ⟨hq, _⟩ := List.getElem?_eq_some_iff.1 hy
      obtain ⟨z, hz, rfl⟩ := hs t' hq
      obtain ⟨p, hp, hpz⟩ := List.mem_iff_getElem.1 hz
      have hpz' : E[p]? = some z := by rw [List.getElem?_eq_getElem hp, hpz]
      obtain ⟨g1, g2⟩ := hf z hz
      rw [g1, Option.some.injEq] at hy
      have hkk : z.1.key = x.1.key := by
        rw [← g2, ← e2, hy]
        exact bl_inj hk
      rcases Nat.lt_trichotomy p j with c | c | c
      · have hl2 := h p j z x (by omega) c j1 hpz' j2
        rcases hl2 with g | ⟨_, g⟩
        · unfold klt at g; rw [hkk, tl_irr] at g; cases g
        · omega
      · subst c
        rw [hpz', Option.some.injEq] at j2
        subst j2
        omega
      · have := keep_lt h c j2 hpz' j3
        rw [hkk, tl_irr] at this; cases this
    · rintro ⟨t, ht, hl⟩
      obtain ⟨hq, _⟩ := List.getElem?_eq_some_iff.1 ht
      obtain ⟨x, hx, rfl⟩ := hs t hq
      obtain ⟨e1, e2⟩ := hf x hx
      rw [e1, Option.some.injEq] at ht
      obtain ⟨j, hj, hje⟩ := List.mem_iff_getElem.1 hx
      have hje' : E[j]? = some x := by rw [List.getElem?_eq_getElem hj, hje]
      refine ⟨x, (mem_ded E _ x).2 ⟨j, hj, hje', ?_⟩, ht⟩
      unfold keepB
      rw [hje']
      cases e : E[j + 1]? with
      | none => rfl
      | some y =>
        simp only [Bool.not_eq_true', decide_eq_false_iff_not]
        intro hk
        obtain ⟨hq1, _⟩ := List.getElem?_eq_some_iff.1 e
        have hl2 := h j (j + 1) x y (by omega) (by omega) hq1 hje' e
        obtain ⟨g1, g2⟩ := hf y (List.mem_of_getElem? e)
        rcases hl2 with g | ⟨_, g⟩
        · unfold klt at g; rw [hk, tl_irr] at g; cases g
        · refine hl y.2 (f y) g g1 ?_
          unfold kD
          rw [g2, ← ht, e2, hk]
end Go.Proofs.Ytjkkdijoogiipaa

/- What follows of the last ones; nothing here speaks of the program. -/
namespace Go.Proofs.Ytjkkdijoogiipaa
open Go.RowKit

theorem lk_sd {l : List Dat} (h : Sd l) (x : Dat) : Lk l x ↔ x ∈ l := by
  constructor
  · rintro ⟨t, ht, _⟩
    exact List.mem_of_getElem? ht
  · intro hx
    obtain ⟨t, ht, rfl⟩ := List.mem_iff_getElem.1 hx
    refine ⟨t, List.getElem?_eq_getElem ht, fun t' y h1 hy hk => ?_⟩
    have := sd_get h h1 (List.getElem?_eq_getElem ht) hy
    rw [hk, tl_irr] at this
    cases this
/-- The last ones of ordered ones are themselves. -/
theorem last_sd {l : List Dat} (h : Sd l) : lastD l = l := by
  obtain ⟨i1, i2⟩ := lastD_all l
  exact sd_ext _ _ i1 h fun x => by rw [i2, lk_sd h]
theorem last_last (l : List Dat) : lastD (lastD l) = lastD l := last_sd (lastD_all l).1
theorem lk_append (a b : List Dat) (x : Dat) : Lk (a ++ b) x ↔ Lk b x ∨ (Lk a x ∧ ∀ y ∈ b, kD y ≠ kD x) := by
  constructor
  · rintro ⟨t, ht, hl⟩
    rw [List.getElem?_append] at ht
    split at ht
    · rename_i hlt
      refine Or.inr ⟨⟨t, ht, fun t' y h1 hy => ?_⟩, fun y hy => ?_⟩
      · obtain ⟨hq, _⟩ := List.getElem?_eq_some_iff.1 hy
        exact hl t' y h1 (by rw [List.getElem?_append_left hq]; exact hy)
      · obtain ⟨i, hi, rfl⟩ := List.mem_iff_getElem.1 hy
        refine hl (a.length + i) _ (by omega) ?_
        rw [List.getElem?_append_right (by omega), Nat.add_sub_cancel_left]
        exact List.getElem?_eq_getElem hi
    · rename_i hge
      refine Or.inl ⟨t - a.length, ht, fun t' y h1 hy => hl (a.length + t') y (by omega) ?_⟩
      rw [List.getElem?_append_right (by omega), Nat.add_sub_cancel_left]
      exact hy
  · rintro (⟨t, ht, hl⟩ | ⟨⟨t, ht, hl⟩, hn⟩)
    · refine ⟨a.length + t, by rw [List.getElem?_append_right (by omega), Nat.add_sub_cancel_left]; exact ht, fun t' y h1 hy => ?_⟩
      rw [List.getElem?_append_right (by omega)] at hy
      exact hl (t' - a.length) y (by omega) hy
    · obtain ⟨hq, _⟩ := List.getElem?_eq_some_iff.1 ht
      refine ⟨t, by rw [List.getElem?_append_left hq]; exact ht, fun t' y h1 hy => ?_⟩
      rw [List.getElem?_append] at hy
      split at hy
      · exact hl t' y h1 hy
      · exact hn y (List.mem_of_getElem? hy)
/-- Each key of a list has a last operation. -/
theorem lk_exists (l : List Dat) (y : Dat) (hy : y ∈ l) : ∃ x, Lk l x ∧ kD x = kD y := by
  suffices ∀ (n : Nat) (l : List Dat), l.length = n → ∀ y ∈ l, ∃ x, Lk l x ∧ kD x = kD y from this _ l rfl y hy
  intro n
  induction n with
  | zero => intro l hl y hy; rw [List.eq_nil_of_length_eq_zero hl] at hy; cases hy
  | succ n ih =>
    intro l hl y hy
    obtain ⟨l', o, rfl⟩ : ∃ l' o, l = l' ++ [o] := ⟨l.take n, l[n], by
      conv => lhs; rw [← List.take_append_drop n l]
      rw [List.drop_eq_getElem_cons (by omega), List.drop_eq_nil_of_le (by omega)]⟩
    by_cases hk : kD y = kD o
    · exact ⟨o, (lk_snoc l' o o).2 (Or.inl rfl), hk.symm⟩
    · rcases List.mem_append.1 hy with hy | hy
      · obtain ⟨x, hx, hxk⟩ := ih l' (by simpa using hl) y hy
        exact ⟨x, (lk_snoc l' o x).2 (Or.inr ⟨hx, by rw [hxk]; exact hk⟩), hxk⟩
      · rw [List.mem_singleton.1 hy] at hk
        exact absurd rfl hk
/-- The last ones of both. -/
theorem last_both (a b : List Dat) : lastD (a ++ b) = lastD (lastD a ++ lastD b) := by
  obtain ⟨i1, i2⟩ := lastD_all (a ++ b)
  obtain ⟨j1, j2⟩ := lastD_all (lastD a ++ lastD b)
  refine sd_ext _ _ i1 j1 fun x => ?_
  rw [i2, j2, lk_append, lk_append, lk_sd (lastD_all b).1, lk_sd (lastD_all a).1, (lastD_all b).2, (lastD_all a).2]
  constructor
  · rintro (h | ⟨h1, h2⟩)
    · exact Or.inl h
    · refine Or.inr ⟨h1, fun y hy => ?_⟩
      obtain ⟨t, ht, _⟩ := ((lastD_all b).2 y).1 hy
      exact h2 y (List.mem_of_getElem? ht)
  · rintro (h | ⟨h1, h2⟩)
    · exact Or.inl h
    · refine Or.inr ⟨h1, fun y hy hk => ?_⟩
      obtain ⟨z, hz, hzk⟩ := lk_exists b y hy
      exact h2 z (((lastD_all b).2 z).2 hz) (by rw [hzk, hk])
/-- The place of the last operation of a key, as a search from the front finds it. -/
def atK (l : List Dat) (x : List UInt8) : Nat → Int
  | 0 => -1
  | i + 1 => if (l[i]?).any (fun y => decide (kD y = x)) then (i : Int) else atK l x i
theorem atK_spec (l : List Dat) (x : List UInt8) (n : Nat) (hn : n ≤ l.length) : (atK l x n = -1 ∧ ∀ i y, i < n → l[i]? = some y → kD y ≠ x) ∨ ∃ (t : Nat) (y : Dat), atK l x n = (t : Int) ∧ t < n ∧ l[t]? = some y ∧ kD y = x ∧ ∀ i z, t < i → i < n → l[i]? = some z → kD z ≠ x := by
  induction n with
  | zero => exact Or.inl ⟨rfl, fun i y h => by omega⟩
  | succ n ih =>
    have e := List.getElem?_eq_getElem (show n < l.length by omega)
    by_cases hk : kD l[n] = x
    · refine Or.inr ⟨n, l[n], ?_, by omega, e, hk, fun i z h1 h2 => by omega⟩
      rw [atK, e]
      simp [hk]
    · have ea : atK l x (n + 1) = atK l x n := by rw [atK, e]; simp [hk]
      rw [ea]
      rcases ih (by omega) with ⟨h1, h2⟩ | ⟨t, y, h1, h2, h3, h4, h5⟩
      · refine Or.inl ⟨h1, fun i y hi hy => ?_⟩
        by_cases g : i = n
        · subst g; rw [e, Option.some.injEq] at hy; rw [← hy]; exact hk
        · exact h2 i y (by omega) hy
      · refine Or.inr ⟨t, y, h1, by omega, h3, h4, fun i z hi hi2 hz => ?_⟩
        by_cases g : i = n
        · subst g; rw [e, Option.some.injEq] at hz; rw [← hz]; exact hk
        · exact h5 i z hi (by omega) hz
/-- Of one of the last ones it is that one. -/
theorem atK_last (l : List Dat) (x : Dat) (hx : Lk l x) : ∃ t : Nat, atK l (kD x) l.length = (t : Int) ∧ l[t]? = some x := by
  obtain ⟨t, ht, hl⟩ := hx
  obtain ⟨hq, _⟩ := List.getElem?_eq_some_iff.1 ht
  rcases atK_spec l (kD x) l.length (Nat.le_refl _) with ⟨_, h2⟩ | ⟨s, y, h1, h2, h3, h4, h5⟩
  · exact absurd rfl (h2 t x hq ht)
  · refine ⟨s, h1, ?_⟩
    rcases Nat.lt_trichotomy s t with g | g | g
    · exact absurd rfl (h5 t x g hq ht)
    · rw [g]; exact ht
    · exact absurd h4 (hl s y g h3)
end Go.Proofs.Ytjkkdijoogiipaa

/- The helpers of the statements, at operations: CopyOps, Op, Same, Ops. -/
namespace Go.Proofs.Ytjkkdijoogiipaa
open Go.RowKit

theorem Try.info45 : (Try.prog.info? 45).map (fun i => (i.zero, i.size, i.bytes)) = some (some (.agg #[.string ⟨#[]⟩, .slice none 0 0, .bool false]), 3, 48) := by kernel_rfl

/-- A region that draws its order, by a class of worlds that all its operations keep. -/
theorem region_stay {P : Program} {id : Nat} {Q : Exit → Act → World → Prop} {a : Act} {w : World} {l : List Oper} (C : World → Prop) (hm : P.follows .mixedOrders = true) (hB : Region.lexB .any l.toArray = true) (hC : C { w with drawn := w.drawn + 1 })
    (h : wpQuiet P l.toArray C (fun a' => ∀ w', C w' → Q .normal a' w') l a) : (Code.region id l.toArray true).wp P Q a w :=
  wp_region_quiet hm hB hC (by simpa using h)

/-- Are two things the same, as plain data? -/
def eqD (x y : El) : Bool := decide (x.1.key.toList = y.1.key.toList) && (x.2 == y.2) && (x.1.del == y.1.del)

theorem eqD_self {L M : List El} (h : dat L = dat M) (k : Nat) (h1 : k < L.length) (h2 : k < M.length) : eqD L[k] M[k] = true := by
  have e : (dat L)[k]? = (dat M)[k]? := by rw [h]
  simp only [dat, List.getElem?_map, List.getElem?_eq_getElem h1, List.getElem?_eq_getElem h2, Option.map_some, Option.some.injEq, Prod.mk.injEq] at e
  obtain ⟨e1, e2, e3⟩ := e
  unfold eqD
  simp [e1, e2, e3]

end Go.Proofs.Ytjkkdijoogiipaa

/- Package batch as landed: Size, Check. -/
namespace Go.Proofs.Ytjkkdijoogiipaa
open Go.RowKit

/-- How great operations are; which are wrong, which large; what Check answers. -/
def sumD : List Dat → Nat
  | [] => 0
  | x :: l => x.1.size + x.2.1.length + sumD l
theorem sumD_app (l m : List Dat) : sumD (l ++ m) = sumD l + sumD m := by
  induction l with
  | nil => simp [sumD]
  | cons x l ih => rw [List.cons_append, sumD, sumD, ih]; omega
theorem sumD_take (l : List Dat) (k : Nat) (h : k < l.length) : sumD (l.take (k + 1)) = sumD (l.take k) + l[k].1.size + l[k].2.1.length := by
  rw [List.take_succ_eq_append_getElem h, sumD_app]
  simp [sumD]
  omega
def sizeN (l : List Dat) : Nat := min 2147483647 (sumD l)
def wrongD (x : Dat) : Bool := !kmayB x.1 || (x.2.2 && decide (0 < x.2.1.length))
def largeD (x : Dat) : Bool := decide (4096 < x.2.1.length)
def chkE (l : List Dat) : Int := if l.length = 0 then 1 else if l.any wrongD then 1 else if 32 < l.length then 4 else if l.any largeD then 4 else if 32768 < sizeN l then 4 else 0
def datOf (x : El) : Dat := (x.1.key, x.2, x.1.del)
theorem dat_any (L : List El) (p : Dat → Bool) : (dat L).any p = L.any fun x => p (datOf x) := by simp [dat, datOf, List.any_map, Function.comp_def]
theorem dat_at (L : List El) (k : Nat) (h : k < L.length) : (dat L)[k]'(by rw [dat_len]; exact h) = datOf L[k] := dat_get L k h

set_option maxRecDepth 20000 in
theorem grown_any (a n : Nat) (w : World) (ha : a ≤ 2147483647) (_ : n ≤ 9223372036854775807) :
    Calls Try.prog 42 #[.int .i64 (a : Int), .int .i64 (n : Int)] w fun e w' => e = .returned (.int .i64 (min 2147483647 (a + n) : Nat)) ∧ w' = w := by
  have w1 : IntKind.i64.wrap (2147483647 - (a : Int)) = 2147483647 - (a : Int) := by rw [IntKind.wrap_i64]; omega
  by_cases hc : 2147483647 - (a : Int) < (n : Int)
  · have hm : min 2147483647 (a + n) = 2147483647 := by omega
    rw [hm]
    go_enter Try.func42, Try.ntmps42
    go_wp2
    go_ret
    exact ⟨rfl, rfl⟩
  · have hm : min 2147483647 (a + n) = a + n := by omega
    rw [hm]
    obtain ⟨s, hs⟩ : ∃ s, s = a + n := ⟨_, rfl⟩
    have w2 : IntKind.i64.wrap ((a : Int) + (n : Int)) = (s : Int) := by rw [IntKind.wrap_i64]; omega
    rw [← hs]
    clear hs hm
    go_enter Try.func42, Try.ntmps42
    go_wp2
    go_ret
    exact ⟨rfl, rfl⟩

/-- What a row of operations that came in shows in each later world. -/
def Seen (w : World) (b o : Nat) (L : List El) : Prop := ∀ (k : Nat) (hk : k < L.length) (W : World), Below w.heap.size w W → W.cell? ⟨b, o + k * 3, none⟩ = some (.string L[k].1.key) ∧ W.cell? ⟨b, o + k * 3 + 1, none⟩ = some (vof L[k].1) ∧ W.cell? ⟨b, o + k * 3 + 2, none⟩ = some (.bool L[k].1.del) ∧ Row W (vof L[k].1) L[k].2
theorem EL.seen {w : World} {v : Value} {L : List El} (h : EL 3 opC w v L) (hne : 0 < L.length) : ∃ b o c, v = .slice (some ⟨b, o, none⟩) L.length c ∧ L.length ≤ c ∧ c ≤ maxLen ∧ Seen w b o L := by
  obtain ⟨b1, o1, c1, e, k1, k2, hc1⟩ := h.op hne
  refine ⟨b1, o1, c1, e, k1, k2, fun k hk W hw => ?_⟩
  obtain ⟨a1, a2, a3⟩ := hc1 k hk
  exact ⟨(hw.cell (World.block_lt_of_cell? w _ a1)).trans a1, (hw.cell (World.block_lt_of_cell? w _ a2)).trans a2, (hw.cell (World.block_lt_of_cell? w _ a3)).trans a3, (h.2 _ (List.getElem_mem hk)).below hw⟩
theorem row_n {w : World} {o : Opv} {bs : List UInt8} (h : Row w (vof o) bs) : o.n = bs.length ∧ bs.length ≤ 9223372036854775807 := by
  obtain ⟨a, c, e, h1, h2, _⟩ := h
  unfold vof at e
  unfold maxLen at h2
  simp only [Value.slice.injEq] at e
  omega

set_option maxRecDepth 20000 in
set_option maxHeartbeats 2000000 in
theorem bsize_any (v : Value) (L : List El) (w : World) (h : EL 3 opC w v L) (hks : ∀ x ∈ L, x.1.key.size ≤ 140737488351232) :
    Calls Try.prog 37 #[v] w fun e w' => e = .returned (.int .i64 (sizeN (dat L) : Int)) ∧ Below w.heap.size w w' := by
  by_cases h0 : L.length = 0
  · obtain ⟨p1, c1, rfl, _⟩ := h.shape
    obtain rfl : L = [] := List.eq_nil_of_length_eq_zero h0
    go_enter Try.func37, Try.ntmps37
    go_wp2
    refine wp_loop_rounds 1 ?_
    rw [rounds_succ]
    go_wp2
    go_ret
    exact ⟨rfl, Below.refl _ _⟩
  obtain ⟨b1, o1, c1, rfl, k1, k2, hsn⟩ := h.seen (by omega)
  obtain ⟨l, hl⟩ : ∃ l, l = L.length := ⟨_, rfl⟩
  rw [← hl] at k1 ⊢
  unfold maxLen at k2
  have hl0 : (l : Int) ≤ 9223372036854775807 := by omega
  have HSN := hide hsn
  have HLN := hide hl
  have HKS := hide hks
  obtain ⟨N, hN⟩ : ∃ N, N = sizeN (dat L) := ⟨_, rfl⟩
  rw [← hN]
  have HN := hide hN
  clear h hsn k1 k2 hl h0 hks hN
  go_enter Try.func37, Try.ntmps37
  go_wp2
  go_loopw [3, 8] (fun s i wr => ∃ k n : Nat, k ≤ l ∧ i = .int .i64 k ∧ s = .int .i64 n ∧ Hid (n = min 2147483647 (sumD ((dat L).take k)) ∧ Below w.heap.size w wr)) (fun _ i _ => l - (intOf i).toNat)
  case atStart => exact ⟨0, 0, Nat.zero_le _, rfl, rfl, by simp [sumD], Below.refl _ _⟩
  case round =>
    obtain ⟨k, n, hk, rfl, rfl, hst⟩ := hrel
    obtain ⟨hn, hb⟩ := unhide hst
    by_cases hlt : (k : Int) < (l : Int)
    · have hkL : k < L.length := by have := unhide HLN; omega
      obtain ⟨a1, a2, a3, ar⟩ := unhide HSN k hkL wr hb
      have hkz := unhide HKS _ (List.getElem_mem hkL)
      have hst' := sumD_take (dat L) k (by rw [dat_len]; exact hkL)
      rw [dat_at L k hkL] at hst'
      obtain ⟨rn, rl⟩ := row_n ar
      generalize L[k] = x at *
      obtain ⟨⟨ak, ap, an, ac, ad⟩, av⟩ := x
      unfold vof datOf at *
      simp only at *
      subst rn
      obtain ⟨n1, hn1⟩ : ∃ n1, n1 = min 2147483647 (n + ak.size) := ⟨_, rfl⟩
      obtain ⟨n2, hn2⟩ : ∃ n2, n2 = min 2147483647 (n1 + av.length) := ⟨_, rfl⟩
      have HG1 := hide (fun W => grown_any n ak.size W (by omega) (by omega))
      have HG2 := hide (fun W => grown_any n1 av.length W (by omega) rl)
      rw [← hn1] at HG1
      rw [← hn2] at HG2
      have HA := hide (And.intro hn (And.intro hn1 (And.intro hn2 (And.intro hst' hb))))
      have hl1 : (av.length : Int) ≤ 9223372036854775807 := by omega
      clear hn hb hkL ar hkz hst' rl hn1 hn2 hst
      go_wp2_with (first
        | (go_at_call_of 42 (Value.int .i64 (n : Int)); refine Calls.mono (unhide HG1 _) ?_; rintro e w' ⟨rfl, rfl⟩)
        | (go_at_call_of 42 (Value.int .i64 (n1 : Int)); refine Calls.mono (unhide HG2 _) ?_; rintro e w' ⟨rfl, rfl⟩))
      obtain ⟨hn, hn1, hn2, hst', hb⟩ := unhide HA
      go_roundw
      case rel => exact ⟨k + 1, n2, by omega, by go_num, rfl, by rw [hst']; omega, hb.alloc hb.size _⟩
      case measure => simp [intOf]; omega
    · have HA := hide (And.intro hn hb)
      clear hn hb hst
      go_wp2
      go_ret
      obtain ⟨hn, hb⟩ := unhide HA
      refine ⟨?_, hb⟩
      have e : n = N := by
        rw [unhide HN, hn]
        have hkl : k = L.length := by have := unhide HLN; omega
        unfold sizeN
        rw [hkl, ← dat_len, List.take_length]
      subst e
      rfl

set_option maxRecDepth 20000 in
set_option maxHeartbeats 2000000 in
/-- The first of a row that a function says yes to. -/
theorem idx_any (F : Nat) (hent : ∀ args w, (callFunc F args).run Try.prog w = .ok (.enter F args) w) (pf : El → Bool) (v : Value) (L : List El) (w : World) (h : EL 3 opC w v L)
    (hF : ∀ x ∈ L, ∀ W, Row W (vof x.1) x.2 → Calls Try.prog F #[.agg (opA x.1)] W fun e w' => e = .returned (.bool (pf x)) ∧ Below W.heap.size W w') :
    Calls Try.prog 41 #[v, .func (.func F) #[] #[]] w fun e w' => ∃ z : Int, e = .returned (.int .i64 z) ∧ decide (0 ≤ z) = L.any pf ∧ Below w.heap.size w w' := by
  by_cases h0 : L.length = 0
  · obtain ⟨p1, c1, rfl, _⟩ := h.shape
    obtain rfl : L = [] := List.eq_nil_of_length_eq_zero h0
    go_enter Try.func41, Try.ntmps41
    go_wp2
    refine wp_loop_rounds 1 ?_
    rw [rounds_succ]
    go_wp2
    go_ret
    exact ⟨-1, rfl, rfl, Below.refl _ _⟩
  obtain ⟨b1, o1, c1, rfl, k1, k2, hsn⟩ := h.seen (by omega)
  obtain ⟨l, hl⟩ : ∃ l, l = L.length := ⟨_, rfl⟩
  rw [← hl] at k1 ⊢
  unfold maxLen at k2
  have hl0 : (l : Int) ≤ 9223372036854775807 := by omega
  have HSN := hide hsn
  have HLN := hide hl
  have HFC := hide hF
  obtain ⟨AN, hAN⟩ : ∃ AN, AN = L.any pf := ⟨_, rfl⟩
  rw [← hAN]
  have HAN := hide hAN
  clear h hsn k1 k2 hl h0 hF hAN
  go_enter Try.func41, Try.ntmps41
  go_wp2
  go_loopw [8] (fun i wr => ∃ k : Nat, k ≤ l ∧ i = .int .i64 k ∧ Hid ((L.take k).any pf = false ∧ Below w.heap.size w wr)) (fun i _ => l - (intOf i).toNat)
  case atStart => exact ⟨0, Nat.zero_le _, rfl, rfl, Below.refl _ _⟩
  case round =>
    obtain ⟨k, hk, rfl, hst⟩ := hrel
    obtain ⟨hn, hb⟩ := unhide hst
    by_cases hlt : (k : Int) < (l : Int)
    · have hkL : k < L.length := by have := unhide HLN; omega
      obtain ⟨a1, a2, a3, ar⟩ := unhide HSN k hkL wr hb
      have hcf := unhide HFC _ (List.getElem_mem hkL) wr ar
      have htk : (L.take (k + 1)).any pf = ((L.take k).any pf || pf L[k]) := by rw [List.take_succ_eq_append_getElem hkL, List.any_append]; simp
      have hyes : pf L[k] = true → L.any pf = true := fun hp => List.any_eq_true.2 ⟨_, List.getElem_mem hkL, hp⟩
      generalize L[k] = x at *
      generalize pf x = PX at *
      obtain ⟨⟨ak, ap, an, ac, ad⟩, av⟩ := x
      unfold vof opA at *
      simp only at *
      have HC := hide hcf
      have HA := hide (And.intro hn (And.intro htk (And.intro hyes hb)))
      clear hn hb hkL ar hcf htk hyes hst
      cases PX with
      | true =>
        go_wp2_with fail
        refine Calls.mono (unhide HC) ?_
        rintro e w2 ⟨rfl, hb2⟩
        have HB2 := hide hb2
        clear hb2
        go_wp2
        go_ret
        obtain ⟨hn, htk, hyes, hb⟩ := unhide HA
        exact ⟨_, rfl, by rw [unhide HAN, hyes (by first | rfl | trivial)]; simp, hb.trans ((unhide HB2).mono hb.size)⟩
      | false =>
        go_wp2_with fail
        refine Calls.mono (unhide HC) ?_
        rintro e w2 ⟨rfl, hb2⟩
        have HB2 := hide hb2
        clear hb2
        go_wp2
        obtain ⟨hn, htk, hyes, hb⟩ := unhide HA
        go_roundw
        case rel => exact ⟨k + 1, by omega, by go_num, by rw [htk, hn]; rfl, hb.trans ((unhide HB2).mono hb.size)⟩
        case measure => simp [intOf]; omega
    · have HA := hide (And.intro hn hb)
      clear hn hb hst
      go_wp2
      go_ret
      obtain ⟨hn, hb⟩ := unhide HA
      refine ⟨-1, rfl, ?_, hb⟩
      have hkl : k = L.length := by have := unhide HLN; omega
      rw [hkl, List.take_length] at hn
      rw [unhide HAN, hn]
      rfl
theorem cont_any (F : Nat) (hent : ∀ args w, (callFunc F args).run Try.prog w = .ok (.enter F args) w) (pf : El → Bool) (v : Value) (L : List El) (w : World) (h : EL 3 opC w v L)
    (hF : ∀ x ∈ L, ∀ W, Row W (vof x.1) x.2 → Calls Try.prog F #[.agg (opA x.1)] W fun e w' => e = .returned (.bool (pf x)) ∧ Below W.heap.size W w') :
    Calls Try.prog 34 #[v, .func (.func F) #[] #[]] w fun e w' => e = .returned (.bool (L.any pf)) ∧ Below w.heap.size w w' := by
  have HC := hide (idx_any F hent pf v L w h hF)
  obtain ⟨p1, c1, rfl, _⟩ := h.shape
  clear h hF
  generalize L.any pf = AN at *
  go_enter Try.func34, Try.ntmps34
  go_wp2_with (go_at_call 41; refine Calls.mono (unhide HC) ?_; rintro e w2 ⟨z, rfl, hz, hb2⟩; have HB2 := hide hb2; have HZ := hide hz; clear hb2 hz)
  go_ret
  exact ⟨by rw [← unhide HZ]; rfl, unhide HB2⟩

theorem ent_wrong (args : Array Value) (w : World) : (callFunc 35 args).run Try.prog w = .ok (.enter 35 args) w := by kernel_rfl
theorem ent_large (args : Array Value) (w : World) : (callFunc 36 args).run Try.prog w = .ok (.enter 36 args) w := by kernel_rfl
set_option maxRecDepth 20000 in
set_option maxHeartbeats 2000000 in
theorem bwrong_any (x : El) (w : World) (h : Row w (vof x.1) x.2) : Calls Try.prog 35 #[.agg (opA x.1)] w fun e w' => e = .returned (.bool (wrongD (datOf x))) ∧ Below w.heap.size w w' := by
  obtain ⟨rn, rl⟩ := row_n h
  obtain ⟨⟨ak, ap, an, ac, ad⟩, av⟩ := x
  simp only at rn rl
  subst rn
  have hE : wrongD (datOf (⟨ak, ap, av.length, ac, ad⟩, av)) = (!kmayB ak || (ad && decide (0 < av.length))) := rfl
  generalize wrongD (datOf (⟨ak, ap, av.length, ac, ad⟩, av)) = R at *
  have HB := hide (fun (o1 : Obj) => (Below.refl w.heap.size w).alloc (Nat.le_refl _) o1)
  have HK : Hid (∀ W, Calls Try.prog 33 #[.string ak] W fun e w' => e = .returned (.bool (kmayB ak)) ∧ w' = W) := fun W => kmay_any ak W
  unfold opA
  simp only
  have hl1 : (av.length : Int) ≤ 9223372036854775807 := by omega
  generalize kmayB ak = KB at *
  have HE := hide hE
  clear hE h rl
  cases KB with
  | false =>
    go_enter Try.func35, Try.ntmps35
    go_wp2_with (go_at_call 33; refine Calls.mono (unhide HK _) ?_; rintro e w' ⟨rfl, rfl⟩)
    go_ret
    exact ⟨by rw [unhide HE]; rfl, unhide HB _⟩
  | true =>
    cases ad with
    | false =>
      go_enter Try.func35, Try.ntmps35
      go_wp2_with (go_at_call 33; refine Calls.mono (unhide HK _) ?_; rintro e w' ⟨rfl, rfl⟩)
      go_ret
      exact ⟨by rw [unhide HE]; rfl, unhide HB _⟩
    | true =>
      generalize av.length = n at *
      go_enter Try.func35, Try.ntmps35
      go_wp2_with (go_at_call 33; refine Calls.mono (unhide HK _) ?_; rintro e w' ⟨rfl, rfl⟩)
      go_ret
      refine ⟨?_, unhide HB _⟩
      rw [unhide HE]
      simp
set_option maxRecDepth 20000 in
theorem blarge_any (x : El) (w : World) (h : Row w (vof x.1) x.2) : Calls Try.prog 36 #[.agg (opA x.1)] w fun e w' => e = .returned (.bool (largeD (datOf x))) ∧ Below w.heap.size w w' := by
  obtain ⟨rn, rl⟩ := row_n h
  obtain ⟨⟨ak, ap, an, ac, ad⟩, av⟩ := x
  simp only at rn rl
  subst rn
  have hE : largeD (datOf (⟨ak, ap, av.length, ac, ad⟩, av)) = decide (4096 < av.length) := rfl
  generalize largeD (datOf (⟨ak, ap, av.length, ac, ad⟩, av)) = R at *
  have HB := hide (fun (o1 : Obj) => (Below.refl w.heap.size w).alloc (Nat.le_refl _) o1)
  unfold opA
  simp only
  generalize av.length = n at *
  have HE := hide hE
  clear hE h rl
  go_enter Try.func36, Try.ntmps36
  go_wp2
  go_ret
  refine ⟨?_, unhide HB _⟩
  rw [unhide HE]
  simp
  omega

set_option maxRecDepth 20000 in
set_option maxHeartbeats 4000000 in
theorem bcheck_any (v : Value) (L : List El) (w : World) (h : EL 3 opC w v L) (hks : ∀ x ∈ L, x.1.key.size ≤ 140737488351232) :
    Calls Try.prog 28 #[v] w fun e w' => e = .returned (.int .i64 (chkE (dat L))) ∧ Below w.heap.size w w' := by
  have HW := hide (fun W hb => cont_any 35 ent_wrong (fun x => wrongD (datOf x)) v L W (h.below hb) (fun x _ W hr => bwrong_any x W hr))
  have HL := hide (fun W hb => cont_any 36 ent_large (fun x => largeD (datOf x)) v L W (h.below hb) (fun x _ W hr => blarge_any x W hr))
  have HS := hide (fun W hb => bsize_any v L W (h.below hb) hks)
  have hE : chkE (dat L) = if L.length = 0 then 1 else if L.any (fun x => wrongD (datOf x)) then 1 else if 32 < L.length then 4 else if L.any (fun x => largeD (datOf x)) then 4 else if 32768 < sizeN (dat L) then 4 else 0 := by
    unfold chkE
    rw [dat_len, dat_any, dat_any]
  obtain ⟨p1, c1, rfl, k1, k2, _⟩ := h.shape
  unfold maxLen at k2
  have hl0 : (L.length : Int) ≤ 9223372036854775807 := by omega
  have hsz : sizeN (dat L) ≤ 2147483647 := by unfold sizeN; omega
  generalize chkE (dat L) = R at *
  generalize sizeN (dat L) = Z at *
  generalize (L.any fun x => wrongD (datOf x)) = AW at *
  generalize (L.any fun x => largeD (datOf x)) = AL at *
  generalize L.length = l at *
  have HE := hide hE
  clear h hks hE k1 k2
  by_cases h0 : l = 0
  · subst h0
    go_enter Try.func28, Try.ntmps28
    go_wp2
    go_ret
    exact ⟨by rw [unhide HE]; rfl, Below.refl _ _⟩
  · have h0' : ((l : Int) == 0) = false := by simp; omega
    have hn0 : Hid (¬ l = 0) := h0
    clear h0
    cases AW with
    | true =>
      go_enter Try.func28, Try.ntmps28
      go_wp2_with (go_at_call 34; refine Calls.mono (unhide HW _ (Below.refl _ _)) ?_; rintro e w2 ⟨rfl, hb2⟩; have HB2 := hide hb2; clear hb2)
      go_ret
      exact ⟨by rw [unhide HE, if_neg (unhide hn0)]; rfl, unhide HB2⟩
    | false =>
      by_cases h32 : (32 : Int) < (l : Int)
      · go_enter Try.func28, Try.ntmps28
        go_wp2_with (go_at_call 34; refine Calls.mono (unhide HW _ (Below.refl _ _)) ?_; rintro e w2 ⟨rfl, hb2⟩; have HB2 := hide hb2; clear hb2)
        go_ret
        exact ⟨by rw [unhide HE, if_neg (unhide hn0), if_neg (by simp), if_pos (by omega)]; rfl, unhide HB2⟩
      · have hN32 : Hid (¬ 32 < l) := by unfold Hid; omega
        cases AL with
        | true =>
          go_enter Try.func28, Try.ntmps28
          go_wp2_with fail
          refine Calls.mono (unhide HW _ (Below.refl _ _)) ?_
          rintro e w2 ⟨rfl, hb2⟩
          have HB2 := hide hb2
          clear hb2
          go_wp2_with fail
          refine Calls.mono (unhide HL _ (unhide HB2)) ?_
          rintro e w3 ⟨rfl, hb3⟩
          have HB3 := hide ((unhide HB2).trans (hb3.mono (unhide HB2).size))
          clear hb3
          go_wp2
          go_ret
          exact ⟨by rw [unhide HE, if_neg (unhide hn0), if_neg (by simp), if_neg (unhide hN32)]; rfl, unhide HB3⟩
        | false =>
          by_cases hz : (32768 : Int) < (Z : Int)
          · go_enter Try.func28, Try.ntmps28
            go_wp2_with fail
            refine Calls.mono (unhide HW _ (Below.refl _ _)) ?_
            rintro e w2 ⟨rfl, hb2⟩
            have HB2 := hide hb2
            clear hb2
            go_wp2_with fail
            refine Calls.mono (unhide HL _ (unhide HB2)) ?_
            rintro e w3 ⟨rfl, hb3⟩
            have HB3 := hide ((unhide HB2).trans (hb3.mono (unhide HB2).size))
            clear hb3
            go_wp2_with fail
            refine Calls.mono (unhide HS _ (unhide HB3)) ?_
            rintro e w4 ⟨rfl, hb4⟩
            have HB4 := hide ((unhide HB3).trans (hb4.mono (unhide HB3).size))
            clear hb4
            go_wp2
            go_ret
            exact ⟨by rw [unhide HE, if_neg (unhide hn0), if_neg (by simp), if_neg (unhide hN32), if_neg (by simp), if_pos (by omega)]; rfl, unhide HB4⟩
          · have hNZ : Hid (¬ 32768 < Z) := by unfold Hid; omega
            go_enter Try.func28, Try.ntmps28
            go_wp2_with fail
            refine Calls.mono (unhide HW _ (Below.refl _ _)) ?_
            rintro e w2 ⟨rfl, hb2⟩
            have HB2 := hide hb2
            clear hb2
            go_wp2_with fail
            refine Calls.mono (unhide HL _ (unhide HB2)) ?_
            rintro e w3 ⟨rfl, hb3⟩
            have HB3 := hide ((unhide HB2).trans (hb3.mono (unhide HB2).size))
            clear hb3
            go_wp2_with fail
            refine Calls.mono (unhide HS _ (unhide HB3)) ?_
            rintro e w4 ⟨rfl, hb4⟩
            have HB4 := hide ((unhide HB3).trans (hb4.mono (unhide HB3).size))
            clear hb4
            go_wp2
            go_ret
            exact ⟨by rw [unhide HE, if_neg (unhide hn0), if_neg (by simp), if_neg (unhide hN32), if_neg (by simp), if_neg (unhide hNZ)]; rfl, unhide HB4⟩
end Go.Proofs.Ytjkkdijoogiipaa
