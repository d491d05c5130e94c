/- Texts of ours, one behind the other: StMem. -/
import Derived.Test.YtjkkdijoogiipaaG3
import Derived.Test.YtjkkdijoogiipaaG4
import Derived.Test.YtjkkdijoogiipaaG5
/- A row of operations in memory, each with a mark that memory does not bear: what sorting turns. -/
namespace Go.Proofs.Ytjkkdijoogiipaa
open Go.RowKit

/-- An operation as it lies in memory: key, the value's slice, delete. -/
structure Opv where
  key : ByteArray
  p : Option Addr
  n : Nat
  c : Nat
  del : Bool
def opA (o : Opv) : Array Value := #[.string o.key, .slice o.p o.n o.c, .bool o.del]
def opC (o : Opv) : List Value := [.string o.key, .slice o.p o.n o.c, .bool o.del]
def opT (x : Opv × Nat) : List Value := opC x.1
theorem opC_len (o : Opv) : (opC o).length = 3 := rfl
theorem opT_len (x : Opv × Nat) : (opT x).length = 3 := rfl
theorem opT_set (L : List (Opv × Nat)) (i : Nat) (x : Opv × Nat) (h : i < L.length) :
    (((L.flatMap opT).set (i * 3) (.string x.1.key)).set (i * 3 + 1) (.slice x.1.p x.1.n x.1.c)).set (i * 3 + 2) (.bool x.1.del) = (L.set i x).flatMap opT := by
  induction L generalizing i with
  | nil => simp at h
  | cons p L ih =>
    cases i with
    | zero => simp [opT, opC]
    | succ i =>
      rw [List.set_cons_succ, List.flatMap_cons, List.flatMap_cons, ← ih i (by simpa using h)]
      have e1 : (i + 1) * 3 = (opT p).length + i * 3 := by simp [opT, opC]; omega
      rw [e1, Nat.add_assoc, Nat.add_assoc]
      simp only [List.set_append_right _ _ (Nat.le_add_right _ _), Nat.add_sub_cancel_left]
/-- The row that is sorted: it lies in block g from its beginning on. -/
structure SRow (w : World) (g cap : Nat) (L : List (Opv × Nat)) : Prop where
  row : w.ownsRow 0 45 3 (.slice (some ⟨g, 0, none⟩) L.length cap) L.length (L.flatMap opT)
  small : L.length < 4611686018427387904
theorem SRow.lt {w : World} {g cap : Nat} {L : List (Opv × Nat)} (h : SRow w g cap L) : g < w.heap.size := (h.row.lt g rfl).2
theorem SRow.keep {F : Nat → Prop} {w w' : World} {g cap : Nat} {L : List (Opv × Nat)} (h : SRow w g cap L) (hk : Keep F w w') (hn : ¬ F g) : SRow w' g cap L := by
  refine ⟨⟨h.row.1, ?_⟩, h.small⟩
  rcases h.row.2 with h2 | ⟨g', cap', cur, e, hg, hh, r⟩
  · exact Or.inl h2
  · simp only [Value.slice.injEq, Option.some.injEq, Addr.mk.injEq, and_true, true_and] at e
    obtain ⟨rfl, rfl⟩ := e
    exact Or.inr ⟨g, cap, cur, rfl, hg, (hk.block g (Array.getElem?_eq_some_iff.1 hh).1 hn).trans hh, r⟩
theorem SRow.below {w w' : World} {g cap : Nat} {L : List (Opv × Nat)} (h : SRow w g cap L) (hb : Below w.heap.size w w') : SRow w' g cap L := h.keep (F := fun _ => False) (Keep.of_below hb) (fun h => h)
theorem SRow.frozen {w : World} {g cap : Nat} {L : List (Opv × Nat)} (h : SRow w g cap L) (j : Nat) : w.frozen? ⟨g, j, none⟩ = false := h.row.frozenAt j
theorem SRow.cells {w : World} {g cap : Nat} {L : List (Opv × Nat)} (h : SRow w g cap L) (i : Nat) (hi : i < L.length) :
    w.cell? ⟨g, i * 3, none⟩ = some (.string L[i].1.key) ∧ w.cell? ⟨g, i * 3 + 1, none⟩ = some (.slice L[i].1.p L[i].1.n L[i].1.c) ∧ w.cell? ⟨g, i * 3 + 2, none⟩ = some (.bool L[i].1.del) := by
  have hr := h.row
  have hf := fun q hq => flat_get opT_len L i hi q hq
  refine ⟨?_, ?_, ?_⟩
  · rw [hr.cellAt (i * 3) (by omega)]; exact hf 0 (by omega)
  · rw [hr.cellAt (i * 3 + 1) (by omega)]; exact hf 1 (by omega)
  · rw [hr.cellAt (i * 3 + 2) (by omega)]; exact hf 2 (by omega)
theorem SRow.cap {w : World} {g cap : Nat} {L : List (Opv × Nat)} (h : SRow w g cap L) : L.length ≤ cap ∧ cap ≤ maxLen := by
  rcases h.row.2 with ⟨h2, _⟩ | ⟨g', cap', cur, e, hg, hh, h1, h2, _⟩
  · cases h2
  · simp only [Value.slice.injEq, Option.some.injEq, Addr.mk.injEq, and_true, true_and] at e
    obtain ⟨rfl, rfl⟩ := e
    exact ⟨h1, h2⟩
theorem SRow.set {w : World} {g cap : Nat} {L : List (Opv × Nat)} (h : SRow w g cap L) (i : Nat) (hi : i < L.length) (x : Opv × Nat) :
    SRow (((w.setCell ⟨g, i * 3, none⟩ (.string x.1.key)).setCell ⟨g, i * 3 + 1, none⟩ (.slice x.1.p x.1.n x.1.c)).setCell ⟨g, i * 3 + 2, none⟩ (.bool x.1.del)) g cap (L.set i x) ∧
    Keep (fun k => k = g) w (((w.setCell ⟨g, i * 3, none⟩ (.string x.1.key)).setCell ⟨g, i * 3 + 1, none⟩ (.slice x.1.p x.1.n x.1.c)).setCell ⟨g, i * 3 + 2, none⟩ (.bool x.1.del)) := by
  obtain ⟨r1, g1⟩ := h.row.stored (i * 3) (.string x.1.key)
  obtain ⟨r2, g2⟩ := r1.stored (i * 3 + 1) (.slice x.1.p x.1.n x.1.c)
  obtain ⟨r3, g3⟩ := r2.stored (i * 3 + 2) (.bool x.1.del)
  have hg := grown_trans (grown_trans g1 g2) g3
  have hk : Keep (fun k => k = g) w (((w.setCell ⟨g, i * 3, none⟩ (.string x.1.key)).setCell ⟨g, i * 3 + 1, none⟩ (.slice x.1.p x.1.n x.1.c)).setCell ⟨g, i * 3 + 2, none⟩ (.bool x.1.del)) :=
    ⟨hg.os, hg.tape, hg.output, hg.size, fun k hk hn => hg.block k hk (fun e => hn (by simpa using e))⟩
  refine ⟨⟨?_, by rw [List.length_set]; exact h.small⟩, hk⟩
  rw [List.length_set, ← opT_set L i x hi]
  exact r3
/-- Two of them overwritten, one behind the other. -/
theorem SRow.set2 {w : World} {g cap : Nat} {L : List (Opv × Nat)} (h : SRow w g cap L) (i j : Nat) (hi : i < L.length) (hj : j < L.length) (x y : Opv × Nat) :
    SRow ((((((w.setCell ⟨g, i * 3, none⟩ (.string x.1.key)).setCell ⟨g, i * 3 + 1, none⟩ (.slice x.1.p x.1.n x.1.c)).setCell ⟨g, i * 3 + 2, none⟩ (.bool x.1.del)).setCell ⟨g, j * 3, none⟩ (.string y.1.key)).setCell ⟨g, j * 3 + 1, none⟩ (.slice y.1.p y.1.n y.1.c)).setCell ⟨g, j * 3 + 2, none⟩ (.bool y.1.del)).drew g cap ((L.set i x).set j y) ∧
    Keep (fun k => k = g) w ((((((w.setCell ⟨g, i * 3, none⟩ (.string x.1.key)).setCell ⟨g, i * 3 + 1, none⟩ (.slice x.1.p x.1.n x.1.c)).setCell ⟨g, i * 3 + 2, none⟩ (.bool x.1.del)).setCell ⟨g, j * 3, none⟩ (.string y.1.key)).setCell ⟨g, j * 3 + 1, none⟩ (.slice y.1.p y.1.n y.1.c)).setCell ⟨g, j * 3 + 2, none⟩ (.bool y.1.del)).drew := by
  obtain ⟨h1, k1⟩ := h.set i hi x
  obtain ⟨h2, k2⟩ := h1.set j (by rw [List.length_set]; exact hj) y
  have hb : ∀ W : World, Below W.heap.size W W.drew := fun W => (Below.refl _ W).drew
  exact ⟨h2.below (hb _), (k1.trans k2 (fun x hx => Or.inl hx)).trans (Keep.of_below (F := fun _ => False) (hb _)) (fun x hx => hx.elim)⟩

/-- The order of keys; what byKey answers. -/
def klt (a b : Opv) : Bool := tl a.key.toList b.key.toList
def cmpI (a b : Opv) : Int := if klt a b then -1 else if klt b a then 1 else 0
theorem ord_klt : Ord2 klt := by
  refine ⟨fun x => tl_irr _, fun x y z h1 h2 => tl_trans _ _ _ h1 h2, fun x y z h1 h2 => ?_⟩
  unfold klt at *
  rcases Bool.eq_false_or_eq_true (tl x.key.toList z.key.toList) with h | h
  · rcases Bool.eq_false_or_eq_true (tl y.key.toList x.key.toList) with g | g
    · have := tl_trans _ _ _ g h
      rw [this] at h2; cases h2
    · have := tl_total _ _ h1 g
      rw [this] at h
      rw [h] at h2; cases h2
  · exact h
theorem cmp_neg (a b : Opv) : decide (cmpI a b < 0) = klt a b := by
  unfold cmpI
  cases klt a b <;> cases klt b a <;> rfl
theorem cmp_bounds (a b : Opv) : -1 ≤ cmpI a b ∧ cmpI a b ≤ 1 := by
  unfold cmpI
  split
  · omega
  · split <;> omega

end Go.Proofs.Ytjkkdijoogiipaa
