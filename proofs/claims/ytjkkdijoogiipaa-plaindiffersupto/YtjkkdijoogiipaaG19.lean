/- Texts of ours, one behind the other: FrOwn2. -/
import Derived.Test.YtjkkdijoogiipaaG12
import Derived.Test.YtjkkdijoogiipaaG18
/- What package frame does: readHead, Read; and bytes.Clone. -/
namespace Go.Proofs.Ytjkkdijoogiipaa
open Go.RowKit

set_option maxRecDepth 20000 in
theorem clone_any (s : Value) (bs : List UInt8) (w : World) (hs : Row w s bs) (hroom : bs.length ≤ 140737488351232) :
    Calls Try.prog 16 #[s] w fun e w' => ∃ t, e = .returned t ∧ Mine w' w.heap.size t bs ∧ Below w.heap.size w w' := by
  obtain ⟨i0, hi, hz0, hz1, hz2⟩ := info_parts Try.info5
  have HS := hide hs
  obtain ⟨q, c, rfl, c1, c2, c3, _⟩ := hs
  cases q with
  | none =>
    have hc := c3 rfl
    subst hc
    have hb : bs = [] := List.eq_nil_of_length_eq_zero (by omega)
    subst hb
    have he : ∀ w : World, (binOp .eql 29 (.slice none 0 0) (.slice none 0 0)).run Try.prog w = .ok (.bool true) w := fun _ => rfl
    go_enter Try.func16, Try.ntmps16
    go_wp2
    go_ret
    exact ⟨_, rfl, mine_nil _ _, Below.refl _ _⟩
  | some ad =>
    have he : ∀ w : World, (binOp .eql 29 (.slice (some ad) bs.length c) (.slice none 0 0)).run Try.prog w = .ok (.bool false) w := fun _ => rfl
    have hb0 : Below w.heap.size w (w.alloc (.cells #[] 5)) := (Below.refl _ _).alloc (Nat.le_refl _) _
    have hown : (w.alloc (.cells #[] 5)).ownsRow w.heap.size 5 1 (.slice (some ⟨w.heap.size, 0, none⟩) 0 0) 0 [] :=
      ⟨rfl, Or.inr ⟨w.heap.size, 0, #[], rfl, Nat.le_refl _, heap_alloc_new _ _, Nat.le_refl _, by unfold maxLen; omega, rfl, rfl⟩⟩
    have HS0 := hide ((unhide HS).below hb0)
    clear HS
    go_enter Try.func16, Try.ntmps16
    go_wp2_with (at_builtin; refine wpList_append_row rfl _ _ 29 rfl w.heap.size 5 i0 (.int .u8 0) Try.underlying29 hi hz0 hz1 hz2 rfl _ 0 [] rfl hown _ bs rfl (unhide HS0) (by omega) (by simp) ?_)
    intro v' w2 hown2 hgrow
    have hb2 : Below w.heap.size w w2 := hb0.grown hgrow hb0.size (fun j hj => by cases hj; exact Nat.le_refl _)
    clear hgrow
    go_wp2
    go_ret
    exact ⟨_, rfl, mine_of_owns (by simpa using hown2), hb2⟩

/-- What readHead answers: the three numbers, the place behind them, the error. -/
def headR (b : List UInt8) : (Nat × Nat × Nat) × Int × Int :=
  if readE b 0 ≠ 0 then ((0, 0, 0), 0, readE b 0)
  else if readE b (readN b 0) ≠ 0 then ((0, 0, 0), 0, readE b (readN b 0))
  else if readE b (readN b (readN b 0)) ≠ 0 then ((0, 0, 0), 0, readE b (readN b (readN b 0)))
  else ((readV b 0, readV b (readN b 0), readV b (readN b (readN b 0))), readN b (readN b (readN b 0)), 0)

/-- Three numbers in a block. -/
def At3 (w : World) (g : Nat) (t : TypeId) (x y z : Value) : Prop := w.heap[g]? = some (.cells #[x, y, z] t (0, 0))
theorem At3.below {w w' : World} {g t : Nat} {x y z : Value} (h : At3 w g t x y z) (hb : Below w.heap.size w w') : At3 w' g t x y z := (hb.block g (Array.getElem?_eq_some_iff.1 h).1).trans h
theorem At3.cells {w : World} {g t : Nat} {x y z : Value} (h : At3 w g t x y z) : w.cell? ⟨g, 0, none⟩ = some x ∧ w.cell? ⟨g, 1, none⟩ = some y ∧ w.cell? ⟨g, 2, none⟩ = some z ∧ ∀ j, w.frozen? ⟨g, j, none⟩ = false := by
  refine ⟨?_, ?_, ?_, fun j => frozen_of_block h⟩ <;> (rw [cell_of_row _ _ _ _ _ (0, 0) h]; rfl)
theorem At3.set0 {w : World} {g t : Nat} {x y z : Value} (h : At3 w g t x y z) (v : Value) : At3 (w.setCell ⟨g, 0, none⟩ v) g t v y z := heap_setCell_same w g 0 _ _ _ h
theorem At3.set1 {w : World} {g t : Nat} {x y z : Value} (h : At3 w g t x y z) (v : Value) : At3 (w.setCell ⟨g, 1, none⟩ v) g t x v z := heap_setCell_same w g 1 _ _ _ h
theorem At3.set2 {w : World} {g t : Nat} {x y z : Value} (h : At3 w g t x y z) (v : Value) : At3 (w.setCell ⟨g, 2, none⟩ v) g t x y v := heap_setCell_same w g 2 _ _ _ h
theorem At3.other {w : World} {g t k : Nat} {x y z : Value} (h : At3 w g t x y z) (j : Nat) (v : Value) (hne : g ≠ k) : At3 (w.setCell ⟨k, j, none⟩ v) g t x y z := by
  unfold At3
  unfold At3 at h
  rw [← h]
  exact Below.heap_setCell _ _ _ _ hne

end Go.Proofs.Ytjkkdijoogiipaa
