/- Bytes in memory of the call's own, wherever in a block they lie, and what the helper Spoil does to them. -/
import Derived.Test.YtkekikfiijbjmabBase
namespace Go.Proofs.Ytkekikfiijbjmab
open Go.RowKit

/-- A slice that reads as these bytes and, where there are any, lies in a block not below 'base' that may be written. -/
def Mine (w : World) (base : Nat) (t : Value) (bs : List UInt8) : Prop :=
  Row w t bs ∧ (bs = [] ∨ ∃ g off cap e cur, t = .slice (some ⟨g, off, none⟩) bs.length cap ∧ base ≤ g ∧ w.heap[g]? = some (.cells cur e (0, 0)))

theorem Mine.row {w : World} {base : Nat} {t : Value} {bs : List UInt8} (h : Mine w base t bs) : Row w t bs := h.1
theorem Mine.below {w w' : World} {base : Nat} {t : Value} {bs : List UInt8} (h : Mine w base t bs) (hb : Below w.heap.size w w') : Mine w' base t bs := by
  refine ⟨h.1.below hb, ?_⟩
  rcases h.2 with h2 | ⟨g, off, cap, e, cur, ht, hg, hh⟩
  · exact Or.inl h2
  · exact Or.inr ⟨g, off, cap, e, cur, ht, hg, (hb.block g (Array.getElem?_eq_some_iff.1 hh).1).trans hh⟩
theorem Mine.base {w : World} {base base' : Nat} {t : Value} {bs : List UInt8} (h : Mine w base t bs) (hb : base' ≤ base) : Mine w base' t bs :=
  ⟨h.1, h.2.elim Or.inl fun ⟨g, off, cap, e, cur, ht, hg, hh⟩ => Or.inr ⟨g, off, cap, e, cur, ht, Nat.le_trans hb hg, hh⟩⟩
theorem mine_nil (w : World) (base : Nat) : Mine w base (.slice none 0 0) [] := ⟨Row.nil w, Or.inl rfl⟩
theorem mine_of_owns {w : World} {base e : Nat} {t : Value} {bs : List UInt8} (h : w.ownsRow base e 1 t bs.length (bs.map B)) : Mine w base t bs := by
  refine ⟨row_of_owns h, ?_⟩
  rcases h.2 with ⟨_, h2⟩ | ⟨g, cap, cur, rfl, hg, hh, _⟩
  · exact Or.inl (List.eq_nil_of_length_eq_zero h2)
  · exact Or.inr ⟨g, 0, cap, e, cur, rfl, hg, hh⟩

end Go.Proofs.Ytkekikfiijbjmab
