/- A slice of frames in memory of the call's own, to which frames are appended. -/
import Derived.Test.YtdpoiieblbmofaaFrList
import Derived.Test.YtdpoiieblbmofaaAppGen
namespace Go.Proofs.Ytdpoiieblbmofaa
open Go.RowKit

def FOwn (w : World) (base : Nat) (v : Value) (l : List (Fr × Value)) : Prop :=
  w.ownsRow base 91 4 v l.length (cellsL l) ∧ ∀ p ∈ l, p.1.ok ∧ Row w p.2 p.1.data ∧ ∀ b off n c, p.2 = .slice (some ⟨b, off, none⟩) n c → p.1.data ≠ [] → v.ownBlock ≠ some b
theorem FOwn.nil (w : World) (base : Nat) : FOwn w base (.slice none 0 0) [] := ⟨World.ownsRow_nil _ _ _ _, fun p hp => by cases hp⟩
theorem owns_below4 {w w' : World} {base e sz : Nat} {v : Value} {n : Nat} {xs : List Value} (h : w.ownsRow base e sz v n xs) (hb : Below w.heap.size w w') : w'.ownsRow base e sz v n xs := by
  refine ⟨h.1, ?_⟩
  rcases h.2 with h2 | ⟨g, cap, cur, hv, hg, hh, r⟩
  · exact Or.inl h2
  · exact Or.inr ⟨g, cap, cur, hv, hg, (hb.block g (Array.getElem?_eq_some_iff.1 hh).1).trans hh, r⟩
theorem FOwn.below {w w' : World} {base : Nat} {v : Value} {l : List (Fr × Value)} (h : FOwn w base v l) (hb : Below w.heap.size w w') : FOwn w' base v l :=
  ⟨owns_below4 h.1 hb, fun p hp => ⟨(h.2 p hp).1, (h.2 p hp).2.1.below hb, (h.2 p hp).2.2⟩⟩
theorem FOwn.base {w : World} {base base' : Nat} {v : Value} {l : List (Fr × Value)} (h : FOwn w base v l) (hb : base' ≤ base) : FOwn w base' v l := ⟨owns_base h.1 hb, h.2⟩
theorem FOwn.fl {w : World} {base : Nat} {v : Value} {l : List (Fr × Value)} (h : FOwn w base v l) : FL w v l := FL.of_owns h.1 fun p hp => ⟨(h.2 p hp).2.1, (h.2 p hp).1⟩
theorem row_block_lt {w : World} {t : Value} {bs : List UInt8} {b off n c : Nat} (h : Row w t bs) (e : t = .slice (some ⟨b, off, none⟩) n c) (hne : bs ≠ []) : b < w.heap.size := by
  obtain ⟨b', off', c', e', _, _, hc⟩ := h.open hne
  rw [e] at e'
  simp only [Value.slice.injEq, Option.some.injEq, Addr.mk.injEq, and_true] at e'
  obtain ⟨⟨rfl, rfl⟩, _, _⟩ := e'
  exact World.block_lt_of_cell? w _ (hc 0 (List.length_pos_iff.2 hne))
/-- More frames behind. -/
theorem FOwn.more {w1 W w2 : World} {base : Nat} {v v' : Value} {l m : List (Fr × Value)} (h : FOwn w1 base v l) (hW : Below w1.heap.size w1 W)
    (hm : ∀ p ∈ m, p.1.ok ∧ Row w1 p.2 p.1.data ∧ ∀ b off n c, p.2 = .slice (some ⟨b, off, none⟩) n c → p.1.data ≠ [] → v.ownBlock ≠ some b)
    (hown : w2.ownsRow base 91 4 v' (l.length + m.length) (cellsL l ++ cellsL m)) (hg : W.grownBy w2 v.ownBlock) (hv : v'.ownBlock = v.ownBlock ∨ v'.ownBlock = some W.heap.size) : FOwn w2 base v' (l ++ m) := by
  refine ⟨by rw [List.length_append, cellsL_append]; exact hown, fun p hp => ?_⟩
  obtain ⟨h1, h2, h3⟩ : p.1.ok ∧ Row w1 p.2 p.1.data ∧ ∀ b off n c, p.2 = .slice (some ⟨b, off, none⟩) n c → p.1.data ≠ [] → v.ownBlock ≠ some b := by
    rcases List.mem_append.1 hp with hp | hp
    · exact h.2 p hp
    · exact hm p hp
  refine ⟨h1, (h2.below hW).grown hg h3, fun b off n c e hne => ?_⟩
  rcases hv with hv | hv
  · rw [hv]; exact h3 b off n c e hne
  · rw [hv]
    have := row_block_lt h2 e hne
    have := hW.size
    intro e
    simp only [Option.some.injEq] at e
    omega
theorem oneCell_L (l : List (Fr × Value)) (h : ∀ p ∈ l, ∃ q n c, p.2 = .slice q n c) : ∀ u ∈ cellsL l, u.oneCell' = true := by
  intro u hu
  simp only [cellsL, List.mem_flatMap] at hu
  obtain ⟨p, hp, hu⟩ := hu
  obtain ⟨q, n, c, e⟩ := h p hp
  simp only [frC, List.mem_cons, List.not_mem_nil, or_false, e] at hu
  rcases hu with rfl | rfl | rfl | rfl <;> rfl
theorem length_frs (l : List (Fr × Value)) : (frs l).length = l.length := by simp [frs]
theorem frs_append (a b : List (Fr × Value)) : frs (a ++ b) = frs a ++ frs b := by simp [frs]
end Go.Proofs.Ytdpoiieblbmofaa
