/- An array of slices of bytes in a block of the call's own, apart from what belongs to a device: for the laws DiskSubset and DiskKeeps. -/
import Derived.Test.YtkekikfiijbjmaaMine
import Derived.Test.YtkekikfiijbjmaaMoves
namespace Go.Proofs.Ytkekikfiijbjmaa
open Go.RowKit

/-- v reads as bs, and its bytes lie neither in F nor in the block x. -/
def Held (F : Nat → Prop) (w : World) (x : Nat) (v : Value) (bs : List UInt8) : Prop :=
  Row w v bs ∧ ∀ b off n c, v = .slice (some ⟨b, off, none⟩) n c → 0 < n → ¬ F b ∧ b ≠ x ∧ b < w.heap.size

theorem Held.nil (F : Nat → Prop) (w : World) (x : Nat) : Held F w x (.slice none 0 0) [] := ⟨Row.nil w, fun b off n c e => by cases e⟩
theorem Held.keep {F G F' : Nat → Prop} {w w' : World} {x : Nat} {v : Value} {bs : List UInt8} (h : Held F w x v bs) (hk : Keep G w w') (hG : ∀ b, G b → F b ∨ b = x) (hF : ∀ b, F' b → F b ∨ w.heap.size ≤ b) : Held F' w' x v bs := by
  refine ⟨h.1.keep hk (fun b off c e hne hg => ?_), fun b off n c e hn => ?_⟩
  · obtain ⟨q1, q2, _⟩ := h.2 b off _ c e (List.length_pos_iff.2 hne)
    rcases hG b hg with h1 | h1
    · exact q1 h1
    · exact q2 h1
  · obtain ⟨q1, q2, q3⟩ := h.2 b off n c e hn
    refine ⟨fun hf => ?_, q2, Nat.lt_of_lt_of_le q3 hk.size⟩
    rcases hF b hf with h1 | h1
    · exact q1 h1
    · omega
theorem Held.of_mine {F : Nat → Prop} {w : World} {lo x : Nat} {v : Value} {bs : List UInt8} (h : Mine w lo v bs) (hF : ∀ b, F b → b < lo) (hx : x < lo) : Held F w x v bs := by
  refine ⟨h.row, fun b off n c e hn => ?_⟩
  subst e
  rcases h.2 with h0 | ⟨g, o, cap, e', cur, q1, q2, q3⟩
  · obtain ⟨p', c', l', e', hl'⟩ := h.row.shape
    simp only [Value.slice.injEq] at e'
    rw [h0] at hl'
    simp at hl'
    omega
  · simp only [Value.slice.injEq, Option.some.injEq, Addr.mk.injEq] at q1
    obtain ⟨⟨rfl, _⟩, _⟩ := q1
    exact ⟨fun hf => by have := hF _ hf; omega, by omega, (Array.getElem?_eq_some_iff.1 q3).1⟩

/-- The block x holds n slices of bytes, that read as G says. -/
def ArrH (F : Nat → Prop) (w : World) (x t n : Nat) (G : Nat → List UInt8) : Prop :=
  ∃ cur : Array Value, w.heap[x]? = some (.cells cur t (0, 0)) ∧ cur.size = n ∧ ¬ F x ∧ ∀ j, j < n → ∃ v, cur[j]? = some v ∧ Held F w x v (G j)

/-- The device moves. -/
theorem ArrH.moves {F F' : Nat → Prop} {w w' : World} {x t n : Nat} {G : Nat → List UInt8} (h : ArrH F w x t n G) (hm : Moves F F' w w') : ArrH F' w' x t n G := by
  obtain ⟨cur, h1, h2, h3, h4⟩ := h
  have hx : x < w.heap.size := (Array.getElem?_eq_some_iff.1 h1).1
  refine ⟨cur, (hm.keep.block x hx h3).trans h1, h2, fun hf => ?_, fun j hj => ?_⟩
  · rcases hm.sub x hf with h | h
    · exact h3 h
    · omega
  · obtain ⟨v, e, hv⟩ := h4 j hj
    exact ⟨v, e, hv.keep hm.keep (fun b hb => Or.inl hb) hm.sub⟩
theorem ArrH.below {F : Nat → Prop} {w w' : World} {x t n : Nat} {G : Nat → List UInt8} (h : ArrH F w x t n G) (hb : Below w.heap.size w w') : ArrH F w' x t n G := h.moves (Moves.of_below hb)
/-- One slice is laid into it. -/
theorem ArrH.store {F : Nat → Prop} {w : World} {x t n : Nat} {G : Nat → List UInt8} (h : ArrH F w x t n G) (j : Nat) (hj : j < n) (v : Value) (r : List UInt8) (hv : Held F w x v r) : ArrH F (w.setCell ⟨x, j, none⟩ v) x t n (fun k => if k = j then r else G k) := by
  obtain ⟨cur, h1, h2, h3, h4⟩ := h
  have hk : Keep (fun k => k = x) w (w.setCell ⟨x, j, none⟩ v) := ⟨rfl, rfl, rfl, by simp, fun k _ hn => by rw [Below.heap_setCell _ _ _ _ hn]⟩
  have hst : ∀ {u bs}, Held F w x u bs → Held F (w.setCell ⟨x, j, none⟩ v) x u bs := fun hu => hu.keep hk (fun b hb => Or.inr hb) (fun b hb => Or.inl hb)
  refine ⟨cur.setIfInBounds j v, heap_setCell_same w x j cur _ v h1, by simpa using h2, h3, fun k hkn => ?_⟩
  by_cases e : k = j
  · subst e
    refine ⟨v, by simp [h2, hj], ?_⟩
    show Held F _ x v (if k = k then r else G k)
    rw [if_pos rfl]
    exact hst hv
  · obtain ⟨u, hu, hm⟩ := h4 k hkn
    refine ⟨u, ?_, by
      show Held F _ x u (if k = j then r else G k)
      rw [if_neg e]
      exact hst hm⟩
    rw [Array.getElem?_setIfInBounds, if_neg (fun h => e h.symm)]
    exact hu
theorem ArrH.at {F : Nat → Prop} {w : World} {x t n : Nat} {G : Nat → List UInt8} (h : ArrH F w x t n G) (j : Nat) (hj : j < n) : ∃ v, w.cell? ⟨x, j, none⟩ = some v ∧ w.frozen? ⟨x, j, none⟩ = false ∧ Held F w x v (G j) := by
  obtain ⟨cur, h1, h2, h3, h4⟩ := h
  obtain ⟨v, e, hm⟩ := h4 j hj
  refine ⟨v, ?_, frozen_of_block h1, hm⟩
  rw [cell_of_row w x j _ _ (0, 0) h1]
  exact e
theorem ArrH.lt {F : Nat → Prop} {w : World} {x t n : Nat} {G : Nat → List UInt8} (h : ArrH F w x t n G) : x < w.heap.size := by
  obtain ⟨cur, h1, _⟩ := h
  exact (Array.getElem?_eq_some_iff.1 h1).1
theorem ArrH.congr {F : Nat → Prop} {w : World} {x t n : Nat} {G G' : Nat → List UInt8} (h : ArrH F w x t n G) (hG : ∀ j, j < n → G j = G' j) : ArrH F w x t n G' := by
  obtain ⟨cur, h1, h2, h3, h4⟩ := h
  refine ⟨cur, h1, h2, h3, fun j hj => ?_⟩
  rw [← hG j hj]
  exact h4 j hj
theorem ArrH.made (F : Nat → Prop) (w : World) (t n : Nat) (hF : ∀ k, F k → k < w.heap.size) : ArrH F (w.alloc (.cells (List.replicate n (Value.slice none 0 0)).toArray t)) w.heap.size t n (fun _ => []) := by
  refine ⟨_, heap_alloc_new _ _, by simp, fun hf => absurd (hF _ hf) (Nat.lt_irrefl _), fun j hj => ⟨.slice none 0 0, by simp [hj], Held.nil _ _ _⟩⟩
end Go.Proofs.Ytkekikfiijbjmaa
