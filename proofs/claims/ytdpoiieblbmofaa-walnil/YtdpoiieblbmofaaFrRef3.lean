/- The document's own answers of layer 6: Cut. -/
import Derived.Test.YtdpoiieblbmofaaFrRef2
namespace Go.Proofs.Ytdpoiieblbmofaa
open Go.RowKit

/-- Texts in a row of the call's own, to which texts are appended. -/
def ROwn (w : World) (base : Nat) (v : Value) (ls : List (List UInt8)) : Prop :=
  ∃ vs : List Value, vs.length = ls.length ∧ w.ownsRow base 27 1 v ls.length vs ∧ ∀ j (h : j < ls.length), ∃ t, vs[j]? = some t ∧ Row w t ls[j] ∧ ∀ b off n c, t = .slice (some ⟨b, off, none⟩) n c → ls[j] ≠ [] → v.ownBlock ≠ some b ∧ base ≤ b
theorem ROwn.nil (w : World) (base : Nat) : ROwn w base (.slice none 0 0) [] := ⟨[], rfl, World.ownsRow_nil _ _ _ _, fun j h => by simp at h⟩
theorem ROwn.below {w w' : World} {base : Nat} {v : Value} {ls : List (List UInt8)} (h : ROwn w base v ls) (hb : Below w.heap.size w w') : ROwn w' base v ls := by
  obtain ⟨vs, h1, h2, h3⟩ := h
  exact ⟨vs, h1, owns_below4 h2 hb, fun j hj => let ⟨t, a, b, c⟩ := h3 j hj; ⟨t, a, b.below hb, c⟩⟩
theorem ROwn.base {w : World} {base base' : Nat} {v : Value} {ls : List (List UInt8)} (h : ROwn w base v ls) (hb : base' ≤ base) : ROwn w base' v ls := by
  obtain ⟨vs, h1, h2, h3⟩ := h
  exact ⟨vs, h1, owns_base h2 hb, fun j hj => let ⟨t, a, b, c⟩ := h3 j hj; ⟨t, a, b, fun b off n c' e hne => ⟨(c b off n c' e hne).1, Nat.le_trans hb (c b off n c' e hne).2⟩⟩⟩
theorem ROwn.keep {F : Nat → Prop} {w w' : World} {base : Nat} {v : Value} {ls : List (List UInt8)} (h : ROwn w base v ls) (hk : Keep F w w') (hF : ∀ b, F b → b < base) : ROwn w' base v ls := by
  obtain ⟨vs, h1, h2, h3⟩ := h
  refine ⟨vs, h1, ⟨h2.1, ?_⟩, fun j hj => ?_⟩
  · rcases h2.2 with h2 | ⟨g, cap, cur, hv, hg, hh, r⟩
    · exact Or.inl h2
    · exact Or.inr ⟨g, cap, cur, hv, hg, (hk.block g (Array.getElem?_eq_some_iff.1 hh).1 (fun hf => by have := hF g hf; omega)).trans hh, r⟩
  · obtain ⟨t, a, b, c⟩ := h3 j hj
    exact ⟨t, a, b.keep hk (fun b' off c' e hne hf => by have := hF b' hf; have := (c b' off _ c' e hne).2; omega), c⟩
theorem ROwn.rows {w : World} {base : Nat} {v : Value} {ls : List (List UInt8)} (h : ROwn w base v ls) : Rows2 w v ls := by
  obtain ⟨vs, h1, h2, h3⟩ := h
  rcases h2.2 with ⟨rfl, e⟩ | ⟨g, cap, cur, rfl, hg, hh, k1, k2, k3, k4⟩
  · have : ls = [] := List.eq_nil_of_length_eq_zero e
    subst this
    exact Rows2.nil w
  · refine ⟨_, cap, rfl, k1, k2, by simp, Or.inr ⟨g, 0, rfl, fun j hj => ?_⟩⟩
    obtain ⟨t, a, b, _⟩ := h3 j hj
    refine ⟨t, ?_, b⟩
    rw [Nat.zero_add, cell_of_row w g j cur _ (0, 0) hh]
    rw [← k4] at a
    obtain ⟨hj2, rfl⟩ := List.getElem?_eq_some_iff.1 a
    simp only [List.length_take, Array.length_toList] at hj2
    rw [List.getElem_take, Array.getElem_toList]
    exact Array.getElem?_eq_getElem (by omega)
theorem ROwn.more {w1 W w2 : World} {base : Nat} {v v' t : Value} {ls : List (List UInt8)} {bs : List UInt8} (h : ROwn w1 base v ls) (hW : Below w1.heap.size w1 W) (hr : Row w1 t bs)
    (hap : ∀ b off n c, t = .slice (some ⟨b, off, none⟩) n c → bs ≠ [] → v.ownBlock ≠ some b ∧ base ≤ b)
    (hg : W.grownBy w2 v.ownBlock) (hv : v'.ownBlock = v.ownBlock ∨ v'.ownBlock = some W.heap.size) (hown : ∀ vs, w1.ownsRow base 27 1 v ls.length vs → w2.ownsRow base 27 1 v' (ls.length + 1) (vs ++ [t])) : ROwn w2 base v' (ls ++ [bs]) := by
  obtain ⟨vs, h1, h2, h3⟩ := h
  refine ⟨vs ++ [t], by simp [h1], by simpa using hown vs h2, fun j hj => ?_⟩
  have key : ∀ (t : Value) (bs : List UInt8), Row w1 t bs → (∀ b off n c, t = .slice (some ⟨b, off, none⟩) n c → bs ≠ [] → v.ownBlock ≠ some b ∧ base ≤ b) → Row w2 t bs ∧ ∀ b off n c, t = .slice (some ⟨b, off, none⟩) n c → bs ≠ [] → v'.ownBlock ≠ some b ∧ base ≤ b := by
    intro t bs hr ha
    refine ⟨(hr.below hW).grown hg (fun b off n c e hne => (ha b off n c e hne).1), fun b off n c e hne => ⟨?_, (ha b off n c e hne).2⟩⟩
    rcases hv with hv | hv
    · rw [hv]; exact (ha b off n c e hne).1
    · rw [hv]
      have := row_block_lt hr e hne
      have := hW.size
      intro e
      simp only [Option.some.injEq] at e
      omega
  by_cases hjl : j < ls.length
  · obtain ⟨t', a, b, c⟩ := h3 j hjl
    have e : (ls ++ [bs])[j] = ls[j] := List.getElem_append_left hjl
    rw [e]
    exact ⟨t', by rw [List.getElem?_append_left (by omega)]; exact a, key t' _ b c⟩
  · have hj' : j = ls.length := by simp at hj; omega
    subst hj'
    have e : (ls ++ [bs])[ls.length] = bs := by simp
    rw [e]
    exact ⟨t, by rw [← h1]; simp, key t bs hr hap⟩

end Go.Proofs.Ytdpoiieblbmofaa
