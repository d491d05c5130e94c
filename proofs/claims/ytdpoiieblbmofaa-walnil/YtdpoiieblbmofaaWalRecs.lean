/- Texts in a row to which texts are appended, with all the memory that they lie in; nothing here speaks of what the program does. -/
import Derived.Test.YtdpoiieblbmofaaFrRef3
import Derived.Test.YtdpoiieblbmofaaMine
import Derived.Test.YtdpoiieblbmofaaMoves
namespace Go.Proofs.Ytdpoiieblbmofaa
open Go.RowKit

/-- Texts in a row; H is all the memory of the row and of the texts. -/
def RecsAt (H : Nat → Prop) (w : World) (v : Value) (ls : List (List UInt8)) : Prop :=
  (∃ vs : List Value, vs.length = ls.length ∧ w.ownsRow 0 27 1 v ls.length vs ∧ ∀ j (h : j < ls.length), ∃ t, vs[j]? = some t ∧ Row w t ls[j] ∧ ∀ b off n c, t = .slice (some ⟨b, off, none⟩) n c → ls[j] ≠ [] → v.ownBlock ≠ some b ∧ H b) ∧
  (∀ k, v.ownBlock = some k → H k) ∧ ∀ k, H k → k < w.heap.size

theorem RecsAt.nil (w : World) : RecsAt (fun _ => False) w (.slice none 0 0) [] := ⟨⟨[], rfl, World.ownsRow_nil _ _ _ _, fun j h => by simp at h⟩, (fun k hk => by cases hk), fun k hk => hk.elim⟩
theorem RecsAt.keep {F H : Nat → Prop} {w w' : World} {v : Value} {ls : List (List UInt8)} (h : RecsAt H w v ls) (hk : Keep F w w') (ha : ∀ k, H k → ¬ F k) : RecsAt H w' v ls := by
  obtain ⟨⟨vs, h1, h2, h3⟩, h4, h5⟩ := h
  refine ⟨⟨vs, h1, ⟨h2.1, ?_⟩, fun j hj => ?_⟩, h4, fun k hH => Nat.lt_of_lt_of_le (h5 k hH) hk.size⟩
  · rcases h2.2 with h2 | ⟨g, cap, cur, rfl, hg, hh, r⟩
    · exact Or.inl h2
    · exact Or.inr ⟨g, cap, cur, rfl, hg, (hk.block g (Array.getElem?_eq_some_iff.1 hh).1 (ha g (h4 g rfl))).trans hh, r⟩
  · obtain ⟨t, a, b, c⟩ := h3 j hj
    exact ⟨t, a, b.keep hk (fun b' off c' e hne => ha b' (c b' off _ c' e hne).2), c⟩
theorem RecsAt.below {H : Nat → Prop} {w w' : World} {v : Value} {ls : List (List UInt8)} (h : RecsAt H w v ls) (hb : Below w.heap.size w w') : RecsAt H w' v ls :=
  h.keep (Keep.of_below (F := fun _ => False) hb) (fun _ _ hf => hf)
theorem RecsAt.weak {H H' : Nat → Prop} {w : World} {v : Value} {ls : List (List UInt8)} (h : RecsAt H w v ls) (hs : ∀ k, H k → H' k) (hl : ∀ k, H' k → k < w.heap.size) : RecsAt H' w v ls := by
  obtain ⟨⟨vs, h1, h2, h3⟩, h4, _⟩ := h
  exact ⟨⟨vs, h1, h2, fun j hj => let ⟨t, a, b, c⟩ := h3 j hj; ⟨t, a, b, fun b' off n c' e hne => ⟨(c b' off n c' e hne).1, hs _ (c b' off n c' e hne).2⟩⟩⟩, fun k hk => hs k (h4 k hk), hl⟩
theorem RecsAt.rows {H : Nat → Prop} {w : World} {v : Value} {ls : List (List UInt8)} (h : RecsAt H w v ls) : Rows2 w v ls := by
  obtain ⟨⟨vs, h1, h2, h3⟩, _⟩ := h
  exact ROwn.rows (base := 0) ⟨vs, h1, h2, fun j hj => let ⟨t, a, b, c⟩ := h3 j hj; ⟨t, a, b, fun b' off n c' e hne => ⟨(c b' off n c' e hne).1, Nat.zero_le _⟩⟩⟩
theorem RecsAt.owns {H : Nat → Prop} {w : World} {v : Value} {ls : List (List UInt8)} (h : RecsAt H w v ls) : ∃ vs, w.ownsRow 0 27 1 v ls.length vs := by
  obtain ⟨⟨vs, h1, h2, h3⟩, _⟩ := h
  exact ⟨vs, h2⟩
theorem owns_unique {w : World} {base e sz n : Nat} {v : Value} {xs ys : List Value} (h : w.ownsRow base e sz v n xs) (h' : w.ownsRow base e sz v n ys) : xs = ys := by
  have hl := h.1
  have hl' := h'.1
  rcases h.2 with ⟨_, e2⟩ | ⟨g, cap, cur, e1, _, hh, _, _, _, e6⟩
  · subst e2
    rw [Nat.zero_mul] at hl hl'
    rw [List.eq_nil_of_length_eq_zero hl, List.eq_nil_of_length_eq_zero hl']
  · rcases h'.2 with ⟨e1', _⟩ | ⟨g', cap', cur', e1', _, hh', _, _, _, e6'⟩
    · rw [e1] at e1'; cases e1'
    · rw [e1] at e1'
      simp only [Value.slice.injEq, Option.some.injEq, Addr.mk.injEq, and_true, true_and] at e1'
      obtain ⟨rfl, rfl⟩ := e1'
      rw [hh] at hh'
      cases hh'
      rw [← e6, ← e6']
/-- One text more. -/
theorem RecsAt.more {H : Nat → Prop} {w1 W w2 : World} {v v' t : Value} {ls : List (List UInt8)} {bs : List UInt8} {base : Nat} (h : RecsAt H w1 v ls) (hW : Below w1.heap.size w1 W) (hm : Mine w1 base t bs) (hbase : ∀ k, H k → k < base) (hbw : base ≤ w1.heap.size)
    (hg : W.grownBy w2 v.ownBlock) (hv : v'.ownBlock = v.ownBlock ∨ v'.ownBlock = some W.heap.size) (hown : ∀ vs, w1.ownsRow 0 27 1 v ls.length vs → w2.ownsRow 0 27 1 v' (ls.length + 1) (vs ++ [t])) :
    ∃ H', RecsAt H' w2 v' (ls ++ [bs]) ∧ ∀ k, H' k → H k ∨ base ≤ k := by
  obtain ⟨⟨vs, h1, h2, h3⟩, h4, h5⟩ := h
  have hmb : ∀ b off n c, t = .slice (some ⟨b, off, none⟩) n c → bs ≠ [] → base ≤ b ∧ b < w1.heap.size := by
    intro b off n c e hne
    refine ⟨?_, row_block_lt hm.row e hne⟩
    rcases hm.2 with h0 | ⟨g, off', cap, e', cur, ht, hg, _⟩
    · exact absurd h0 hne
    · rw [ht] at e
      simp only [Value.slice.injEq, Option.some.injEq, Addr.mk.injEq, and_true] at e
      omega
  have hR := ROwn.more (base := 0) (w1 := w1) (W := W) (w2 := w2) (v := v) (v' := v') (t := t) (ls := ls) (bs := bs) ⟨vs, h1, h2, fun j hj => let ⟨t, a, b, c⟩ := h3 j hj; ⟨t, a, b, fun b' off n c' e hne => ⟨(c b' off n c' e hne).1, Nat.zero_le _⟩⟩⟩ hW hm.row
    (fun b off n c e hne => ⟨fun hx => by have := hbase b (h4 b hx); have := (hmb b off n c e hne).1; omega, Nat.zero_le _⟩) hg hv hown
  obtain ⟨vs', r1, r2, r3⟩ := hR
  have hst : vs'.length = (ls ++ [bs]).length := r1
  have hw12 : w1.heap.size ≤ w2.heap.size := Nat.le_trans hW.size hg.size
  -- the cells are the old ones and the new one
  have hvs : vs' = vs ++ [t] := by
    have h6 := hown vs h2
    rcases r2.2 with ⟨e1, e2⟩ | ⟨g, cap, cur, e1, _, hh, _, _, _, e6⟩
    · simp at e2
    · rcases h6.2 with ⟨e1', _⟩ | ⟨g', cap', cur', e1', _, hh', _, _, _, e6'⟩
      · rw [e1] at e1'; cases e1'
      · rw [e1] at e1'
        simp only [Value.slice.injEq, Option.some.injEq, Addr.mk.injEq, and_true] at e1'
        obtain ⟨rfl, _, rfl⟩ := e1'
        rw [hh] at hh'
        cases hh'
        rw [← e6, ← e6']
        simp
  refine ⟨fun k => H k ∨ v'.ownBlock = some k ∨ ∃ off n c, t = .slice (some ⟨k, off, none⟩) n c ∧ bs ≠ [], ⟨⟨vs', r1, r2, fun j hj => ?_⟩, fun k hk => Or.inr (Or.inl hk), fun k hk => ?_⟩, fun k hk => ?_⟩
  · obtain ⟨t', a, b, c⟩ := r3 j hj
    refine ⟨t', a, b, fun b' off n c' e hne => ⟨(c b' off n c' e hne).1, ?_⟩⟩
    by_cases hjl : j < ls.length
    · obtain ⟨t'', a', _, c''⟩ := h3 j hjl
      have e1 : (ls ++ [bs])[j] = ls[j] := List.getElem_append_left hjl
      rw [e1] at hne
      rw [hvs, List.getElem?_append_left (by omega), a'] at a
      cases a
      exact Or.inl (c'' b' off n c' e hne).2
    · have hj' : j = ls.length := by simp at hj; omega
      subst hj'
      have e1 : (ls ++ [bs])[ls.length] = bs := by simp
      rw [e1] at hne
      rw [hvs, ← h1] at a
      simp only [List.getElem?_append_right (Nat.le_refl _), Nat.sub_self, List.getElem?_cons_zero, Option.some.injEq] at a
      subst a
      exact Or.inr (Or.inr ⟨off, n, c', e, hne⟩)
  · rcases hk with hk | hk | ⟨off, n, c, e, hne⟩
    · exact Nat.lt_of_lt_of_le (h5 k hk) hw12
    · rcases r2.2 with ⟨e1, _⟩ | ⟨g, cap, cur, e1, _, hh, _⟩
      · rw [e1] at hk; cases hk
      · rw [e1] at hk; cases hk; exact (Array.getElem?_eq_some_iff.1 hh).1
    · exact Nat.lt_of_lt_of_le (hmb k off n c e hne).2 hw12
  · rcases hk with hk | hk | ⟨off, n, c, e, hne⟩
    · exact Or.inl hk
    · rcases hv with hv | hv
      · exact Or.inl (h4 k (hv ▸ hk))
      · rw [hv] at hk
        simp only [Option.some.injEq] at hk
        right
        have h6 := hW.size
        omega
    · exact Or.inr (hmb k off n c e hne).1
end Go.Proofs.Ytdpoiieblbmofaa
