/- An array of rows of bytes that grow, each in a block of its own, apart from what belongs to a device: for the law DiskKeeps. -/
import Derived.Test.YtkekikfiijbjmaaRowHeld
namespace Go.Proofs.Ytkekikfiijbjmaa
open Go.RowKit

theorem grow_stays {w w' : World} {base e sz : Nat} {v : Value} {n : Nat} {xs : List Value} (h : w.ownsRow base e sz v n xs) (hk : ∀ k, v.ownBlock = some k → w'.heap[k]? = w.heap[k]?) : w'.ownsRow base e sz v n xs := by
  refine ⟨h.1, ?_⟩
  rcases h.2 with h2 | ⟨g, cap, cur, rfl, hg, hh, r⟩
  · exact Or.inl h2
  · exact Or.inr ⟨g, cap, cur, rfl, hg, (hk g rfl).trans hh, r⟩
theorem grow_lt {w : World} {base e sz : Nat} {v : Value} {n : Nat} {xs : List Value} (h : w.ownsRow base e sz v n xs) : ∀ k, v.ownBlock = some k → k < w.heap.size := by
  intro k hk
  rcases h.2 with ⟨rfl, _⟩ | ⟨g, cap, cur, rfl, hg, hh, r⟩
  · cases hk
  · cases hk
    exact (Array.getElem?_eq_some_iff.1 hh).1

/-- The block y holds eight rows of the call's own, that read as M says. -/
structure MayAt (F : Nat → Prop) (w : World) (y t e lo : Nat) (cur : Array Value) (M : Nat → List UInt8) : Prop where
  blk : w.heap[y]? = some (.cells cur t (0, 0))
  size : cur.size = 8
  nF : ¬ F y
  row : ∀ j, j < 8 → ∃ v, cur[j]? = some v ∧ w.ownsRow lo e 1 v (M j).length ((M j).map B) ∧ ∀ b, v.ownBlock = some b → ¬ F b ∧ b ≠ y
  apart : ∀ (i j : Nat) (u v : Value) (b : Nat), i ≠ j → cur[i]? = some u → cur[j]? = some v → u.ownBlock = some b → v.ownBlock ≠ some b

/-- What belongs to the device, to that array and to its rows. -/
def foot (F : Nat → Prop) (y : Nat) (cur : Array Value) (b : Nat) : Prop := F b ∨ b = y ∨ ∃ (j : Nat) (v : Value), cur[j]? = some v ∧ v.ownBlock = some b

theorem MayAt.lt {F : Nat → Prop} {w : World} {y t e lo : Nat} {cur : Array Value} {M : Nat → List UInt8} (h : MayAt F w y t e lo cur M) : y < w.heap.size := (Array.getElem?_eq_some_iff.1 h.blk).1
theorem MayAt.rowlt {F : Nat → Prop} {w : World} {y t e lo : Nat} {cur : Array Value} {M : Nat → List UInt8} (h : MayAt F w y t e lo cur M) {j : Nat} {v : Value} (hv : cur[j]? = some v) {b : Nat} (hb : v.ownBlock = some b) : b < w.heap.size ∧ ¬ F b ∧ b ≠ y := by
  have hj : j < 8 := by rw [← h.size]; exact (Array.getElem?_eq_some_iff.1 hv).1
  obtain ⟨u, e1, e2, e3⟩ := h.row j hj
  rw [hv] at e1
  cases e1
  exact ⟨grow_lt e2 b hb, e3 b hb⟩
theorem MayAt.low {F : Nat → Prop} {w : World} {y t e lo : Nat} {cur : Array Value} {M : Nat → List UInt8} (h : MayAt F w y t e lo cur M) {j : Nat} {v : Value} (hv : cur[j]? = some v) {b : Nat} (hb : v.ownBlock = some b) : lo ≤ b := by
  have hj : j < 8 := by rw [← h.size]; exact (Array.getElem?_eq_some_iff.1 hv).1
  obtain ⟨u, e1, e2, e3⟩ := h.row j hj
  rw [hv] at e1
  cases e1
  exact (World.ownsRow.lt e2 b hb).1
theorem MayAt.keep {F G F' : Nat → Prop} {w w' : World} {y t e lo : Nat} {cur : Array Value} {M : Nat → List UInt8} (h : MayAt F w y t e lo cur M) (hk : Keep G w w') (hG : ∀ b, G b → b ≠ y ∧ ∀ (j : Nat) (v : Value), cur[j]? = some v → v.ownBlock ≠ some b) (hF : ∀ b, F' b → F b ∨ w.heap.size ≤ b) : MayAt F' w' y t e lo cur M := by
  have hy := h.lt
  refine ⟨(hk.block y hy (fun hg => (hG y hg).1 rfl)).trans h.blk, h.size, fun hf => ?_, fun j hj => ?_, h.apart⟩
  · rcases hF y hf with h1 | h1
    · exact h.nF h1
    · omega
  · obtain ⟨v, e1, e2, e3⟩ := h.row j hj
    refine ⟨v, e1, grow_stays e2 (fun b hb => hk.block b (grow_lt e2 b hb) (fun hg => (hG b hg).2 j v e1 hb)), fun b hb => ⟨fun hf => ?_, (e3 b hb).2⟩⟩
    rcases hF b hf with h1 | h1
    · exact (e3 b hb).1 h1
    · have := grow_lt e2 b hb; omega
/-- The device moves. -/
theorem MayAt.moves {F F' : Nat → Prop} {w w' : World} {y t e lo : Nat} {cur : Array Value} {M : Nat → List UInt8} (h : MayAt F w y t e lo cur M) (hm : Moves F F' w w') : MayAt F' w' y t e lo cur M :=
  h.keep hm.keep (fun _ hb => ⟨fun e => h.nF (e ▸ hb), fun _ _ hv ho => (h.rowlt hv ho).2.1 hb⟩) hm.sub
theorem foot_moves {F F' : Nat → Prop} {w w' : World} {y : Nat} {cur : Array Value} (hm : Moves F F' w w') : Moves (foot F y cur) (foot F' y cur) w w' :=
  ⟨hm.keep.weak (fun b hb => Or.inl hb), fun b hb => by
    rcases hb with hb | hb
    · rcases hm.sub b hb with h | h
      · exact Or.inl (Or.inl h)
      · exact Or.inr h
    · exact Or.inl (Or.inr hb)⟩
theorem MayAt.below {F : Nat → Prop} {w w' : World} {y t e lo : Nat} {cur : Array Value} {M : Nat → List UInt8} (h : MayAt F w y t e lo cur M) (hb : Below w.heap.size w w') : MayAt F w' y t e lo cur M := h.moves (Moves.of_below hb)
theorem MayAt.at {F : Nat → Prop} {w : World} {y t e lo : Nat} {cur : Array Value} {M : Nat → List UInt8} (h : MayAt F w y t e lo cur M) (j : Nat) (hj : j < 8) : ∃ v, cur[j]? = some v ∧ w.cell? ⟨y, j, none⟩ = some v ∧ w.frozen? ⟨y, j, none⟩ = false ∧ w.ownsRow lo e 1 v (M j).length ((M j).map B) ∧ ∃ q c, v = .slice q (M j).length c := by
  obtain ⟨v, e1, e2, e3⟩ := h.row j hj
  refine ⟨v, e1, ?_, frozen_of_block h.blk, e2, ?_⟩
  · rw [cell_of_row w y j _ _ (0, 0) h.blk]
    exact e1
  · rcases e2.2 with ⟨h1, h2⟩ | ⟨k, cap, c, h1, _⟩
    · exact ⟨none, 0, by rw [h1, h2]⟩
    · exact ⟨_, cap, h1⟩

/-- One row grows. -/
theorem MayAt.app {F : Nat → Prop} {w w1 w2 : World} {y t e lo : Nat} {cur : Array Value} {M : Nat → List UInt8} (h : MayAt F w y t e lo cur M) (hFl : ∀ b, F b → b < w.heap.size) {j : Nat} (hj : j < 8) {v v' : Value} (hv : cur[j]? = some v) {u : UInt8}
    (hb : Below w.heap.size w w1) (hown : w2.ownsRow lo e 1 v' ((M j).length + 1) ((M j).map B ++ [B u])) (hg : w1.grownBy w2 v.ownBlock) (hvo : v'.ownBlock = v.ownBlock ∨ v'.ownBlock = some w1.heap.size) :
    MayAt F (w2.setCell ⟨y, j, none⟩ v') y t e lo (cur.setIfInBounds j v') (fun i => if i = j then M j ++ [u] else M i) ∧ Moves (foot F y cur) (foot F y (cur.setIfInBounds j v')) w (w2.setCell ⟨y, j, none⟩ v') ∧ ∀ b, F b → (w2.setCell ⟨y, j, none⟩ v').heap[b]? = w.heap[b]? := by
  have hy := h.lt
  have hs1 := hb.size
  have hs2 := hg.size
  have hvn : ∀ b, v.ownBlock = some b → b < w.heap.size ∧ ¬ F b ∧ b ≠ y := fun b hb => h.rowlt hv hb
  have hk : ∀ k, k < w.heap.size → v.ownBlock ≠ some k → w2.heap[k]? = w.heap[k]? := fun k h1 h2 => (hg.block k (by omega) (fun e => h2 e.symm)).trans (hb.block k h1)
  have hset : ∀ k, k ≠ y → (w2.setCell ⟨y, j, none⟩ v').heap[k]? = w2.heap[k]? := fun k hk => Below.heap_setCell _ _ _ _ hk
  have hvy : v.ownBlock ≠ some y := fun e => (hvn y e).2.2 rfl
  have hblk2 := (hk y hy hvy).trans h.blk
  have hv'n : ∀ b, v'.ownBlock = some b → ¬ F b ∧ b ≠ y := fun b hb' => by
    rcases hvo with e | e
    · rw [e] at hb'
      exact (hvn b hb').2
    · rw [e] at hb'
      have := Option.some.inj hb'
      exact ⟨fun hf => by have := hFl b hf; omega, by omega⟩
  have hget : ∀ i : Nat, i ≠ j → (cur.setIfInBounds j v')[i]? = cur[i]? := fun i hi => by rw [Array.getElem?_setIfInBounds, if_neg (fun h => hi h.symm)]
  have hgetj : (cur.setIfInBounds j v')[j]? = some v' := by rw [Array.getElem?_setIfInBounds_self_of_lt (by rw [h.size]; exact hj)]
  have hap : ∀ (i : Nat) (u' : Value) (b : Nat), i ≠ j → cur[i]? = some u' → u'.ownBlock = some b → v'.ownBlock ≠ some b := fun i u' b hi hu hb' e => by
    rcases hvo with e' | e'
    · exact h.apart i j u' v b hi hu hv hb' (by rw [← e']; exact e)
    · rw [e'] at e
      have := Option.some.inj e
      have := (h.rowlt hu hb').1
      omega
  refine ⟨⟨?_, by rw [Array.size_setIfInBounds]; exact h.size, h.nF, fun i hi => ?_, fun i i' u1 u2 b hne h1 h2 h3 => ?_⟩, ⟨⟨hg.os.trans hb.os, hg.tape.trans hb.tape, hg.output.trans hb.output, by rw [World.size_setCell]; omega, fun k hk' hn => ?_⟩, fun b hb' => ?_⟩, fun b hf => ?_⟩
  · exact heap_setCell_same w2 y j cur _ v' hblk2
  · by_cases e : i = j
    · subst e
      refine ⟨v', hgetj, ?_, hv'n⟩
      rw [if_pos rfl, List.length_append, List.map_append]
      exact grow_stays hown (fun b hb' => hset b (hv'n b hb').2)
    · obtain ⟨u', e1, e2, e3⟩ := h.row i hi
      refine ⟨u', by rw [hget i e]; exact e1, ?_, e3⟩
      rw [if_neg e]
      exact grow_stays e2 (fun b hb' => (hset b (e3 b hb').2).trans (hk b (grow_lt e2 b hb') (fun ev => h.apart i j u' v b e e1 hv hb' ev)))
  · by_cases e1 : i = j
    · subst e1
      rw [hgetj] at h1
      cases h1
      rw [hget i' (fun e => hne e.symm)] at h2
      exact fun e2 => hap i' u2 b (fun e => hne e.symm) h2 e2 h3
    · rw [hget i e1] at h1
      by_cases e2 : i' = j
      · subst e2
        rw [hgetj] at h2
        cases h2
        exact hap i u1 b e1 h1 h3
      · rw [hget i' e2] at h2
        exact h.apart i i' u1 u2 b hne h1 h2 h3
  · rw [hset k (fun e => hn (Or.inr (Or.inl e)))]
    exact hk k hk' (fun e => hn (Or.inr (Or.inr ⟨j, v, hv, e⟩)))
  · rcases hb' with hb' | hb' | ⟨i, u', h1, h2⟩
    · exact Or.inl (Or.inl hb')
    · exact Or.inl (Or.inr (Or.inl hb'))
    · by_cases e : i = j
      · subst e
        rw [hgetj] at h1
        cases h1
        rcases hvo with e' | e'
        · exact Or.inl (Or.inr (Or.inr ⟨i, v, hv, by rw [← e']; exact h2⟩))
        · right
          rw [e'] at h2
          have := Option.some.inj h2
          omega
      · rw [hget i e] at h1
        exact Or.inl (Or.inr (Or.inr ⟨i, u', h1, h2⟩))
  · rw [hset b (fun e => h.nF (e ▸ hf))]
    exact hk b (hFl b hf) (fun e => (hvn b e).2.1 hf)

theorem MayAt.made (F : Nat → Prop) (w : World) (t e lo : Nat) (hF : ∀ k, F k → k < w.heap.size) : MayAt F (w.alloc (.cells (List.replicate 8 (Value.slice none 0 0)).toArray t)) w.heap.size t e lo (List.replicate 8 (Value.slice none 0 0)).toArray (fun _ => []) := by
  have hall : ∀ (j : Nat) (v : Value), (List.replicate 8 (Value.slice none 0 0)).toArray[j]? = some v → v = .slice none 0 0 := fun j v hv => by
    rw [List.getElem?_toArray] at hv
    exact List.eq_of_mem_replicate (List.mem_of_getElem? hv)
  refine ⟨heap_alloc_new _ _, by simp, fun hf => absurd (hF _ hf) (Nat.lt_irrefl _), fun j hj => ⟨.slice none 0 0, by rw [List.getElem?_toArray, List.getElem?_replicate, if_pos hj], World.ownsRow_nil _ _ _ _, fun b hb => by cases hb⟩, fun i j u v b _ hu _ hb => ?_⟩
  rw [hall i u hu] at hb
  cases hb
end Go.Proofs.Ytkekikfiijbjmaa
