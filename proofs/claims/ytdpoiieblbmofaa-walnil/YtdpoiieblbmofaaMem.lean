/- Rows of bytes in the call's own memory: what the laws on make, copy and append leave, said of a block; nothing here speaks of the program. -/
import Derived.Test.YtdpoiieblbmofaaPlain
import Derived.Laws.AppendOwnNone
namespace Go.Proofs.Ytdpoiieblbmofaa
open Go.RowKit

theorem made_block {w : World} {base e g m : Nat} (h : w.ownsRow base e 1 (.slice (some ⟨g, 0, none⟩) m m) m (madeCells #[Value.int .u8 0] m).toList) :
    w.heap[g]? = some (.cells ((List.replicate m (0 : UInt8)).map B).toArray e (0, 0)) := by
  rcases h.2 with ⟨h', _⟩ | ⟨g', cap, cur, h', _, hh, _, _, hcs, htake⟩
  · simp at h'
  · simp only [Value.slice.injEq, Option.some.injEq, Addr.mk.injEq, and_true, true_and] at h'
    obtain ⟨rfl, rfl⟩ := h'
    rw [hh]
    have e1 : (madeCells #[Value.int .u8 0] m).toList = (List.replicate m (0 : UInt8)).map B := by
      rw [toList_madeCells_one, List.map_replicate]
      rfl
    have e2 : cur.toList = (List.replicate m (0 : UInt8)).map B := by
      rw [← e1, ← htake, List.take_of_length_le (by simp [hcs])]
    rw [← e2]

theorem copy_pos {w w2 : World} {a : Option Addr} {bs : List UInt8} (h : bs = [] ∨ ∃ b off, a = some ⟨b, off, none⟩ ∧ ∀ j (h : j < bs.length), w.cell? ⟨b, off + j, none⟩ = some (B bs[j])) (hb : Below w.heap.size w w2) :
    0 < bs.length → ∃ ad, a = some ad ∧ ∀ j (x : UInt8), bs[j]? = some x → w2.cell? (ad.add j) = some (B x) := by
  intro hp
  rcases h with rfl | ⟨b, off, rfl, hc⟩
  · simp at hp
  · refine ⟨_, rfl, fun j x hv => ?_⟩
    obtain ⟨hj', rfl⟩ := List.getElem?_eq_some_iff.1 hv
    rw [Addr.add_lit, hb.cell (World.block_lt_of_cell? w _ (hc j hj')), hc j hj']

theorem copy_pos' {w w2 : World} {a : Option Addr} {cap : Nat} {bs : List UInt8} (h : Row w (.slice a bs.length cap) bs) (hb : Below w.heap.size w w2) :
    0 < bs.length → ∃ ad, a = some ad ∧ ∀ j (x : UInt8), bs[j]? = some x → w2.cell? (ad.add j) = some (B x) := by
  obtain ⟨a', cap', e, _, _, _, h4⟩ := h
  simp only [Value.slice.injEq] at e
  obtain ⟨rfl, _, rfl⟩ := e
  exact copy_pos h4 hb

/-- The cells of 's[q:]', as the laws on copy and append ask for them. -/
theorem row_from {w : World} {a : Option Addr} {cap : Nat} {bs : List UInt8} (h : Row w (.slice a bs.length cap) bs) (q : Nat) :
    q < bs.length → ∃ b off, a = some ⟨b, off, none⟩ ∧ ∀ j (x : UInt8), (bs.drop q)[j]? = some x → w.cell? ⟨b, off + q + j, none⟩ = some (B x) := by
  intro hp
  obtain ⟨a', cap', e, _, _, _, h4⟩ := h
  simp only [Value.slice.injEq] at e
  obtain ⟨rfl, _, rfl⟩ := e
  rcases h4 with rfl | ⟨b, off, rfl, hc⟩
  · simp at hp
  · refine ⟨b, off, rfl, fun j x hv => ?_⟩
    rw [List.getElem?_drop] at hv
    obtain ⟨hj', rfl⟩ := List.getElem?_eq_some_iff.1 hv
    rw [Nat.add_assoc, hc (q + j) hj']

theorem oneCell_B (bs : List UInt8) : ∀ u ∈ bs.map B, u.oneCell' = true := by
  intro u hu
  obtain ⟨_, _, rfl⟩ := List.mem_map.1 hu
  rfl

theorem splice_B (bs : List UInt8) (n : Nat) : splice (List.replicate (bs.length + n) (B 0)) 0 (bs.map B) = (bs ++ List.replicate n 0).map B := by
  simp [splice]

/-- 'append(v, x...)': v the call's own (or nil), x whatever row of bytes. -/
theorem wpList_append_row {P : Program} {w : World} {ops : Array Oper} {rest : List Oper} {o : Oper} {a : Act} {Q : Exit → Act → World → Prop} (hgd : o.guard = none) (s x : Operand) (t : TypeId)
    (ho : o.op = .call { callee := .builtin .append, args := #[s, x], argTypes := #[t, t] })
    (base : Nat) (e : TypeId) (i : TypeInfo) (z : Value) (ht : P.underlying t = some (.slice e)) (hi : P.info? e = some i) (hz : i.zero = some z)
    (hsize : i.size = 1) (hby : i.bytes = 1) (hzs : z.cells.size = 1)
    (v : Value) (n : Nat) (xs : List Value) (hs : a.eval s = v) (hown : w.ownsRow base e 1 v n xs) (sx : Value) (bs : List UInt8) (hx : a.eval x = sx) (hrow : Row w sx bs)
    (hbytes : n + bs.length ≤ 140737488355328) (hbase : base ≤ w.heap.size)
    (h : ∀ v' w', w'.ownsRow base e 1 v' (n + bs.length) (xs ++ bs.map B) → w.grownBy w' v.ownBlock → wpList P ops Q rest (a.put o.dst v') w') : wpList P ops Q (o :: rest) a w := by
  obtain ⟨p, cap, rfl, h1, h2, h3, h4⟩ := hrow
  cases p with
  | none =>
    have hb0 : bs = [] := List.eq_nil_of_length_eq_zero (by have := h3 rfl; omega)
    subst hb0
    have hc0 := h3 rfl
    subst hc0
    exact wpList_append_own_none hgd s x t ho base e i 1 ht hi v n xs hs hown hx (h v w (by simpa using hown) (World.grownBy.refl _ _))
  | some ad =>
    refine wpList_append_own _ hgd s x t ho base e i z 1 1 ht hi hz hsize hby hzs (by decide) v n xs hs hown ad bs.length cap (bs.map B) hx (by simp) ?_ (oneCell_B bs) (by unfold maxLen; omega) (by omega) hbase (fun v' w' g1 g2 _ => h v' w' g1 g2)
    intro j u hu
    rcases h4 with rfl | ⟨b, off, had, hc⟩
    · simp at hu
    · cases had
      obtain ⟨hj, rfl⟩ := List.getElem?_eq_some_iff.1 hu
      have hj' : j < bs.length := by simpa using hj
      rw [Addr.add_lit, hc j hj']
      simp

theorem owns_below {w w' : World} {base e : Nat} {v : Value} {n : Nat} {xs : List Value} (h : w.ownsRow base e 1 v n xs) (hb : Below w.heap.size w w') : w'.ownsRow base e 1 v n xs := by
  refine ⟨h.1, ?_⟩
  rcases h.2 with h2 | ⟨g, cap, cur, hv, hg, hh, r⟩
  · exact Or.inl h2
  · exact Or.inr ⟨g, cap, cur, hv, hg, (hb.block g (Array.getElem?_eq_some_iff.1 hh).1).trans hh, r⟩

theorem owns_below' {w w' : World} {base e b : Nat} {v : Value} {n : Nat} {xs : List Value} (h : w.ownsRow base e 1 v n xs) (hb : Below b w w') (hlt : ∀ k, v.ownBlock = some k → k < b) : w'.ownsRow base e 1 v n xs := by
  refine ⟨h.1, ?_⟩
  rcases h.2 with h2 | ⟨g, cap, cur, hv, hg, hh, r⟩
  · exact Or.inl h2
  · subst hv
    exact Or.inr ⟨g, cap, cur, rfl, hg, (hb.block g (hlt g rfl)).trans hh, r⟩

theorem grown_trans {a b c : World} {g : Option Nat} (h : a.grownBy b g) (k : b.grownBy c g) : a.grownBy c g :=
  ⟨k.os.trans h.os, k.tape.trans h.tape, k.output.trans h.output, Nat.le_trans h.size k.size, fun i hi hg => (k.block i (Nat.lt_of_lt_of_le hi h.size) hg).trans (h.block i hi hg)⟩

theorem grown_set (w : World) (g o : Nat) (u : Value) : w.grownBy (w.setCell ⟨g, o, none⟩ u).drew (some g) :=
  ⟨rfl, rfl, rfl, by simp [World.setCell], fun k _ hk => heap_setCell_other w ⟨g, o, none⟩ k u (fun e => hk (by simp [e]))⟩

theorem set_map (l : List UInt8) (j : Nat) (u : UInt8) : ((l.map B).toArray.setIfInBounds j (B u)) = ((l.set j u).map B).toArray := by
  simp [List.map_set]

theorem frozen_of_block {w : World} {g e j : Nat} {cur : Array Value} (h : w.heap[g]? = some (.cells cur e (0, 0))) : w.frozen? ⟨g, j, none⟩ = false := by
  simp [World.frozen?, h]

theorem owns_of_block {w : World} {base g e : Nat} {bs : List UInt8} (h : w.heap[g]? = some (.cells (bs.map B).toArray e (0, 0))) (hg : base ≤ g) (hm : bs.length ≤ maxLen) :
    w.ownsRow base e 1 (.slice (some ⟨g, 0, none⟩) bs.length bs.length) bs.length (bs.map B) :=
  ⟨by simp, Or.inr ⟨g, bs.length, _, rfl, hg, h, Nat.le_refl _, hm, by simp, by rw [List.take_of_length_le (by simp)]⟩⟩

theorem cell_one {w : World} {g e : Nat} {u : Value} (h : w.heap[g]? = some (.cells #[u] e (0, 0))) : w.cell? ⟨g, 0, none⟩ = some u := by
  rw [cell_of_row w g 0 _ e (0, 0) h]; rfl
end Go.Proofs.Ytdpoiieblbmofaa
