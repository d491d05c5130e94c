/- Texts of ours, one behind the other: Mem, Moves, VRow, VCut, AppGen, AppStep. -/
import Derived.Test.YtlbhhdldeaehkaaGreatG1
import Derived.Laws.AppendOwnNone
import Derived.Laws.Slices
import Derived.WalkKit
import Derived.Deep.RegionLaw
/- Rows of bytes in the call's own memory: what the laws on make, copy and append leave, said of a block; nothing here speaks of the program. -/
namespace Go.Proofs.YtlbhhdldeaehkaaGreat
open Go.RowKit

theorem made_block {w : World} {base e g m : Nat} (h : w.ownsRow base e 1 (.slice (some ⟨g, 0, none⟩) m m) m (madeCells #[Value.int .u8 0] m).toList) :
    w.heap[g]? = some (.cells ((List.replicate m (0 : UInt8)).map B).toArray e (0, 0)) := by
  rcases h.2 with ⟨h', _⟩ | ⟨g', cap, cur, h', _, hh, _, _, hcs, htake⟩
  · simp at h'
  · simp only [Value.slice.injEq, Option.some.injEq, Addr.mk.injEq, and_true, true_and] at h'
    obtain ⟨rfl, rfl⟩ := h'
    rw [hh]
    have e1 : (madeCells #[Value.int .u8 0] m).toList = (List.replicate m (0 : UInt8)).map B := by
      rw [toList_madeCells_one, List.map_replicate]
      rfl
    have e2 : cur.toList = (List.replicate m (0 : UInt8)).map B := by
      rw [← e1, ← htake, List.take_of_length_le (by simp [hcs])]
    rw [← e2]

theorem copy_pos {w w2 : World} {a : Option Addr} {bs : List UInt8} (h : bs = [] ∨ ∃ b off, a = some ⟨b, off, none⟩ ∧ ∀ j (h : j < bs.length), w.cell? ⟨b, off + j, none⟩ = some (B bs[j])) (hb : Below w.heap.size w w2) :
    0 < bs.length → ∃ ad, a = some ad ∧ ∀ j (x : UInt8), bs[j]? = some x → w2.cell? (ad.add j) = some (B x) := by
  intro hp
  rcases h with rfl | ⟨b, off, rfl, hc⟩
  · simp at hp
  · refine ⟨_, rfl, fun j x hv => ?_⟩
    obtain ⟨hj', rfl⟩ := List.getElem?_eq_some_iff.1 hv
    rw [Addr.add_lit, hb.cell (World.block_lt_of_cell? w _ (hc j hj')), hc j hj']

theorem copy_pos' {w w2 : World} {a : Option Addr} {cap : Nat} {bs : List UInt8} (h : Row w (.slice a bs.length cap) bs) (hb : Below w.heap.size w w2) :
    0 < bs.length → ∃ ad, a = some ad ∧ ∀ j (x : UInt8), bs[j]? = some x → w2.cell? (ad.add j) = some (B x) := by
  obtain ⟨a', cap', e, _, _, _, h4⟩ := h
  simp only [Value.slice.injEq] at e
  obtain ⟨rfl, _, rfl⟩ := e
  exact copy_pos h4 hb

/-- The cells of 's[q:]', as the laws on copy and append ask for them. -/
theorem row_from {w : World} {a : Option Addr} {cap : Nat} {bs : List UInt8} (h : Row w (.slice a bs.length cap) bs) (q : Nat) :
    q < bs.length → ∃ b off, a = some ⟨b, off, none⟩ ∧ ∀ j (x : UInt8), (bs.drop q)[j]? = some x → w.cell? ⟨b, off + q + j, none⟩ = some (B x) := by
  intro hp
  obtain ⟨a', cap', e, _, _, _, h4⟩ := h
  simp only [Value.slice.injEq] at e
  obtain ⟨rfl, _, rfl⟩ := e
  rcases h4 with rfl | ⟨b, off, rfl, hc⟩
  · simp at hp
  · refine ⟨b, off, rfl, fun j x hv => ?_⟩
    rw [List.getElem?_drop] at hv
    obtain ⟨hj', rfl⟩ := List.getElem?_eq_some_iff.1 hv
    rw [Nat.add_assoc, hc (q + j) hj']

theorem oneCell_B (bs : List UInt8) : ∀ u ∈ bs.map B, u.oneCell' = true := by
  intro u hu
  obtain ⟨_, _, rfl⟩ := List.mem_map.1 hu
  rfl

theorem splice_B (bs : List UInt8) (n : Nat) : splice (List.replicate (bs.length + n) (B 0)) 0 (bs.map B) = (bs ++ List.replicate n 0).map B := by
  simp [splice]

/-- 'append(v, x...)': v the call's own (or nil), x whatever row of bytes. -/
theorem wpList_append_row {P : Program} {w : World} {ops : Array Oper} {rest : List Oper} {o : Oper} {a : Act} {Q : Exit → Act → World → Prop} (hgd : o.guard = none) (s x : Operand) (t : TypeId)
    (ho : o.op = .call { callee := .builtin .append, args := #[s, x], argTypes := #[t, t] })
    (base : Nat) (e : TypeId) (i : TypeInfo) (z : Value) (ht : P.underlying t = some (.slice e)) (hi : P.info? e = some i) (hz : i.zero = some z)
    (hsize : i.size = 1) (hby : i.bytes = 1) (hzs : z.cells.size = 1)
    (v : Value) (n : Nat) (xs : List Value) (hs : a.eval s = v) (hown : w.ownsRow base e 1 v n xs) (sx : Value) (bs : List UInt8) (hx : a.eval x = sx) (hrow : Row w sx bs)
    (hbytes : n + bs.length ≤ 140737488355328) (hbase : base ≤ w.heap.size)
    (h : ∀ v' w', w'.ownsRow base e 1 v' (n + bs.length) (xs ++ bs.map B) → w.grownBy w' v.ownBlock → wpList P ops Q rest (a.put o.dst v') w') : wpList P ops Q (o :: rest) a w := by
  obtain ⟨p, cap, rfl, h1, h2, h3, h4⟩ := hrow
  cases p with
  | none =>
    have hb0 : bs = [] := List.eq_nil_of_length_eq_zero (by have := h3 rfl; omega)
    subst hb0
    have hc0 := h3 rfl
    subst hc0
    exact wpList_append_own_none hgd s x t ho base e i 1 ht hi v n xs hs hown hx (h v w (by simpa using hown) (World.grownBy.refl _ _))
  | some ad =>
    refine wpList_append_own _ hgd s x t ho base e i z 1 1 ht hi hz hsize hby hzs (by decide) v n xs hs hown ad bs.length cap (bs.map B) hx (by simp) ?_ (oneCell_B bs) (by unfold maxLen; omega) (by omega) hbase (fun v' w' g1 g2 _ => h v' w' g1 g2)
    intro j u hu
    rcases h4 with rfl | ⟨b, off, had, hc⟩
    · simp at hu
    · cases had
      obtain ⟨hj, rfl⟩ := List.getElem?_eq_some_iff.1 hu
      have hj' : j < bs.length := by simpa using hj
      rw [Addr.add_lit, hc j hj']
      simp

theorem owns_below {w w' : World} {base e : Nat} {v : Value} {n : Nat} {xs : List Value} (h : w.ownsRow base e 1 v n xs) (hb : Below w.heap.size w w') : w'.ownsRow base e 1 v n xs := by
  refine ⟨h.1, ?_⟩
  rcases h.2 with h2 | ⟨g, cap, cur, hv, hg, hh, r⟩
  · exact Or.inl h2
  · exact Or.inr ⟨g, cap, cur, hv, hg, (hb.block g (Array.getElem?_eq_some_iff.1 hh).1).trans hh, r⟩

theorem owns_below' {w w' : World} {base e b : Nat} {v : Value} {n : Nat} {xs : List Value} (h : w.ownsRow base e 1 v n xs) (hb : Below b w w') (hlt : ∀ k, v.ownBlock = some k → k < b) : w'.ownsRow base e 1 v n xs := by
  refine ⟨h.1, ?_⟩
  rcases h.2 with h2 | ⟨g, cap, cur, hv, hg, hh, r⟩
  · exact Or.inl h2
  · subst hv
    exact Or.inr ⟨g, cap, cur, rfl, hg, (hb.block g (hlt g rfl)).trans hh, r⟩

theorem grown_trans {a b c : World} {g : Option Nat} (h : a.grownBy b g) (k : b.grownBy c g) : a.grownBy c g :=
  ⟨k.os.trans h.os, k.tape.trans h.tape, k.output.trans h.output, Nat.le_trans h.size k.size, fun i hi hg => (k.block i (Nat.lt_of_lt_of_le hi h.size) hg).trans (h.block i hi hg)⟩

theorem grown_set (w : World) (g o : Nat) (u : Value) : w.grownBy (w.setCell ⟨g, o, none⟩ u).drew (some g) :=
  ⟨rfl, rfl, rfl, by simp [World.setCell], fun k _ hk => heap_setCell_other w ⟨g, o, none⟩ k u (fun e => hk (by simp [e]))⟩

theorem set_map (l : List UInt8) (j : Nat) (u : UInt8) : ((l.map B).toArray.setIfInBounds j (B u)) = ((l.set j u).map B).toArray := by
  simp [List.map_set]

theorem frozen_of_block {w : World} {g e j : Nat} {cur : Array Value} (h : w.heap[g]? = some (.cells cur e (0, 0))) : w.frozen? ⟨g, j, none⟩ = false := by
  simp [World.frozen?, h]

theorem owns_of_block {w : World} {base g e : Nat} {bs : List UInt8} (h : w.heap[g]? = some (.cells (bs.map B).toArray e (0, 0))) (hg : base ≤ g) (hm : bs.length ≤ maxLen) :
    w.ownsRow base e 1 (.slice (some ⟨g, 0, none⟩) bs.length bs.length) bs.length (bs.map B) :=
  ⟨by simp, Or.inr ⟨g, bs.length, _, rfl, hg, h, Nat.le_refl _, hm, by simp, by rw [List.take_of_length_le (by simp)]⟩⟩

theorem cell_one {w : World} {g e : Nat} {u : Value} (h : w.heap[g]? = some (.cells #[u] e (0, 0))) : w.cell? ⟨g, 0, none⟩ = some u := by
  rw [cell_of_row w g 0 _ e (0, 0) h]; rfl
end Go.Proofs.YtlbhhdldeaehkaaGreat

/- Memory by footprints: what belongs to one thing, what a call may change, what stays; nothing here speaks of the program. -/
namespace Go.Proofs.YtlbhhdldeaehkaaGreat
open Go.RowKit

/-- From w to w' nothing has changed that was there, but in F. -/
structure Keep (F : Nat → Prop) (w w' : World) : Prop where
  os : w'.os = w.os
  tape : w'.tape = w.tape
  output : w'.output = w.output
  size : w.heap.size ≤ w'.heap.size
  block : ∀ k, k < w.heap.size → ¬ F k → w'.heap[k]? = w.heap[k]?

/-- .. and what was F is F' now: nothing came in that was there. -/
structure Moves (F F' : Nat → Prop) (w w' : World) : Prop where
  keep : Keep F w w'
  sub : ∀ k, F' k → F k ∨ w.heap.size ≤ k

theorem Keep.refl (F : Nat → Prop) (w : World) : Keep F w w := ⟨rfl, rfl, rfl, Nat.le_refl _, fun _ _ _ => rfl⟩
theorem Keep.of_below {F : Nat → Prop} {w w' : World} (h : Below w.heap.size w w') : Keep F w w' := ⟨h.os, h.tape, h.output, h.size, fun k hk _ => h.block k hk⟩
theorem Keep.below {F : Nat → Prop} {w w' : World} {b : Nat} (h : Keep F w w') (hb : b ≤ w.heap.size) (hF : ∀ k, F k → b ≤ k) : Below b w w' :=
  ⟨h.os, h.tape, h.output, h.size, fun k hk => h.block k (by omega) (fun hf => by have := hF k hf; omega)⟩
theorem Keep.trans {F G : Nat → Prop} {a b c : World} (h : Keep F a b) (k : Keep G b c) (hs : ∀ x, G x → F x ∨ a.heap.size ≤ x) : Keep F a c :=
  ⟨k.os.trans h.os, k.tape.trans h.tape, k.output.trans h.output, Nat.le_trans h.size k.size, fun x hx hn =>
    (k.block x (Nat.lt_of_lt_of_le hx h.size) (fun hg => by rcases hs x hg with h1 | h1; exact hn h1; omega)).trans (h.block x hx hn)⟩
theorem Keep.weak {F G : Nat → Prop} {a b : World} (h : Keep F a b) (hs : ∀ x, F x → G x) : Keep G a b :=
  ⟨h.os, h.tape, h.output, h.size, fun x hx hn => h.block x hx (fun hf => hn (hs x hf))⟩
theorem Keep.cell {F : Nat → Prop} {w w' : World} (h : Keep F w w') {p : Addr} (hp : p.block < w.heap.size) (hn : ¬ F p.block) : w'.cell? p = w.cell? p := World.cell?_of_block (w := w) (h.block p.block hp hn)
theorem Moves.refl (F : Nat → Prop) (w : World) : Moves F F w w := ⟨Keep.refl F w, fun _ h => Or.inl h⟩
theorem Moves.trans {F G H : Nat → Prop} {a b c : World} (h : Moves F G a b) (k : Moves G H b c) : Moves F H a c :=
  ⟨h.keep.trans k.keep h.sub, fun x hx => by
    rcases k.sub x hx with h1 | h1
    · exact h.sub x h1
    · exact Or.inr (Nat.le_trans h.keep.size h1)⟩
theorem Moves.of_below {F : Nat → Prop} {w w' : World} (h : Below w.heap.size w w') : Moves F F w w' := ⟨Keep.of_below h, fun _ hf => Or.inl hf⟩

theorem Row.keep {F : Nat → Prop} {w w' : World} {s : Value} {bs : List UInt8} (h : Row w s bs) (hk : Keep F w w') (hn : ∀ b off c, s = .slice (some ⟨b, off, none⟩) bs.length c → bs ≠ [] → ¬ F b) : Row w' s bs := by
  obtain ⟨a, cap, hs, h1, h2, h3, h4⟩ := h
  refine ⟨a, cap, hs, h1, h2, h3, ?_⟩
  rcases h4 with h4 | ⟨b, off, ha, hc⟩
  · exact Or.inl h4
  · by_cases hbs : bs = []
    · exact Or.inl hbs
    · subst ha
      exact Or.inr ⟨b, off, rfl, fun j hj => (hk.cell (p := ⟨b, off + j, none⟩) (World.block_lt_of_cell? w _ (hc j hj)) (hn b off cap hs hbs)).trans (hc j hj)⟩

/-- Where append puts what it makes: where the row was, or into a new block. -/
theorem append_block {P : Program} (w : World) (t ty e : TypeId) (i : TypeInfo) (z : Value) (ht : P.underlying t = some (.slice e)) (hi : P.info? e = some i) (hz : i.zero = some z)
    {base : Nat} {v : Value} {n : Nat} {xs : List Value} (hown : w.ownsRow base e i.size v n xs)
    (a : Addr) (m c : Nat) (news : List Value) (hl : news.length = m * i.size) (hnews : ∀ j u, news[j]? = some u → w.cell? (a.add j) = some u) (h1 : ∀ u ∈ news, u.oneCell' = true)
    (h63 : n + m ≤ maxLen) (hbytes : (n + m) * i.bytes ≤ 140737488355328) {v' : Value} {w' : World} (hr : (Builtin.append_ #[t, t] ty #[v, .slice (some a) m c]).run P w = .ok v' w') :
    v'.ownBlock = v.ownBlock ∨ v'.ownBlock = some w.heap.size := by
  have hsmall : n + m ≤ 9223372036854775807 := by simp only [maxLen] at h63; omega
  rcases hown.2 with ⟨rfl, rfl⟩ | ⟨g, cap, cur, rfl, hbg, hg, hnc, hcm, hcs, htake⟩
  · by_cases hm : m = 0
    · subst hm
      have hn : news = [] := List.eq_nil_of_length_eq_zero (by simpa using hl)
      subst hn
      simp [Builtin.append_, run_underlying ht, sizeOf, typeInfo, hi, Builtin.lenOf, Builtin.firstCells, loadCells, loadCellsFrom] at hr
      left
      rw [← hr.1]
    · have h := run_append_nil (P := P) w t ty e i z ht hi hz a m c news hl hnews (by omega) (by omega) (by have hb := hbytes; simp only [Nat.zero_add] at hb; omega)
      rw [h] at hr
      cases hr
      right; rfl
  · by_cases hroom : n + m ≤ cap
    · have hfit : n * i.size + news.length ≤ cur.size := by rw [hl, hcs, ← Nat.add_mul]; exact Nat.mul_le_mul_right _ hroom
      have h := run_append_room (P := P) w t ty e i ht hi g n cap cur hg a m c news hl hnews h1 hroom hfit
      rw [h] at hr
      cases hr
      left; rfl
    · have holds : ∀ j u, xs[j]? = some u → w.cell? ((⟨g, 0, none⟩ : Addr).add j) = some u := hown.cells (g := g) rfl
      have h := run_append_grow (P := P) w t ty e i z ht hi hz ⟨g, 0, none⟩ n cap xs hown.1 holds a m c news hl hnews (by omega) (by omega) (growslice_fits (by omega) hbytes)
      rw [h] at hr
      cases hr
      right; rfl

/-- Six cells of a variable. -/
theorem six_cells {w : World} {g e : Nat} {a b c d x y : Value} (h : w.heap[g]? = some (.cells #[a, b, c, d, x, y] e (0, 0))) :
    w.cell? ⟨g, 0, none⟩ = some a ∧ w.cell? ⟨g, 1, none⟩ = some b ∧ w.cell? ⟨g, 2, none⟩ = some c ∧ w.cell? ⟨g, 3, none⟩ = some d ∧ w.cell? ⟨g, 4, none⟩ = some x ∧ w.cell? ⟨g, 5, none⟩ = some y ∧
    ∀ j, w.frozen? ⟨g, j, none⟩ = false := by
  refine ⟨?_, ?_, ?_, ?_, ?_, ?_, fun j => by simp [World.frozen?, h]⟩
  all_goals (rw [cell_of_row w g _ _ e (0, 0) h]; rfl)
end Go.Proofs.YtlbhhdldeaehkaaGreat

/- Rows of one-cell values in memory, whatever they are; nothing here speaks of the program. -/
namespace Go.Proofs.YtlbhhdldeaehkaaGreat
open Go.RowKit

/-- A slice value whose cells are these values: whatever its address where there are none. -/
def VRow (w : World) (s : Value) (vs : List Value) : Prop :=
  ∃ (a : Option Addr) (cap : Nat), s = .slice a vs.length cap ∧ vs.length ≤ cap ∧ cap ≤ maxLen ∧ (a = none → cap = 0) ∧
    (vs = [] ∨ ∃ b off, a = some ⟨b, off, none⟩ ∧ ∀ (j : Nat) (v : Value), vs[j]? = some v → w.cell? ⟨b, off + j, none⟩ = some v)

theorem VRow.nil (w : World) : VRow w (.slice none 0 0) [] := ⟨none, 0, rfl, Nat.le_refl _, by unfold maxLen; omega, fun _ => rfl, Or.inl rfl⟩
theorem VRow.shape {w : World} {s : Value} {vs : List Value} (h : VRow w s vs) : ∃ (p : Option Addr) (c : Nat), s = .slice p vs.length c ∧ vs.length ≤ c ∧ c ≤ maxLen ∧ (p = none → c = 0) := by
  obtain ⟨a, cap, hs, h1, h2, h3, _⟩ := h
  exact ⟨a, cap, hs, h1, h2, h3⟩
theorem VRow.open {w : World} {s : Value} {vs : List Value} (h : VRow w s vs) (hne : vs ≠ []) :
    ∃ b off cap, s = .slice (some ⟨b, off, none⟩) vs.length cap ∧ vs.length ≤ cap ∧ cap ≤ maxLen ∧ ∀ (j : Nat) (v : Value), vs[j]? = some v → w.cell? ⟨b, off + j, none⟩ = some v := by
  obtain ⟨a, cap, hs, h1, h2, h3, h4⟩ := h
  rcases h4 with h4 | ⟨b, off, ha, hc⟩
  · exact absurd h4 hne
  · subst ha
    exact ⟨b, off, cap, hs, h1, h2, hc⟩
theorem VRow.stays {w w' : World} {s : Value} {vs : List Value} (h : VRow w s vs) (hk : ∀ b off c, s = .slice (some ⟨b, off, none⟩) vs.length c → vs ≠ [] → b < w.heap.size → w'.heap[b]? = w.heap[b]?) : VRow w' s vs := by
  obtain ⟨a, cap, hs, h1, h2, h3, h4⟩ := h
  refine ⟨a, cap, hs, h1, h2, h3, ?_⟩
  rcases h4 with h4 | ⟨b, off, ha, hc⟩
  · exact Or.inl h4
  · by_cases hv : vs = []
    · exact Or.inl hv
    · subst ha
      exact Or.inr ⟨b, off, rfl, fun j v hj => (World.cell?_of_block (w := w) (a := ⟨b, off + j, none⟩) (hk b off cap hs hv (World.block_lt_of_cell? w _ (hc j v hj)))).trans (hc j v hj)⟩
theorem VRow.below {w w' : World} {s : Value} {vs : List Value} (h : VRow w s vs) (hb : Below w.heap.size w w') : VRow w' s vs := h.stays fun b _ _ _ _ hl => hb.block b hl
theorem VRow.keep {F : Nat → Prop} {w w' : World} {s : Value} {vs : List Value} (h : VRow w s vs) (hk : Keep F w w') (hn : ∀ b off c, s = .slice (some ⟨b, off, none⟩) vs.length c → vs ≠ [] → ¬ F b) : VRow w' s vs :=
  h.stays fun b off c e hv hl => hk.block b hl (hn b off c e hv)
/-- Where a row of the call's own reads as values. -/
theorem vrow_of_owns {w : World} {base e : Nat} {s : Value} {vs : List Value} (h : w.ownsRow base e 1 s vs.length vs) : VRow w s vs := by
  rcases h.2 with ⟨rfl, h2⟩ | ⟨g, cap, cur, rfl, hg, hh, hnc, hcp, hcs, htake⟩
  · obtain rfl : vs = [] := List.length_eq_zero_iff.1 h2
    exact VRow.nil w
  · refine ⟨_, cap, rfl, hnc, hcp, (by simp), Or.inr ⟨g, 0, rfl, fun j v hv => ?_⟩⟩
    have := h.cells (g := g) rfl j v hv
    rwa [Addr.add_lit] at this
/-- The cells of a row, as the laws on copy and append ask for them. -/
theorem VRow.pos {w : World} {a : Option Addr} {n c : Nat} {vs : List Value} (h : VRow w (.slice a n c) vs) : 0 < vs.length → ∃ ad, a = some ad ∧ ∀ (j : Nat) (v : Value), vs[j]? = some v → w.cell? (ad.add j) = some v := by
  intro hp
  obtain ⟨b, off, cap, e, _, _, hc⟩ := h.open (by intro e; rw [e] at hp; simp at hp)
  simp only [Value.slice.injEq] at e
  obtain ⟨rfl, _, _⟩ := e
  exact ⟨_, rfl, fun j v hv => by rw [Addr.add_lit]; exact hc j v hv⟩
end Go.Proofs.YtlbhhdldeaehkaaGreat

/- Slice expressions of any row of one-cell values; nothing here speaks of the program. -/
namespace Go.Proofs.YtlbhhdldeaehkaaGreat
open Go.RowKit

section
variable {P : Program} {w : World} {t e : TypeId} {a : Option Addr} {n c : Nat} {vs : List Value}
theorem elemV_of (ht : P.underlying t = some (.slice e)) : P.elem t = e := by simp [Program.elem, ht]
theorem sizeV_run (hsz : (P.info? e).map (·.size) = some 1) (ht : P.underlying t = some (.slice e)) (w : World) : (sizeOf (P.elem t)).run P w = .ok 1 w := by
  rw [elemV_of ht]
  obtain ⟨i, hi, hs⟩ := Option.map_eq_some_iff.1 hsz
  simp [sizeOf, typeInfo, hi, hs]
/-- What a slice expression answers, and that it is a row. -/
theorem VRow.part (h : VRow w (.slice a n c) vs) (l k : Nat) (hlk : l + k ≤ vs.length) :
    ∃ q c', sliced a l (l + k) c 1 = .slice q k c' ∧ VRow w (.slice q k c') ((vs.drop l).take k) ∧ ∀ b, (Value.slice q k c').ownBlock = some b → (Value.slice a n c).ownBlock = some b := by
  obtain ⟨a', cap, e, h1, h2, h3, h4⟩ := h
  simp only [Value.slice.injEq] at e
  obtain ⟨rfl, rfl, rfl⟩ := e
  have hlen : ((vs.drop l).take k).length = k := by simp; omega
  have e1 : l + k - l = k := by omega
  by_cases hcl : c = l
  · refine ⟨a, 0, by unfold sliced; rw [if_pos hcl, e1]; congr 1; omega, ⟨a, 0, by rw [hlen], by rw [hlen]; omega, Nat.zero_le _, fun _ => rfl, Or.inl (List.eq_nil_of_length_eq_zero (by rw [hlen]; omega))⟩, fun b hb => by
      cases a with
      | none => exact hb
      | some a => exact hb⟩
  · rcases h4 with h4 | ⟨b, off, rfl, hc⟩
    · have hk : k = 0 := by rw [h4] at hlk; simp at hlk; omega
      subst hk
      refine ⟨a.map (·.add (l * 1)), c - l, by unfold sliced; rw [if_neg hcl, e1], ⟨a.map (·.add (l * 1)), c - l, by rw [hlen], by rw [hlen]; omega, by omega, fun e => ?_, Or.inl (by simp)⟩, fun b hb => ?_⟩
      · have := h3 (Option.map_eq_none_iff.1 e); omega
      · cases a with
        | none => simp [Value.ownBlock] at hb
        | some a =>
          simp only [Option.map_some, Value.ownBlock, Addr.add] at hb
          split at hb
          · exact hb
          · exact hb
    · refine ⟨some ⟨b, off + l * 1, none⟩, c - l, by unfold sliced; rw [if_neg hcl, Option.map_some, Addr.add_lit, e1], ⟨some ⟨b, off + l * 1, none⟩, c - l, by rw [hlen], by rw [hlen]; omega, by omega, fun e => (nomatch e), Or.inr ⟨b, off + l * 1, rfl, fun j u hu => ?_⟩⟩, fun k hk => by simpa [Value.ownBlock] using hk⟩
      rw [List.getElem?_take] at hu
      split at hu
      · rw [List.getElem?_drop] at hu
        have := hc _ u hu
        rw [Nat.mul_one, Nat.add_assoc]
        exact this
      · cases hu
theorem VRow.cut_lh (ht : P.underlying t = some (.slice e)) (hsz : (P.info? e).map (·.size) = some 1) (h : VRow w (.slice a n c) vs) (l k : Nat) (hlk : l + k ≤ vs.length) :
    ∃ q c', (∀ W, (Instr.slice t (.slice a n c) (some (.int .i64 (l : Int))) (some (.int .i64 ((l : Int) + (k : Int)))) none).run P W = .ok (.slice q k c') W) ∧ VRow w (.slice q k c') ((vs.drop l).take k) ∧ ∀ b, (Value.slice q k c').ownBlock = some b → (Value.slice a n c).ownBlock = some b := by
  obtain ⟨q, c', h1, h2, h3⟩ := h.part l k hlk
  obtain ⟨a', cap, e0, g1, _⟩ := h
  simp only [Value.slice.injEq] at e0
  obtain ⟨rfl, rfl, rfl⟩ := e0
  refine ⟨q, c', fun W => ?_, h2, h3⟩
  have := run_slice_lh (P := P) W t a vs.length c (by rw [elemV_of ht]; exact ht) .i64 .i64 (l : Int) ((l : Int) + (k : Int)) (by omega) (by omega) (by omega)
  rw [this, sizeV_run hsz ht]
  have e1 : ((l : Int) + (k : Int)).toNat = l + k := by omega
  simp only [Result.andThen_ok, Int.toNat_natCast, e1, h1]
theorem VRow.cut_l (ht : P.underlying t = some (.slice e)) (hsz : (P.info? e).map (·.size) = some 1) (h : VRow w (.slice a n c) vs) (l k : Nat) (hlk : l + k = vs.length) :
    ∃ q c', (∀ W, (Instr.slice t (.slice a n c) (some (.int .i64 (l : Int))) none none).run P W = .ok (.slice q k c') W) ∧ VRow w (.slice q k c') (vs.drop l) ∧ ∀ b, (Value.slice q k c').ownBlock = some b → (Value.slice a n c).ownBlock = some b := by
  obtain ⟨q, c', h1, h2, h3⟩ := h.part l k (Nat.le_of_eq hlk)
  obtain ⟨a', cap, e0, g1, _⟩ := h
  simp only [Value.slice.injEq] at e0
  obtain ⟨rfl, rfl, rfl⟩ := e0
  refine ⟨q, c', fun W => ?_, by rw [List.take_of_length_le (by simp; omega)] at h2; exact h2, h3⟩
  have := run_slice_l (P := P) W t a vs.length c (by rw [elemV_of ht]; exact ht) .i64 (l : Int) (by omega) (by omega)
  rw [this, sizeV_run hsz ht]
  simp only [Result.andThen_ok, Int.toNat_natCast, ← hlk, h1]
theorem VRow.cut_h (ht : P.underlying t = some (.slice e)) (hsz : (P.info? e).map (·.size) = some 1) (h : VRow w (.slice a n c) vs) (k : Nat) (hk : k ≤ vs.length) :
    ∃ q c', (∀ W, (Instr.slice t (.slice a n c) none (some (.int .i64 (k : Int))) none).run P W = .ok (.slice q k c') W) ∧ VRow w (.slice q k c') (vs.take k) ∧ ∀ b, (Value.slice q k c').ownBlock = some b → (Value.slice a n c).ownBlock = some b := by
  obtain ⟨q, c', h1, h2, h3⟩ := h.part 0 k (by omega)
  obtain ⟨a', cap, e0, g1, _⟩ := h
  simp only [Value.slice.injEq] at e0
  obtain ⟨rfl, rfl, rfl⟩ := e0
  refine ⟨q, c', fun W => ?_, by rw [List.drop_zero] at h2; exact h2, h3⟩
  have := run_slice_h (P := P) W t a vs.length c (by rw [elemV_of ht]; exact ht) .i64 (k : Int) (by omega) (by omega)
  rw [this, sizeV_run hsz ht]
  rw [Nat.zero_add] at h1
  simp only [Result.andThen_ok, Int.toNat_natCast, h1]
end
end Go.Proofs.YtlbhhdldeaehkaaGreat

/- 'append' of several things to a row of the call's own, as one step of a walk, and where the row lies then; nothing here speaks of the program. -/
namespace Go.Proofs.YtlbhhdldeaehkaaGreat
open Go.RowKit

theorem wpList_append_gen {P : Program} {w : World} {ops : Array Oper} {rest : List Oper} {o : Oper} {a : Act} {Q : Exit → Act → World → Prop} (hgd : o.guard = none) (s x : Operand) (t : TypeId)
    (ho : o.op = .call { callee := .builtin .append, args := #[s, x], argTypes := #[t, t] })
    (base : Nat) (e : TypeId) (i : TypeInfo) (z : Value) (ht : P.underlying t = some (.slice e)) (hi : P.info? e = some i) (hz : i.zero = some z)
    (size bytes : Nat) (hsz0 : 0 < size) (hsize : i.size = size) (hby : i.bytes = bytes) (hzs : z.cells.size = size)
    (v : Value) (n : Nat) (xs : List Value) (hs : a.eval s = v) (hown : w.ownsRow base e size v n xs) (ad : Addr) (m c : Nat) (news : List Value) (hx : a.eval x = .slice (some ad) m c)
    (hl : news.length = m * size) (hnews : ∀ j u, news[j]? = some u → w.cell? (ad.add j) = some u) (hone : ∀ u ∈ news, u.oneCell' = true) (h63 : n + m ≤ maxLen) (hbytes : (n + m) * bytes ≤ 140737488355328) (hbase : base ≤ w.heap.size)
    (h : ∀ v' w', w'.ownsRow base e size v' (n + m) (xs ++ news) → w.grownBy w' v.ownBlock → (v'.ownBlock = v.ownBlock ∨ v'.ownBlock = some w.heap.size) → wpList P ops Q rest (a.put o.dst v') w') : wpList P ops Q (o :: rest) a w := by
  obtain ⟨v', w', hr, g1, g2, _⟩ := run_append_own (P := P) w base t o.type e i z size bytes ht hi hz hsize hby hzs hsz0 v n xs hown ad m c news hl hnews hone h63 hbytes hbase
  have g3 := append_block (P := P) w t o.type e i z ht hi hz (base := base) (v := v) (n := n) (xs := xs) (by rw [hsize]; exact hown) ad m c news (by rw [hsize]; omega) hnews hone h63 (by rw [hby]; exact hbytes) hr
  refine wpList_plain hgd fun K hK => ?_
  unfold Oper.wp execOp
  simp only [ho, resolve, invoke, builtin, Sem.run_bind, Sem.run_pure, Result.andThen_ok, List.map_toArray, List.map_cons, List.map_nil, hs, hx, hr]
  exact hK _ _ (h v' w' g1 g2 g3)

/-- A row that lies not in a block stays where that block alone grows. -/
theorem Row.grown {w w' : World} {g : Option Nat} {t : Value} {bs : List UInt8} (h : Row w t bs) (hg : w.grownBy w' g) (hn : ∀ b off n c, t = .slice (some ⟨b, off, none⟩) n c → bs ≠ [] → g ≠ some b) : Row w' t bs := by
  obtain ⟨a, cap, e, h1, h2, h3, h4⟩ := h
  refine ⟨a, cap, e, h1, h2, h3, ?_⟩
  by_cases hne : bs = []
  · exact Or.inl hne
  rcases h4 with h4 | ⟨b, off, rfl, hc⟩
  · exact Or.inl h4
  · refine Or.inr ⟨b, off, rfl, fun j hj => ?_⟩
    have hlt := World.block_lt_of_cell? w _ (hc j hj)
    rw [← hc j hj]
    exact World.cell?_of_block (w := w) (hg.block b hlt (fun he => hn b off _ _ e hne he.symm))
end Go.Proofs.YtlbhhdldeaehkaaGreat

/- 'append' of one thing to a row of the call's own, as one step of a region that draws its order, and where the row lies then; nothing here speaks of the program. -/
namespace Go.Proofs.YtlbhhdldeaehkaaGreat
open Go.RowKit

theorem step_append_gen {P : Program} {ops : Array Oper} {o : Oper} {a : Act} {w : World} {K : Act → World → Prop} {Q : Exit → Act → World → Prop} {E : Prop} (hgd : o.guard = none) (s x : Operand) (t : TypeId)
    (ho : o.op = .call { callee := .builtin .append, args := #[s, x], argTypes := #[t, t] })
    (base : Nat) (e : TypeId) (i : TypeInfo) (z : Value) (ht : P.underlying t = some (.slice e)) (hi : P.info? e = some i) (hz : i.zero = some z)
    (size bytes : Nat) (hsz0 : 0 < size) (hsize : i.size = size) (hby : i.bytes = bytes) (hzs : z.cells.size = size)
    (v : Value) (n : Nat) (xs : List Value) (hs : a.eval s = v) (hown : w.ownsRow base e size v n xs) (ad : Addr) (c : Nat) (news : List Value) (hx : a.eval x = .slice (some ad) 1 c)
    (hl : news.length = size) (hnews : ∀ j u, news[j]? = some u → w.cell? (ad.add j) = some u) (hone : ∀ u ∈ news, u.oneCell' = true) (h63 : n + 1 ≤ maxLen) (hbytes : (n + 1) * bytes ≤ 140737488355328) (hbase : base ≤ w.heap.size)
    (h : ∀ v' w', w'.ownsRow base e size v' (n + 1) (xs ++ news) → w.grownBy w' v.ownBlock → (v'.ownBlock = v.ownBlock ∨ v'.ownBlock = some w.heap.size) → K (a.put o.dst v') w') :
    if Region.wanted o (yielded ops a.tmps) = true then Oper.wp P o a w K Q else E := by
  have hw : Region.wanted o (yielded ops a.tmps) = true := by simp [Region.wanted, hgd]
  rw [if_pos hw]
  obtain ⟨v', w', hr, g1, g2, _⟩ := run_append_own (P := P) w base t o.type e i z size bytes ht hi hz hsize hby hzs hsz0 v n xs hown ad 1 c news (by omega) hnews hone h63 hbytes hbase
  have g3 := append_block (P := P) w t o.type e i z ht hi hz (base := base) (v := v) (n := n) (xs := xs) (by rw [hsize]; exact hown) ad 1 c news (by rw [hsize]; omega) hnews hone h63 (by rw [hby]; exact hbytes) hr
  unfold Oper.wp execOp
  simp only [ho, resolve, invoke, builtin, Sem.run_bind, Sem.run_pure, Result.andThen_ok, List.map_toArray, List.map_cons, List.map_nil, hs, hx, hr]
  exact h v' w' g1 g2 g3
end Go.Proofs.YtlbhhdldeaehkaaGreat
