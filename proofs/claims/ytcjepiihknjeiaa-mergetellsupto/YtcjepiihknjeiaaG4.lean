/- Texts of ours, one behind the other: Mem, Moves, AppGen, BatPlain, AppStep, VRow, SliceRow, KCut, KThings. -/
import Derived.Test.YtcjepiihknjeiaaG1
import Derived.Test.YtcjepiihknjeiaaG5
import Derived.Laws.AppendOwnNone
import Derived.Deep.RegionLaw
import Derived.Laws.Slices
/- Rows of bytes in the call's own memory: what the laws on make, copy and append leave, said of a block; nothing here speaks of the program. -/
namespace Go.Proofs.Ytcjepiihknjeiaa
open Go.RowKit

theorem made_block {w : World} {base e g m : Nat} (h : w.ownsRow base e 1 (.slice (some ⟨g, 0, none⟩) m m) m (madeCells #[Value.int .u8 0] m).toList) :
    w.heap[g]? = some (.cells ((List.replicate m (0 : UInt8)).map B).toArray e (0, 0)) := by
  rcases h.2 with ⟨h', _⟩ | ⟨g', cap, cur, h', _, hh, _, _, hcs, htake⟩
  · simp at h'
  · simp only [Value.slice.injEq, Option.some.injEq, Addr.mk.injEq, and_true, true_and] at h'
    obtain ⟨rfl, rfl⟩ := h'
    rw [hh]
    have e1 : (madeCells #[Value.int .u8 0] m).toList = (List.replicate m (0 : UInt8)).map B := by
      rw [toList_madeCells_one, List.map_replicate]
      rfl
    have e2 : cur.toList = (List.replicate m (0 : UInt8)).map B := by
      rw [← e1, ← htake, List.take_of_length_le (by simp [hcs])]
    rw [← e2]

theorem copy_pos {w w2 : World} {a : Option Addr} {bs : List UInt8} (h : bs = [] ∨ ∃ b off, a = some ⟨b, off, none⟩ ∧ ∀ j (h : j < bs.length), w.cell? ⟨b, off + j, none⟩ = some (B bs[j])) (hb : Below w.heap.size w w2) :
    0 < bs.length → ∃ ad, a = some ad ∧ ∀ j (x : UInt8), bs[j]? = some x → w2.cell? (ad.add j) = some (B x) := by
  intro hp
  rcases h with rfl | ⟨b, off, rfl, hc⟩
  · simp at hp
  · refine ⟨_, rfl, fun j x hv => ?_⟩
    obtain ⟨hj', rfl⟩ := List.getElem?_eq_some_iff.1 hv
    rw [Addr.add_lit, hb.cell (World.block_lt_of_cell? w _ (hc j hj')), hc j hj']

theorem copy_pos' {w w2 : World} {a : Option Addr} {cap : Nat} {bs : List UInt8} (h : Row w (.slice a bs.length cap) bs) (hb : Below w.heap.size w w2) :
    0 < bs.length → ∃ ad, a = some ad ∧ ∀ j (x : UInt8), bs[j]? = some x → w2.cell? (ad.add j) = some (B x) := by
  obtain ⟨a', cap', e, _, _, _, h4⟩ := h
  simp only [Value.slice.injEq] at e
  obtain ⟨rfl, _, rfl⟩ := e
  exact copy_pos h4 hb

/-- The cells of 's[q:]', as the laws on copy and append ask for them. -/
theorem row_from {w : World} {a : Option Addr} {cap : Nat} {bs : List UInt8} (h : Row w (.slice a bs.length cap) bs) (q : Nat) :
    q < bs.length → ∃ b off, a = some ⟨b, off, none⟩ ∧ ∀ j (x : UInt8), (bs.drop q)[j]? = some x → w.cell? ⟨b, off + q + j, none⟩ = some (B x) := by
  intro hp
  obtain ⟨a', cap', e, _, _, _, h4⟩ := h
  simp only [Value.slice.injEq] at e
  obtain ⟨rfl, _, rfl⟩ := e
  rcases h4 with rfl | ⟨b, off, rfl, hc⟩
  · simp at hp
  · refine ⟨b, off, rfl, fun j x hv => ?_⟩
    rw [List.getElem?_drop] at hv
    obtain ⟨hj', rfl⟩ := List.getElem?_eq_some_iff.1 hv
    rw [Nat.add_assoc, hc (q + j) hj']

theorem oneCell_B (bs : List UInt8) : ∀ u ∈ bs.map B, u.oneCell' = true := by
  intro u hu
  obtain ⟨_, _, rfl⟩ := List.mem_map.1 hu
  rfl

theorem splice_B (bs : List UInt8) (n : Nat) : splice (List.replicate (bs.length + n) (B 0)) 0 (bs.map B) = (bs ++ List.replicate n 0).map B := by
  simp [splice]

/-- 'append(v, x...)': v the call's own (or nil), x whatever row of bytes. -/
theorem wpList_append_row {P : Program} {w : World} {ops : Array Oper} {rest : List Oper} {o : Oper} {a : Act} {Q : Exit → Act → World → Prop} (hgd : o.guard = none) (s x : Operand) (t : TypeId)
    (ho : o.op = .call { callee := .builtin .append, args := #[s, x], argTypes := #[t, t] })
    (base : Nat) (e : TypeId) (i : TypeInfo) (z : Value) (ht : P.underlying t = some (.slice e)) (hi : P.info? e = some i) (hz : i.zero = some z)
    (hsize : i.size = 1) (hby : i.bytes = 1) (hzs : z.cells.size = 1)
    (v : Value) (n : Nat) (xs : List Value) (hs : a.eval s = v) (hown : w.ownsRow base e 1 v n xs) (sx : Value) (bs : List UInt8) (hx : a.eval x = sx) (hrow : Row w sx bs)
    (hbytes : n + bs.length ≤ 140737488355328) (hbase : base ≤ w.heap.size)
    (h : ∀ v' w', w'.ownsRow base e 1 v' (n + bs.length) (xs ++ bs.map B) → w.grownBy w' v.ownBlock → wpList P ops Q rest (a.put o.dst v') w') : wpList P ops Q (o :: rest) a w := by
  obtain ⟨p, cap, rfl, h1, h2, h3, h4⟩ := hrow
  cases p with
  | none =>
    have hb0 : bs = [] := List.eq_nil_of_length_eq_zero (by have := h3 rfl; omega)
    subst hb0
    have hc0 := h3 rfl
    subst hc0
    exact wpList_append_own_none hgd s x t ho base e i 1 ht hi v n xs hs hown hx (h v w (by simpa using hown) (World.grownBy.refl _ _))
  | some ad =>
    refine wpList_append_own _ hgd s x t ho base e i z 1 1 ht hi hz hsize hby hzs (by decide) v n xs hs hown ad bs.length cap (bs.map B) hx (by simp) ?_ (oneCell_B bs) (by unfold maxLen; omega) (by omega) hbase (fun v' w' g1 g2 _ => h v' w' g1 g2)
    intro j u hu
    rcases h4 with rfl | ⟨b, off, had, hc⟩
    · simp at hu
    · cases had
      obtain ⟨hj, rfl⟩ := List.getElem?_eq_some_iff.1 hu
      have hj' : j < bs.length := by simpa using hj
      rw [Addr.add_lit, hc j hj']
      simp

theorem owns_below {w w' : World} {base e : Nat} {v : Value} {n : Nat} {xs : List Value} (h : w.ownsRow base e 1 v n xs) (hb : Below w.heap.size w w') : w'.ownsRow base e 1 v n xs := by
  refine ⟨h.1, ?_⟩
  rcases h.2 with h2 | ⟨g, cap, cur, hv, hg, hh, r⟩
  · exact Or.inl h2
  · exact Or.inr ⟨g, cap, cur, hv, hg, (hb.block g (Array.getElem?_eq_some_iff.1 hh).1).trans hh, r⟩

theorem owns_below' {w w' : World} {base e b : Nat} {v : Value} {n : Nat} {xs : List Value} (h : w.ownsRow base e 1 v n xs) (hb : Below b w w') (hlt : ∀ k, v.ownBlock = some k → k < b) : w'.ownsRow base e 1 v n xs := by
  refine ⟨h.1, ?_⟩
  rcases h.2 with h2 | ⟨g, cap, cur, hv, hg, hh, r⟩
  · exact Or.inl h2
  · subst hv
    exact Or.inr ⟨g, cap, cur, rfl, hg, (hb.block g (hlt g rfl)).trans hh, r⟩

theorem grown_trans {a b c : World} {g : Option Nat} (h : a.grownBy b g) (k : b.grownBy c g) : a.grownBy c g :=
  ⟨k.os.trans h.os, k.tape.trans h.tape, k.output.trans h.output, Nat.le_trans h.size k.size, fun i hi hg => (k.block i (Nat.lt_of_lt_of_le hi h.size) hg).trans (h.block i hi hg)⟩

theorem grown_set (w : World) (g o : Nat) (u : Value) : w.grownBy (w.setCell ⟨g, o, none⟩ u).drew (some g) :=
  ⟨rfl, rfl, rfl, by simp [World.setCell], fun k _ hk => heap_setCell_other w ⟨g, o, none⟩ k u (fun e => hk (by simp [e]))⟩

theorem set_map (l : List UInt8) (j : Nat) (u : UInt8) : ((l.map B).toArray.setIfInBounds j (B u)) = ((l.set j u).map B).toArray := by
  simp [List.map_set]

theorem frozen_of_block {w : World} {g e j : Nat} {cur : Array Value} (h : w.heap[g]? = some (.cells cur e (0, 0))) : w.frozen? ⟨g, j, none⟩ = false := by
  simp [World.frozen?, h]

theorem owns_of_block {w : World} {base g e : Nat} {bs : List UInt8} (h : w.heap[g]? = some (.cells (bs.map B).toArray e (0, 0))) (hg : base ≤ g) (hm : bs.length ≤ maxLen) :
    w.ownsRow base e 1 (.slice (some ⟨g, 0, none⟩) bs.length bs.length) bs.length (bs.map B) :=
  ⟨by simp, Or.inr ⟨g, bs.length, _, rfl, hg, h, Nat.le_refl _, hm, by simp, by rw [List.take_of_length_le (by simp)]⟩⟩

theorem cell_one {w : World} {g e : Nat} {u : Value} (h : w.heap[g]? = some (.cells #[u] e (0, 0))) : w.cell? ⟨g, 0, none⟩ = some u := by
  rw [cell_of_row w g 0 _ e (0, 0) h]; rfl
end Go.Proofs.Ytcjepiihknjeiaa

/- Memory by footprints: what belongs to one thing, what a call may change, what stays; nothing here speaks of the program. -/
namespace Go.Proofs.Ytcjepiihknjeiaa
open Go.RowKit

/-- From w to w' nothing has changed that was there, but in F. -/
structure Keep (F : Nat → Prop) (w w' : World) : Prop where
  os : w'.os = w.os
  tape : w'.tape = w.tape
  output : w'.output = w.output
  size : w.heap.size ≤ w'.heap.size
  block : ∀ k, k < w.heap.size → ¬ F k → w'.heap[k]? = w.heap[k]?

/-- .. and what was F is F' now: nothing came in that was there. -/
structure Moves (F F' : Nat → Prop) (w w' : World) : Prop where
  keep : Keep F w w'
  sub : ∀ k, F' k → F k ∨ w.heap.size ≤ k

theorem Keep.refl (F : Nat → Prop) (w : World) : Keep F w w := ⟨rfl, rfl, rfl, Nat.le_refl _, fun _ _ _ => rfl⟩
theorem Keep.of_below {F : Nat → Prop} {w w' : World} (h : Below w.heap.size w w') : Keep F w w' := ⟨h.os, h.tape, h.output, h.size, fun k hk _ => h.block k hk⟩
theorem Keep.below {F : Nat → Prop} {w w' : World} {b : Nat} (h : Keep F w w') (hb : b ≤ w.heap.size) (hF : ∀ k, F k → b ≤ k) : Below b w w' :=
  ⟨h.os, h.tape, h.output, h.size, fun k hk => h.block k (by omega) (fun hf => by have := hF k hf; omega)⟩
theorem Keep.trans {F G : Nat → Prop} {a b c : World} (h : Keep F a b) (k : Keep G b c) (hs : ∀ x, G x → F x ∨ a.heap.size ≤ x) : Keep F a c :=
  ⟨k.os.trans h.os, k.tape.trans h.tape, k.output.trans h.output, Nat.le_trans h.size k.size, fun x hx hn =>
    (k.block x (Nat.lt_of_lt_of_le hx h.size) (fun hg => by rcases hs x hg with h1 | h1; exact hn h1; omega)).trans (h.block x hx hn)⟩
theorem Keep.weak {F G : Nat → Prop} {a b : World} (h : Keep F a b) (hs : ∀ x, F x → G x) : Keep G a b :=
  ⟨h.os, h.tape, h.output, h.size, fun x hx hn => h.block x hx (fun hf => hn (hs x hf))⟩
theorem Keep.cell {F : Nat → Prop} {w w' : World} (h : Keep F w w') {p : Addr} (hp : p.block < w.heap.size) (hn : ¬ F p.block) : w'.cell? p = w.cell? p := World.cell?_of_block (w := w) (h.block p.block hp hn)
theorem Moves.refl (F : Nat → Prop) (w : World) : Moves F F w w := ⟨Keep.refl F w, fun _ h => Or.inl h⟩
theorem Moves.trans {F G H : Nat → Prop} {a b c : World} (h : Moves F G a b) (k : Moves G H b c) : Moves F H a c :=
  ⟨h.keep.trans k.keep h.sub, fun x hx => by
    rcases k.sub x hx with h1 | h1
    · exact h.sub x h1
    · exact Or.inr (Nat.le_trans h.keep.size h1)⟩
theorem Moves.of_below {F : Nat → Prop} {w w' : World} (h : Below w.heap.size w w') : Moves F F w w' := ⟨Keep.of_below h, fun _ hf => Or.inl hf⟩

theorem Row.keep {F : Nat → Prop} {w w' : World} {s : Value} {bs : List UInt8} (h : Row w s bs) (hk : Keep F w w') (hn : ∀ b off c, s = .slice (some ⟨b, off, none⟩) bs.length c → bs ≠ [] → ¬ F b) : Row w' s bs := by
  obtain ⟨a, cap, hs, h1, h2, h3, h4⟩ := h
  refine ⟨a, cap, hs, h1, h2, h3, ?_⟩
  rcases h4 with h4 | ⟨b, off, ha, hc⟩
  · exact Or.inl h4
  · by_cases hbs : bs = []
    · exact Or.inl hbs
    · subst ha
      exact Or.inr ⟨b, off, rfl, fun j hj => (hk.cell (p := ⟨b, off + j, none⟩) (World.block_lt_of_cell? w _ (hc j hj)) (hn b off cap hs hbs)).trans (hc j hj)⟩

/-- Where append puts what it makes: where the row was, or into a new block. -/
theorem append_block {P : Program} (w : World) (t ty e : TypeId) (i : TypeInfo) (z : Value) (ht : P.underlying t = some (.slice e)) (hi : P.info? e = some i) (hz : i.zero = some z)
    {base : Nat} {v : Value} {n : Nat} {xs : List Value} (hown : w.ownsRow base e i.size v n xs)
    (a : Addr) (m c : Nat) (news : List Value) (hl : news.length = m * i.size) (hnews : ∀ j u, news[j]? = some u → w.cell? (a.add j) = some u) (h1 : ∀ u ∈ news, u.oneCell' = true)
    (h63 : n + m ≤ maxLen) (hbytes : (n + m) * i.bytes ≤ 140737488355328) {v' : Value} {w' : World} (hr : (Builtin.append_ #[t, t] ty #[v, .slice (some a) m c]).run P w = .ok v' w') :
    v'.ownBlock = v.ownBlock ∨ v'.ownBlock = some w.heap.size := by
  have hsmall : n + m ≤ 9223372036854775807 := by simp only [maxLen] at h63; omega
  rcases hown.2 with ⟨rfl, rfl⟩ | ⟨g, cap, cur, rfl, hbg, hg, hnc, hcm, hcs, htake⟩
  · by_cases hm : m = 0
    · subst hm
      have hn : news = [] := List.eq_nil_of_length_eq_zero (by simpa using hl)
      subst hn
      simp [Builtin.append_, run_underlying ht, sizeOf, typeInfo, hi, Builtin.lenOf, Builtin.firstCells, loadCells, loadCellsFrom] at hr
      left
      rw [← hr.1]
    · have h := run_append_nil (P := P) w t ty e i z ht hi hz a m c news hl hnews (by omega) (by omega) (by have hb := hbytes; simp only [Nat.zero_add] at hb; omega)
      rw [h] at hr
      cases hr
      right; rfl
  · by_cases hroom : n + m ≤ cap
    · have hfit : n * i.size + news.length ≤ cur.size := by rw [hl, hcs, ← Nat.add_mul]; exact Nat.mul_le_mul_right _ hroom
      have h := run_append_room (P := P) w t ty e i ht hi g n cap cur hg a m c news hl hnews h1 hroom hfit
      rw [h] at hr
      cases hr
      left; rfl
    · have holds : ∀ j u, xs[j]? = some u → w.cell? ((⟨g, 0, none⟩ : Addr).add j) = some u := hown.cells (g := g) rfl
      have h := run_append_grow (P := P) w t ty e i z ht hi hz ⟨g, 0, none⟩ n cap xs hown.1 holds a m c news hl hnews (by omega) (by omega) (growslice_fits (by omega) hbytes)
      rw [h] at hr
      cases hr
      right; rfl

/-- Six cells of a variable. -/
theorem six_cells {w : World} {g e : Nat} {a b c d x y : Value} (h : w.heap[g]? = some (.cells #[a, b, c, d, x, y] e (0, 0))) :
    w.cell? ⟨g, 0, none⟩ = some a ∧ w.cell? ⟨g, 1, none⟩ = some b ∧ w.cell? ⟨g, 2, none⟩ = some c ∧ w.cell? ⟨g, 3, none⟩ = some d ∧ w.cell? ⟨g, 4, none⟩ = some x ∧ w.cell? ⟨g, 5, none⟩ = some y ∧
    ∀ j, w.frozen? ⟨g, j, none⟩ = false := by
  refine ⟨?_, ?_, ?_, ?_, ?_, ?_, fun j => by simp [World.frozen?, h]⟩
  all_goals (rw [cell_of_row w g _ _ e (0, 0) h]; rfl)
end Go.Proofs.Ytcjepiihknjeiaa

/- 'append' of several things to a row of the call's own, as one step of a walk, and where the row lies then; nothing here speaks of the program. -/
namespace Go.Proofs.Ytcjepiihknjeiaa
open Go.RowKit

theorem wpList_append_gen {P : Program} {w : World} {ops : Array Oper} {rest : List Oper} {o : Oper} {a : Act} {Q : Exit → Act → World → Prop} (hgd : o.guard = none) (s x : Operand) (t : TypeId)
    (ho : o.op = .call { callee := .builtin .append, args := #[s, x], argTypes := #[t, t] })
    (base : Nat) (e : TypeId) (i : TypeInfo) (z : Value) (ht : P.underlying t = some (.slice e)) (hi : P.info? e = some i) (hz : i.zero = some z)
    (size bytes : Nat) (hsz0 : 0 < size) (hsize : i.size = size) (hby : i.bytes = bytes) (hzs : z.cells.size = size)
    (v : Value) (n : Nat) (xs : List Value) (hs : a.eval s = v) (hown : w.ownsRow base e size v n xs) (ad : Addr) (m c : Nat) (news : List Value) (hx : a.eval x = .slice (some ad) m c)
    (hl : news.length = m * size) (hnews : ∀ j u, news[j]? = some u → w.cell? (ad.add j) = some u) (hone : ∀ u ∈ news, u.oneCell' = true) (h63 : n + m ≤ maxLen) (hbytes : (n + m) * bytes ≤ 140737488355328) (hbase : base ≤ w.heap.size)
    (h : ∀ v' w', w'.ownsRow base e size v' (n + m) (xs ++ news) → w.grownBy w' v.ownBlock → (v'.ownBlock = v.ownBlock ∨ v'.ownBlock = some w.heap.size) → wpList P ops Q rest (a.put o.dst v') w') : wpList P ops Q (o :: rest) a w := by
  obtain ⟨v', w', hr, g1, g2, _⟩ := run_append_own (P := P) w base t o.type e i z size bytes ht hi hz hsize hby hzs hsz0 v n xs hown ad m c news hl hnews hone h63 hbytes hbase
  have g3 := append_block (P := P) w t o.type e i z ht hi hz (base := base) (v := v) (n := n) (xs := xs) (by rw [hsize]; exact hown) ad m c news (by rw [hsize]; omega) hnews hone h63 (by rw [hby]; exact hbytes) hr
  refine wpList_plain hgd fun K hK => ?_
  unfold Oper.wp execOp
  simp only [ho, resolve, invoke, builtin, Sem.run_bind, Sem.run_pure, Result.andThen_ok, List.map_toArray, List.map_cons, List.map_nil, hs, hx, hr]
  exact hK _ _ (h v' w' g1 g2 g3)

/-- A row that lies not in a block stays where that block alone grows. -/
theorem Row.grown {w w' : World} {g : Option Nat} {t : Value} {bs : List UInt8} (h : Row w t bs) (hg : w.grownBy w' g) (hn : ∀ b off n c, t = .slice (some ⟨b, off, none⟩) n c → bs ≠ [] → g ≠ some b) : Row w' t bs := by
  obtain ⟨a, cap, e, h1, h2, h3, h4⟩ := h
  refine ⟨a, cap, e, h1, h2, h3, ?_⟩
  by_cases hne : bs = []
  · exact Or.inl hne
  rcases h4 with h4 | ⟨b, off, rfl, hc⟩
  · exact Or.inl h4
  · refine Or.inr ⟨b, off, rfl, fun j hj => ?_⟩
    have hlt := World.block_lt_of_cell? w _ (hc j hj)
    rw [← hc j hj]
    exact World.cell?_of_block (w := w) (hg.block b hlt (fun he => hn b off _ _ e hne he.symm))
end Go.Proofs.Ytcjepiihknjeiaa

/- Changes, records, operations as plain data: what may be, as bytes, and rows of them in memory; nothing here speaks of the program. -/
namespace Go.Proofs.Ytcjepiihknjeiaa
open Go.RowKit

/-- A slice value of n things of k cells each, whose cells are these: whatever its address where there are none. -/
def KRow (k : Nat) (w : World) (s : Value) (n : Nat) (cs : List Value) : Prop :=
  ∃ (a : Option Addr) (cap : Nat), s = .slice a n cap ∧ n ≤ cap ∧ cap ≤ maxLen ∧ (a = none → cap = 0) ∧ cs.length = n * k ∧
    (n = 0 ∨ ∃ b off, a = some ⟨b, off, none⟩ ∧ ∀ (j : Nat) (v : Value), cs[j]? = some v → w.cell? ⟨b, off + j, none⟩ = some v)
theorem KRow.nil (k : Nat) (w : World) : KRow k w (.slice none 0 0) 0 [] := ⟨none, 0, rfl, Nat.le_refl _, by unfold maxLen; omega, fun _ => rfl, by simp, Or.inl rfl⟩
theorem KRow.shape {k : Nat} {w : World} {s : Value} {n : Nat} {cs : List Value} (h : KRow k w s n cs) : ∃ (p : Option Addr) (c : Nat), s = .slice p n c ∧ n ≤ c ∧ c ≤ maxLen ∧ (p = none → c = 0) := by
  obtain ⟨a, cap, hs, h1, h2, h3, _⟩ := h
  exact ⟨a, cap, hs, h1, h2, h3⟩
theorem KRow.open {k : Nat} {w : World} {s : Value} {n : Nat} {cs : List Value} (h : KRow k w s n cs) (hne : 0 < n) :
    ∃ b off cap, s = .slice (some ⟨b, off, none⟩) n cap ∧ n ≤ cap ∧ cap ≤ maxLen ∧ ∀ (j : Nat) (v : Value), cs[j]? = some v → w.cell? ⟨b, off + j, none⟩ = some v := by
  obtain ⟨a, cap, hs, h1, h2, h3, h5, h4⟩ := h
  rcases h4 with h4 | ⟨b, off, ha, hc⟩
  · omega
  · subst ha
    exact ⟨b, off, cap, hs, h1, h2, hc⟩
theorem KRow.stays {k : Nat} {w w' : World} {s : Value} {n : Nat} {cs : List Value} (h : KRow k w s n cs) (hk : ∀ b off c, s = .slice (some ⟨b, off, none⟩) n c → 0 < n → b < w.heap.size → w'.heap[b]? = w.heap[b]?) : KRow k w' s n cs := by
  obtain ⟨a, cap, hs, h1, h2, h3, h5, h4⟩ := h
  refine ⟨a, cap, hs, h1, h2, h3, h5, ?_⟩
  rcases h4 with h4 | ⟨b, off, ha, hc⟩
  · exact Or.inl h4
  · by_cases hv : n = 0
    · exact Or.inl hv
    · subst ha
      exact Or.inr ⟨b, off, rfl, fun j v hj => (World.cell?_of_block (w := w) (a := ⟨b, off + j, none⟩) (hk b off cap hs (by omega) (World.block_lt_of_cell? w _ (hc j v hj)))).trans (hc j v hj)⟩
theorem KRow.below {k : Nat} {w w' : World} {s : Value} {n : Nat} {cs : List Value} (h : KRow k w s n cs) (hb : Below w.heap.size w w') : KRow k w' s n cs := h.stays fun b _ _ _ _ hl => hb.block b hl
theorem KRow.keep {F : Nat → Prop} {k : Nat} {w w' : World} {s : Value} {n : Nat} {cs : List Value} (h : KRow k w s n cs) (hk : Keep F w w') (hn : ∀ b off c, s = .slice (some ⟨b, off, none⟩) n c → 0 < n → ¬ F b) : KRow k w' s n cs :=
  h.stays fun b off c e hv hl => hk.block b hl (hn b off c e hv)
theorem krow_of_owns {k : Nat} {w : World} {base e : Nat} {s : Value} {n : Nat} {cs : List Value} (h : w.ownsRow base e k s n cs) (hl : cs.length = n * k) : KRow k w s n cs := by
  rcases h.2 with ⟨rfl, h2⟩ | ⟨g, cap, cur, rfl, hg, hh, hnc, hcp, hcs, htake⟩
  · subst h2
    obtain rfl : cs = [] := List.eq_nil_of_length_eq_zero (by simpa using hl)
    exact KRow.nil k w
  · refine ⟨_, cap, rfl, hnc, hcp, (by simp), hl, Or.inr ⟨g, 0, rfl, fun j v hv => ?_⟩⟩
    have := h.cells (g := g) rfl j v hv
    rwa [Addr.add_lit] at this
theorem KRow.pos {k : Nat} {w : World} {a : Option Addr} {n m c : Nat} {cs : List Value} (h : KRow k w (.slice a m c) n cs) : 0 < n → ∃ ad, a = some ad ∧ ∀ (j : Nat) (v : Value), cs[j]? = some v → w.cell? (ad.add j) = some v := by
  intro hp
  obtain ⟨b, off, cap, e, _, _, hc⟩ := h.open hp
  simp only [Value.slice.injEq] at e
  obtain ⟨rfl, _, _⟩ := e
  exact ⟨_, rfl, fun j v hv => by rw [Addr.add_lit]; exact hc j v hv⟩

/-- Cells of things that have k cells each. -/
theorem flat_get {α : Type} {k : Nat} {f : α → List Value} (hk : ∀ x, (f x).length = k) : ∀ (l : List α) (j : Nat) (h : j < l.length) (i : Nat), i < k → (l.flatMap f)[j * k + i]? = (f l[j])[i]?
  | p :: l, 0, h, i, hi => by
    simp only [List.flatMap_cons, List.getElem_cons_zero, Nat.zero_mul, Nat.zero_add]
    rw [List.getElem?_append_left (by rw [hk]; exact hi)]
  | p :: l, j + 1, h, i, hi => by
    have := flat_get hk l j (by simpa using h) i hi
    simp only [List.flatMap_cons, List.getElem_cons_succ] at *
    rw [List.getElem?_append_right (by rw [hk, Nat.succ_mul]; omega), ← this]
    congr 1
    rw [hk, Nat.succ_mul]
    omega
theorem flat_len {α : Type} {k : Nat} {f : α → List Value} (hk : ∀ x, (f x).length = k) (l : List α) : (l.flatMap f).length = l.length * k := by
  induction l with
  | nil => simp
  | cons p l ih => rw [List.flatMap_cons, List.length_append, ih, hk, List.length_cons, Nat.succ_mul]; omega
theorem flat_set {α : Type} {k : Nat} {f : α → List Value} (hk : ∀ x, (f x).length = k) (l : List α) (i : Nat) (x : α) (h : i < l.length) : (l.set i x).flatMap f = (l.flatMap f).take (i * k) ++ f x ++ (l.flatMap f).drop (i * k + k) := by
  have h1 : ((l.take i).flatMap f).length = i * k := by rw [flat_len hk, List.length_take]; congr 1; omega
  have e1 : l.flatMap f = (l.take i).flatMap f ++ (f l[i] ++ (l.drop (i + 1)).flatMap f) := by
    rw [← List.flatMap_cons, ← List.drop_eq_getElem_cons h, ← List.flatMap_append, List.take_append_drop]
  rw [List.set_eq_take_append_cons_drop, if_pos h, List.flatMap_append, List.flatMap_cons, e1, List.take_left' h1, List.append_assoc]
  congr 2
  rw [← List.append_assoc, List.drop_left' (by rw [List.length_append, h1, hk])]

/-- A change. -/
structure Chg where
  key : ByteArray
  ser : Nat
  pos : Int
  len : Int
  del : Bool
def Chg.ok (c : Chg) : Prop := c.key.size ≤ 140737488351232 ∧ c.ser < 18446744073709551616 ∧ -9223372036854775808 ≤ c.pos ∧ c.pos ≤ 9223372036854775807 ∧ -9223372036854775808 ≤ c.len ∧ c.len ≤ 9223372036854775807
def zeroChg : Chg := ⟨⟨#[]⟩, 0, 0, 0, false⟩
def chgC (c : Chg) : List Value := [.string c.key, .int .u64 (c.ser : Int), .int .i64 c.pos, .int .i64 c.len, .bool c.del]
def chgV (c : Chg) : Value := .agg #[.string c.key, .int .u64 (c.ser : Int), .int .i64 c.pos, .int .i64 c.len, .bool c.del]
theorem chgC_len (c : Chg) : (chgC c).length = 5 := rfl
/-- A slice value that reads as these changes. -/
def CL (w : World) (v : Value) (l : List Chg) : Prop := KRow 5 w v l.length (l.flatMap chgC)
theorem CL.below {w w' : World} {v : Value} {l : List Chg} (h : CL w v l) (hb : Below w.heap.size w w') : CL w' v l := KRow.below h hb
theorem CL.nil (w : World) : CL w (.slice none 0 0) [] := KRow.nil 5 w
theorem CL.open {w : World} {v : Value} {l : List Chg} (h : CL w v l) (hne : 0 < l.length) :
    ∃ b off cap, v = .slice (some ⟨b, off, none⟩) l.length cap ∧ l.length ≤ cap ∧ cap ≤ maxLen ∧ ∀ j (hj : j < l.length), w.cell? ⟨b, off + j * 5, none⟩ = some (.string l[j].key) ∧ w.cell? ⟨b, off + j * 5 + 1, none⟩ = some (.int .u64 (l[j].ser : Int)) ∧
      w.cell? ⟨b, off + j * 5 + 2, none⟩ = some (.int .i64 l[j].pos) ∧ w.cell? ⟨b, off + j * 5 + 3, none⟩ = some (.int .i64 l[j].len) ∧ w.cell? ⟨b, off + j * 5 + 4, none⟩ = some (.bool l[j].del) := by
  obtain ⟨b, off, cap, e, h1, h2, hc⟩ := KRow.open h hne
  refine ⟨b, off, cap, e, h1, h2, fun j hj => ?_⟩
  have g := fun i hi => flat_get chgC_len l j hj i hi
  exact ⟨hc (j * 5 + 0) _ (g 0 (by omega)), hc (j * 5 + 1) _ (g 1 (by omega)), hc (j * 5 + 2) _ (g 2 (by omega)), hc (j * 5 + 3) _ (g 3 (by omega)), hc (j * 5 + 4) _ (g 4 (by omega))⟩

/-- May a key, a ref, a change be? -/
def kmayB (a : ByteArray) : Bool := decide (1 ≤ a.size) && decide (a.size ≤ 64)
def mayRef (s : Nat) (p n : Int) : Bool := decide (1 ≤ s) && (decide (0 ≤ p) && decide (p ≤ 65536)) && (decide (0 ≤ n) && decide (n ≤ 4096))
def zeroRef (s : Nat) (p n : Int) : Bool := decide (s = 0) && decide (p = 0) && decide (n = 0)
def mayChg (c : Chg) : Bool := kmayB c.key && (if c.del then zeroRef c.ser c.pos c.len else mayRef c.ser c.pos c.len)
/-- All may be, and their keys rise. -/
def RiseL (l : List Chg) : Prop := ∀ i (h : i < l.length), mayChg l[i] = true ∧ (0 < i → tl (l[i - 1]'(by omega)).key.toList l[i].key.toList = true)
open Classical in
/-- .. as a bool. -/
noncomputable def riseB (l : List Chg) : Bool := decide (RiseL l)
theorem riseB_true {l : List Chg} (h : RiseL l) : riseB l = true := by simp [riseB, h]
theorem riseB_false {l : List Chg} (h : ¬ RiseL l) : riseB l = false := by simp [riseB, h]

/-- A record. -/
structure Rcd where
  kind : Int
  seq : Nat
  chg : List Chg
  mser : Nat
  frm : Int
  to : Int
  n : Int
def zeroRcd : Rcd := ⟨0, 0, [], 0, 0, 0, 0⟩
/-- The seven cells of a record whose changes are the slice v. -/
def rcdA (r : Rcd) (v : Value) : Array Value := #[.int .i64 r.kind, .int .u64 (r.seq : Int), v, .int .u64 (r.mser : Int), .int .i64 r.frm, .int .i64 r.to, .int .i64 r.n]
def zeroMove (r : Rcd) : Bool := decide (r.mser = 0) && decide (r.frm = 0) && decide (r.to = 0) && decide (r.n = 0)
noncomputable def mayBat (r : Rcd) : Bool := decide (1 ≤ r.seq) && (decide (1 ≤ r.chg.length) && decide (r.chg.length ≤ 32)) && riseB r.chg && zeroMove r
def mayMov (r : Rcd) : Bool := decide (r.seq = 0) && decide (r.chg.length = 0) && decide (1 ≤ r.mser) && (decide (0 ≤ r.frm) && decide (r.frm ≤ 65536)) && (decide (0 ≤ r.to) && decide (r.to ≤ 65536)) && decide (r.frm ≠ r.to) && (decide (1 ≤ r.n) && decide (r.n ≤ 9))
/-- May a record be? -/
noncomputable def mayRcd (r : Rcd) : Bool := if r.kind = 1 then mayBat r else if r.kind = 2 then mayMov r else false

/-- A change, a record as bytes. -/
def chgB (c : Chg) : List UInt8 := (varF 9 c.key.toList.length ++ c.key.toList) ++ (if c.del then [1] else 0 :: (varF 9 c.ser ++ varF 9 c.pos.toNat ++ varF 9 c.len.toNat))
def batB (r : Rcd) : List UInt8 := (varF 9 r.seq ++ varF 9 r.chg.length) ++ r.chg.flatMap chgB
def movB (r : Rcd) : List UInt8 := varF 9 r.mser ++ varF 9 r.frm.toNat ++ varF 9 r.to.toNat ++ varF 9 r.n.toNat
def rcdB (r : Rcd) : List UInt8 := if r.kind = 2 then 2 :: movB r else 1 :: batB r
end Go.Proofs.Ytcjepiihknjeiaa

/- 'append' of one thing to a row of the call's own, as one step of a region that draws its order, and where the row lies then; nothing here speaks of the program. -/
namespace Go.Proofs.Ytcjepiihknjeiaa
open Go.RowKit

theorem step_append_gen {P : Program} {ops : Array Oper} {o : Oper} {a : Act} {w : World} {K : Act → World → Prop} {Q : Exit → Act → World → Prop} {E : Prop} (hgd : o.guard = none) (s x : Operand) (t : TypeId)
    (ho : o.op = .call { callee := .builtin .append, args := #[s, x], argTypes := #[t, t] })
    (base : Nat) (e : TypeId) (i : TypeInfo) (z : Value) (ht : P.underlying t = some (.slice e)) (hi : P.info? e = some i) (hz : i.zero = some z)
    (size bytes : Nat) (hsz0 : 0 < size) (hsize : i.size = size) (hby : i.bytes = bytes) (hzs : z.cells.size = size)
    (v : Value) (n : Nat) (xs : List Value) (hs : a.eval s = v) (hown : w.ownsRow base e size v n xs) (ad : Addr) (c : Nat) (news : List Value) (hx : a.eval x = .slice (some ad) 1 c)
    (hl : news.length = size) (hnews : ∀ j u, news[j]? = some u → w.cell? (ad.add j) = some u) (hone : ∀ u ∈ news, u.oneCell' = true) (h63 : n + 1 ≤ maxLen) (hbytes : (n + 1) * bytes ≤ 140737488355328) (hbase : base ≤ w.heap.size)
    (h : ∀ v' w', w'.ownsRow base e size v' (n + 1) (xs ++ news) → w.grownBy w' v.ownBlock → (v'.ownBlock = v.ownBlock ∨ v'.ownBlock = some w.heap.size) → K (a.put o.dst v') w') :
    if Region.wanted o (yielded ops a.tmps) = true then Oper.wp P o a w K Q else E := by
  have hw : Region.wanted o (yielded ops a.tmps) = true := by simp [Region.wanted, hgd]
  rw [if_pos hw]
  obtain ⟨v', w', hr, g1, g2, _⟩ := run_append_own (P := P) w base t o.type e i z size bytes ht hi hz hsize hby hzs hsz0 v n xs hown ad 1 c news (by omega) hnews hone h63 hbytes hbase
  have g3 := append_block (P := P) w t o.type e i z ht hi hz (base := base) (v := v) (n := n) (xs := xs) (by rw [hsize]; exact hown) ad 1 c news (by rw [hsize]; omega) hnews hone h63 (by rw [hby]; exact hbytes) hr
  unfold Oper.wp execOp
  simp only [ho, resolve, invoke, builtin, Sem.run_bind, Sem.run_pure, Result.andThen_ok, List.map_toArray, List.map_cons, List.map_nil, hs, hx, hr]
  exact h v' w' g1 g2 g3
end Go.Proofs.Ytcjepiihknjeiaa

/- Rows of one-cell values in memory, whatever they are; nothing here speaks of the program. -/
namespace Go.Proofs.Ytcjepiihknjeiaa
open Go.RowKit

/-- A slice value whose cells are these values: whatever its address where there are none. -/
def VRow (w : World) (s : Value) (vs : List Value) : Prop :=
  ∃ (a : Option Addr) (cap : Nat), s = .slice a vs.length cap ∧ vs.length ≤ cap ∧ cap ≤ maxLen ∧ (a = none → cap = 0) ∧
    (vs = [] ∨ ∃ b off, a = some ⟨b, off, none⟩ ∧ ∀ (j : Nat) (v : Value), vs[j]? = some v → w.cell? ⟨b, off + j, none⟩ = some v)

theorem VRow.nil (w : World) : VRow w (.slice none 0 0) [] := ⟨none, 0, rfl, Nat.le_refl _, by unfold maxLen; omega, fun _ => rfl, Or.inl rfl⟩
theorem VRow.shape {w : World} {s : Value} {vs : List Value} (h : VRow w s vs) : ∃ (p : Option Addr) (c : Nat), s = .slice p vs.length c ∧ vs.length ≤ c ∧ c ≤ maxLen ∧ (p = none → c = 0) := by
  obtain ⟨a, cap, hs, h1, h2, h3, _⟩ := h
  exact ⟨a, cap, hs, h1, h2, h3⟩
theorem VRow.open {w : World} {s : Value} {vs : List Value} (h : VRow w s vs) (hne : vs ≠ []) :
    ∃ b off cap, s = .slice (some ⟨b, off, none⟩) vs.length cap ∧ vs.length ≤ cap ∧ cap ≤ maxLen ∧ ∀ (j : Nat) (v : Value), vs[j]? = some v → w.cell? ⟨b, off + j, none⟩ = some v := by
  obtain ⟨a, cap, hs, h1, h2, h3, h4⟩ := h
  rcases h4 with h4 | ⟨b, off, ha, hc⟩
  · exact absurd h4 hne
  · subst ha
    exact ⟨b, off, cap, hs, h1, h2, hc⟩
theorem VRow.stays {w w' : World} {s : Value} {vs : List Value} (h : VRow w s vs) (hk : ∀ b off c, s = .slice (some ⟨b, off, none⟩) vs.length c → vs ≠ [] → b < w.heap.size → w'.heap[b]? = w.heap[b]?) : VRow w' s vs := by
  obtain ⟨a, cap, hs, h1, h2, h3, h4⟩ := h
  refine ⟨a, cap, hs, h1, h2, h3, ?_⟩
  rcases h4 with h4 | ⟨b, off, ha, hc⟩
  · exact Or.inl h4
  · by_cases hv : vs = []
    · exact Or.inl hv
    · subst ha
      exact Or.inr ⟨b, off, rfl, fun j v hj => (World.cell?_of_block (w := w) (a := ⟨b, off + j, none⟩) (hk b off cap hs hv (World.block_lt_of_cell? w _ (hc j v hj)))).trans (hc j v hj)⟩
theorem VRow.below {w w' : World} {s : Value} {vs : List Value} (h : VRow w s vs) (hb : Below w.heap.size w w') : VRow w' s vs := h.stays fun b _ _ _ _ hl => hb.block b hl
theorem VRow.keep {F : Nat → Prop} {w w' : World} {s : Value} {vs : List Value} (h : VRow w s vs) (hk : Keep F w w') (hn : ∀ b off c, s = .slice (some ⟨b, off, none⟩) vs.length c → vs ≠ [] → ¬ F b) : VRow w' s vs :=
  h.stays fun b off c e hv hl => hk.block b hl (hn b off c e hv)
/-- Where a row of the call's own reads as values. -/
theorem vrow_of_owns {w : World} {base e : Nat} {s : Value} {vs : List Value} (h : w.ownsRow base e 1 s vs.length vs) : VRow w s vs := by
  rcases h.2 with ⟨rfl, h2⟩ | ⟨g, cap, cur, rfl, hg, hh, hnc, hcp, hcs, htake⟩
  · obtain rfl : vs = [] := List.length_eq_zero_iff.1 h2
    exact VRow.nil w
  · refine ⟨_, cap, rfl, hnc, hcp, (by simp), Or.inr ⟨g, 0, rfl, fun j v hv => ?_⟩⟩
    have := h.cells (g := g) rfl j v hv
    rwa [Addr.add_lit] at this
/-- The cells of a row, as the laws on copy and append ask for them. -/
theorem VRow.pos {w : World} {a : Option Addr} {n c : Nat} {vs : List Value} (h : VRow w (.slice a n c) vs) : 0 < vs.length → ∃ ad, a = some ad ∧ ∀ (j : Nat) (v : Value), vs[j]? = some v → w.cell? (ad.add j) = some v := by
  intro hp
  obtain ⟨b, off, cap, e, _, _, hc⟩ := h.open (by intro e; rw [e] at hp; simp at hp)
  simp only [Value.slice.injEq] at e
  obtain ⟨rfl, _, _⟩ := e
  exact ⟨_, rfl, fun j v hv => by rw [Addr.add_lit]; exact hc j v hv⟩
end Go.Proofs.Ytcjepiihknjeiaa

/- 's[l:h]', 's[l:]' of whatever row of bytes, as steps of a walk; nothing here speaks of the program. -/
namespace Go.Proofs.Ytcjepiihknjeiaa
open Go.RowKit

/-- The row that a slice of a row is. -/
theorem row_sliced {w : World} {s : Value} {bs : List UInt8} {a : Option Addr} {len cap : Nat} (h : Row w s bs) (hs : s = .slice a len cap) (l hh m : Nat) (h1 : l ≤ hh) (h2 : hh ≤ bs.length) (h3 : hh ≤ m) (h4 : m ≤ cap) :
    Row w (sliced a l hh m 1) ((bs.drop l).take (hh - l)) := by
  obtain ⟨a', cap', e, k1, k2, k3, k4⟩ := h
  subst hs
  simp only [Value.slice.injEq] at e
  obtain ⟨rfl, rfl, rfl⟩ := e
  have hlen : ((bs.drop l).take (hh - l)).length = hh - l := by simp; omega
  unfold sliced
  refine ⟨_, m - l, by rw [hlen], by omega, by omega, ?_, ?_⟩
  · intro e
    split at e
    · omega
    · cases a with
      | none => have := k3 rfl; omega
      | some ad => simp at e
  · by_cases h0 : hh = l
    · left
      apply List.eq_nil_of_length_eq_zero
      omega
    · right
      rcases k4 with k4 | ⟨b, off, rfl, hc⟩
      · subst k4; simp at h2; omega
      · refine ⟨b, off + l, ?_, fun j hj => ?_⟩
        · rw [if_neg (by omega), Nat.mul_one, Option.map_some, Addr.add_lit]
        · rw [Nat.add_assoc, hc (l + j) (by omega)]
          simp
theorem elem_of {P : Program} {t e : TypeId} (ht : P.underlying t = some (.slice e)) : P.elem t = e := by simp [Program.elem, ht]

theorem wpList_slice_lh {P : Program} {w : World} {ops : Array Oper} {rest : List Oper} {o : Oper} {a : Act} {Q : Exit → Act → World → Prop} (hgd : o.guard = none) (t e : TypeId) (x lo hi : Operand)
    (ho : o.op = .slice t x (some lo) (some hi) none) (ht : P.underlying t = some (.slice e)) (hsz : (P.info? e).map (·.size) = some 1)
    (s : Value) (bs : List UInt8) (l h : Int) (kl kh : IntKind) (hx : a.eval x = s) (hl : a.eval lo = .int kl l) (hh : a.eval hi = .int kh h) (hr : Row w s bs) (h0 : 0 ≤ l) (h1 : l ≤ h) (h2 : h ≤ bs.length)
    (hk : ∀ t', Row w t' ((bs.drop l.toNat).take (h.toNat - l.toNat)) → wpList P ops Q rest (a.put o.dst t') w) : wpList P ops Q (o :: rest) a w := by
  obtain ⟨p, cap, e', k1, k2, k3, k4⟩ := id hr
  have hrow := row_sliced hr e' l.toNat h.toNat cap (by omega) (by omega) (by omega) (Nat.le_refl _)
  have hrun := run_slice_lh (P := P) w t p bs.length cap (by rw [elem_of ht]; exact ht) kl kh l h h0 h1 (by omega)
  have hs1 : (sizeOf (P.elem t)).run P w = .ok 1 w := by
    rw [elem_of ht]
    cases hi : P.info? e with
    | none => rw [hi] at hsz; cases hsz
    | some i => rw [hi] at hsz; simp at hsz; simp [sizeOf, typeInfo, hi, hsz]
  rw [hs1] at hrun
  simp only [Result.andThen_ok] at hrun
  refine wpList_plain hgd fun K hK => ?_
  unfold Oper.wp execOp
  simp only [ho, hx, hl, hh, e', Option.map_some, Option.map_none, Sem.run_bind, run_sliceAt_slice (P := P) w t _ _ _ _ (by rw [elem_of ht]; exact ht), hrun, Result.andThen_ok, Sem.run_pure]
  exact hK _ _ (hk _ hrow)
theorem wpList_slice_l {P : Program} {w : World} {ops : Array Oper} {rest : List Oper} {o : Oper} {a : Act} {Q : Exit → Act → World → Prop} (hgd : o.guard = none) (t e : TypeId) (x lo : Operand)
    (ho : o.op = .slice t x (some lo) none none) (ht : P.underlying t = some (.slice e)) (hsz : (P.info? e).map (·.size) = some 1)
    (s : Value) (bs : List UInt8) (l : Int) (kl : IntKind) (hx : a.eval x = s) (hl : a.eval lo = .int kl l) (hr : Row w s bs) (h0 : 0 ≤ l) (h1 : l ≤ bs.length)
    (hk : ∀ t', Row w t' (bs.drop l.toNat) → wpList P ops Q rest (a.put o.dst t') w) : wpList P ops Q (o :: rest) a w := by
  obtain ⟨p, cap, e', k1, k2, k3, k4⟩ := id hr
  have hrow := row_sliced hr e' l.toNat bs.length cap (by omega) (by omega) (by omega) (Nat.le_refl _)
  rw [List.take_of_length_le (by simp)] at hrow
  have hrun := run_slice_l (P := P) w t p bs.length cap (by rw [elem_of ht]; exact ht) kl l h0 h1
  have hs1 : (sizeOf (P.elem t)).run P w = .ok 1 w := by
    rw [elem_of ht]
    cases hi : P.info? e with
    | none => rw [hi] at hsz; cases hsz
    | some i => rw [hi] at hsz; simp at hsz; simp [sizeOf, typeInfo, hi, hsz]
  rw [hs1] at hrun
  simp only [Result.andThen_ok] at hrun
  refine wpList_plain hgd fun K hK => ?_
  unfold Oper.wp execOp
  simp only [ho, hx, hl, e', Option.map_some, Option.map_none, Sem.run_bind, run_sliceAt_slice (P := P) w t _ _ _ _ (by rw [elem_of ht]; exact ht), hrun, Result.andThen_ok, Sem.run_pure]
  exact hK _ _ (hk _ hrow)
end Go.Proofs.Ytcjepiihknjeiaa

/- 's[l:]', 's[:h]' and append of whatever row of things of k cells; nothing here speaks of the program. -/
namespace Go.Proofs.Ytcjepiihknjeiaa
open Go.RowKit

theorem krow_sliced {k : Nat} {w : World} {n : Nat} {cs : List Value} {a : Option Addr} {cap : Nat} (h : KRow k w (.slice a n cap) n cs) (l hh m : Nat) (h1 : l ≤ hh) (h2 : hh ≤ n) (h3 : hh ≤ m) (h4 : m ≤ cap) :
    KRow k w (sliced a l hh m k) (hh - l) ((cs.drop (l * k)).take ((hh - l) * k)) := by
  obtain ⟨a', cap', e, k1, k2, k3, k5, k4⟩ := h
  simp only [Value.slice.injEq] at e
  obtain ⟨rfl, _, rfl⟩ := e
  have hm : hh * k ≤ n * k := Nat.mul_le_mul_right k h2
  have hd : (hh - l) * k = hh * k - l * k := Nat.sub_mul ..
  have hlk : l * k ≤ hh * k := Nat.mul_le_mul_right k h1
  have hlen : ((cs.drop (l * k)).take ((hh - l) * k)).length = (hh - l) * k := by
    rw [List.length_take, List.length_drop, k5]
    omega
  unfold sliced
  refine ⟨_, m - l, rfl, by omega, by omega, ?_, hlen, ?_⟩
  · intro e
    split at e
    · omega
    · cases a with
      | none => have := k3 rfl; omega
      | some ad => simp at e
  · by_cases h0 : hh = l
    · left; omega
    · right
      rcases k4 with k4 | ⟨b, off, rfl, hc⟩
      · omega
      · refine ⟨b, off + l * k, ?_, fun j v hj => ?_⟩
        · rw [if_neg (by omega), Option.map_some, Addr.add_lit]
        · have hj' : cs[l * k + j]? = some v := by
            rw [List.getElem?_take] at hj
            split at hj
            · rwa [List.getElem?_drop] at hj
            · cases hj
          have := hc (l * k + j) v hj'
          rwa [← Nat.add_assoc] at this
theorem ksize {P : Program} {w : World} {t e : TypeId} {k : Nat} (ht : P.underlying t = some (.slice e)) (hsz : (P.info? e).map (·.size) = some k) : (sizeOf (P.elem t)).run P w = .ok k w := by
  rw [elem_of ht]
  cases hi : P.info? e with
  | none => rw [hi] at hsz; cases hsz
  | some i => rw [hi] at hsz; simp at hsz; simp [sizeOf, typeInfo, hi, hsz]
theorem wpList_kslice_l {P : Program} {w w0 : World} {ops : Array Oper} {rest : List Oper} {o : Oper} {a : Act} {Q : Exit → Act → World → Prop} (hgd : o.guard = none) (t e : TypeId) (x lo : Operand)
    (ho : o.op = .slice t x (some lo) none none) (k : Nat) (ht : P.underlying t = some (.slice e)) (hsz : (P.info? e).map (·.size) = some k)
    (p : Option Addr) (n cap : Nat) (cs : List Value) (l : Nat) (hx : a.eval x = .slice p n cap) (hl : a.eval lo = .int .i64 (l : Int)) (hr : KRow k w0 (.slice p n cap) n cs) (h1 : l ≤ n)
    (hk : ∀ q c, KRow k w0 (.slice q (n - l) c) (n - l) (cs.drop (l * k)) → wpList P ops Q rest (a.put o.dst (.slice q (n - l) c)) w) : wpList P ops Q (o :: rest) a w := by
  have hcap : n ≤ cap := by obtain ⟨_, _, e, h, _⟩ := hr; simp only [Value.slice.injEq] at e; omega
  have hrow := krow_sliced hr l n cap h1 (Nat.le_refl _) hcap (Nat.le_refl _)
  have hlen : cs.length = n * k := by obtain ⟨_, _, _, _, _, _, h, _⟩ := hr; exact h
  rw [List.take_of_length_le (by rw [List.length_drop, hlen, Nat.sub_mul]; omega)] at hrow
  have hrun := run_slice_l (P := P) w t p n cap (by rw [elem_of ht]; exact ht) .i64 (l : Int) (by omega) (by omega)
  rw [ksize ht hsz] at hrun
  simp only [Result.andThen_ok, Int.toNat_natCast] at hrun
  refine wpList_plain hgd fun K hK => ?_
  unfold Oper.wp execOp
  simp only [ho, hx, hl, Option.map_some, Option.map_none, Sem.run_bind, run_sliceAt_slice (P := P) w t _ _ _ _ (by rw [elem_of ht]; exact ht), hrun, Result.andThen_ok, Sem.run_pure]
  unfold sliced at hrow ⊢
  exact hK _ _ (hk _ _ hrow)
theorem wpList_kslice_h {P : Program} {w w0 : World} {ops : Array Oper} {rest : List Oper} {o : Oper} {a : Act} {Q : Exit → Act → World → Prop} (hgd : o.guard = none) (t e : TypeId) (x hi : Operand)
    (ho : o.op = .slice t x none (some hi) none) (k : Nat) (ht : P.underlying t = some (.slice e)) (hsz : (P.info? e).map (·.size) = some k)
    (p : Option Addr) (n cap : Nat) (cs : List Value) (l : Nat) (hx : a.eval x = .slice p n cap) (hl : a.eval hi = .int .i64 (l : Int)) (hr : KRow k w0 (.slice p n cap) n cs) (h1 : l ≤ n)
    (hk : ∀ q c, KRow k w0 (.slice q l c) l (cs.take (l * k)) → wpList P ops Q rest (a.put o.dst (.slice q l c)) w) : wpList P ops Q (o :: rest) a w := by
  have hcap : n ≤ cap := by obtain ⟨_, _, e, h, _⟩ := hr; simp only [Value.slice.injEq] at e; omega
  have hrow := krow_sliced hr 0 l cap (by omega) h1 (by omega) (Nat.le_refl _)
  simp only [Nat.zero_mul, List.drop_zero, Nat.sub_zero] at hrow
  have hrun := run_slice_h (P := P) w t p n cap (by rw [elem_of ht]; exact ht) .i64 (l : Int) (by omega) (by omega)
  rw [ksize ht hsz] at hrun
  simp only [Result.andThen_ok, Int.toNat_natCast] at hrun
  refine wpList_plain hgd fun K hK => ?_
  unfold Oper.wp execOp
  simp only [ho, hx, hl, Option.map_some, Option.map_none, Sem.run_bind, run_sliceAt_slice (P := P) w t _ _ _ _ (by rw [elem_of ht]; exact ht), hrun, Result.andThen_ok, Sem.run_pure]
  unfold sliced at hrow ⊢
  exact hK _ _ (hk _ _ hrow)
/-- append of a row of things. -/
theorem wpList_append_krow {P : Program} {w : World} {ops : Array Oper} {rest : List Oper} {o : Oper} {a : Act} {Q : Exit → Act → World → Prop} (hgd : o.guard = none) (s x : Operand) (t : TypeId)
    (ho : o.op = .call { callee := .builtin .append, args := #[s, x], argTypes := #[t, t] })
    (base : Nat) (e : TypeId) (i : TypeInfo) (z : Value) (ht : P.underlying t = some (.slice e)) (hi : P.info? e = some i) (hz : i.zero = some z)
    (size bytes : Nat) (hsz0 : 0 < size) (hsize : i.size = size) (hby : i.bytes = bytes) (hzs : z.cells.size = size)
    (v : Value) (n : Nat) (xs : List Value) (hs : a.eval s = v) (hown : w.ownsRow base e size v n xs) (p : Option Addr) (m c : Nat) (news : List Value) (hx : a.eval x = .slice p m c)
    (hrow : KRow size w (.slice p m c) m news) (hone : ∀ u ∈ news, u.oneCell' = true) (h63 : n + m ≤ maxLen) (hbytes : (n + m) * bytes ≤ 140737488355328) (hbase : base ≤ w.heap.size)
    (h : ∀ v' w', w'.ownsRow base e size v' (n + m) (xs ++ news) → w.grownBy w' v.ownBlock → (v'.ownBlock = v.ownBlock ∨ v'.ownBlock = some w.heap.size) → wpList P ops Q rest (a.put o.dst v') w') : wpList P ops Q (o :: rest) a w := by
  have hr := hrow
  obtain ⟨a', cap', e', k1, k2, k3, k5, k4⟩ := hr
  simp only [Value.slice.injEq] at e'
  obtain ⟨rfl, _, rfl⟩ := e'
  cases p with
  | none =>
    have hc0 := k3 rfl
    subst hc0
    have hm0 : m = 0 := by omega
    subst hm0
    have hn0 : news = [] := List.eq_nil_of_length_eq_zero (by rw [k5]; simp)
    subst hn0
    exact wpList_append_own_none hgd s x t ho base e i size ht hi v n xs hs hown hx (h v w (by simpa using hown) (World.grownBy.refl _ _) (Or.inl rfl))
  | some ad =>
    refine wpList_append_gen hgd s x t ho base e i z ht hi hz size bytes hsz0 hsize hby hzs v n xs hs hown ad m c news hx k5 (fun j u hu => ?_) hone h63 hbytes hbase h
    rcases k4 with k4 | ⟨b, off, e2, hc⟩
    · subst k4
      have : news = [] := List.eq_nil_of_length_eq_zero (by rw [k5]; simp)
      subst this
      simp at hu
    · simp only [Option.some.injEq] at e2
      rw [e2, Addr.add_lit]
      exact hc j u hu
theorem krow_cutl {P : Program} {t e : TypeId} {k : Nat} (ht : P.underlying t = some (.slice e)) (hsz : (P.info? e).map (·.size) = some k) {w : World} {a : Option Addr} {n cap : Nat} {cs : List Value} (h : KRow k w (.slice a n cap) n cs) (l : Nat) (hl : l ≤ n) :
    ∃ q c, (∀ W, (Instr.slice t (.slice a n cap) (some (.int .i64 (l : Int))) none none).run P W = .ok (.slice q (n - l) c) W) ∧ KRow k w (.slice q (n - l) c) (n - l) (cs.drop (l * k)) := by
  have hcap : n ≤ cap := by obtain ⟨_, _, e, h, _⟩ := h; simp only [Value.slice.injEq] at e; omega
  have hrow := krow_sliced h l n cap hl (Nat.le_refl _) hcap (Nat.le_refl _)
  have hlen : cs.length = n * k := by obtain ⟨_, _, _, _, _, _, h, _⟩ := h; exact h
  rw [List.take_of_length_le (by rw [List.length_drop, hlen, Nat.sub_mul]; omega)] at hrow
  unfold sliced at hrow
  refine ⟨_, _, fun W => ?_, hrow⟩
  have hrun := run_slice_l (P := P) W t a n cap (by rw [elem_of ht]; exact ht) .i64 (l : Int) (by omega) (by omega)
  rw [hrun, ksize ht hsz]
  simp only [Result.andThen_ok, Int.toNat_natCast]
  rfl
end Go.Proofs.Ytcjepiihknjeiaa

/- Rows of things of some cells each, as they are filled; nothing here speaks of the program. -/
namespace Go.Proofs.Ytcjepiihknjeiaa
open Go.RowKit

theorem setk_take {L pre : List Value} {n : Nat} (a : Value) (h : L.take n = pre) (hn : n < L.length) : (L.set n a).take (n + 1) = pre ++ [a] := by
  rw [List.take_succ_eq_append_getElem (by simpa using hn), List.take_set, List.set_eq_of_length_le (by simp; omega), h]
  simp
theorem alloc_newk (w : World) (o : Obj) : (w.alloc o).heap[w.heap.size]? = some o := by show (w.heap.push o)[w.heap.size]? = some o; simp
end Go.Proofs.Ytcjepiihknjeiaa
