/- Texts of ours, one behind the other: CelLay, ArArgs. -/
import Derived.Test.YtlbhhdldeaehkaaGreatG2
import Derived.Test.YtlbhhdldeaehkaaGreatG3
import Derived.Test.YtlbhhdldeaehkaaGreatG8
import Derived.Test.YtlbhhdldeaehkaaGreatG10
import Derived.Test.YtlbhhdldeaehkaaGreatG11
import Derived.Test.YtlbhhdldeaehkaaGreatG23
/- Objects that came in; the law's 'lay' of layer 13. -/
namespace Go.Proofs.YtlbhhdldeaehkaaGreat
open Go.RowKit

/-- A slice value that reads as these objects. -/
def OL (w : World) (v : Value) (L : List Ob) : Prop :=
  ∃ (a : Option Addr) (cap : Nat), v = .slice a L.length cap ∧ (L = [] ∨ ∃ g off, a = some ⟨g, off, none⟩ ∧ ∀ j (h : j < L.length), ∃ p pn pc d dn dc, w.cell? ⟨g, off + j * 3, none⟩ = some (.int .i64 L[j].1) ∧ w.cell? ⟨g, off + j * 3 + 1, none⟩ = some (.slice p pn pc) ∧ w.cell? ⟨g, off + j * 3 + 2, none⟩ = some (.slice d dn dc) ∧
    VRow w (.slice p pn pc) (Iw L[j].2.1) ∧ VRow w (.slice d dn dc) (Uw L[j].2.2))
theorem OL.below {w w' : World} {v : Value} {L : List Ob} (h : OL w v L) (hb : Below w.heap.size w w') : OL w' v L := by
  obtain ⟨a, cap, e, h⟩ := h
  refine ⟨a, cap, e, ?_⟩
  rcases h with h | ⟨g, off, e2, h⟩
  · exact Or.inl h
  · refine Or.inr ⟨g, off, e2, fun j hj => ?_⟩
    obtain ⟨p, pn, pc, d, dn, dc, h1, h2, h3, h4, h5⟩ := h j hj
    exact ⟨p, pn, pc, d, dn, dc, (hb.cell (World.block_lt_of_cell? w _ h1)).trans h1, (hb.cell (World.block_lt_of_cell? w _ h2)).trans h2, (hb.cell (World.block_lt_of_cell? w _ h3)).trans h3, h4.below hb, h5.below hb⟩
theorem OL.at {w : World} {a : Option Addr} {n c : Nat} {L : List Ob} (h : OL w (.slice a n c) L) (j : Nat) (hj : j < L.length) :
    ∃ g off p pc d dc, a = some ⟨g, off, none⟩ ∧ w.cell? ⟨g, off + j * 3, none⟩ = some (.int .i64 L[j].1) ∧ w.cell? ⟨g, off + j * 3 + 1, none⟩ = some (.slice p L[j].2.1.length pc) ∧ w.cell? ⟨g, off + j * 3 + 2, none⟩ = some (.slice d L[j].2.2.length dc) ∧
    VRow w (.slice p L[j].2.1.length pc) (Iw L[j].2.1) ∧ VRow w (.slice d L[j].2.2.length dc) (Uw L[j].2.2) := by
  obtain ⟨a', cap, e, h⟩ := h
  simp only [Value.slice.injEq] at e
  obtain ⟨rfl, rfl, rfl⟩ := e
  rcases h with h | ⟨g, off, e2, h⟩
  · rw [h] at hj; simp at hj
  · obtain ⟨p, pn, pc, d, dn, dc, h1, h2, h3, h4, h5⟩ := h j hj
    obtain ⟨p', pc', e1, _⟩ := h4.shape
    obtain ⟨d', dc', e2', _⟩ := h5.shape
    simp only [Value.slice.injEq] at e1 e2'
    obtain ⟨rfl, rfl, rfl⟩ := e1
    obtain ⟨rfl, rfl, rfl⟩ := e2'
    have eI : (Iw L[j].2.1).length = L[j].2.1.length := List.length_map _
    rw [eI] at h2 h4
    rw [Uw_len2] at h3 h5
    exact ⟨g, off, p, pc, d, dc, e2, h1, h2, h3, h4, h5⟩
theorem ol_of_reads {w : World} {v : Value} {dt : Dt} (h : Reads limUpto w (.row 56 (.struct (.cons (.int .i64) (.cons (.row 8 (.int .i64)) (.cons (.row 4 (.int .u32)) .nil))))) [v] dt) :
    ∃ L : List Ob, OL w v L ∧ L.length ≤ 1048576 ∧ ∀ x ∈ L, U32 x.2.2 ∧ x.2.1.length ≤ 1048576 ∧ x.2.2.length ≤ 1048576 := by
  obtain ⟨a, cap, l, e, rfl, h1, h2, h3, h4, h5⟩ := h
  simp only [List.cons.injEq, and_true] at e
  subst e
  rcases h5 with rfl | ⟨g, off, rfl, hc⟩
  · exact ⟨[], ⟨a, cap, rfl, Or.inl rfl⟩, Nat.zero_le _, fun x hx => by cases hx⟩
  · have hx : ∀ j (h : j < l.length), ∃ x : Ob, (∃ p pn pc d dn dc, w.cell? ⟨g, off + j * 3, none⟩ = some (.int .i64 x.1) ∧ w.cell? ⟨g, off + j * 3 + 1, none⟩ = some (.slice p pn pc) ∧ w.cell? ⟨g, off + j * 3 + 2, none⟩ = some (.slice d dn dc) ∧ VRow w (.slice p pn pc) (Iw x.2.1) ∧ VRow w (.slice d dn dc) (Uw x.2.2)) ∧ U32 x.2.2 ∧ x.2.1.length ≤ 1048576 ∧ x.2.2.length ≤ 1048576 := by
      intro j hj
      obtain ⟨cs, hcs, h2, c1, r1, d1, dr1, rfl, _, _, ⟨kd, rfl, _, _⟩, c2, r2, d2, dr2, rfl, hl2, _, hr2, c3, r3, d3, dr3, rfl, hl3, _, hr3, rfl, _⟩ := hc j hj
      obtain ⟨v2, rfl⟩ : ∃ v, c2 = [v] := by
        match c2, hl2 with
        | [v], _ => exact ⟨v, rfl⟩
      obtain ⟨v3, rfl⟩ : ∃ v, c3 = [v] := by
        match c3, hl3 with
        | [v], _ => exact ⟨v, rfl⟩
      obtain ⟨ps, q1, q2, _⟩ := nums_of_reads hr2
      obtain ⟨ds, t1, t2, t3⟩ := nums_of_reads hr3
      unfold limUpto at q2 t2
      obtain ⟨pa, pc, rfl, _⟩ := q1.shape
      obtain ⟨da, dc, rfl, _⟩ := t1.shape
      have k0 := h2 0 _ rfl
      have k1 := h2 1 _ rfl
      have k2 := h2 2 _ rfl
      simp only [Sh.size, Nat.reduceAdd, Nat.add_zero] at k0 k1 k2
      exact ⟨(kd, ps, ds), ⟨_, _, _, _, _, _, k0, k1, k2, q1, t1⟩, (fun z hz => by have := bounds_u32 (t3 z hz); omega), q2, t2⟩
    have hch : ∃ F : Nat → Ob, ∀ j, j < l.length → (∃ p pn pc d dn dc, w.cell? ⟨g, off + j * 3, none⟩ = some (.int .i64 (F j).1) ∧ w.cell? ⟨g, off + j * 3 + 1, none⟩ = some (.slice p pn pc) ∧ w.cell? ⟨g, off + j * 3 + 2, none⟩ = some (.slice d dn dc) ∧ VRow w (.slice p pn pc) (Iw (F j).2.1) ∧ VRow w (.slice d dn dc) (Uw (F j).2.2)) ∧ U32 (F j).2.2 ∧ (F j).2.1.length ≤ 1048576 ∧ (F j).2.2.length ≤ 1048576 := by
      refine ⟨fun j => if h : j < l.length then (hx j h).choose else (0, [], []), fun j hj => ?_⟩
      simp only [hj, dif_pos]
      exact (hx j hj).choose_spec
    obtain ⟨F, hF⟩ := hch
    refine ⟨(List.range l.length).map F, ⟨_, cap, by simp, Or.inr ⟨g, off, rfl, fun j hj => ?_⟩⟩, by simpa [limUpto] using h4, fun x hx => ?_⟩
    · have hj' : j < l.length := by simpa using hj
      simp only [List.getElem_map, List.getElem_range]
      exact (hF j hj').1
    · obtain ⟨j, hj, rfl⟩ := List.mem_map.1 hx
      exact (hF j (List.mem_range.1 hj)).2
theorem own_word (w : World) : (w.alloc (.cells #[.int .u32 0] 31)).ownsRow w.heap.size 31 1 (.slice (some ⟨w.heap.size, 0, none⟩) 1 1) 1 (Uw [0]) :=
  ⟨rfl, Or.inr ⟨w.heap.size, 1, _, rfl, Nat.le_refl _, World.alloc_heap_new w _, Nat.le_refl _, by unfold maxLen; omega, rfl, rfl⟩⟩

end Go.Proofs.YtlbhhdldeaehkaaGreat

/- Scripts of an arena that came in, by shapes. -/
namespace Go.Proofs.YtlbhhdldeaehkaaGreat
open Go.RowKit

/-- One call: its kind, the place, the word's number, the slot, the object's kind, the word; pointers and words of an object. -/
structure OpA where
  kind : Int
  at' : Int
  i : Int
  slot : Int
  k2 : Int
  v : Int
  ps : List Int
  ds : List Int
structure OpA.ok (x : OpA) : Prop where
  v0 : 0 ≤ x.v
  v1 : x.v < 4294967296
  pl : x.ps.length * 8 ≤ 140737488351232
  dl : x.ds.length * 4 ≤ 140737488351232
  du : U32 x.ds
/-- A call's cells. -/
def OpC (w : World) (g o : Nat) (x : OpA) : Prop :=
  ∃ p pc d dc, w.cell? ⟨g, o, none⟩ = some (.int .i64 x.kind) ∧ w.cell? ⟨g, o + 1, none⟩ = some (.int .i64 x.at') ∧ w.cell? ⟨g, o + 2, none⟩ = some (.int .i64 x.i) ∧ w.cell? ⟨g, o + 3, none⟩ = some (.int .i64 x.slot) ∧ w.cell? ⟨g, o + 4, none⟩ = some (.int .i64 x.k2) ∧ w.cell? ⟨g, o + 5, none⟩ = some (.int .u32 x.v) ∧
    w.cell? ⟨g, o + 6, none⟩ = some (.slice p x.ps.length pc) ∧ w.cell? ⟨g, o + 7, none⟩ = some (.slice d x.ds.length dc) ∧ VRow w (.slice p x.ps.length pc) (Iw x.ps) ∧ VRow w (.slice d x.ds.length dc) (Uw x.ds)
/-- A slice value that reads as these calls. -/
def OpsR (w : World) (v : Value) (L : List OpA) : Prop :=
  ∃ (a : Option Addr) (cap : Nat), v = .slice a L.length cap ∧ (L = [] ∨ ∃ g off, a = some ⟨g, off, none⟩ ∧ ∀ j (h : j < L.length), OpC w g (off + j * 8) L[j])
theorem OpC.below {w w' : World} {g o : Nat} {x : OpA} (h : OpC w g o x) (hb : Below w.heap.size w w') : OpC w' g o x := by
  obtain ⟨p, pc, d, dc, h0, h1, h2, h3, h4, h5, h6, h7, h8, h9⟩ := h
  exact ⟨p, pc, d, dc, (hb.cell (World.block_lt_of_cell? w _ h0)).trans h0, (hb.cell (World.block_lt_of_cell? w _ h1)).trans h1, (hb.cell (World.block_lt_of_cell? w _ h2)).trans h2, (hb.cell (World.block_lt_of_cell? w _ h3)).trans h3, (hb.cell (World.block_lt_of_cell? w _ h4)).trans h4, (hb.cell (World.block_lt_of_cell? w _ h5)).trans h5, (hb.cell (World.block_lt_of_cell? w _ h6)).trans h6, (hb.cell (World.block_lt_of_cell? w _ h7)).trans h7, h8.below hb, h9.below hb⟩
theorem OpsR.below {w w' : World} {v : Value} {L : List OpA} (h : OpsR w v L) (hb : Below w.heap.size w w') : OpsR w' v L := by
  obtain ⟨a, cap, e, h⟩ := h
  refine ⟨a, cap, e, ?_⟩
  rcases h with h | ⟨g, off, e2, h⟩
  · exact Or.inl h
  · exact Or.inr ⟨g, off, e2, fun j hj => (h j hj).below hb⟩
theorem OpsR.at {w : World} {a : Option Addr} {n c : Nat} {L : List OpA} (h : OpsR w (.slice a n c) L) (j : Nat) (hj : j < L.length) : ∃ g off, a = some ⟨g, off, none⟩ ∧ OpC w g (off + j * 8) L[j] := by
  obtain ⟨a', cap, e, h⟩ := h
  simp only [Value.slice.injEq] at e
  obtain ⟨rfl, rfl, rfl⟩ := e
  rcases h with h | ⟨g, off, e2, h⟩
  · rw [h] at hj; simp at hj
  · exact ⟨g, off, e2, h j hj⟩
theorem ops_of_reads {w : World} {v : Value} {dt : Dt} (h : Reads limSaid w (.row 96 (.struct (.cons (.int .i64) (.cons (.int .i64) (.cons (.int .i64) (.cons (.int .i64) (.cons (.int .i64) (.cons (.int .u32) (.cons (.row 8 (.int .i64)) (.cons (.row 4 (.int .u32)) (.nil))))))))))) [v] dt) :
    ∃ L : List OpA, OpsR w v L ∧ L.length * 96 ≤ 140737488351232 ∧ ∀ x ∈ L, x.ok := by
  obtain ⟨a, cap, l, e, rfl, h1, h2, h3, h4, h5⟩ := h
  simp only [List.cons.injEq, and_true] at e
  subst e
  rcases h5 with rfl | ⟨g, off, rfl, hc⟩
  · exact ⟨[], ⟨a, cap, rfl, Or.inl rfl⟩, by simp, fun x hx => by cases hx⟩
  · have hx : ∀ j (h : j < l.length), ∃ x : OpA, OpC w g (off + j * 8) x ∧ x.ok := by
      intro j hj
      obtain ⟨cs, hcs, h2, c1, r1, d1, dr1, rfl, _, _, ⟨k0, rfl, _, _⟩, c2, r2, d2, dr2, rfl, _, _, ⟨k1, rfl, _, _⟩, c3, r3, d3, dr3, rfl, _, _, ⟨k2, rfl, _, _⟩, c4, r4, d4, dr4, rfl, _, _, ⟨k3, rfl, _, _⟩, c5, r5, d5, dr5, rfl, _, _, ⟨k4, rfl, _, _⟩, c6, r6, d6, dr6, rfl, _, _, ⟨k5, rfl, w5, _⟩, c7, r7, d7, dr7, rfl, hl7, _, hr7, c8, r8, d8, dr8, rfl, hl8, _, hr8, rfl, _⟩ := hc j hj
      obtain ⟨v7, rfl⟩ : ∃ v, c7 = [v] := by
        match c7, hl7 with
        | [v], _ => exact ⟨v, rfl⟩
      obtain ⟨v8, rfl⟩ : ∃ v, c8 = [v] := by
        match c8, hl8 with
        | [v], _ => exact ⟨v, rfl⟩
      obtain ⟨ps, q1, q2, _⟩ := nums_of_reads hr7
      obtain ⟨ds, t1, t2, t3⟩ := nums_of_reads hr8
      unfold limSaid reachBytes at q2 t2
      obtain ⟨pa, pc, rfl, _⟩ := q1.shape
      obtain ⟨da, dc, rfl, _⟩ := t1.shape
      have eI : (Iw ps).length = ps.length := List.length_map _
      rw [eI] at q1 h2
      rw [Uw_len2] at t1 h2
      have k0' := h2 0 _ rfl
      have k1' := h2 1 _ rfl
      have k2' := h2 2 _ rfl
      have k3' := h2 3 _ rfl
      have k4' := h2 4 _ rfl
      have k5' := h2 5 _ rfl
      have k6' := h2 6 _ rfl
      have k7' := h2 7 _ rfl
      simp only [Sh.size, Nat.reduceAdd, Nat.add_zero] at k0' k1' k2' k3' k4' k5' k6' k7'
      have hb5 := bounds_u32 w5
      exact ⟨⟨k0, k1, k2, k3, k4, k5, ps, ds⟩, ⟨_, _, _, _, k0', k1', k2', k3', k4', k5', k6', k7', q1, t1⟩, ⟨by dsimp only; omega, by dsimp only; omega, by dsimp only; omega, by dsimp only; omega, fun z hz => by have := bounds_u32 (t3 z hz); omega⟩⟩
    have hch : ∃ F : Nat → OpA, ∀ j, j < l.length → OpC w g (off + j * 8) (F j) ∧ (F j).ok := by
      refine ⟨fun j => if h : j < l.length then (hx j h).choose else ⟨0, 0, 0, 0, 0, 0, [], []⟩, fun j hj => ?_⟩
      simp only [hj, dif_pos]
      exact (hx j hj).choose_spec
    obtain ⟨F, hF⟩ := hch
    refine ⟨(List.range l.length).map F, ⟨_, cap, by simp, Or.inr ⟨g, off, rfl, fun j hj => ?_⟩⟩, by unfold limSaid reachBytes at h4; simp; omega, fun x hx => ?_⟩
    · have hj' : j < l.length := by simpa using hj
      simp only [List.getElem_map, List.getElem_range]
      exact (hF j hj').1
    · obtain ⟨j, hj, rfl⟩ := List.mem_map.1 hx
      exact (hF j (List.mem_range.1 hj)).2
end Go.Proofs.YtlbhhdldeaehkaaGreat
