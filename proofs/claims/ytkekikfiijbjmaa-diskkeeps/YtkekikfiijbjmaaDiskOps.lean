/- A script of calls that came in, as layer 4's statements are handed it. -/
import Derived.Test.YtkekikfiijbjmaaShape
import Derived.Test.YtkekikfiijbjmaaDiskOpD
namespace Go.Proofs.Ytkekikfiijbjmaa
open Go.RowKit

instance : Inhabited OpD := ⟨⟨0, 0, 0, 0, false, []⟩⟩

/-- The shape of a script. -/
def opSh : Sh := .struct (.cons (.int .i64) (.cons (.int .i64) (.cons (.int .i64) (.cons (.int .u8) (.cons .bool (.cons (.row 1 .bool) .nil))))))
def opsSh : Sh := .row 56 opSh
def boolsSh : Sh := .row 1 .bool

/-- A slice value that reads as this script. -/
def Ops (w : World) (s : Value) (l : List OpD) : Prop :=
  ∃ (a : Option Addr) (cap : Nat), s = .slice a l.length cap ∧ l.length ≤ cap ∧ cap ≤ maxLen ∧
    (l = [] ∨ ∃ b off, a = some ⟨b, off, none⟩ ∧ ∀ j (h : j < l.length), ∃ kv, w.cell? ⟨b, off + j * 6, none⟩ = some (.int .i64 l[j].kind) ∧ w.cell? ⟨b, off + j * 6 + 1, none⟩ = some (.int .i64 l[j].at_) ∧ w.cell? ⟨b, off + j * 6 + 2, none⟩ = some (.int .i64 l[j].n) ∧
      w.cell? ⟨b, off + j * 6 + 3, none⟩ = some (.int .u8 (l[j].v.toNat : Int)) ∧ w.cell? ⟨b, off + j * 6 + 4, none⟩ = some (.bool l[j].short) ∧ w.cell? ⟨b, off + j * 6 + 5, none⟩ = some kv ∧ BRow w kv l[j].keep ∧ l[j].keep.length ≤ 140737488351232 ∧ l[j].n ≤ 9223372036854775807)

theorem brow_of_reads {lim : Nat → Nat → Prop} {w : World} {v : Value} {d : Dt} (hlim : ∀ n, lim n 1 → n ≤ 140737488351232) (h : Reads lim w boolsSh [v] d) : ∃ bs : List Bool, BRow w v bs ∧ bs.length ≤ 140737488351232 := by
  obtain ⟨a, cap, l, h1, h2, h3, h4, h5, h6, h7⟩ := h
  simp only [List.cons.injEq, and_true] at h1
  have hb : ∀ j (hj : j < l.length), ∃ b : Bool, ∀ q off, a = some ⟨q, off, none⟩ → w.cell? ⟨q, off + j, none⟩ = some (.bool b) := by
    intro j hj
    rcases h7 with rfl | ⟨b, off, ha, hc⟩
    · cases hj
    · obtain ⟨cs, e1, e2, x, e3, _⟩ := hc j hj
      refine ⟨x, fun q off' ha' => ?_⟩
      rw [ha] at ha'
      cases ha'
      have := e2 0 (.bool x) (by rw [e3]; rfl)
      simpa [Sh.size] using this
  obtain ⟨f, hf⟩ := Go.Deep.choose_lt hb
  have hlen : (((List.range l.length).map f)).length = l.length := by simp
  refine ⟨(List.range l.length).map f, ⟨a, cap, by rw [List.length_map, hlen]; exact h1, by rw [List.length_map, hlen]; exact h3, h4, h5, ?_⟩, by rw [hlen]; exact hlim _ h6⟩
  by_cases h0 : l = []
  · left; subst h0; rfl
  · right
    rcases h7 with h7 | ⟨b, off, ha, hc⟩
    · exact absurd h7 h0
    · refine ⟨b, off, ha, fun j v hv => ?_⟩
      rw [List.getElem?_map, List.getElem?_map] at hv
      obtain ⟨x, hx, rfl⟩ := Option.map_eq_some_iff.1 hv
      obtain ⟨y, hy, rfl⟩ := Option.map_eq_some_iff.1 hx
      obtain ⟨hj, rfl⟩ := List.getElem?_eq_some_iff.1 hy
      have hj' : j < l.length := by simpa using hj
      rw [List.getElem_range]
      exact hf j hj' b off ha

theorem ops_of_reads {lim : Nat → Nat → Prop} {w : World} {v : Value} {d : Dt} (hlim : ∀ n, lim n 1 → n ≤ 140737488351232) (h : Reads lim w opsSh [v] d) : ∃ l : List OpD, Ops w v l := by
  obtain ⟨a, cap, l, h1, h2, h3, h4, h5, h6, h7⟩ := h
  simp only [List.cons.injEq, and_true] at h1
  have hb : ∀ j (hj : j < l.length), ∃ o : OpD, ∀ b off, a = some ⟨b, off, none⟩ → ∃ kv, w.cell? ⟨b, off + j * 6, none⟩ = some (.int .i64 o.kind) ∧ w.cell? ⟨b, off + j * 6 + 1, none⟩ = some (.int .i64 o.at_) ∧ w.cell? ⟨b, off + j * 6 + 2, none⟩ = some (.int .i64 o.n) ∧
      w.cell? ⟨b, off + j * 6 + 3, none⟩ = some (.int .u8 (o.v.toNat : Int)) ∧ w.cell? ⟨b, off + j * 6 + 4, none⟩ = some (.bool o.short) ∧ w.cell? ⟨b, off + j * 6 + 5, none⟩ = some kv ∧ BRow w kv o.keep ∧ o.keep.length ≤ 140737488351232 ∧ o.n ≤ 9223372036854775807 := by
    intro j hj
    rcases h7 with rfl | ⟨b, off, ha, hc⟩
    · cases hj
    · obtain ⟨cs, e1, e2, c1, r1, d1, t1, q1, _, _, ⟨n1, rfl, _, _⟩, c2, r2, d2, t2, rfl, _, _, ⟨n2, rfl, _, _⟩, c3, r3, d3, t3, rfl, _, _, ⟨n3, rfl, w3, _⟩, c4, r4, d4, t4, rfl, _, _, ⟨n4, rfl, w4, _⟩, c5, r5, d5, t5, rfl, _, _, ⟨n5, rfl, _⟩, c6, r6, d6, t6, rfl, _, _, hk, rfl, _⟩ := hc j hj
      have hk' := hk
      obtain ⟨ka, kc, kl, k1, _⟩ := hk
      subst k1
      obtain ⟨bs, hbs, hbl⟩ := brow_of_reads hlim hk'
      have hb4 := bounds_u8 w4
      have hb3 := bounds_i64 w3
      have hs6 : opSh.size = 6 := rfl
      rw [hs6] at e2
      refine ⟨⟨n1, n2, n3, UInt8.ofNat n4.toNat, n5, bs⟩, fun b' off' ha' => ?_⟩
      rw [ha] at ha'
      cases ha'
      subst q1
      refine ⟨_, ?_, ?_, ?_, ?_, ?_, ?_, hbs, hbl, hb3.2⟩
      · exact e2 0 _ rfl
      · exact e2 1 _ rfl
      · exact e2 2 _ rfl
      · have := e2 3 _ rfl
        rw [this]
        simp
        omega
      · exact e2 4 _ rfl
      · exact e2 5 _ rfl
  obtain ⟨f, hf⟩ := Go.Deep.choose_lt hb
  have hlen : (((List.range l.length).map f)).length = l.length := by simp
  refine ⟨(List.range l.length).map f, a, cap, by rw [hlen]; exact h1, by rw [hlen]; exact h3, h4, ?_⟩
  by_cases h0 : l = []
  · left; subst h0; rfl
  · right
    rcases h7 with h7 | ⟨b, off, ha, hc⟩
    · exact absurd h7 h0
    · refine ⟨b, off, ha, fun j hj => ?_⟩
      have hj' : j < l.length := by simpa using hj
      have := hf j hj' b off ha
      simpa using this

/-- One call of a script, where memory below is kept. -/
theorem Ops.at {w : World} {s : Value} {l : List OpD} (h : Ops w s l) (j : Nat) (hj : j < l.length) :
    ∃ b off cap kv, s = .slice (some ⟨b, off, none⟩) l.length cap ∧ b < w.heap.size ∧ l.length ≤ cap ∧ (∀ k o n c, kv = .slice (some ⟨k, o, none⟩) n c → 0 < n → k < w.heap.size) ∧ l[j].keep.length ≤ 140737488351232 ∧ l[j].n ≤ 9223372036854775807 ∧ ∀ w', Below w.heap.size w w' →
      w'.cell? ⟨b, off + j * 6, none⟩ = some (.int .i64 l[j].kind) ∧ w'.cell? ⟨b, off + j * 6 + 1, none⟩ = some (.int .i64 l[j].at_) ∧ w'.cell? ⟨b, off + j * 6 + 2, none⟩ = some (.int .i64 l[j].n) ∧
      w'.cell? ⟨b, off + j * 6 + 3, none⟩ = some (.int .u8 (l[j].v.toNat : Int)) ∧ w'.cell? ⟨b, off + j * 6 + 4, none⟩ = some (.bool l[j].short) ∧ w'.cell? ⟨b, off + j * 6 + 5, none⟩ = some kv ∧ BRow w' kv l[j].keep := by
  obtain ⟨a, cap, hs, h1, h2, h3⟩ := h
  rcases h3 with h3 | ⟨b, off, ha, hc⟩
  · subst h3; cases hj
  · obtain ⟨kv, q0, q1, q2, q3, q4, q5, qb, ql, qn⟩ := hc j hj
    subst ha
    have hbl := World.block_lt_of_cell? w _ q0
    have hbl' : b < w.heap.size := hbl
    refine ⟨b, off, cap, kv, hs, hbl', h1, fun k o n c e hn => ?_, ql, qn, fun w' hb => ⟨?_, ?_, ?_, ?_, ?_, ?_, qb.below hb⟩⟩
    · subst e
      obtain ⟨p', c', e', _, _⟩ := qb.shape
      simp only [Value.slice.injEq] at e'
      obtain ⟨b', o', c'', e'', _, hcell⟩ := qb.at 0 (by omega)
      simp only [Value.slice.injEq, Option.some.injEq, Addr.mk.injEq] at e''
      obtain ⟨⟨rfl, _⟩, _⟩ := e''
      exact World.block_lt_of_cell? w _ hcell
    all_goals first | exact (hb.cell (p := ⟨b, _, none⟩) hbl').trans q0 | exact (hb.cell (p := ⟨b, _, none⟩) hbl').trans q1 | exact (hb.cell (p := ⟨b, _, none⟩) hbl').trans q2 | exact (hb.cell (p := ⟨b, _, none⟩) hbl').trans q3 | exact (hb.cell (p := ⟨b, _, none⟩) hbl').trans q4 | exact (hb.cell (p := ⟨b, _, none⟩) hbl').trans q5
theorem Ops.shape {w : World} {s : Value} {l : List OpD} (h : Ops w s l) : ∃ a cap, s = .slice a l.length cap ∧ l.length ≤ cap ∧ cap ≤ maxLen := by
  obtain ⟨a, cap, hs, h1, h2, h3⟩ := h
  exact ⟨a, cap, hs, h1, h2⟩
end Go.Proofs.Ytkekikfiijbjmaa
