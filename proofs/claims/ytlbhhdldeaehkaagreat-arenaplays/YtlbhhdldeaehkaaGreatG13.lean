/- Texts of ours, one behind the other: MapHeld. -/
import Derived.Test.YtlbhhdldeaehkaaGreatG1
import Derived.Maps.OwnSet
import Derived.Maps.Views
/- A map of the call's own with ints as keys, its elements as they stand; nothing here speaks of the program. -/
namespace Go.Proofs.YtlbhhdldeaehkaaGreat
open Go.RowKit

/-- An element stands for itself. -/
def heldR (v : Value) : Option (DataW Value × List MemPlace) := some (.held v, [])

/-- Block b is a map of at most n entries that has for the key k what f says. -/
def MapIs (P : Program) (k : TypeId) (w : World) (b n : Nat) (f : Int → Option Value) : Prop :=
  ∃ D : DataW Value, w.ownsMap P k heldR b n D ∧ Maps.IsMap D ∧ ∀ a : Int, Maps.has D (.int .i64 a) = (f a).isSome ∧ ∀ z, D.atKey (.int .i64 a) (.held z) = .held ((f a).getD z)

theorem MapIs.made (P : Program) (k : TypeId) (w : World) : MapIs P k (w.alloc (.map #[] 0)) w.heap.size 0 (fun _ => none) :=
  ⟨.map [], World.ownsMap_made w P k heldR, ⟨[], rfl⟩, fun _ => ⟨rfl, fun _ => rfl⟩⟩
theorem MapIs.mono {P : Program} {k : TypeId} {w : World} {b n n' : Nat} {f : Int → Option Value} (h : MapIs P k w b n f) (hn : n ≤ n') : MapIs P k w b n' f := by
  obtain ⟨D, h1, h2⟩ := h
  exact ⟨D, h1.mono hn, h2⟩
theorem MapIs.lt {P : Program} {k : TypeId} {w : World} {b n : Nat} {f : Int → Option Value} (h : MapIs P k w b n f) : b < w.heap.size := by
  obtain ⟨D, h1, h2⟩ := h
  exact h1.lt
theorem MapIs.stays {P : Program} {k : TypeId} {w w' : World} {b n : Nat} {f : Int → Option Value} (h : MapIs P k w b n f) (hb : w'.heap[b]? = w.heap[b]?) : MapIs P k w' b n f := by
  obtain ⟨D, ⟨es, clock, h1, h2⟩, h3⟩ := h
  exact ⟨D, ⟨es, clock, hb.trans h1, h2⟩, h3⟩

theorem MapIs.look {P : Program} {k t e : TypeId} {w : World} {b n : Nat} {f : Int → Option Value} (h : MapIs P k w b n f) (hk : P.underlying k = some (.int .i64)) (ht : P.underlying t = some (.map k e)) {z : Value} (hz : (zeroValue e).run P w = .ok z w)
    (a : Int) (ha : (Lit.int .i64 a).wf = true) : (Instr.lookup t (.map (some b)) (.int .i64 a) true).run P w = .ok (.tuple #[(f a).getD z, .bool (f a).isSome]) w := by
  obtain ⟨D, h1, h2, h3⟩ := h
  obtain ⟨v, ps, hr, hv⟩ := h1.look_ok (Maps.int_keyed hk) ht hz (zd := .held z) (zp := []) rfl (key := .int .i64 a) (kl := .int .i64 a) (by simp [keyOf, mapKey, hk, ha])
  rw [(h3 a).2 z] at hv
  simp only [heldR, Option.some.injEq, Prod.mk.injEq, DataW.held.injEq] at hv
  rw [hr, (h3 a).1, hv.1]

theorem MapIs.put {P : Program} {k t e : TypeId} {w : World} {b n : Nat} {f : Int → Option Value} (h : MapIs P k w b n f) (hk : P.underlying k = some (.int .i64)) (ht : P.underlying t = some (.map k e)) (hn : n < maxLen)
    (a : Int) (ha : (Lit.int .i64 a).wf = true) (v : Value) : ∃ w', (Instr.mapUpdate t (.map (some b)) (.int .i64 a) v).run P w = .ok () w' ∧ MapIs P k w' b (n + 1) (fun x => if x = a then some v else f x) ∧ w.grownBy w' (some b) := by
  obtain ⟨D, h1, h2, h3⟩ := h
  obtain ⟨w', hr, ho, hg⟩ := h1.update (Maps.int_keyed hk) ht hn (key := .int .i64 a) (kl := .int .i64 a) (val := v) (d := .held v) (ps := []) (by simp [keyOf, mapKey, hk, ha]) rfl
  refine ⟨w', hr, ⟨_, ho, ?_, fun x => ?_⟩, hg⟩
  · obtain ⟨es, rfl⟩ := h2
    exact ⟨_, rfl⟩
  · by_cases hx : x = a
    · subst hx
      dsimp only
      rw [if_pos rfl]
      exact ⟨Maps.has_put_same h2 (by trivial) _, fun z => Maps.atKey_put_same h2 (by trivial) _ _⟩
    · dsimp only
      rw [if_neg hx]
      have hne : Lit.int .i64 x ≠ Lit.int .i64 a := by intro e; cases e; exact hx rfl
      refine ⟨(Maps.has_put_other hne _).trans (h3 x).1, fun z => (Maps.atKey_put_other hne _ _).trans ((h3 x).2 z)⟩
end Go.Proofs.YtlbhhdldeaehkaaGreat
