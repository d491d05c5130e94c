/- Texts of ours, one behind the other: WalOwn5. -/
import Derived.Test.YtpkpjmebkikgdaaG22
import Derived.Deep.RegionLaw
import Derived.Deep.MidRow
import Derived.Lib.SliceRun
/- The landed package wal: Free: where a turn stands among the records' beginnings, and the records ahead of it taken away. -/
namespace Go.Proofs.Ytpkpjmebkikgdaa
open Go.RowKit

def cmpN (a b : Nat) : Int := if a < b then -1 else if b < a then 1 else 0

/-- The two cells of each beginning. -/
def StAt (w : World) (q : Option Addr) (st : List (Nat × Nat)) : Prop := ∀ j (h : j < st.length), ∃ k off, q = some ⟨k, off, none⟩ ∧ w.cell? ⟨k, off + j * 2, none⟩ = some (.int .u64 (st[j].1 : Int)) ∧ w.cell? ⟨k, off + j * 2 + 1, none⟩ = some (.int .u64 (st[j].2 : Int))
theorem StAt.below {w w' : World} {q : Option Addr} {st : List (Nat × Nat)} (h : StAt w q st) (hb : Below w.heap.size w w') : StAt w' q st := fun j hj => by
  obtain ⟨k, off, e, h1, h2⟩ := h j hj
  exact ⟨k, off, e, (hb.cell (World.block_lt_of_cell? w _ h1)).trans h1, (hb.cell (World.block_lt_of_cell? w _ h2)).trans h2⟩
theorem stAt_of {w : World} {base e : Nat} {q : Option Addr} {n c : Nat} {st : List (Nat × Nat)} (h : w.ownsRow base e 2 (.slice q n c) st.length (startsC st)) : StAt w q st := fun j hj => by
  rcases h.2 with ⟨_, h5⟩ | ⟨k, cap, cur, hv, _⟩
  · omega
  · simp only [Value.slice.injEq] at hv
    obtain ⟨rfl, rfl, rfl⟩ := hv
    have h1 := h.cells (g := k) rfl (j * 2 + 0) _ (startsC_get st j hj 0 (by omega))
    have h2 := h.cells (g := k) rfl (j * 2 + 1) _ (startsC_get st j hj 1 (by omega))
    rw [Addr.add_lit] at h1 h2
    exact ⟨k, 0, rfl, by simpa [startC] using h1, by simpa [startC, Nat.add_assoc] using h2⟩

/-- Where 'to' stands. -/
def Lands (st : List (Nat × Nat)) (to i : Nat) : Prop := i ≤ st.length ∧ (∀ j (h : j < st.length), j < i → st[j].1 < to) ∧ ∀ j (h : j < st.length), i ≤ j → to ≤ st[j].1

end Go.Proofs.Ytpkpjmebkikgdaa
