/- Texts of ours, one behind the other: KThings. -/
import Derived.Test.YtegefnchkgkmgaaG4
/- Rows of things of some cells each, as they are filled; nothing here speaks of the program. -/
namespace Go.Proofs.Ytegefnchkgkmgaa
open Go.RowKit

theorem setk_take {L pre : List Value} {n : Nat} (a : Value) (h : L.take n = pre) (hn : n < L.length) : (L.set n a).take (n + 1) = pre ++ [a] := by
  rw [List.take_succ_eq_append_getElem (by simpa using hn), List.take_set, List.set_eq_of_length_le (by simp; omega), h]
  simp
theorem alloc_newk (w : World) (o : Obj) : (w.alloc o).heap[w.heap.size]? = some o := by show (w.heap.push o)[w.heap.size]? = some o; simp
end Go.Proofs.Ytegefnchkgkmgaa
