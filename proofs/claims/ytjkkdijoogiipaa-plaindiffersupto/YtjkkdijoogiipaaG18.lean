/- Texts of ours, one behind the other: Get, Rv. -/
import Derived.Test.YtjkkdijoogiipaaG1
import Derived.Test.YtjkkdijoogiipaaG17
import Derived.Deep.RegionHeld3
/- What Get of package word does. -/
namespace Go.Proofs.Ytjkkdijoogiipaa
open Go.RowKit

theorem num_take_succ (bs : List UInt8) (i : Nat) (h : i < bs.length) : num (bs.take (i + 1)) = num (bs.take i) + bs[i].toNat * 256 ^ i := by
  rw [List.take_succ_eq_append_getElem h, num_append]
  have hl : (bs.take i).length = i := by simp; omega
  rw [hl]
  simp [num, Nat.mul_comm]
theorem num_take_lt (bs : List UInt8) (i : Nat) (h : i ≤ bs.length) : num (bs.take i) < 256 ^ i := by
  have hl : (bs.take i).length = i := by simp; omega
  have := num_lt (bs.take i)
  rwa [hl] at this

theorem cut_cells {w : World} {bs : List UInt8} {b off a n : Nat} (hc : ∀ j (h : j < bs.length), w.cell? ⟨b, off + j, none⟩ = some (B bs[j])) (o1 o2 : Obj) :
    ∀ j (h : j < ((bs.drop a).take n).length), ((w.alloc o1).alloc o2).drew.cell? ⟨b, off + a + j, none⟩ = some (B ((bs.drop a).take n)[j]) := by
  intro j hj
  have hj' : a + j < bs.length := by simp at hj; omega
  have h0 := hc (a + j) hj'
  have hlt : b < w.heap.size := World.block_lt_of_cell? w _ h0
  show ((w.alloc o1).alloc o2).cell? ⟨b, off + a + j, none⟩ = _
  rw [World.cell?_alloc_past _ _ _ (by simp; omega), World.cell?_alloc_past _ _ _ hlt, Nat.add_assoc, h0]
  simp

end Go.Proofs.Ytjkkdijoogiipaa

/- What ReadVar of package word does. -/
namespace Go.Proofs.Ytjkkdijoogiipaa
open Go.RowKit

theorem one_set {w : World} {g e : Nat} {u : Value} (h : w.heap[g]? = some (.cells #[u] e (0, 0))) (v : Value) : (w.setCell ⟨g, 0, none⟩ v).heap[g]? = some (.cells #[v] e (0, 0)) :=
  heap_setCell_same w g 0 _ _ v h
theorem other_set {w : World} {g k : Nat} {o : Option Obj} (h : w.heap[k]? = o) (v : Value) (hne : k ≠ g) : (w.setCell ⟨g, 0, none⟩ v).heap[k]? = o :=
  (Below.heap_setCell _ _ _ _ hne).trans h

/-- Where the walk of ReadVar has come to the byte at place i. -/
structure RvAt (w : World) (N be bv bn bx a : Nat) (fv : Value) (xs : List UInt8) (i : Nat) (wr : World) : Prop where
  ile : i ≤ 9
  ce : wr.heap[be]? = some (.cells #[.int .i64 10] 36 (0, 0))
  cn : wr.heap[bn]? = some (.cells #[.int .i64 ((a + i : Nat) : Int)] 3 (0, 0))
  oth : ∀ k, k < w.heap.size → k ≠ be → k ≠ bv → k ≠ bn → wr.heap[k]? = w.heap[k]?
  bel : Below N w wr

/-- Where it ends. -/
structure RvEnd (w : World) (N be bv bn a : Nat) (xs : List UInt8) (wr : World) : Prop where
  ce : wr.heap[be]? = some (.cells #[.int .i64 ((rvF 0 0 xs).1 : Nat)] 36 (0, 0))
  cn : (rvF 0 0 xs).1 = 0 → wr.heap[bn]? = some (.cells #[.int .i64 ((a + (rvF 0 0 xs).2.2 : Nat) : Int)] 3 (0, 0))
  oth : ∀ k, k < w.heap.size → k ≠ be → k ≠ bv → k ≠ bn → wr.heap[k]? = w.heap[k]?
  bel : Below N w wr

end Go.Proofs.Ytjkkdijoogiipaa
