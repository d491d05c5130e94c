/- What Get of package word does. -/
import Derived.Test.YtpiekbjpnifjlaaPut
import Derived.Deep.RegionHeld3
namespace Go.Proofs.Ytpiekbjpnifjlaa
open Go.RowKit

theorem num_take_succ (bs : List UInt8) (i : Nat) (h : i < bs.length) : num (bs.take (i + 1)) = num (bs.take i) + bs[i].toNat * 256 ^ i := by
  rw [List.take_succ_eq_append_getElem h, num_append]
  have hl : (bs.take i).length = i := by simp; omega
  rw [hl]
  simp [num, Nat.mul_comm]
theorem num_take_lt (bs : List UInt8) (i : Nat) (h : i ≤ bs.length) : num (bs.take i) < 256 ^ i := by
  have hl : (bs.take i).length = i := by simp; omega
  have := num_lt (bs.take i)
  rwa [hl] at this

theorem cut_cells {w : World} {bs : List UInt8} {b off a n : Nat} (hc : ∀ j (h : j < bs.length), w.cell? ⟨b, off + j, none⟩ = some (B bs[j])) (o1 o2 : Obj) :
    ∀ j (h : j < ((bs.drop a).take n).length), ((w.alloc o1).alloc o2).drew.cell? ⟨b, off + a + j, none⟩ = some (B ((bs.drop a).take n)[j]) := by
  intro j hj
  have hj' : a + j < bs.length := by simp at hj; omega
  have h0 := hc (a + j) hj'
  have hlt : b < w.heap.size := World.block_lt_of_cell? w _ h0
  show ((w.alloc o1).alloc o2).cell? ⟨b, off + a + j, none⟩ = _
  rw [World.cell?_alloc_past _ _ _ (by simp; omega), World.cell?_alloc_past _ _ _ hlt, Nat.add_assoc, h0]
  simp

end Go.Proofs.Ytpiekbjpnifjlaa
