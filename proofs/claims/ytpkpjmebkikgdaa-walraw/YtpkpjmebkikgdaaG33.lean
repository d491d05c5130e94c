/- Texts of ours, one behind the other: Help. -/
import Derived.Test.YtpkpjmebkikgdaaG5
import Derived.Deep.RegionHeld3
import Derived.BigQuiet
import Derived.WalkSmall
/- What the verifier's helpers do with bytes: Own (a copy with three bytes of spare room that are known), Plain and Kept (is it as it was?), Spoil (each byte is another one). -/
namespace Go.Proofs.Ytpkpjmebkikgdaa
open Go.RowKit

/-- Block g holds these bytes and three bytes f of spare room behind. -/
def Owned (w : World) (g : Nat) (bs : List UInt8) (f : UInt8) : Prop := w.heap[g]? = some (.cells ((bs ++ List.replicate 3 f).map B).toArray 5 (0, 0))

theorem Owned.lt {w : World} {g : Nat} {bs : List UInt8} {f : UInt8} (h : Owned w g bs f) : g < w.heap.size := (Array.getElem?_eq_some_iff.1 h).1
theorem Owned.below {w w' : World} {g : Nat} {bs : List UInt8} {f : UInt8} (h : Owned w g bs f) (hb : Below w.heap.size w w') : Owned w' g bs f := (hb.block g h.lt).trans h
theorem Owned.below' {B : Nat} {w w' : World} {g : Nat} {bs : List UInt8} {f : UInt8} (h : Owned w g bs f) (hb : Below B w w') (hg : g < B) : Owned w' g bs f := (hb.block g hg).trans h
theorem Owned.cell {w : World} {g : Nat} {bs : List UInt8} {f : UInt8} (h : Owned w g bs f) (j : Nat) (hj : j < bs.length) : w.cell? ⟨g, j, none⟩ = some (B bs[j]) := by
  rw [cell_of_row w g j _ _ (0, 0) h]
  simp [List.getElem?_append, hj]
theorem Owned.spare {w : World} {g : Nat} {bs : List UInt8} {f : UInt8} (h : Owned w g bs f) (j : Nat) (h1 : bs.length ≤ j) (h2 : j < bs.length + 3) : w.cell? ⟨g, j, none⟩ = some (B f) := by
  rw [cell_of_row w g j _ _ (0, 0) h]
  rw [List.getElem?_toArray, List.getElem?_map, List.getElem?_append_right h1, List.getElem?_replicate, if_pos (by omega)]
  rfl
theorem Owned.row {w : World} {g : Nat} {bs : List UInt8} {f : UInt8} (h : Owned w g bs f) (hm : bs.length + 3 ≤ maxLen) : Row w (.slice (some ⟨g, 0, none⟩) bs.length (bs.length + 3)) bs :=
  ⟨_, _, rfl, by omega, hm, by simp, Or.inr ⟨g, 0, rfl, fun j hj => by rw [Nat.zero_add]; exact h.cell j hj⟩⟩

theorem take_full {cur : Array Value} {l : List Value} {n : Nat} (hs : cur.size = n) (h : cur.toList.take n = l) : cur = l.toArray := by
  rw [List.take_of_length_le (by simp [hs])] at h
  rw [← h]
theorem own_step {cur : Array Value} {bs : List UInt8} {k : Nat} {f : UInt8} (h1 : bs.length ≤ k) (h2 : k < cur.size) (h : cur.toList.take k = (bs ++ List.replicate (k - bs.length) f).map B) :
    (cur.setIfInBounds k (B f)).toList.take (k + 1) = (bs ++ List.replicate (k + 1 - bs.length) f).map B := by
  rw [Array.toList_setIfInBounds, List.take_succ_eq_append_getElem (by simpa using h2), List.take_set, List.set_eq_of_length_le (by simp; omega), h]
  have e : k + 1 - bs.length = (k - bs.length) + 1 := by omega
  rw [e, List.replicate_succ']
  simp

end Go.Proofs.Ytpkpjmebkikgdaa
