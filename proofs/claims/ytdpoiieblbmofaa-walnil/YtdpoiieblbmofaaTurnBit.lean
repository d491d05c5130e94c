/- One turned bit of a byte, and of a row of bytes in memory; nothing here speaks of the program. -/
import Derived.Test.YtdpoiieblbmofaaPlain
namespace Go.Proofs.Ytdpoiieblbmofaa
open Go.RowKit

theorem shift8 : ∀ r : Nat, r < 8 → (2 ^ r % 256 : Nat) = (UInt8.ofNat (2 ^ r)).toNat := by decide
theorem turn_bit (u : UInt8) (r : Nat) (hr : r < 8) : bits .xor .u8 (u.toNat : Int) ((2 : Int) ^ r % 256) = ((u ^^^ UInt8.ofNat (2 ^ r)).toNat : Int) := by
  have hu := u.toNat_lt
  have e : (2 : Int) ^ r % 256 = ((2 ^ r % 256 : Nat) : Int) := by rw [Int.natCast_emod, Int.natCast_pow]; rfl
  rw [e, u8_xor_nat _ _ (by omega) (by omega), UInt8.toNat_xor, ← shift8 r hr]
theorem set_cells {cur : Array Value} {l : List UInt8} {n q : Nat} {u : UInt8} (h : cur.toList.take n = l.map B) (_hq : q < n) : (cur.setIfInBounds q (B u)).toList.take n = (l.set q u).map B := by
  rw [Array.toList_setIfInBounds, List.take_set, h, List.map_set]
end Go.Proofs.Ytdpoiieblbmofaa
