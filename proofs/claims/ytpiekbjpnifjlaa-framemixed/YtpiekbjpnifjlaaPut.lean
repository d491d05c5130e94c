/- What Put of package word does. -/
import Derived.Test.YtpiekbjpnifjlaaWord2
namespace Go.Proofs.Ytpiekbjpnifjlaa
open Go.RowKit

/-- The row while v is being put behind bs: i of its n bytes are there. -/
def fill (bs : List UInt8) (n v i : Nat) : List UInt8 := bs ++ le i v ++ List.replicate (n - i) 0
theorem length_fill (bs : List UInt8) (n v i : Nat) (h : i ≤ n) : (fill bs n v i).length = bs.length + n := by simp [fill, length_le]; omega
theorem fill_zero (bs : List UInt8) (n v : Nat) : fill bs n v 0 = bs ++ List.replicate n 0 := by simp [fill, le]
theorem fill_all (bs : List UInt8) (n v : Nat) : fill bs n v n = bs ++ le n v := by simp [fill]
theorem fill_step (bs : List UInt8) (n v i : Nat) (h : i < n) : (fill bs n v i).set (bs.length + i) (UInt8.ofNat (v / 256 ^ i)) = fill bs n v (i + 1) := by
  have e : n - i = (n - (i + 1)) + 1 := by omega
  unfold fill
  rw [e, List.replicate_succ, List.set_append, if_neg (by simp [length_le]), le_succ]
  simp [length_le]

end Go.Proofs.Ytpiekbjpnifjlaa
