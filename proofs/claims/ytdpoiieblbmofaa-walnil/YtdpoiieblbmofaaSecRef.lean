/- What the reference of package sector does: Known, number, Seal. -/
import Derived.Test.YtdpoiieblbmofaaCrcRef
import Derived.Test.YtdpoiieblbmofaaSecPlain
import Derived.Deep.LoopGhost
namespace Go.Proofs.Ytdpoiieblbmofaa
open Go.RowKit

theorem byte_test (k : UInt8) (n : Nat) (hn : n < 256) : ((k.toNat : Int) == (n : Int)) = (k == UInt8.ofNat n) := by
  rw [Bool.eq_iff_iff]
  simp only [beq_iff_eq]
  constructor
  · intro h
    apply UInt8.toNat_inj.1
    simp
    omega
  · intro h
    rw [h]
    simp
    omega

theorem known_int (k : UInt8) : knownB k = ((k.toNat : Int) == 23 || (k.toNat : Int) == 43 || (k.toNat : Int) == 77 || (k.toNat : Int) == 142 || (k.toNat : Int) == 113 || (k.toNat : Int) == 178) := by
  have t1 := byte_test k 23 (by omega)
  have t2 := byte_test k 43 (by omega)
  have t3 := byte_test k 77 (by omega)
  have t4 := byte_test k 142 (by omega)
  have t5 := byte_test k 113 (by omega)
  have t6 := byte_test k 178 (by omega)
  simp only [Int.cast_ofNat_Int] at t1 t2 t3 t4 t5 t6
  rw [t1, t2, t3, t4, t5, t6]
  rfl

set_option maxRecDepth 20000 in
theorem rknown_any (k : UInt8) (w : World) : Calls Try.prog 69 #[.int .u8 (k.toNat : Int)] w fun e w' => e = .returned (.bool (knownB k)) ∧ w' = w := by
  have HK := hide (known_int k)
  generalize knownB k = r at *
  generalize (k.toNat : Int) = z at *
  go_enter Try.func69, Try.ntmps69
  go_wp2
  all_goals (go_ret; exact ⟨by rw [unhide HK]; simp [*], rfl⟩)

theorem one_row (w : World) (z : Int) (u : UInt8) (h : z = (u.toNat : Int)) : Row (w.alloc (.cells #[.int .u8 z] 5)) (.slice (some ⟨w.heap.size, 0, none⟩) 1 1) [u] := by
  refine ⟨_, 1, rfl, by simp, by unfold maxLen; omega, by simp, Or.inr ⟨_, 0, rfl, fun j hj => ?_⟩⟩
  have hj' : j < 1 := by simpa using hj
  rw [Nat.zero_add, cell_of_row _ _ j _ _ (0, 0) (heap_alloc_new _ _)]
  match j, hj' with
  | 0, _ => rw [h]; rfl

theorem two_owns (w : World) (z : Int) (k : UInt8) (h : z = (k.toNat : Int)) : (w.alloc (.cells #[.int .u8 z, .int .u8 0] 5)).ownsRow w.heap.size 5 1 (.slice (some ⟨w.heap.size, 0, none⟩) 2 2) [k, 0].length ([k, 0].map B) := by
  refine owns_of_block (bs := [k, 0]) ?_ (Nat.le_refl _) (by unfold maxLen; simp)
  rw [heap_alloc_new, h]
  rfl
theorem zero_row (w : World) : Row (w.alloc (.cells #[.int .u8 0] 5)) (.slice (some ⟨w.heap.size, 0, none⟩) 1 1) [0] := one_row w 0 0 rfl

end Go.Proofs.Ytdpoiieblbmofaa
