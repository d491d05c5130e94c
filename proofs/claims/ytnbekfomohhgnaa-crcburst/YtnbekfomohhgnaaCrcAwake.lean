/- That 'awake' answers true. -/
import Derived.Test.YtnbekfomohhgnaaCrcOwn2
import Derived.Lib.SlBytesConst
namespace Go.Proofs.Ytnbekfomohhgnaa
open Go.RowKit

theorem sum_digits : more 0 [49, 50, 51, 52, 53, 54, 55, 56, 57] = 3808858755 := by decide +kernel
theorem sum_none : more 0 [] = 0 := by decide +kernel

theorem digits_row (w : World) (fr : Nat × Nat) : Row (w.alloc (.cells #[.int .u8 49, .int .u8 50, .int .u8 51, .int .u8 52, .int .u8 53, .int .u8 54, .int .u8 55, .int .u8 56, .int .u8 57] 5 fr)) (.slice (some ⟨w.heap.size, 0, none⟩) 9 9) [49, 50, 51, 52, 53, 54, 55, 56, 57] := by
  refine ⟨_, 9, rfl, by simp, by unfold maxLen; omega, by simp, Or.inr ⟨_, 0, rfl, fun j hj => ?_⟩⟩
  rw [Nat.zero_add]
  have hj' : j < 9 := by simpa using hj
  rw [cell_of_row _ _ j _ _ fr (heap_alloc_new _ _)]
  match j, hj' with
  | 0, _ | 1, _ | 2, _ | 3, _ | 4, _ | 5, _ | 6, _ | 7, _ | 8, _ => rfl

theorem awake_any (w : World) : Calls Try.prog 10 #[] w fun e w' => e = .returned (.bool true) ∧ Below w.heap.size w w' := by
  have hcv := Lib.run_convert_bytes_const (P := Try.prog) w 22 5 #[.int .u8 49, .int .u8 50, .int .u8 51, .int .u8 52, .int .u8 53, .int .u8 54, .int .u8 55, .int .u8 56, .int .u8 57] 9 9 Try.underlying22 Try.underlying5
  go_enter Try.func10, Try.ntmps10
  go_wp2_with fail
  refine (sum_any _ _ _ (digits_row w _) (by simp)).mono ?_
  rintro e w1 ⟨rfl, hb1⟩
  rw [sum_digits]
  have B1 : Below w.heap.size w w1 := ((Below.refl _ _).alloc (Nat.le_refl _) _).trans (hb1.mono (by simp))
  clear hcv hb1
  go_wp2_with fail
  refine (sum_any _ [] _ (Row.nil _) (by simp)).mono ?_
  rintro e w2 ⟨rfl, hb2⟩
  rw [sum_none]
  go_wp2
  go_ret
  exact ⟨rfl, B1.trans (hb2.mono B1.size)⟩
end Go.Proofs.Ytnbekfomohhgnaa
