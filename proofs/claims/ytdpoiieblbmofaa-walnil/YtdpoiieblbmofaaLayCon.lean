/- What the statements of layer 5 ask of package layout, as contracts; and 'awake' by them. -/
import Derived.Test.YtdpoiieblbmofaaBase
import Derived.Test.YtdpoiieblbmofaaLayPlain
namespace Go.Proofs.Ytdpoiieblbmofaa
open Go.RowKit

/-- An int. -/
def I64 (a : Int) : Prop := -9223372036854775808 ≤ a ∧ a ≤ 9223372036854775807
theorem i64_of_wf {a : Int} (h : (Lit.int .i64 a).wf = true) : I64 a := by
  simp [Lit.wf, IntKind.min, IntKind.max, IntKind.signed, IntKind.bits] at h
  exact ⟨h.1, by omega⟩

structure LayC : Prop where
  plan : ∀ (n : Int) w, I64 n → Calls Try.prog 40 #[.int .i64 n] w fun e w' => e = .returned (.tuple #[planV n, .int .i64 (planE n)]) ∧ Below w.heap.size w w'
  logAt : ∀ (n : Int) (t : Nat) w, Fits n → t < 18446744073709551616 → Calls Try.prog 80 #[layV n, .int .u64 (t : Int)] w fun e w' => e = .returned (.int .i64 (logN n t)) ∧ Below w.heap.size w w'

theorem fits256 : Fits 256 := by unfold Fits; omega
theorem plan_fits {n : Int} (h : Fits n) : planV n = layV n ∧ planE n = 0 := by unfold planV planE; rw [if_pos h, if_pos h]; exact ⟨rfl, rfl⟩
theorem plan_not {n : Int} (h : ¬ Fits n) : planV n = layZ ∧ planE n = 1 := by unfold planV planE; rw [if_neg h, if_neg h]; exact ⟨rfl, rfl⟩
end Go.Proofs.Ytdpoiieblbmofaa
