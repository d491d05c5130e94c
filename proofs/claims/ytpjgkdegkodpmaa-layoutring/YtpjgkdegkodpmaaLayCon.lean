/- What the statements of layer 5 ask of package layout, as contracts; and 'awake' by them. -/
import Derived.Test.YtpjgkdegkodpmaaBase
import Derived.Test.YtpjgkdegkodpmaaLayPlain
namespace Go.Proofs.Ytpjgkdegkodpmaa
open Go.RowKit

/-- An int. -/
def I64 (a : Int) : Prop := -9223372036854775808 ≤ a ∧ a ≤ 9223372036854775807
theorem i64_of_wf {a : Int} (h : (Lit.int .i64 a).wf = true) : I64 a := by
  simp [Lit.wf, IntKind.min, IntKind.max, IntKind.signed, IntKind.bits] at h
  exact ⟨h.1, by omega⟩

structure LayC : Prop where
  plan : ∀ (n : Int) w, I64 n → Calls Try.prog 7 #[.int .i64 n] w fun e w' => e = .returned (.tuple #[planV n, .int .i64 (planE n)]) ∧ Below w.heap.size w w'
  region : ∀ (n a : Int) w, Fits n → I64 a → Calls Try.prog 14 #[layV n, .int .i64 a] w fun e w' => e = .returned (.int .i64 (regN n a)) ∧ Below w.heap.size w w'
  segment : ∀ (n a : Int) w, Fits n → I64 a → Calls Try.prog 16 #[layV n, .int .i64 a] w fun e w' => e = .returned (.int .i64 (segN n a)) ∧ Below w.heap.size w w'
  capacity : ∀ (n : Int) w, Fits n → Calls Try.prog 18 #[layV n] w fun e w' => e = .returned (.int .i64 (capN n)) ∧ Below w.heap.size w w'
  phys : ∀ (n a : Int) w, Fits n → I64 a → Calls Try.prog 10 #[layV n, .int .i64 a] w fun e w' => e = .returned (.tuple #[.int .i64 (physN n a), .bool (physB n a)]) ∧ Below w.heap.size w w'
  logic : ∀ (n a : Int) w, Fits n → I64 a → Calls Try.prog 12 #[layV n, .int .i64 a] w fun e w' => e = .returned (.tuple #[.int .i64 (logicN n a), .bool (logicB n a)]) ∧ Below w.heap.size w w'
  logAt : ∀ (n : Int) (t : Nat) w, Fits n → t < 18446744073709551616 → Calls Try.prog 20 #[layV n, .int .u64 (t : Int)] w fun e w' => e = .returned (.int .i64 (logN n t)) ∧ Below w.heap.size w w'

theorem fits256 : Fits 256 := by unfold Fits; omega
theorem plan_fits {n : Int} (h : Fits n) : planV n = layV n ∧ planE n = 0 := by unfold planV planE; rw [if_pos h, if_pos h]; exact ⟨rfl, rfl⟩
theorem plan_not {n : Int} (h : ¬ Fits n) : planV n = layZ ∧ planE n = 1 := by unfold planV planE; rw [if_neg h, if_neg h]; exact ⟨rfl, rfl⟩

theorem lawake_any (C : LayC) (w : World) : Calls Try.prog 9 #[] w fun e w' => e = .returned (.bool true) ∧ Below w.heap.size w w' := by
  have HP := hide (C.plan 256 w ⟨by omega, by omega⟩)
  rw [(plan_fits fits256).1, (plan_fits fits256).2] at HP
  have HC := hide (fun w' => C.capacity 256 w' fits256)
  rw [show capN 256 = 124 by unfold capN lseg lz; omega] at HC
  unfold layV at HP HC
  rw [show 13 + 3 * lz 256 = 103 by unfold lz; omega] at HP HC
  generalize lz 256 = z at *
  generalize lseg 256 = m at *
  go_enter Try.func9, Try.ntmps9
  go_wp2_with fail
  refine Calls.mono (unhide HP) ?_
  rintro e w1 ⟨rfl, hb1⟩
  go_wp2_with fail
  refine Calls.mono (unhide HC _) ?_
  rintro e w2 ⟨rfl, hb2⟩
  go_wp2
  go_ret
  exact ⟨rfl, (hb1.trans (((Below.refl _ _).alloc (Nat.le_refl _) _).mono hb1.size)).trans (hb2.mono (by simp; have := hb1.size; omega))⟩
end Go.Proofs.Ytpjgkdegkodpmaa
