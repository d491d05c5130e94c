/- The walk of the law KeysNext, of the landed package keys. -/
import Derived.Test.YtalhhiipgindfaaG2
namespace Go.Proofs.Ytalhhiipgindfaa
open Go.RowKit

set_option maxHeartbeats 1000000 in
theorem walk_KeysNext (a0 : ByteArray) (a1 : ByteArray) (w : World) (h0 : a0.size ≤ 140737488351232) (_h1 : a1.size ≤ 140737488351232) :
    Calls Try.prog 5 #[.string a0, .string a1] w fun e w' => e = .returned (.bool true) ∧ Below w.heap.size w w' := by
  have e1 : (a0 ++ ⟨#[0]⟩ : ByteArray).toList = a0.toList ++ [0] := by rw [bl_app, bl_one]
  have k1 : tl a0.toList (a0 ++ ⟨#[0]⟩ : ByteArray).toList = true := by rw [e1, tl_next, tl_irr]; rfl
  have k2 : tl a1.toList (a0 ++ ⟨#[0]⟩ : ByteArray).toList = !tl a0.toList a1.toList := by rw [e1, tl_next]
  clear e1
  go_enter Try.func5, Try.ntmps5
  go_wp2_with fail
  refine Calls.mono (knext_any a0 w h0) ?_
  rintro e w1 ⟨rfl, rfl⟩
  generalize a0 ++ ⟨#[0]⟩ = x at k1 k2 ⊢
  go_wp2_with fail
  refine Calls.mono (kawake_any w1) ?_
  rintro e w2 ⟨rfl, rfl⟩
  go_wp2_with fail
  refine Calls.mono (kless_any a0 x w2) ?_
  rintro e w3 ⟨rfl, rfl⟩
  rw [k1]
  go_wp2_with fail
  refine Calls.mono (kless_any a0 a1 w3) ?_
  rintro e w4 ⟨rfl, rfl⟩
  go_wp2_with fail
  refine Calls.mono (kless_any a1 x w4) ?_
  rintro e w5 ⟨rfl, rfl⟩
  rw [k2]
  cases tl a0.toList a1.toList
  all_goals
    go_wp2
    go_ret
    exact ⟨rfl, Below.refl _ _⟩
end Go.Proofs.Ytalhhiipgindfaa
