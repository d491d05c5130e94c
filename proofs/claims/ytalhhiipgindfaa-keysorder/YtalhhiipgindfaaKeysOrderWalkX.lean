/- The walk of the law KeysOrder, of the landed package keys. -/
import Derived.Test.YtalhhiipgindfaaG2
namespace Go.Proofs.Ytalhhiipgindfaa
open Go.RowKit

set_option maxHeartbeats 1000000 in
theorem walk_KeysOrder (a0 : ByteArray) (a1 : ByteArray) (a2 : ByteArray) (w : World) (_h0 : a0.size ≤ 140737488351232) (_h1 : a1.size ≤ 140737488351232) (_h2 : a2.size ≤ 140737488351232) :
    Calls Try.prog 4 #[.string a0, .string a1, .string a2] w fun e w' => e = .returned (.bool true) ∧ Below w.heap.size w w' := by
  have A1 : Op.bytesLess [97] [98] = true := rfl
  have A2 : Op.bytesLess [98] [97] = false := rfl
  have A3 : Op.bytesLess [98] [99] = true := rfl
  have A4 : (({ data := #[97] } : ByteArray) ++ { data := #[0] }).toList = [97, 0] := by rw [bl_app, bl_one, bl_one]; rfl
  have ha : tl a0.toList a0.toList = false := tl_irr _
  cases h1 : tl a0.toList a1.toList with
  | true =>
    have h2 : tl a1.toList a0.toList = false := tl_asym _ _ h1
    have h3 : ¬ a0.toList = a1.toList := fun e => by rw [e, tl_irr] at h1; cases h1
    have h3b : (a0.toList == a1.toList) = false := by simpa using h3
    clear h3
    cases h4 : tl a1.toList a2.toList with
    | true =>
      have h5 : tl a0.toList a2.toList = true := tl_trans _ _ _ h1 h4
      go_enter Try.func4, Try.ntmps4
      go_wp2
      go_ret
      exact ⟨rfl, Below.refl _ _⟩
    | false =>
      go_enter Try.func4, Try.ntmps4
      go_wp2
      go_ret
      exact ⟨rfl, Below.refl _ _⟩
  | false =>
    cases h2 : tl a1.toList a0.toList with
    | true =>
      have h3 : ¬ a0.toList = a1.toList := fun e => by rw [e, tl_irr] at h2; cases h2
      have h3b : (a0.toList == a1.toList) = false := by simpa using h3
      clear h3
      go_enter Try.func4, Try.ntmps4
      go_wp2
      go_ret
      exact ⟨rfl, Below.refl _ _⟩
    | false =>
      have h3 : a0.toList = a1.toList := tl_total _ _ h1 h2
      obtain rfl := bl_inj h3
      clear h3 h1 h2
      go_enter Try.func4, Try.ntmps4
      go_wp2
      go_ret
      exact ⟨rfl, Below.refl _ _⟩
end Go.Proofs.Ytalhhiipgindfaa
