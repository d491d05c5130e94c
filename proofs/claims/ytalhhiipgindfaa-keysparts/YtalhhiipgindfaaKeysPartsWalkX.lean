/- The walk of the law KeysParts, of the landed package keys. -/
import Derived.Test.YtalhhiipgindfaaG2
namespace Go.Proofs.Ytalhhiipgindfaa
open Go.RowKit

set_option maxHeartbeats 1000000 in
theorem walk_KeysParts (a0 : ByteArray) (a1 : ByteArray) (a2 : ByteArray) (a3 : ByteArray) (w : World) (_h0 : a0.size ≤ 140737488351232) (_h1 : a1.size ≤ 140737488351232) (_h2 : a2.size ≤ 140737488351232) (_h3 : a3.size ≤ 140737488351232) :
    Calls Try.prog 8 #[.string a0, .string a1, .string a2, .string a3] w fun e w' => e = .returned (.bool true) ∧ Below w.heap.size w w' := by
  cases k1 : wi a0.toList a1.toList a2.toList with
  | false =>
    go_enter Try.func8, Try.ntmps8
    go_wp2_with fail
    refine Calls.mono (kawake_any w) ?_
    rintro e w1 ⟨rfl, rfl⟩
    go_wp2_with fail
    refine Calls.mono (kwithin_any a0 a1 a2 w1) ?_
    rintro e w2 ⟨rfl, rfl⟩
    rw [k1]
    go_wp2_with fail
    refine Calls.mono (kawake_any w2) ?_
    rintro e w3 ⟨rfl, rfl⟩
    go_wp2
    go_ret
    exact ⟨rfl, Below.refl _ _⟩
  | true =>
    cases k2 : a2.toList.isEmpty with
    | true =>
      have k3 : a2.toList = [] := by simpa using k2
      go_enter Try.func8, Try.ntmps8
      go_wp2_with fail
      refine Calls.mono (kawake_any w) ?_
      rintro e w1 ⟨rfl, rfl⟩
      go_wp2_with fail
      refine Calls.mono (kwithin_any a0 a1 a2 w1) ?_
      rintro e w2 ⟨rfl, rfl⟩
      rw [k1]
      go_wp2_with fail
      refine Calls.mono (kawake_any w2) ?_
      rintro e w3 ⟨rfl, rfl⟩
      go_wp2
      go_ret
      exact ⟨rfl, Below.refl _ _⟩
    | false =>
      have k3 : ¬ a2.toList = [] := by simpa using k2
      obtain ⟨p1, p2⟩ := wi_parts a0.toList a1.toList a2.toList a3.toList k1 k2
      go_enter Try.func8, Try.ntmps8
      go_wp2_with fail
      refine Calls.mono (kawake_any w) ?_
      rintro e w1 ⟨rfl, rfl⟩
      go_wp2_with fail
      refine Calls.mono (kwithin_any a0 a1 a2 w1) ?_
      rintro e w2 ⟨rfl, rfl⟩
      rw [k1]
      go_wp2_with fail
      refine Calls.mono (kwithin_any a0 a2 a3 w2) ?_
      rintro e w3 ⟨rfl, rfl⟩
      go_wp2_with fail
      refine Calls.mono (kwithin_any a2 a1 a3 w3) ?_
      rintro e w4 ⟨rfl, rfl⟩
      generalize wi a0.toList a2.toList a3.toList = x at p1 p2 ⊢
      generalize wi a2.toList a1.toList a3.toList = y at p1 p2 ⊢
      have H2 := khide p2
      clear p2
      cases x <;> cases y
      · go_wp2_with fail
        refine Calls.mono (kwithin_any a0 a1 a3 w4) ?_
        rintro e w5 ⟨rfl, rfl⟩
        rw [← kunhide H2]
        go_wp2
        go_ret
        exact ⟨rfl, Below.refl _ _⟩
      · go_wp2_with fail
        refine Calls.mono (kwithin_any a0 a1 a3 w4) ?_
        rintro e w5 ⟨rfl, rfl⟩
        rw [← kunhide H2]
        go_wp2
        go_ret
        exact ⟨rfl, Below.refl _ _⟩
      · go_wp2_with fail
        refine Calls.mono (kwithin_any a0 a1 a3 w4) ?_
        rintro e w5 ⟨rfl, rfl⟩
        rw [← kunhide H2]
        go_wp2
        go_ret
        exact ⟨rfl, Below.refl _ _⟩
      · cases p1
end Go.Proofs.Ytalhhiipgindfaa
