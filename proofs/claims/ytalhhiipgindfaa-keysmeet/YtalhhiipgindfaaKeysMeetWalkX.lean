/- The walk of the law KeysMeet, of the landed package keys. -/
import Derived.Test.YtalhhiipgindfaaG2
namespace Go.Proofs.Ytalhhiipgindfaa
open Go.RowKit

set_option maxHeartbeats 1000000 in
theorem walk_KeysMeet (a0 : ByteArray) (a1 : ByteArray) (a2 : ByteArray) (a3 : ByteArray) (a4 : ByteArray) (w : World) (_h0 : a0.size ≤ 140737488351232) (_h1 : a1.size ≤ 140737488351232) (_h2 : a2.size ≤ 140737488351232) (_h3 : a3.size ≤ 140737488351232) (_h4 : a4.size ≤ 140737488351232) :
    Calls Try.prog 6 #[.string a0, .string a1, .string a2, .string a3, .string a4] w fun e w' => e = .returned (.bool true) ∧ Below w.heap.size w w' := by
  have hw := wi_meet a0.toList a1.toList a2.toList a3.toList a4.toList
  rw [← mloB_l, ← mhiB_l] at hw
  cases hm : em (mloB a0 a2).toList (mhiB a1 a3).toList with
  | true =>
    have hv : meetV a0 a1 a2 a3 = .tuple #[.string ⟨#[]⟩, .string ⟨#[]⟩, .bool false] := by simp [meetV, hm]
    rw [wi_em _ _ _ hm] at hw
    have HW := khide hw
    clear hw hm
    go_enter Try.func6, Try.ntmps6
    go_wp2_with fail
    refine Calls.mono (kmeet_any a0 a1 a2 a3 w) ?_
    rintro e w1 ⟨rfl, rfl⟩
    rw [hv]
    clear hv
    go_wp2_with fail
    refine Calls.mono (kwithin_any a0 a1 a4 w1) ?_
    rintro e w2 ⟨rfl, rfl⟩
    cases k1 : wi a0.toList a1.toList a4.toList with
    | false =>
      go_wp2_with fail
      refine Calls.mono (kawake_any w2) ?_
      rintro e w3 ⟨rfl, rfl⟩
      go_wp2
      go_ret
      exact ⟨rfl, Below.refl _ _⟩
    | true =>
      have k2 := kunhide HW
      rw [k1, Bool.true_and] at k2
      have K2 := khide k2.symm
      clear k2 HW
      go_wp2_with fail
      refine Calls.mono (kwithin_any a2 a3 a4 w2) ?_
      rintro e w3 ⟨rfl, rfl⟩
      rw [kunhide K2]
      go_wp2_with fail
      refine Calls.mono (kawake_any w3) ?_
      rintro e w4 ⟨rfl, rfl⟩
      go_wp2
      go_ret
      exact ⟨rfl, Below.refl _ _⟩
  | false =>
    have hv : meetV a0 a1 a2 a3 = .tuple #[.string (mloB a0 a2), .string (mhiB a1 a3), .bool true] := by simp [meetV, hm]
    have hl : wi (mloB a0 a2).toList (mhiB a1 a3).toList (mloB a0 a2).toList = true := by have := em_eq (mloB a0 a2).toList (mhiB a1 a3).toList; rw [hm] at this; simpa using this.symm
    generalize mloB a0 a2 = lo at hv hw hm hl
    generalize mhiB a1 a3 = hi at hv hw hm hl
    have HW := khide hw
    have HM := khide hm
    have HL := khide hl
    clear hw hm hl
    go_enter Try.func6, Try.ntmps6
    go_wp2_with fail
    refine Calls.mono (kmeet_any a0 a1 a2 a3 w) ?_
    rintro e w1 ⟨rfl, rfl⟩
    rw [hv]
    clear hv
    go_wp2_with fail
    refine Calls.mono (kwithin_any a0 a1 a4 w1) ?_
    rintro e w2 ⟨rfl, rfl⟩
    cases k1 : wi a0.toList a1.toList a4.toList with
    | false =>
      have k3 := kunhide HW
      rw [k1, Bool.false_and] at k3
      have K3 := khide k3
      clear k3 HW
      go_wp2_with fail
      refine Calls.mono (kawake_any w2) ?_
      rintro e w3 ⟨rfl, rfl⟩
      go_wp2_with fail
      refine Calls.mono (kwithin_any lo hi a4 w3) ?_
      rintro e w4 ⟨rfl, rfl⟩
      rw [kunhide K3]
      go_wp2_with fail
      refine Calls.mono (kempty_any lo hi w4) ?_
      rintro e w5 ⟨rfl, rfl⟩
      rw [kunhide HM]
      go_wp2_with fail
      refine Calls.mono (kwithin_any lo hi lo w5) ?_
      rintro e w6 ⟨rfl, rfl⟩
      rw [kunhide HL]
      go_wp2
      go_ret
      exact ⟨rfl, Below.refl _ _⟩
    | true =>
      have k3 := kunhide HW
      rw [k1, Bool.true_and] at k3
      cases k2 : wi a2.toList a3.toList a4.toList with
      | false =>
        rw [k2] at k3
        have K3 := khide k3
        clear k3 HW
        go_wp2_with fail
        refine Calls.mono (kwithin_any a2 a3 a4 w2) ?_
        rintro e w3 ⟨rfl, rfl⟩
        rw [k2]
        go_wp2_with fail
        refine Calls.mono (kawake_any w3) ?_
        rintro e w4 ⟨rfl, rfl⟩
        go_wp2_with fail
        refine Calls.mono (kwithin_any lo hi a4 w4) ?_
        rintro e w5 ⟨rfl, rfl⟩
        rw [kunhide K3]
        go_wp2_with fail
        refine Calls.mono (kempty_any lo hi w5) ?_
        rintro e w6 ⟨rfl, rfl⟩
        rw [kunhide HM]
        go_wp2_with fail
        refine Calls.mono (kwithin_any lo hi lo w6) ?_
        rintro e w7 ⟨rfl, rfl⟩
        rw [kunhide HL]
        go_wp2
        go_ret
        exact ⟨rfl, Below.refl _ _⟩
      | true =>
        rw [k2] at k3
        have K3 := khide k3
        clear k3 HW
        go_wp2_with fail
        refine Calls.mono (kwithin_any a2 a3 a4 w2) ?_
        rintro e w3 ⟨rfl, rfl⟩
        rw [k2]
        go_wp2_with fail
        refine Calls.mono (kawake_any w3) ?_
        rintro e w4 ⟨rfl, rfl⟩
        go_wp2_with fail
        refine Calls.mono (kwithin_any lo hi a4 w4) ?_
        rintro e w5 ⟨rfl, rfl⟩
        rw [kunhide K3]
        go_wp2_with fail
        refine Calls.mono (kempty_any lo hi w5) ?_
        rintro e w6 ⟨rfl, rfl⟩
        rw [kunhide HM]
        go_wp2_with fail
        refine Calls.mono (kwithin_any lo hi lo w6) ?_
        rintro e w7 ⟨rfl, rfl⟩
        rw [kunhide HL]
        go_wp2
        go_ret
        exact ⟨rfl, Below.refl _ _⟩
end Go.Proofs.Ytalhhiipgindfaa
