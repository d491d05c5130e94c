/- The walk of the law KeysPrefix, of the landed package keys. -/
import Derived.Test.YtalhhiipgindfaaG2
namespace Go.Proofs.Ytalhhiipgindfaa
open Go.RowKit

set_option maxHeartbeats 1000000 in
theorem walk_KeysPrefix (a0 : ByteArray) (a1 : ByteArray) (w : World) (h0 : a0.size ≤ 140737488351232) (h1 : a1.size ≤ 140737488351232) :
    Calls Try.prog 7 #[.string a0, .string a1] w fun e w' => e = .returned (.bool true) ∧ Below w.heap.size w w' := by
  go_enter Try.func7, Try.ntmps7
  go_wp2_with fail
  refine Calls.mono (kprefix_any a0 w h0) ?_
  rintro e w1 ⟨x, rfl, hx, b1⟩
  have k1 := wi_bhE a0.toList a1.toList
  rw [← hx, pre_eq, bl_len, bl_len] at k1
  have K2 := khide (show wi a0.toList x.toList (a0 ++ a1).toList = true by rw [hx, wi_bhE, bl_app, pre_app])
  have K3 := khide (show em a0.toList x.toList = false by
    have := wi_bhE a0.toList a0.toList
    have h2 := pre_app a0.toList []
    rw [List.append_nil] at h2
    rw [em_eq, hx, this, h2]; rfl)
  clear hx
  by_cases hl : a0.size ≤ a1.size
  · have il : (a0.size : Int) ≤ (a1.size : Int) := by omega
    rw [decide_eq_true hl, Bool.true_and, ← bl_take] at k1
    cases hq : (a1.extract 0 a0.size).toList == a0.toList with
    | true =>
      rw [hq] at k1
      have K1 := khide k1
      clear k1
      have hq2 : (a1.extract 0 a0.size).toList = a0.toList := by simpa using hq
      go_wp2_with fail
      refine Calls.mono (kawake_any w1) ?_
      rintro e w2 ⟨rfl, rfl⟩
      go_wp2_with fail
      refine Calls.mono (kwithin_any a0 x a1 w2) ?_
      rintro e w3 ⟨rfl, rfl⟩
      rw [kunhide K1]
      go_wp2_with fail
      refine Calls.mono (kwithin_any a0 x (a0 ++ a1) w3) ?_
      rintro e w4 ⟨rfl, rfl⟩
      rw [kunhide K2]
      go_wp2_with fail
      refine Calls.mono (kempty_any a0 x w4) ?_
      rintro e w5 ⟨rfl, rfl⟩
      rw [kunhide K3]
      go_wp2
      go_ret
      exact ⟨rfl, b1⟩
    | false =>
      rw [hq] at k1
      have K1 := khide k1
      clear k1
      go_wp2_with fail
      refine Calls.mono (kawake_any w1) ?_
      rintro e w2 ⟨rfl, rfl⟩
      go_wp2_with fail
      refine Calls.mono (kwithin_any a0 x a1 w2) ?_
      rintro e w3 ⟨rfl, rfl⟩
      rw [kunhide K1]
      go_wp2_with fail
      refine Calls.mono (kwithin_any a0 x (a0 ++ a1) w3) ?_
      rintro e w4 ⟨rfl, rfl⟩
      rw [kunhide K2]
      go_wp2_with fail
      refine Calls.mono (kempty_any a0 x w4) ?_
      rintro e w5 ⟨rfl, rfl⟩
      rw [kunhide K3]
      go_wp2
      go_ret
      exact ⟨rfl, b1⟩
  · have il : ¬ (a0.size : Int) ≤ (a1.size : Int) := by omega
    rw [decide_eq_false hl, Bool.false_and] at k1
    have K1 := khide k1
    clear k1
    go_wp2_with fail
    refine Calls.mono (kawake_any w1) ?_
    rintro e w2 ⟨rfl, rfl⟩
    go_wp2_with fail
    refine Calls.mono (kwithin_any a0 x a1 w2) ?_
    rintro e w3 ⟨rfl, rfl⟩
    rw [kunhide K1]
    go_wp2_with fail
    refine Calls.mono (kwithin_any a0 x (a0 ++ a1) w3) ?_
    rintro e w4 ⟨rfl, rfl⟩
    rw [kunhide K2]
    go_wp2_with fail
    refine Calls.mono (kempty_any a0 x w4) ?_
    rintro e w5 ⟨rfl, rfl⟩
    rw [kunhide K3]
    go_wp2
    go_ret
    exact ⟨rfl, b1⟩
end Go.Proofs.Ytalhhiipgindfaa
