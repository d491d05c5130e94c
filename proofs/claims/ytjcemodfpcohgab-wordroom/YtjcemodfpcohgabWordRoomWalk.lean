/- The walk of the law WordRoom, out of the contracts of Put and awake. -/
import Derived.Test.YtjcemodfpcohgabGet
import Derived.OpenShut
namespace Go.Proofs.Ytjcemodfpcohgab
open Go.RowKit

theorem room_out (v n : Int) (w : World) (h : n < 1 ∨ 8 < n) :
    Calls Try.prog 3 #[.int .u64 v, .int .i64 n] w fun e w' => e = .returned (.bool true) ∧ Below w.heap.size w w' := by
  rcases h with h | h
  · go_enter Try.func3, Try.ntmps3
    go_wp2_with fail
    refine (awake_any _).mono ?_
    rintro e w1 ⟨rfl, hb1⟩
    go_wp2_with fail
    refine (awake_any _).mono ?_
    rintro e w2 ⟨rfl, hb2⟩
    go_wp2
    go_ret
    exact ⟨rfl, hb1.trans (hb2.mono hb1.size)⟩
  · have h1 : decide (n < 1) = false := by simp; omega
    go_enter Try.func3, Try.ntmps3
    go_wp2_with fail
    refine (awake_any _).mono ?_
    rintro e w1 ⟨rfl, hb1⟩
    go_wp2_with fail
    refine (awake_any _).mono ?_
    rintro e w2 ⟨rfl, hb2⟩
    go_wp2
    go_ret
    exact ⟨rfl, hb1.trans (hb2.mono hb1.size)⟩

theorem most_spec (n : Nat) (h1 : 1 ≤ n) (h2 : n ≤ 8) : ∃ M : Nat, IntKind.u64.wrap (IntKind.u64.wrap (IntKind.u64.wrap ((2 : Int) ^ (8 * n - 1)) * 2) - 1) = (M : Int) ∧ M + 1 = 256 ^ n ∧ le n M = List.replicate n 255 := by
  rcases (show n = 1 ∨ n = 2 ∨ n = 3 ∨ n = 4 ∨ n = 5 ∨ n = 6 ∨ n = 7 ∨ n = 8 by omega) with rfl | rfl | rfl | rfl | rfl | rfl | rfl | rfl
  · exact ⟨255, by simp [IntKind.wrap_u64], rfl, by decide +kernel⟩
  · exact ⟨65535, by simp [IntKind.wrap_u64], rfl, by decide +kernel⟩
  · exact ⟨16777215, by simp [IntKind.wrap_u64], rfl, by decide +kernel⟩
  · exact ⟨4294967295, by simp [IntKind.wrap_u64], rfl, by decide +kernel⟩
  · exact ⟨1099511627775, by simp [IntKind.wrap_u64], rfl, by decide +kernel⟩
  · exact ⟨281474976710655, by simp [IntKind.wrap_u64], rfl, by decide +kernel⟩
  · exact ⟨72057594037927935, by simp [IntKind.wrap_u64], rfl, by decide +kernel⟩
  · exact ⟨18446744073709551615, by simp [IntKind.wrap_u64], rfl, by decide +kernel⟩

theorem room_in (v n : Nat) (w : World) (hv : v < 18446744073709551616) (h1 : 1 ≤ n) (h2 : n ≤ 8) :
    Calls Try.prog 3 #[.int .u64 v, .int .i64 n] w fun e w' => e = .returned (.bool true) ∧ Below w.heap.size w w' := by
  have d1 : decide ((n : Int) < 1) = false := by simp; omega
  have d2 : decide ((8 : Int) < n) = false := by simp; omega
  go_enter Try.func3, Try.ntmps3
  go_wp2_with fail
  refine (awake_any _).mono ?_
  rintro e w1 ⟨rfl, hb1⟩
  obtain ⟨M, hM, hM1, hM2⟩ := most_spec n h1 h2
  have HM := hide hM
  have hp : 256 ^ n ≤ 256 ^ 8 := Nat.pow_le_pow_right (by omega) h2
  have hMlt : M < 18446744073709551616 := by omega
  have HM1 := hide hM1
  clear hM hM1 hp
  have hput : Calls Try.prog 7 #[.slice none 0 0, .int .u64 v, .int .i64 n] w1 fun e w' => ∃ (t : Value) (c : Int), e = .returned (.tuple #[t, .int .i64 c]) ∧ Below w1.heap.size w1 w' ∧ ((v ≤ M ∧ c = 0) ∨ (M < v ∧ c = 12)) := by
    by_cases hvM : v ≤ M
    · refine (put_ok _ [] v n w1 (Row.nil _) (by simp) hv h1 h2 (by have := unhide HM1; omega)).mono ?_
      rintro e w' ⟨t, rfl, _, hb⟩
      exact ⟨t, 0, rfl, hb, Or.inl ⟨hvM, rfl⟩⟩
    · refine (put_over _ v n w1 hv h1 h2 (by have := unhide HM1; omega)).mono ?_
      rintro e w' ⟨rfl, hb⟩
      exact ⟨_, 12, rfl, hb, Or.inr ⟨by omega, rfl⟩⟩
  have HP := hide hput
  clear hput
  go_wp2_with fail
  rw [unhide HM]
  refine Calls.mono (unhide HP) ?_
  rintro e w2 ⟨t, c, rfl, hb2, hc⟩
  have HC := hide hc
  clear hc HP
  go_wp2_with fail
  refine (put_ok _ [] M n w2 (Row.nil _) (by simp) hMlt h1 h2 (by have := unhide HM1; omega)).mono ?_
  rintro e w3 ⟨s, rfl, hown, hb3⟩
  rw [List.nil_append, hM2] at hown
  obtain ⟨b, off, cap, rfl, hl, hcap, hcell⟩ := (row_of_owns hown).open (by intro e; have := congrArg List.length e; simp at this; omega)
  simp only [List.length_replicate] at hl
  have hcell' : ∀ j, j < n → w3.cell? ⟨b, off + j, none⟩ = some (.int .u8 255) := fun j hj => by
    rw [hcell j (by simpa using hj)]; simp [B]
  rw [List.length_replicate]
  clear hown hcell hM2
  unfold maxLen at hcap
  have hbel : Below w.heap.size w w3 := (hb1.trans (hb2.mono hb1.size)).trans (hb3.mono (by have := hb1.size; have := hb2.size; omega))
  clear hb1 hb2 hb3
  go_wp2_with fail
  go_loop [10] (fun i => ∃ k : Nat, k ≤ n ∧ i = .int .i64 k) (fun i => n - (intOf i).toNat)
  case atStart => exact ⟨0, Nat.zero_le _, rfl⟩
  case round =>
    obtain ⟨k, hk, rfl⟩ := hrel
    by_cases hlt : k < n
    · have hck := hcell' k hlt
      go_wp2
      go_round
      case rel => exact ⟨k + 1, by omega, by go_num⟩
      case measure => simp [intOf]; omega
    · have hkn : k = n := by omega
      subst hkn
      rcases unhide HC with ⟨hvM, rfl⟩ | ⟨hvM, rfl⟩
      · have hdec : decide ((v : Int) ≤ M) = true := by simp; omega
        go_wp2
        go_ret
        exact ⟨rfl, hbel⟩
      · go_wp2
        go_ret
        exact ⟨ret_true (by simp; omega), hbel⟩

theorem walk_WordRoom (a0 : Int) (a1 : Int) (w0 : (Lit.int .u64 a0).wf = true) (_w1 : (Lit.int .i64 a1).wf = true) (w : World) :
    Calls Try.prog 3 #[.int .u64 a0, .int .i64 a1] w fun e w' => e = .returned (.bool true) ∧ Below w.heap.size w w' := by
  have hb := bounds_u64 w0
  by_cases h : a1 < 1 ∨ 8 < a1
  · exact room_out a0 a1 w h
  · obtain ⟨v, rfl⟩ := Int.eq_ofNat_of_zero_le hb.1
    obtain ⟨n, rfl⟩ := Int.eq_ofNat_of_zero_le (show 0 ≤ a1 by omega)
    exact room_in v n w (by omega) (by omega) (by omega)
end Go.Proofs.Ytjcemodfpcohgab
