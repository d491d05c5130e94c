/- The walk of the law WordLengths, out of the contracts of Var, Bytes and awake. -/
import Derived.Test.YtjcemodfpcohgabVarPlain
import Derived.Test.YtjcemodfpcohgabBytes
import Derived.OpenShut
namespace Go.Proofs.Ytjcemodfpcohgab
open Go.RowKit

theorem walk_WordLengths (a0 : Int) (a1 : Int) (w0 : (Lit.int .u64 a0).wf = true) (w1 : (Lit.int .u64 a1).wf = true) (w : World) :
    Calls Try.prog 5 #[.int .u64 a0, .int .u64 a1] w fun e w' => e = .returned (.bool true) ∧ Below w.heap.size w w' := by
  have hb0 := bounds_u64 w0
  have hb1 := bounds_u64 w1
  obtain ⟨a, rfl⟩ := Int.eq_ofNat_of_zero_le hb0.1
  obtain ⟨b, rfl⟩ := Int.eq_ofNat_of_zero_le hb1.1
  have ha : a < 18446744073709551616 := by omega
  have hb : b < 18446744073709551616 := by omega
  clear hb0 hb1 w0 w1
  go_enter Try.func5, Try.ntmps5
  go_wp2_with fail
  refine (var_any a ha _).mono ?_
  rintro e w1 ⟨s1, rfl, hown1, hbel1⟩
  have hrow1 := row_of_owns hown1
  obtain ⟨p1, c1, l1, rfl, hl1⟩ := hrow1.shape
  have HL1 := hide hl1
  clear hown1 hl1
  go_wp2_with fail
  refine (var_any b hb _).mono ?_
  rintro e w2 ⟨s2, rfl, hown2, hbel2⟩
  have hrow2 := row_of_owns hown2
  obtain ⟨p2, c2, l2, rfl, hl2⟩ := hrow2.shape
  have HL2 := hide hl2
  have hrow1' := hrow1.below hbel2
  have HB := hide (fun w3 (h : Below w2.heap.size w2 w3) => bytes_any _ _ _ _ w3 (hrow1'.below h) (hrow2.below h))
  clear hown2 hrow1 hrow1' hrow2 hl2
  go_wp2_with fail
  go_loop [7, 8] (fun n t => ∃ f y k : Nat, n = .int .i64 k ∧ t = .int .u64 ((y / 128 : Nat) : Int) ∧ Hid (k + (varF f y).length = (varF 9 a).length + 1) ∧ Hid (y < 128 ^ (f + 1)) ∧ k + f = 10 ∧ y < 18446744073709551616) (fun _ t => (intOf t).toNat)
  case atStart => exact ⟨9, a, 1, rfl, by go_num, by unfold Hid; omega, by unfold Hid; omega, rfl, ha⟩
  case round =>
    obtain ⟨f, y, k, rfl, rfl, hk, hy, hkf, hy64⟩ := hrel
    by_cases hlt : 128 ≤ y
    · have hpos : (0 : Int) < (y : Int) / 128 := by omega
      go_wp2
      go_round
      case rel =>
        match f, hk, hy with
        | 0, _, hy => have := hy.out; omega
        | f + 1, hk, hy =>
          refine ⟨f, y / 128, k + 1, by go_num, by go_num, ?_, pow_step f y hy.out, by omega, by omega⟩
          have := hk.out
          rw [varF_go f y hlt] at this
          simp only [List.length_cons] at this
          unfold Hid
          omega
      case measure => simp [intOf]; omega
    · have hk' := hk.out
      rw [varF_stop f y (by omega)] at hk'
      simp only [List.length_cons, List.length_nil] at hk'
      obtain rfl : l1 = k := by have := unhide HL1; omega
      have hmono : a ≤ b → l1 ≤ l2 := fun h => by have h1 := varF_mono 9 a b h; have := unhide HL1; have := unhide HL2; omega
      have hle : (y : Int) / 128 ≤ 0 := by omega
      have hk10 : (l1 : Int) ≤ 10 := by omega
      have HQ := hide (varF_beq a b ha hb)
      clear hk' hk hy HL1 HL2
      have hfin : ∀ w3, Below w2.heap.size w2 w3 → Below w.heap.size w w3 := fun w3 h => (hbel1.trans (hbel2.mono hbel1.size)).trans (h.mono (by have := hbel1.size; have := hbel2.size; omega))
      have HF := hide hfin
      clear hfin hbel1 hbel2
      by_cases hab : b < a
      · have hd : decide ((b : Int) < a) = true := by simp; omega
        have hne : ((a : Int) == b) = false := by simp; omega
        have HN := hide (show decide (a = b) = false by simp; omega)
        clear hmono
        go_wp2_with fail
        refine (awake_any _).mono ?_
        rintro e w3 ⟨rfl, hb3⟩
        go_wp2_with fail
        refine Calls.mono (unhide HB w3 hb3) ?_
        rintro e w4 ⟨rfl, rfl⟩
        rw [unhide HQ, unhide HN]
        go_wp2
        go_ret
        exact ⟨rfl, unhide HF _ hb3⟩
      · have hd : decide ((b : Int) < a) = false := by simp; omega
        have hll : (l1 : Int) ≤ l2 := by have := hmono (by omega); omega
        clear hmono
        go_wp2_with fail
        refine (awake_any _).mono ?_
        rintro e w3 ⟨rfl, hb3⟩
        go_wp2_with fail
        refine Calls.mono (unhide HB w3 hb3) ?_
        rintro e w4 ⟨rfl, rfl⟩
        rw [unhide HQ]
        go_wp2
        go_ret
        exact ⟨ret_true (eq_dec a b), unhide HF _ hb3⟩
end Go.Proofs.Ytjcemodfpcohgab
