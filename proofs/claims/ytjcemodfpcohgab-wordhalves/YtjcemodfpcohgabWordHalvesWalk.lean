/- The walk of the law WordHalves, out of the contracts of Put, Get and awake. -/
import Derived.Test.YtjcemodfpcohgabGet
import Derived.OpenShut
namespace Go.Proofs.Ytjcemodfpcohgab
open Go.RowKit

theorem cut7 (x : Int) : ∃ k : Nat, wrap64 (1 + wrap64 ((IntKind.u64.wrap x).tmod 7)) = (k : Int) ∧ 1 ≤ k ∧ k ≤ 7 := by
  have h0 : 0 ≤ IntKind.u64.wrap x := by rw [IntKind.wrap_u64]; omega
  have h1 := Int.tmod_nonneg 7 h0
  have h2 := Int.tmod_lt_of_pos (IntKind.u64.wrap x) (show (0 : Int) < 7 by omega)
  generalize (IntKind.u64.wrap x).tmod 7 = y at h1 h2
  rw [IntWalk.wrap64_in y ⟨by omega, by omega⟩, IntWalk.wrap64_in (1 + y) ⟨by omega, by omega⟩]
  exact ⟨(1 + y).toNat, by omega, by omega, by omega⟩

theorem halves_plain (v k : Nat) (hv : v < 18446744073709551616) (hk : k ≤ 8) : num (((le 8 v).drop 0).take k) = v % 256 ^ k ∧ num (((le 8 v).drop k).take (8 - k)) = v / 256 ^ k := by
  have e : le 8 v = le k v ++ le (8 - k) (v / 256 ^ k) := by rw [← le_add, show k + (8 - k) = 8 by omega]
  have hl : (le k v).length = k := length_le k v
  have e1 : ((le 8 v).drop 0).take k = le k v := by rw [List.drop_zero, e, List.take_append_of_le_length (by omega), List.take_of_length_le (by omega)]
  have e2 : ((le 8 v).drop k).take (8 - k) = le (8 - k) (v / 256 ^ k) := by
    rw [e, List.drop_append_of_le_length (by omega), List.drop_of_length_le (by omega), List.nil_append, List.take_of_length_le (by rw [length_le]; omega)]
  rw [e1, e2, num_le, num_le]
  refine ⟨rfl, Nat.mod_eq_of_lt ?_⟩
  rw [Nat.div_lt_iff_lt_mul (Nat.pow_pos (by omega)), ← Nat.pow_add, show 8 - k + k = 8 by omega]
  exact hv

theorem halves_bits (v k : Nat) (hv : v < 18446744073709551616) : bits .or .u64 ((v % 256 ^ k : Nat) : Int) (IntKind.u64.wrap (((v / 256 ^ k : Nat) : Int) * 2 ^ (8 * k))) = (v : Int) := by
  have hp : 0 < 256 ^ k := Nat.pow_pos (by omega)
  have hm := Nat.div_add_mod v (256 ^ k)
  have hlt := Nat.mod_lt v hp
  have e : ((v / 256 ^ k : Nat) : Int) * 2 ^ (8 * k) = ((256 ^ k * (v / 256 ^ k) : Nat) : Int) := by rw [pow_cast, Nat.mul_comm]; norm_cast
  rw [e, IntKind.wrap_u64, Int.emod_eq_of_lt (by omega) (by omega), u64_or_nat _ _ (by omega) (by omega)]
  congr 1
  have h2 : 256 ^ k = 2 ^ (8 * k) := by rw [Nat.pow_mul]
  rw [h2] at hm hlt ⊢
  rw [Nat.or_comm, ← Nat.two_pow_add_eq_or_of_lt hlt]
  exact hm

theorem halves_int (v k : Nat) (hv : v < 18446744073709551616) : bits .or .u64 ((v : Int) % 256 ^ k) (IntKind.u64.wrap ((v : Int) / 256 ^ k * 2 ^ (8 * k))) = (v : Int) := by
  have e0 : (256 : Int) ^ k = ((256 ^ k : Nat) : Int) := by rw [Int.natCast_pow]; rfl
  have h := halves_bits v k hv
  rw [Int.natCast_emod, Int.natCast_ediv] at h
  rw [e0]
  exact h

theorem walk_WordHalves (a0 : Int) (a1 : Int) (w0 : (Lit.int .u64 a0).wf = true) (_w1 : (Lit.int .i64 a1).wf = true) (w : World) :
    Calls Try.prog 4 #[.int .u64 a0, .int .i64 a1] w fun e w' => e = .returned (.bool true) ∧ Below w.heap.size w w' := by
  have hb := bounds_u64 w0
  obtain ⟨v, rfl⟩ := Int.eq_ofNat_of_zero_le hb.1
  have hv : v < 18446744073709551616 := by omega
  clear hb w0
  obtain ⟨k, hk, hk1, hk7⟩ := cut7 a1
  have HK := hide hk
  clear hk
  go_enter Try.func4, Try.ntmps4
  go_wp2_with fail
  rw [unhide HK]
  refine (put_ok _ [] v 8 _ (Row.nil _) (by simp) hv (by omega) (by omega) (by omega)).mono ?_
  rintro e w1 ⟨s, rfl, hown, hb1⟩
  rw [List.nil_append] at hown
  have hrow := row_of_owns hown
  clear hown
  obtain ⟨g1, g2⟩ := halves_plain v k hv (by omega)
  have G1 := hide g1
  have G2 := hide g2
  clear g1 g2
  go_wp2_with fail
  refine (get_ok s (le 8 v) 0 k w1 hrow hk1 (by omega) (by rw [length_le]; omega)).mono ?_
  rintro e w2 ⟨rfl, hb2⟩
  rw [unhide G1]
  have hrow2 := hrow.below hb2
  clear hrow
  go_wp2_with fail
  rw [show (8 : Int) - k = ((8 - k : Nat) : Int) by omega]
  refine (get_ok s (le 8 v) k (8 - k) w2 hrow2 (by omega) (by omega) (by rw [length_le]; omega)).mono ?_
  rintro e w3 ⟨rfl, hb3⟩
  rw [unhide G2]
  clear hrow2
  go_wp2_with fail
  refine (awake_any w3).mono ?_
  rintro e w4 ⟨rfl, hb4⟩
  go_wp2
  go_ret
  have s1 := hb1.size
  have s2 := hb2.size
  have s3 := hb3.size
  exact ⟨ret_true (by rw [halves_int v k hv]; simp), ((hb1.trans (hb2.mono s1)).trans (hb3.mono (by omega))).trans (hb4.mono (by omega))⟩
end Go.Proofs.Ytjcemodfpcohgab
