/- The walk of the law WordGets, out of the contracts of Put, Get, Bytes and awake. -/
import Derived.Test.YtjcemodfpcohgaaAll
import Derived.Test.YtjcemodfpcohgaaBytes
import Derived.OpenShut
namespace Go.Proofs.Ytjcemodfpcohgaa
open Go.RowKit

theorem gets_any (s : Value) (bs : List UInt8) (v : Nat) (n a : Int) (w : World) (hs : Row w s bs) (hroom : bs.length ≤ 140737488351232) (hv : v < 18446744073709551616)
    (ha : a ≤ 9223372036854775807) (ha' : -9223372036854775808 ≤ a) :
    Calls Try.prog 4 #[s, .int .u64 v, .int .i64 n, .int .i64 a] w fun e w' => e = .returned (.bool true) ∧ Below w.heap.size w w' := by
  have hs0 := hs
  obtain ⟨p, c, l, rfl, hl⟩ := hs.shape
  subst hl
  clear hs
  go_enter Try.func4, Try.ntmps4
  go_wp2_with fail
  refine (put_any _ bs v n w hs0 hroom hv).mono ?_
  rintro e w1 ⟨t, rfl, hown, hb1⟩
  have hrt := row_of_owns hown
  have hs1 := hs0.below hb1
  clear hown hs0
  go_wp2_with fail
  refine (awake_any w1).mono ?_
  rintro e w2 ⟨rfl, hb2⟩
  have hrt2 := hrt.below hb2
  have hs2 := hs1.below hb2
  clear hrt hs1
  rcases putE_cases v n with ⟨e0, h1, h8, hr⟩ | ⟨e0, hB⟩
  · rw [e0]
    rw [putB_ok bs v n h1 h8 hr] at hrt2
    obtain ⟨m, rfl⟩ := Int.eq_ofNat_of_zero_le (show 0 ≤ n by omega)
    rw [Int.toNat_natCast] at hr hrt2
    have HR := hide hr
    clear hr e0
    obtain ⟨p2, c2, l2, rfl, hl2⟩ := hrt2.shape
    obtain rfl : bs.length + m = l2 := by rw [← hl2]; simp [length_le]
    clear hl2
    go_wp2_with fail
    refine (get_any _ _ (bs.length : Nat) m w2 hrt2 (by omega)).mono ?_
    rintro e w3 ⟨rfl, hb3⟩
    rw [getE_ok _ _ _ (by omega) (by omega) (by omega) (by simp [length_le]), getV_ok _ _ _ (by omega) (by omega) (by omega) (by simp [length_le])]
    rw [Int.toNat_natCast, Int.toNat_natCast, List.drop_left, List.take_of_length_le (by rw [length_le]; exact Nat.le_refl _), num_le, Nat.mod_eq_of_lt (unhide HR)]
    have hs3 := hs2.below hb3
    have hb : Below w.heap.size w w3 := ((hb1.trans (hb2.mono hb1.size)).trans (hb3.mono (by have := hb1.size; have := hb2.size; omega)))
    go_wp2_with fail
    refine (get_any _ bs a (m : Int) w3 hs3 ha).mono ?_
    rintro e w4 ⟨rfl, hb4⟩
    have hs4 := hs3.below hb4
    have hbel : Below w.heap.size w w4 := hb.trans (hb4.mono (by have := hb.size; omega))
    rcases getE_cases bs a (m : Int) with ⟨g0, k1, k8, ka, kl, kv⟩ | g0
    · rw [g0, kv]
      obtain ⟨q, rfl⟩ := Int.eq_ofNat_of_zero_le ka
      obtain ⟨b, off, cap, es, hcap, hcm, hcell⟩ := hs4.open (by intro e; rw [e] at kl; simp at kl; omega)
      simp only [Value.slice.injEq, true_and] at es
      obtain ⟨rfl, rfl⟩ := es
      rw [Int.toNat_natCast, Int.toNat_natCast]
      have hlx : ((bs.drop q).take m).length = m := by simp; omega
      have hnum : num ((bs.drop q).take m) < 256 ^ m := by have := num_lt ((bs.drop q).take m); rwa [hlx] at this
      have hp8 : 256 ^ m ≤ 256 ^ 8 := Nat.pow_le_pow_right (by omega) (by omega)
      have hn64 : num ((bs.drop q).take m) < 18446744073709551616 := by omega
      have hle : le m (num ((bs.drop q).take m)) = (bs.drop q).take m := by have := le_num ((bs.drop q).take m); rwa [hlx] at this
      have hP := put_any (.slice none 0 0) [] (num ((bs.drop q).take m)) m w4 (Row.nil _) (by simp) hn64
      rw [putE_ok _ _ (by omega) (by omega) (by rw [Int.toNat_natCast]; exact hnum), putB_ok _ _ _ (by omega) (by omega) (by rw [Int.toNat_natCast]; exact hnum), Int.toNat_natCast, hle, List.nil_append] at hP
      have hC : ∀ w5, Below w4.heap.size w4 w5 → Row w5 (.slice (some ⟨b, off + q, none⟩) m (c - q)) ((bs.drop q).take m) := fun w5 h => (Row.cut hcell q m (c - q) (by omega) (by omega) (by omega)).below h
      have HP := hide hP
      have HC := hide hC
      clear hP hC hp8 hle hnum hlx hcell hs3 hs2 hrt2 hb1 hb2 hb3
      generalize num ((bs.drop q).take m) = N at *
      generalize (bs.drop q).take m = xs at *
      have hi1 : (q : Int) + m ≤ c := by omega
      have hi2 : ¬ c = q := by omega
      have hi3 : (q : Int) ≤ q + m := by omega
      have hwr : IntKind.i64.wrap ((q : Int) + m) = q + m := by rw [IntKind.wrap_i64]; unfold maxLen at hcm; omega
      have hln : ((q : Int) + m).toNat - q = m := by omega
      unfold maxLen at hcm
      go_wp2_with fail
      refine Calls.mono (unhide HP) ?_
      rintro e w5 ⟨y, rfl, howny, hb5⟩
      have hry := row_of_owns howny
      clear howny
      go_wp2_with fail
      refine (bytes_any _ _ xs xs w5 hry (unhide HC w5 hb5)).mono ?_
      rintro e w6 ⟨rfl, rfl⟩
      go_wp2
      go_ret
      exact ⟨ret_true (by simp), hbel.trans (hb5.mono hbel.size)⟩
    · go_wp2
      go_ret
      exact ⟨rfl, hbel⟩
  · have hb : Below w.heap.size w w2 := (hb1.trans (hb2.mono hb1.size))
    go_wp2_with fail
    refine (get_any _ bs a n w2 hs2 ha).mono ?_
    rintro e w4 ⟨rfl, hb4⟩
    have hs4 := hs2.below hb4
    have hbel : Below w.heap.size w w4 := hb.trans (hb4.mono (by have := hb.size; omega))
    rcases getE_cases bs a n with ⟨g0, k1, k8, ka, kl, kv⟩ | g0
    · rw [g0, kv]
      obtain ⟨q, rfl⟩ := Int.eq_ofNat_of_zero_le ka
      obtain ⟨m, rfl⟩ := Int.eq_ofNat_of_zero_le (show 0 ≤ n by omega)
      obtain ⟨b, off, cap, es, hcap, hcm, hcell⟩ := hs4.open (by intro e; rw [e] at kl; simp at kl; omega)
      simp only [Value.slice.injEq, true_and] at es
      obtain ⟨rfl, rfl⟩ := es
      rw [Int.toNat_natCast, Int.toNat_natCast]
      have hlx : ((bs.drop q).take m).length = m := by simp; omega
      have hnum : num ((bs.drop q).take m) < 256 ^ m := by have := num_lt ((bs.drop q).take m); rwa [hlx] at this
      have hp8 : 256 ^ m ≤ 256 ^ 8 := Nat.pow_le_pow_right (by omega) (by omega)
      have hn64 : num ((bs.drop q).take m) < 18446744073709551616 := by omega
      have hle : le m (num ((bs.drop q).take m)) = (bs.drop q).take m := by have := le_num ((bs.drop q).take m); rwa [hlx] at this
      have hP := put_any (.slice none 0 0) [] (num ((bs.drop q).take m)) m w4 (Row.nil _) (by simp) hn64
      rw [putE_ok _ _ (by omega) (by omega) (by rw [Int.toNat_natCast]; exact hnum), putB_ok _ _ _ (by omega) (by omega) (by rw [Int.toNat_natCast]; exact hnum), Int.toNat_natCast, hle, List.nil_append] at hP
      have hC : ∀ w5, Below w4.heap.size w4 w5 → Row w5 (.slice (some ⟨b, off + q, none⟩) m (c - q)) ((bs.drop q).take m) := fun w5 h => (Row.cut hcell q m (c - q) (by omega) (by omega) (by omega)).below h
      have HP := hide hP
      have HC := hide hC
      clear hP hC hp8 hle hnum hlx hcell hs2 hrt2 hb1 hb2
      generalize num ((bs.drop q).take m) = N at *
      generalize (bs.drop q).take m = xs at *
      have hi1 : (q : Int) + m ≤ c := by omega
      have hi2 : ¬ c = q := by omega
      have hi3 : (q : Int) ≤ q + m := by omega
      have hwr : IntKind.i64.wrap ((q : Int) + m) = q + m := by rw [IntKind.wrap_i64]; unfold maxLen at hcm; omega
      have hln : ((q : Int) + m).toNat - q = m := by omega
      unfold maxLen at hcm
      go_wp2_with fail
      refine Calls.mono (unhide HP) ?_
      rintro e w5 ⟨y, rfl, howny, hb5⟩
      have hry := row_of_owns howny
      clear howny
      go_wp2_with fail
      refine (bytes_any _ _ xs xs w5 hry (unhide HC w5 hb5)).mono ?_
      rintro e w6 ⟨rfl, rfl⟩
      go_wp2
      go_ret
      exact ⟨ret_true (by simp), hbel.trans (hb5.mono hbel.size)⟩
    · go_wp2
      go_ret
      exact ⟨rfl, hbel⟩

theorem walk_WordGets (s : Value) (bs : List UInt8) (a1 : Int) (w1 : (Lit.int .u64 a1).wf = true) (a2 : Int) (_w2 : (Lit.int .i64 a2).wf = true) (a3 : Int) (w3 : (Lit.int .i64 a3).wf = true) (w : World) (hs : Row w s bs) (hroom : bs.length ≤ 140737488351232) :
    Calls Try.prog 4 #[s, .int .u64 a1, .int .i64 a2, .int .i64 a3] w fun e w' => e = .returned (.bool true) ∧ Below w.heap.size w w' := by
  have hb1 := bounds_u64 w1
  have hb3 := bounds_i64 w3
  obtain ⟨v, rfl⟩ := Int.eq_ofNat_of_zero_le hb1.1
  exact gets_any s bs v a2 a3 w hs hroom (by omega) hb3.2 hb3.1
end Go.Proofs.Ytjcemodfpcohgaa
