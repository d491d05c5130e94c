/- What the reference of package layout does. -/
import Derived.Test.YtpjgkdegkodpmaaBase
import Derived.Test.YtpjgkdegkodpmaaLayPlain
namespace Go.Proofs.Ytpjgkdegkodpmaa
open Go.RowKit

theorem rplan_any (n : Int) (w : World) :
    Calls Try.prog 8 #[.int .i64 n] w fun e w' => e = .returned (.tuple #[planV n, .int .i64 (planE n)]) ∧ Below w.heap.size w w' := by
  by_cases h : Fits n
  · have HE := hide (show planV n = layV n ∧ planE n = 0 by unfold planV planE; rw [if_pos h, if_pos h]; exact ⟨rfl, rfl⟩)
    obtain ⟨d1, d2⟩ := h
    go_enter Try.func8, Try.ntmps8
    go_wp2
    refine bodyPost_ret (v := .tuple #[layV n, .int .i64 0]) (by simp [results, Try.results8, go_sem, layV, lz, lseg]) rfl ⟨by rw [(unhide HE).1, (unhide HE).2], ((Below.refl _ _).alloc (Nat.le_refl _) _).alloc (by simp) _⟩
  · have HE := hide (show planV n = layZ ∧ planE n = 1 by unfold planV planE; rw [if_neg h, if_neg h]; exact ⟨rfl, rfl⟩)
    by_cases h1 : n < 256
    · clear h
      go_enter Try.func8, Try.ntmps8
      go_wp2
      refine bodyPost_ret (v := .tuple #[layZ, .int .i64 1]) (by simp [results, Try.results8, go_sem, layZ]) rfl ⟨by rw [(unhide HE).1, (unhide HE).2], (Below.refl _ _).alloc (Nat.le_refl _) _⟩
    · have h2 : 65536 < n := by unfold Fits at h; omega
      clear h
      go_enter Try.func8, Try.ntmps8
      go_wp2
      refine bodyPost_ret (v := .tuple #[layZ, .int .i64 1]) (by simp [results, Try.results8, go_sem, layZ]) rfl ⟨by rw [(unhide HE).1, (unhide HE).2], (Below.refl _ _).alloc (Nat.le_refl _) _⟩

theorem rin_any (a f m : Int) (w : World) (hb : -4611686018427387904 ≤ f + m ∧ f + m ≤ 4611686018427387904) :
    Calls Try.prog 24 #[.int .i64 a, .int .i64 f, .int .i64 m] w fun e w' => e = .returned (.bool (decide (f ≤ a ∧ a < f + m))) ∧ w' = w := by
  obtain ⟨r, hr⟩ : ∃ r, r = decide (f ≤ a ∧ a < f + m) := ⟨_, rfl⟩
  rw [← hr]
  have HR := hide hr
  clear hr
  go_enter Try.func24, Try.ntmps24
  go_wp2
  · go_ret
    exact ⟨by rw [unhide HR]; simp [*], rfl⟩
  · go_ret
    exact ⟨by rw [unhide HR]; simp; omega, rfl⟩

/-- The layout's variable within Region. -/
def layO (n : Int) : Obj := .cells #[.int .i64 n, .int .i64 3, .int .i64 13, .int .i64 (lz n), .int .i64 (13 + lz n), .int .i64 (13 + 2 * lz n), .int .i64 (lz n), .int .i64 (13 + 3 * lz n), .int .i64 (lseg n)] 25

set_option maxHeartbeats 1000000 in
theorem rregion_any (n a : Int) (w : World) (h : Fits n) :
    Calls Try.prog 15 #[layV n, .int .i64 a] w fun e w' => e = .returned (.int .i64 (regN n a)) ∧ Below w.heap.size w w' := by
  obtain ⟨z1, z2, _, _⟩ := lz_le n h
  obtain ⟨s1, s2, _, _⟩ := lseg_le n h
  obtain ⟨r, hr⟩ : ∃ r, r = regN n a := ⟨_, rfl⟩
  rw [← hr]
  unfold regN at hr
  have HR := hide hr
  unfold layV
  have bel := (Below.refl w.heap.size w).alloc (Nat.le_refl _) (layO n)
  unfold layO at bel
  clear hr h
  generalize lz n = z at *
  generalize lseg n = m at *
  have HB := hide bel
  clear bel
  go_enter Try.func15, Try.ntmps15
  go_wp2_with fail
  refine (rin_any a 0 2 _ (by omega)).mono ?_
  rintro e w0 ⟨rfl, rfl⟩
  by_cases h0 : 0 ≤ a ∧ a < 2
  · rw [decide_eq_true (show 0 ≤ a ∧ a < 0 + 2 by omega)]
    rw [if_pos h0] at HR
    go_wp2
    go_ret
    exact ⟨by rw [unhide HR]; rfl, unhide HB⟩
  rw [decide_eq_false (show ¬ (0 ≤ a ∧ a < 0 + 2) by omega)]
  rw [if_neg h0] at HR
  have G0 := hide h0
  clear h0
  by_cases h1 : a = 2
  · rw [if_pos h1] at HR
    have d : (a == 2) = true := by simp [h1]
    clear h1
    go_wp2
    go_ret
    exact ⟨by rw [unhide HR]; rfl, unhide HB⟩
  have d1 : (a == 2) = false := by simp [h1]
  rw [if_neg h1] at HR
  clear h1
  go_wp2_with fail
  refine (rin_any a 3 10 _ (by omega)).mono ?_
  rintro e w2 ⟨rfl, rfl⟩
  by_cases h2 : 3 ≤ a ∧ a < 3 + 10
  · rw [decide_eq_true (show 3 ≤ a ∧ a < 3 + 10 by omega)]
    rw [if_pos h2] at HR
    go_wp2
    go_ret
    exact ⟨by rw [unhide HR]; rfl, unhide HB⟩
  rw [decide_eq_false (show ¬ (3 ≤ a ∧ a < 3 + 10) by omega)]
  rw [if_neg h2] at HR
  have G2 := hide h2
  clear h2
  go_wp2_with fail
  refine (rin_any a 13 z _ (by omega)).mono ?_
  rintro e w3 ⟨rfl, rfl⟩
  by_cases h3 : 13 ≤ a ∧ a < 13 + z
  · rw [decide_eq_true (show 13 ≤ a ∧ a < 13 + z by omega)]
    rw [if_pos h3] at HR
    go_wp2
    go_ret
    exact ⟨by rw [unhide HR]; rfl, unhide HB⟩
  rw [decide_eq_false (show ¬ (13 ≤ a ∧ a < 13 + z) by omega)]
  rw [if_neg h3] at HR
  have G3 := hide h3
  clear h3
  go_wp2_with fail
  refine (rin_any a (13 + z) z _ (by omega)).mono ?_
  rintro e w4 ⟨rfl, rfl⟩
  by_cases h4 : 13 + z ≤ a ∧ a < 13 + z + z
  · rw [decide_eq_true (show (13 + z) ≤ a ∧ a < (13 + z) + z by omega)]
    rw [if_pos h4] at HR
    go_wp2
    go_ret
    exact ⟨by rw [unhide HR]; rfl, unhide HB⟩
  rw [decide_eq_false (show ¬ ((13 + z) ≤ a ∧ a < (13 + z) + z) by omega)]
  rw [if_neg h4] at HR
  have G4 := hide h4
  clear h4
  go_wp2_with fail
  refine (rin_any a (13 + 2 * z) z _ (by omega)).mono ?_
  rintro e w5 ⟨rfl, rfl⟩
  by_cases h5 : 13 + 2 * z ≤ a ∧ a < 13 + 2 * z + z
  · rw [decide_eq_true (show (13 + 2 * z) ≤ a ∧ a < (13 + 2 * z) + z by omega)]
    rw [if_pos h5] at HR
    go_wp2
    go_ret
    exact ⟨by rw [unhide HR]; rfl, unhide HB⟩
  rw [decide_eq_false (show ¬ ((13 + 2 * z) ≤ a ∧ a < (13 + 2 * z) + z) by omega)]
  rw [if_neg h5] at HR
  have G5 := hide h5
  clear h5
  go_wp2_with fail
  refine (rin_any a (13 + 3 * z) (m * 32) _ (by omega)).mono ?_
  rintro e w6 ⟨rfl, rfl⟩
  by_cases h6 : 13 + 3 * z ≤ a ∧ a < 13 + 3 * z + m * 32
  · rw [decide_eq_true (show (13 + 3 * z) ≤ a ∧ a < (13 + 3 * z) + (m * 32) by omega)]
    rw [if_pos h6] at HR
    go_wp2
    go_ret
    exact ⟨by rw [unhide HR]; rfl, unhide HB⟩
  rw [decide_eq_false (show ¬ ((13 + 3 * z) ≤ a ∧ a < (13 + 3 * z) + (m * 32)) by omega)]
  rw [if_neg h6] at HR
  have G6 := hide h6
  clear h6
  go_wp2
  go_ret
  exact ⟨by rw [unhide HR]; rfl, unhide HB⟩
end Go.Proofs.Ytpjgkdegkodpmaa
