/- What the package layout does. -/
import Derived.Test.YtpjgkdegkodpmaaLayReg
import Derived.Test.YtpjgkdegkodpmaaLayRef3
namespace Go.Proofs.Ytpjgkdegkodpmaa
open Go.RowKit


theorem oplan_any (n : Int) (w : World) :
    Calls Try.prog 7 #[.int .i64 n] w fun e w' => e = .returned (.tuple #[planV n, .int .i64 (planE n)]) ∧ Below w.heap.size w w' := by
  by_cases h : Fits n
  · have HE := hide (show planV n = layV n ∧ planE n = 0 by unfold planV planE; rw [if_pos h, if_pos h]; exact ⟨rfl, rfl⟩)
    obtain ⟨d1, d2⟩ := h
    go_enter Try.func7, Try.ntmps7
    go_wp2
    refine bodyPost_ret (v := .tuple #[layV n, .int .i64 0]) (by simp [results, Try.results7, go_sem, layV, lz, lseg]) rfl ⟨by rw [(unhide HE).1, (unhide HE).2], (Below.refl _ _).alloc (Nat.le_refl _) _⟩
  · have HE := hide (show planV n = layZ ∧ planE n = 1 by unfold planV planE; rw [if_neg h, if_neg h]; exact ⟨rfl, rfl⟩)
    by_cases h1 : n < 256
    · clear h
      go_enter Try.func7, Try.ntmps7
      go_wp2
      refine bodyPost_ret (v := .tuple #[layZ, .int .i64 1]) (by simp [results, Try.results7, go_sem, layZ]) rfl ⟨by rw [(unhide HE).1, (unhide HE).2], (Below.refl _ _).alloc (Nat.le_refl _) _⟩
    · have h2 : 65536 < n := by unfold Fits at h; omega
      clear h
      go_enter Try.func7, Try.ntmps7
      go_wp2
      refine bodyPost_ret (v := .tuple #[layZ, .int .i64 1]) (by simp [results, Try.results7, go_sem, layZ]) rfl ⟨by rw [(unhide HE).1, (unhide HE).2], (Below.refl _ _).alloc (Nat.le_refl _) _⟩

theorem ocap_any (n : Int) (w : World) (h : Fits n) :
    Calls Try.prog 18 #[layV n] w fun e w' => e = .returned (.int .i64 (capN n)) ∧ Below w.heap.size w w' := by
  obtain ⟨s1, s2, _, _⟩ := lseg_le n h
  have HL := hide (lay_below n w)
  have HB := hide (bounded_any n (w.alloc (layO n)) h)
  unfold layO at HB HL
  unfold layV at HB ⊢
  unfold capN
  generalize lz n = z at *
  generalize lseg n = m at *
  clear h
  go_enter Try.func18, Try.ntmps18
  go_wp2_with fail
  refine Calls.mono (unhide HB) ?_
  rintro e w1 ⟨rfl, hb⟩
  obtain ⟨c0, c1, c2, c3, c4, c5, c6, c7, c8⟩ := nine_cells ((hb.block w.heap.size (by simp)).trans (heap_alloc_new _ _))
  have HB2 := hide ((unhide HL).trans (hb.mono (by simp)))
  clear hb HB HL
  go_wp2
  go_ret
  exact ⟨rfl, unhide HB2⟩

theorem oseg_any (n a : Int) (w : World) (h : Fits n) :
    Calls Try.prog 16 #[layV n, .int .i64 a] w fun e w' => e = .returned (.int .i64 (segN n a)) ∧ Below w.heap.size w w' := by
  obtain ⟨z1, z2, _, _⟩ := lz_le n h
  obtain ⟨s1, s2, _, _⟩ := lseg_le n h
  have HL := hide (lay_below n w)
  have HB := hide (bounded_any n (w.alloc (layO n)) h)
  unfold layO at HB HL
  unfold layV at HB ⊢
  obtain ⟨r, hr⟩ : ∃ r, r = segN n a := ⟨_, rfl⟩
  rw [← hr]
  unfold segN at hr
  have HR := hide hr
  clear hr h
  generalize lz n = z at *
  generalize lseg n = m at *
  by_cases h1 : a < 0
  · rw [if_pos (Or.inl h1)] at HR
    go_enter Try.func16, Try.ntmps16
    go_wp2_with fail
    refine Calls.mono (unhide HB) ?_
    rintro e w1 ⟨rfl, hb⟩
    obtain ⟨c0, c1, c2, c3, c4, c5, c6, c7, c8⟩ := nine_cells ((hb.block w.heap.size (by simp)).trans (heap_alloc_new _ _))
    have HB2 := hide ((unhide HL).trans (hb.mono (by simp)))
    clear hb HB HL
    go_wp2
    go_ret
    exact ⟨by rw [unhide HR]; rfl, unhide HB2⟩
  · by_cases h2 : m ≤ a
    · rw [if_pos (Or.inr h2)] at HR
      have h1' : 0 ≤ a := by omega
      clear h1
      go_enter Try.func16, Try.ntmps16
      go_wp2_with fail
      refine Calls.mono (unhide HB) ?_
      rintro e w1 ⟨rfl, hb⟩
      obtain ⟨c0, c1, c2, c3, c4, c5, c6, c7, c8⟩ := nine_cells ((hb.block w.heap.size (by simp)).trans (heap_alloc_new _ _))
      have HB2 := hide ((unhide HL).trans (hb.mono (by simp)))
      clear hb HB HL
      go_wp2
      go_ret
      exact ⟨by rw [unhide HR]; rfl, unhide HB2⟩
    · rw [if_neg (by omega)] at HR
      have h1' : 0 ≤ a := by omega
      have h2' : a < m := by omega
      clear h1 h2
      go_enter Try.func16, Try.ntmps16
      go_wp2_with fail
      refine Calls.mono (unhide HB) ?_
      rintro e w1 ⟨rfl, hb⟩
      obtain ⟨c0, c1, c2, c3, c4, c5, c6, c7, c8⟩ := nine_cells ((hb.block w.heap.size (by simp)).trans (heap_alloc_new _ _))
      have HB2 := hide ((unhide HL).trans (hb.mono (by simp)))
      clear hb HB HL
      go_wp2
      go_ret
      exact ⟨by rw [unhide HR]; rfl, unhide HB2⟩

theorem ologat_any (n : Int) (t : Nat) (w : World) (h : Fits n) (ht : t < 18446744073709551616) :
    Calls Try.prog 20 #[layV n, .int .u64 t] w fun e w' => e = .returned (.int .i64 (logN n t)) ∧ Below w.heap.size w w' := by
  obtain ⟨z1, z2, _, _⟩ := lz_le n h
  have HL := hide (lay_below n w)
  have HB := hide (bounded_any n (w.alloc (layO n)) h)
  unfold layO at HB HL
  unfold layV at HB ⊢
  obtain ⟨r, hr⟩ : ∃ r, r = logN n t := ⟨_, rfl⟩
  rw [← hr]
  unfold logN at hr
  generalize lz n = z at *
  generalize lseg n = m at *
  obtain ⟨q, rfl⟩ := Int.eq_ofNat_of_zero_le (show 0 ≤ z by omega)
  rw [Int.toNat_natCast] at hr
  have hq : t % q < q := Nat.mod_lt _ (by omega)
  have HM : Hid (((t : Int)).tmod (q : Int) = ((t % q : Nat) : Int)) := by unfold Hid; rw [Int.tmod_eq_emod_of_nonneg (by omega)]; rfl
  have HR := hide hr
  clear hr h
  have hq0 : (q : Int) ≠ 0 := by omega
  go_enter Try.func20, Try.ntmps20
  go_wp2_with fail
  refine Calls.mono (unhide HB) ?_
  rintro e w1 ⟨rfl, hb⟩
  obtain ⟨c0, c1, c2, c3, c4, c5, c6, c7, c8⟩ := nine_cells ((hb.block w.heap.size (by simp)).trans (heap_alloc_new _ _))
  have HB2 := hide ((unhide HL).trans (hb.mono (by simp)))
  clear hb HB HL
  go_wp2
  have hw1 : IntKind.u64.wrap (q : Int) = (q : Int) := by rw [IntKind.wrap_u64]; omega
  have HM' := unhide HM
  have hw2 : IntKind.i64.wrap ((t % q : Nat) : Int) = ((t % q : Nat) : Int) := by rw [IntKind.wrap_i64]; omega
  have hw3 : IntKind.i64.wrap (13 + ((t % q : Nat) : Int)) = 13 + ((t % q : Nat) : Int) := by rw [IntKind.wrap_i64]; omega
  generalize t % q = u at *
  go_region
  go_wp2
  go_ret
  exact ⟨by rw [unhide HR]; rfl, (unhide HB2).drew⟩

set_option maxHeartbeats 1000000 in
theorem ophys_any (n a : Int) (w : World) (h : Fits n) (ha : I64 a) :
    Calls Try.prog 10 #[layV n, .int .i64 a] w fun e w' => e = .returned (.tuple #[.int .i64 (physN n a), .bool (physB n a)]) ∧ Below w.heap.size w w' := by
  obtain ⟨z1, z2, _, _⟩ := lz_le n h
  obtain ⟨s1, s2, _, _⟩ := lseg_le n h
  have HL := hide (lay_below n w)
  obtain ⟨a1, a2⟩ := ha
  have HC := hide (oseg_any n (a / 31) (w.alloc (layO n)) h)
  obtain ⟨r, hr⟩ : ∃ r, r = physN n a := ⟨_, rfl⟩
  obtain ⟨q, hq⟩ : ∃ q, q = physB n a := ⟨_, rfl⟩
  rw [← hr, ← hq]
  unfold physN capN at hr
  unfold physB capN at hq
  unfold segN at HC
  unfold layO at HL HC
  unfold layV at HC ⊢
  have HR := hide hr
  have HQ := hide hq
  clear hr hq h
  generalize lz n = z at *
  generalize lseg n = m at *
  by_cases h1 : a < 0
  · rw [if_pos (Or.inl h1)] at HR
    have HQ2 : Hid (q = false) := by unfold Hid; rw [unhide HQ]; simp; omega
    clear HC
    go_enter Try.func10, Try.ntmps10
    go_wp2
    go_ret2
    exact ⟨by rw [unhide HR, unhide HQ2]; rfl, unhide HL⟩
  · have h1' : 0 ≤ a := by omega
    have q1 : 0 ≤ a / 31 := by omega
    by_cases h2 : m * 31 ≤ a
    · rw [if_pos (Or.inr h2)] at HR
      rw [if_pos (show a / 31 < 0 ∨ m ≤ a / 31 by omega)] at HC
      have HQ2 : Hid (q = false) := by unfold Hid; rw [unhide HQ]; simp; omega
      clear h1 h2
      go_enter Try.func10, Try.ntmps10
      go_wp2_with fail
      refine Calls.mono (unhide HC) ?_
      rintro e w' ⟨rfl, hb⟩
      have HB2 := hide ((unhide HL).trans (hb.mono (by simp)))
      clear hb
      go_wp2
      go_ret2
      exact ⟨by rw [unhide HR, unhide HQ2]; rfl, unhide HB2⟩
    · rw [if_neg (by omega)] at HR
      rw [if_neg (show ¬ (a / 31 < 0 ∨ m ≤ a / 31) by omega)] at HC
      have HQ2 : Hid (q = true) := by unfold Hid; rw [unhide HQ]; simp; omega
      have h2' : a < m * 31 := by omega
      have q2 : a / 31 < 2048 := by omega
      have q3 : 0 ≤ a % 31 ∧ a % 31 < 31 := by omega
      have hnn : ¬ (13 + 3 * z + a / 31 * 32 < 0) := by omega
      clear h1 h2
      go_enter Try.func10, Try.ntmps10
      go_wp2_with fail
      refine Calls.mono (unhide HC) ?_
      rintro e w' ⟨rfl, hb⟩
      have HB2 := hide ((unhide HL).trans (hb.mono (by simp)))
      clear hb HC HL
      go_wp2
      go_ret2
      exact ⟨by rw [unhide HR, unhide HQ2]; rfl, unhide HB2⟩

set_option maxHeartbeats 1000000 in
theorem ologic_any (n a : Int) (w : World) (h : Fits n) (ha : I64 a) :
    Calls Try.prog 12 #[layV n, .int .i64 a] w fun e w' => e = .returned (.tuple #[.int .i64 (logicN n a), .bool (logicB n a)]) ∧ Below w.heap.size w w' := by
  obtain ⟨z1, z2, _, _⟩ := lz_le n h
  obtain ⟨s1, s2, _, _⟩ := lseg_le n h
  have HB := hide (lay_below n w)
  have HC := hide (oregion_any n a (w.alloc (layO n)) h ha)
  have h7 := reg7 n a h
  obtain ⟨r, hr⟩ : ∃ r, r = logicN n a := ⟨_, rfl⟩
  obtain ⟨q, hq⟩ : ∃ q, q = logicB n a := ⟨_, rfl⟩
  rw [← hr, ← hq]
  have HR : Hid ((regN n a = 7 ∧ (a - (13 + 3 * lz n)) % 32 ≠ 0 → r = (a - (13 + 3 * lz n)) / 32 * 31 + (a - (13 + 3 * lz n)) % 32 - 1 ∧ q = true) ∧ (¬ (regN n a = 7 ∧ (a - (13 + 3 * lz n)) % 32 ≠ 0) → r = 0 ∧ q = false)) := by
    refine ⟨fun hi => ?_, fun hi => ?_⟩
    · rw [hr, hq]
      unfold logicN logicB
      have hi' : isVal n a := hi
      rw [if_pos hi', decide_eq_true hi']
      exact ⟨rfl, rfl⟩
    · rw [hr, hq]
      unfold logicN logicB
      have hi' : ¬ isVal n a := hi
      rw [if_neg hi', decide_eq_false hi']
      exact ⟨rfl, rfl⟩
  unfold layO at HB HC
  unfold layV at HC ⊢
  generalize regN n a = g at *
  clear hr hq h
  generalize lz n = z at *
  generalize lseg n = m at *
  by_cases h1 : g = 7
  · obtain ⟨b1, b2⟩ := h7.1 h1
    subst h1
    obtain ⟨d, rfl⟩ : ∃ d, a = 13 + 3 * z + d := ⟨a - (13 + 3 * z), by omega⟩
    have e0 : 13 + 3 * z + d - (13 + 3 * z) = d := by omega
    rw [e0] at HR
    have d1 : 0 ≤ d := by omega
    have d2 : d < m * 32 := by omega
    have q1 : 0 ≤ d / 32 ∧ d / 32 < 2048 := by omega
    have q2 : 0 ≤ d % 32 ∧ d % 32 < 32 := by omega
    by_cases h0 : d % 32 = 0
    · have HR2 := hide ((unhide HR).2 (by simp [h0]))
      clear HR
      go_enter Try.func12, Try.ntmps12
      go_wp2_with fail
      refine Calls.mono (unhide HC) ?_
      rintro e w' ⟨rfl, hb⟩
      have HB2 := hide ((unhide HB).trans (hb.mono (by simp)))
      have c7 : w'.cell? ⟨w.heap.size, 7, none⟩ = some (.int .i64 (13 + 3 * z)) := by
        rw [cell_of_row w' w.heap.size 7 _ _ (0, 0) ((hb.block w.heap.size (by simp)).trans (heap_alloc_new _ _))]
        rfl
      clear hb HC HB h7
      go_wp2_with fail
      go_region
      go_wp2
      go_ret2
      exact ⟨by rw [(unhide HR2).1, (unhide HR2).2]; rfl, (unhide HB2).drew⟩
    · have HR2 := hide ((unhide HR).1 ⟨rfl, h0⟩)
      clear HR
      go_enter Try.func12, Try.ntmps12
      go_wp2_with fail
      refine Calls.mono (unhide HC) ?_
      rintro e w' ⟨rfl, hb⟩
      have HB2 := hide ((unhide HB).trans (hb.mono (by simp)))
      have c7 : w'.cell? ⟨w.heap.size, 7, none⟩ = some (.int .i64 (13 + 3 * z)) := by
        rw [cell_of_row w' w.heap.size 7 _ _ (0, 0) ((hb.block w.heap.size (by simp)).trans (heap_alloc_new _ _))]
        rfl
      clear hb HC HB h7
      go_wp2_with fail
      go_region
      go_wp2
      go_ret2
      exact ⟨by rw [(unhide HR2).1, (unhide HR2).2]; rfl, (unhide HB2).drew⟩
  · have HR2 := hide ((unhide HR).2 (fun h => h1 h.1))
    clear HR
    have hg : (g != 7) = true := by rw [bne_iff_ne]; exact h1
    go_enter Try.func12, Try.ntmps12
    go_wp2_with fail
    refine Calls.mono (unhide HC) ?_
    rintro e w' ⟨rfl, hb⟩
    have HB2 := hide ((unhide HB).trans (hb.mono (by simp)))
    clear hb HC HB h7
    go_wp2
    go_ret2
    exact ⟨by rw [(unhide HR2).1, (unhide HR2).2]; rfl, unhide HB2⟩

theorem layC : LayC where
  plan := fun n w _ => oplan_any n w
  region := fun n a w h ha => oregion_any n a w h ha
  segment := fun n a w h _ => oseg_any n a w h
  capacity := fun n w h => ocap_any n w h
  phys := fun n a w h ha => ophys_any n a w h ha
  logic := fun n a w h ha => ologic_any n a w h ha
  logAt := fun n t w h ht => ologat_any n t w h ht
end Go.Proofs.Ytpjgkdegkodpmaa
