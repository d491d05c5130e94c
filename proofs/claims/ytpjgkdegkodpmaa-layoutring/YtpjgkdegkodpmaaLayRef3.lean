/- What the reference of package layout does: Phys, Logic. -/
import Derived.Test.YtpjgkdegkodpmaaLayRef2
namespace Go.Proofs.Ytpjgkdegkodpmaa
open Go.RowKit

theorem rphys_any (n a : Int) (w : World) (h : Fits n) :
    Calls Try.prog 11 #[layV n, .int .i64 a] w fun e w' => e = .returned (.tuple #[.int .i64 (physN n a), .bool (physB n a)]) ∧ Below w.heap.size w w' := by
  obtain ⟨z1, z2, _, _⟩ := lz_le n h
  obtain ⟨s1, s2, _, _⟩ := lseg_le n h
  have HB := hide (lay_below n w)
  have HC := hide (rcap_any n (w.alloc (layO n)) h)
  obtain ⟨r, hr⟩ : ∃ r, r = physN n a := ⟨_, rfl⟩
  obtain ⟨q, hq⟩ : ∃ q, q = physB n a := ⟨_, rfl⟩
  rw [← hr, ← hq]
  have hcap : capN n = lseg n * 31 := rfl
  unfold physN at hr
  unfold physB at hq
  rw [hcap] at hr hq HC
  unfold layO at HB HC
  unfold layV at HC ⊢
  have HR := hide hr
  have HQ := hide hq
  clear hr hq h hcap
  generalize lz n = z at *
  generalize lseg n = m at *
  by_cases h1 : a < 0
  · rw [if_pos (Or.inl h1)] at HR
    have HQ2 : Hid (q = false) := by unfold Hid; rw [unhide HQ]; simp; omega
    go_enter Try.func11, Try.ntmps11
    go_wp2
    go_ret2
    exact ⟨by rw [unhide HR, unhide HQ2]; rfl, unhide HB⟩
  · by_cases h2 : m * 31 ≤ a
    · rw [if_pos (Or.inr h2)] at HR
      have HQ2 : Hid (q = false) := by unfold Hid; rw [unhide HQ]; simp; omega
      have h1' : 0 ≤ a := by omega
      go_enter Try.func11, Try.ntmps11
      go_wp2_with fail
      refine Calls.mono (unhide HC) ?_
      rintro e w' ⟨rfl, hb⟩
      have HB2 := hide ((unhide HB).trans (hb.mono (by simp)))
      clear hb
      go_wp2
      go_ret2
      exact ⟨by rw [unhide HR, unhide HQ2]; rfl, unhide HB2⟩
    · rw [if_neg (by omega)] at HR
      have HQ2 : Hid (q = true) := by unfold Hid; rw [unhide HQ]; simp; omega
      have h1' : 0 ≤ a := by omega
      have h2' : a < m * 31 := by omega
      go_enter Try.func11, Try.ntmps11
      go_wp2_with fail
      refine Calls.mono (unhide HC) ?_
      rintro e w' ⟨rfl, hb⟩
      have HB2 := hide ((unhide HB).trans (hb.mono (by simp)))
      have c7 : w'.cell? ⟨w.heap.size, 7, none⟩ = some (.int .i64 (13 + 3 * z)) := by
        rw [cell_of_row w' w.heap.size 7 _ _ (0, 0) ((hb.block w.heap.size (by simp)).trans (heap_alloc_new _ _))]
        rfl
      have q1 : 0 ≤ a / 31 ∧ a / 31 < 2048 := by omega
      have q2 : 0 ≤ a % 31 ∧ a % 31 < 31 := by omega
      clear hb HC HB h1 h2
      go_wp2
      go_ret2
      exact ⟨by rw [unhide HR, unhide HQ2]; rfl, unhide HB2⟩

theorem reg7 (n a : Int) (h : Fits n) : regN n a = 7 ↔ 13 + 3 * lz n ≤ a ∧ a < 13 + 3 * lz n + lseg n * 32 := by
  obtain ⟨z1, z2, _, _⟩ := lz_le n h
  obtain ⟨s1, s2, _, _⟩ := lseg_le n h
  unfold regN
  repeat' split
  all_goals omega

theorem rlogic_any (n a : Int) (w : World) (h : Fits n) :
    Calls Try.prog 13 #[layV n, .int .i64 a] w fun e w' => e = .returned (.tuple #[.int .i64 (logicN n a), .bool (logicB n a)]) ∧ Below w.heap.size w w' := by
  obtain ⟨z1, z2, _, _⟩ := lz_le n h
  obtain ⟨s1, s2, _, _⟩ := lseg_le n h
  have HB := hide (lay_below n w)
  have HC := hide (rregion_any n a (w.alloc (layO n)) h)
  have h7 := reg7 n a h
  obtain ⟨r, hr⟩ : ∃ r, r = logicN n a := ⟨_, rfl⟩
  obtain ⟨q, hq⟩ : ∃ q, q = logicB n a := ⟨_, rfl⟩
  rw [← hr, ← hq]
  have HR : Hid ((regN n a = 7 ∧ (a - (13 + 3 * lz n)) % 32 ≠ 0 → r = (a - (13 + 3 * lz n)) / 32 * 31 + (a - (13 + 3 * lz n)) % 32 - 1 ∧ q = true) ∧ (¬ (regN n a = 7 ∧ (a - (13 + 3 * lz n)) % 32 ≠ 0) → r = 0 ∧ q = false)) := by
    refine ⟨fun hi => ?_, fun hi => ?_⟩
    · rw [hr, hq]
      unfold logicN logicB
      have hi' : isVal n a := hi
      rw [if_pos hi', decide_eq_true hi']
      exact ⟨rfl, rfl⟩
    · rw [hr, hq]
      unfold logicN logicB
      have hi' : ¬ isVal n a := hi
      rw [if_neg hi', decide_eq_false hi']
      exact ⟨rfl, rfl⟩
  unfold layO at HB HC
  unfold layV at HC ⊢
  generalize regN n a = g at *
  clear hr hq h
  generalize lz n = z at *
  generalize lseg n = m at *
  by_cases h1 : g = 7
  · obtain ⟨b1, b2⟩ := h7.1 h1
    subst h1
    obtain ⟨d, rfl⟩ : ∃ d, a = 13 + 3 * z + d := ⟨a - (13 + 3 * z), by omega⟩
    have e0 : 13 + 3 * z + d - (13 + 3 * z) = d := by omega
    rw [e0] at HR
    have d1 : 0 ≤ d := by omega
    have d2 : d < m * 32 := by omega
    have q1 : 0 ≤ d / 32 ∧ d / 32 < 2048 := by omega
    have q2 : 0 ≤ d % 32 ∧ d % 32 < 32 := by omega
    by_cases h0 : d % 32 = 0
    · have HR2 := hide ((unhide HR).2 (by simp [h0]))
      clear HR
      go_enter Try.func13, Try.ntmps13
      go_wp2_with fail
      refine Calls.mono (unhide HC) ?_
      rintro e w' ⟨rfl, hb⟩
      have HB2 := hide ((unhide HB).trans (hb.mono (by simp)))
      have c7 : w'.cell? ⟨w.heap.size, 7, none⟩ = some (.int .i64 (13 + 3 * z)) := by
        rw [cell_of_row w' w.heap.size 7 _ _ (0, 0) ((hb.block w.heap.size (by simp)).trans (heap_alloc_new _ _))]
        rfl
      clear hb HC HB h7
      go_wp2
      go_ret2
      exact ⟨by rw [(unhide HR2).1, (unhide HR2).2]; rfl, unhide HB2⟩
    · have HR2 := hide ((unhide HR).1 ⟨rfl, h0⟩)
      clear HR
      go_enter Try.func13, Try.ntmps13
      go_wp2_with fail
      refine Calls.mono (unhide HC) ?_
      rintro e w' ⟨rfl, hb⟩
      have HB2 := hide ((unhide HB).trans (hb.mono (by simp)))
      have c7 : w'.cell? ⟨w.heap.size, 7, none⟩ = some (.int .i64 (13 + 3 * z)) := by
        rw [cell_of_row w' w.heap.size 7 _ _ (0, 0) ((hb.block w.heap.size (by simp)).trans (heap_alloc_new _ _))]
        rfl
      clear hb HC HB h7
      go_wp2
      go_ret2
      exact ⟨by rw [(unhide HR2).1, (unhide HR2).2]; rfl, unhide HB2⟩
  · have HR2 := hide ((unhide HR).2 (fun h => h1 h.1))
    clear HR
    have hg : (g != 7) = true := by rw [bne_iff_ne]; exact h1
    go_enter Try.func13, Try.ntmps13
    go_wp2_with fail
    refine Calls.mono (unhide HC) ?_
    rintro e w' ⟨rfl, hb⟩
    have HB2 := hide ((unhide HB).trans (hb.mono (by simp)))
    clear hb HC HB h7
    go_wp2
    go_ret2
    exact ⟨by rw [(unhide HR2).1, (unhide HR2).2]; rfl, unhide HB2⟩
end Go.Proofs.Ytpjgkdegkodpmaa
