/- What the package layout does. -/
import Derived.Test.YtdpoiieblbmofaaLayReg
import Derived.Test.YtdpoiieblbmofaaLayRef3
namespace Go.Proofs.Ytdpoiieblbmofaa
open Go.RowKit


theorem oplan_any (n : Int) (w : World) :
    Calls Try.prog 40 #[.int .i64 n] w fun e w' => e = .returned (.tuple #[planV n, .int .i64 (planE n)]) ∧ Below w.heap.size w w' := by
  by_cases h : Fits n
  · have HE := hide (show planV n = layV n ∧ planE n = 0 by unfold planV planE; rw [if_pos h, if_pos h]; exact ⟨rfl, rfl⟩)
    obtain ⟨d1, d2⟩ := h
    go_enter Try.func40, Try.ntmps40
    go_wp2
    refine bodyPost_ret (v := .tuple #[layV n, .int .i64 0]) (by simp [results, Try.results40, go_sem, layV, lz, lseg]) rfl ⟨by rw [(unhide HE).1, (unhide HE).2], (Below.refl _ _).alloc (Nat.le_refl _) _⟩
  · have HE := hide (show planV n = layZ ∧ planE n = 1 by unfold planV planE; rw [if_neg h, if_neg h]; exact ⟨rfl, rfl⟩)
    by_cases h1 : n < 256
    · clear h
      go_enter Try.func40, Try.ntmps40
      go_wp2
      refine bodyPost_ret (v := .tuple #[layZ, .int .i64 1]) (by simp [results, Try.results40, go_sem, layZ]) rfl ⟨by rw [(unhide HE).1, (unhide HE).2], (Below.refl _ _).alloc (Nat.le_refl _) _⟩
    · have h2 : 65536 < n := by unfold Fits at h; omega
      clear h
      go_enter Try.func40, Try.ntmps40
      go_wp2
      refine bodyPost_ret (v := .tuple #[layZ, .int .i64 1]) (by simp [results, Try.results40, go_sem, layZ]) rfl ⟨by rw [(unhide HE).1, (unhide HE).2], (Below.refl _ _).alloc (Nat.le_refl _) _⟩

theorem ologat_any (n : Int) (t : Nat) (w : World) (h : Fits n) (ht : t < 18446744073709551616) :
    Calls Try.prog 80 #[layV n, .int .u64 t] w fun e w' => e = .returned (.int .i64 (logN n t)) ∧ Below w.heap.size w w' := by
  obtain ⟨z1, z2, _, _⟩ := lz_le n h
  have HL := hide (lay_below n w)
  have HB := hide (bounded_any n (w.alloc (layO n)) h)
  unfold layO at HB HL
  unfold layV at HB ⊢
  obtain ⟨r, hr⟩ : ∃ r, r = logN n t := ⟨_, rfl⟩
  rw [← hr]
  unfold logN at hr
  generalize lz n = z at *
  generalize lseg n = m at *
  obtain ⟨q, rfl⟩ := Int.eq_ofNat_of_zero_le (show 0 ≤ z by omega)
  rw [Int.toNat_natCast] at hr
  have hq : t % q < q := Nat.mod_lt _ (by omega)
  have HM : Hid (((t : Int)).tmod (q : Int) = ((t % q : Nat) : Int)) := by unfold Hid; rw [Int.tmod_eq_emod_of_nonneg (by omega)]; rfl
  have HR := hide hr
  clear hr h
  have hq0 : (q : Int) ≠ 0 := by omega
  go_enter Try.func80, Try.ntmps80
  go_wp2_with fail
  refine Calls.mono (unhide HB) ?_
  rintro e w1 ⟨rfl, hb⟩
  obtain ⟨c0, c1, c2, c3, c4, c5, c6, c7, c8⟩ := nine_cells ((hb.block w.heap.size (by simp)).trans (heap_alloc_new _ _))
  have HB2 := hide ((unhide HL).trans (hb.mono (by simp)))
  clear hb HB HL
  go_wp2
  have hw1 : IntKind.u64.wrap (q : Int) = (q : Int) := by rw [IntKind.wrap_u64]; omega
  have HM' := unhide HM
  have hw2 : IntKind.i64.wrap ((t % q : Nat) : Int) = ((t % q : Nat) : Int) := by rw [IntKind.wrap_i64]; omega
  have hw3 : IntKind.i64.wrap (13 + ((t % q : Nat) : Int)) = 13 + ((t % q : Nat) : Int) := by rw [IntKind.wrap_i64]; omega
  generalize t % q = u at *
  go_region
  go_wp2
  go_ret
  exact ⟨by rw [unhide HR]; rfl, (unhide HB2).drew⟩

end Go.Proofs.Ytdpoiieblbmofaa
