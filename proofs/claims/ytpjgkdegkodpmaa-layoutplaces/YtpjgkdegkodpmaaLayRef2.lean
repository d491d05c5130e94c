/- What the reference of package layout does: Segment, Capacity, Phys, Logic, LogAt. -/
import Derived.Test.YtpjgkdegkodpmaaLayRef
namespace Go.Proofs.Ytpjgkdegkodpmaa
open Go.RowKit

theorem lay_below (n : Int) (w : World) : Below w.heap.size w (w.alloc (layO n)) := (Below.refl w.heap.size w).alloc (Nat.le_refl _) (layO n)

theorem rcap_any (n : Int) (w : World) (h : Fits n) :
    Calls Try.prog 19 #[layV n] w fun e w' => e = .returned (.int .i64 (capN n)) ∧ Below w.heap.size w w' := by
  obtain ⟨s1, s2, _, _⟩ := lseg_le n h
  have HB := hide (lay_below n w)
  unfold layO at HB
  unfold layV capN
  generalize lz n = z at *
  generalize lseg n = m at *
  go_enter Try.func19, Try.ntmps19
  go_wp2
  go_ret
  exact ⟨rfl, unhide HB⟩

theorem rseg_any (n a : Int) (w : World) (h : Fits n) :
    Calls Try.prog 17 #[layV n, .int .i64 a] w fun e w' => e = .returned (.int .i64 (segN n a)) ∧ Below w.heap.size w w' := by
  obtain ⟨z1, z2, _, _⟩ := lz_le n h
  obtain ⟨s1, s2, _, _⟩ := lseg_le n h
  have HB := hide (lay_below n w)
  unfold layO at HB
  obtain ⟨r, hr⟩ : ∃ r, r = segN n a := ⟨_, rfl⟩
  rw [← hr]
  unfold segN at hr
  have HR := hide hr
  clear hr h
  unfold layV
  generalize lz n = z at *
  generalize lseg n = m at *
  by_cases h1 : a < 0
  · rw [if_pos (Or.inl h1)] at HR
    go_enter Try.func17, Try.ntmps17
    go_wp2
    go_ret
    exact ⟨by rw [unhide HR]; rfl, unhide HB⟩
  · by_cases h2 : m ≤ a
    · rw [if_pos (Or.inr h2)] at HR
      have h1' : 0 ≤ a := by omega
      go_enter Try.func17, Try.ntmps17
      go_wp2
      go_ret
      exact ⟨by rw [unhide HR]; rfl, unhide HB⟩
    · rw [if_neg (by omega)] at HR
      have h1' : 0 ≤ a := by omega
      have h2' : a < m := by omega
      clear h1 h2
      go_enter Try.func17, Try.ntmps17
      go_wp2
      go_ret
      exact ⟨by rw [unhide HR]; rfl, unhide HB⟩

theorem rlogat_any (n : Int) (t : Nat) (w : World) (h : Fits n) (ht : t < 18446744073709551616) :
    Calls Try.prog 21 #[layV n, .int .u64 t] w fun e w' => e = .returned (.int .i64 (logN n t)) ∧ Below w.heap.size w w' := by
  obtain ⟨z1, z2, _, _⟩ := lz_le n h
  have HB := hide (lay_below n w)
  unfold layO at HB
  obtain ⟨r, hr⟩ : ∃ r, r = logN n t := ⟨_, rfl⟩
  rw [← hr]
  unfold logN at hr
  unfold layV
  generalize lz n = z at *
  generalize lseg n = m at *
  obtain ⟨q, rfl⟩ := Int.eq_ofNat_of_zero_le (show 0 ≤ z by omega)
  rw [Int.toNat_natCast] at hr
  have hq : t % q < q := Nat.mod_lt _ (by omega)
  have HM : Hid (((t : Int)).tmod (q : Int) = ((t % q : Nat) : Int)) := by unfold Hid; rw [Int.tmod_eq_emod_of_nonneg (by omega)]; rfl
  have HR := hide hr
  clear hr h
  go_enter Try.func21, Try.ntmps21
  go_wp2
  have hq0 : (q : Int) ≠ 0 := by omega
  have hw1 : IntKind.u64.wrap (q : Int) = (q : Int) := by rw [IntKind.wrap_u64]; omega
  have HM' := unhide HM
  have hw2 : IntKind.i64.wrap ((t % q : Nat) : Int) = ((t % q : Nat) : Int) := by rw [IntKind.wrap_i64]; omega
  have hw3 : IntKind.i64.wrap (13 + ((t % q : Nat) : Int)) = 13 + ((t % q : Nat) : Int) := by rw [IntKind.wrap_i64]; omega
  generalize t % q = u at *
  go_region
  go_wp2
  go_ret
  exact ⟨by rw [unhide HR]; rfl, (unhide HB).drew⟩
end Go.Proofs.Ytpjgkdegkodpmaa
