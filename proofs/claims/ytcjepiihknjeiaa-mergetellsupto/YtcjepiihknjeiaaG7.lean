/- Texts of ours, one behind the other: KeysRef. -/
import Derived.Test.YtcjepiihknjeiaaG6
import Derived.BigQuiet
/- The reference of layer 9: Less, Within, Empty, Meet, Next, May, Prefix. -/
namespace Go.Proofs.Ytcjepiihknjeiaa
open Go.RowKit

theorem rless_any (a b : ByteArray) (w : World) (ha : a.size ≤ 140737488351232) : Calls Try.prog 27 #[.string a, .string b] w fun e w' => e = .returned (.bool (tl a.toList b.toList)) ∧ Below w.heap.size w w' := by
  go_enter Try.func27, Try.ntmps27
  go_wp2
  go_loopw [5] (fun i wr => ∃ k : Nat, k ≤ a.size ∧ k ≤ b.size ∧ i = .int .i64 (k : Int) ∧ Hid (a.toList.take k = b.toList.take k) ∧ Below w.heap.size w wr) (fun i _ => a.size - (intOf i).toNat)
  case atStart => exact ⟨0, Nat.zero_le _, Nat.zero_le _, rfl, rfl, Below.refl _ _⟩
  case round =>
    obtain ⟨k, hk1, hk2, rfl, ht, hbel⟩ := hrel
    by_cases h1 : k < a.size
    · by_cases h2 : k < b.size
      · have i1 : (k : Int) < (a.size : Int) := by omega
        have i2 : (k : Int) < (b.size : Int) := by omega
        by_cases hd : a[k].toNat = b[k].toNat
        · have HT := khide (take_step h1 h2 (UInt8.toNat_inj.1 hd) ht.out)
          have hd2 : ((a[k].toNat : Int) != (b[k].toNat : Int)) = false := by rw [hd]; simp
          have hd3 : ¬ ((a[k].toNat : Int) ≠ (b[k].toNat : Int)) := by rw [hd]; simp
          clear hd
          go_wp2
          go_region
          go_wp2
          go_roundw
          case rel => exact ⟨k + 1, by omega, by omega, by go_num, kunhide HT, hbel.drew⟩
          case measure => simp [intOf]; omega
        · have HT := khide (tl_differ h1 h2 hd ht.out)
          have hd2 : ((a[k].toNat : Int) != (b[k].toNat : Int)) = true := by simp; omega
          go_wp2
          go_region
          go_wp2
          go_region
          go_wp2
          go_ret
          refine ⟨?_, hbel.drew.drew⟩
          rw [kunhide HT]
          simp
      · have HT := khide (tl_end hk1 hk2 (fun h => h2 h.2) ht.out)
        have i1 : (k : Int) < (a.size : Int) := by omega
        have i2 : ¬ (k : Int) < (b.size : Int) := by omega
        go_wp2
        go_ret
        refine ⟨?_, hbel⟩
        rw [kunhide HT]
        simp
    · have HT := khide (tl_end hk1 hk2 (fun h => h1 h.1) ht.out)
      have i1 : ¬ (k : Int) < (a.size : Int) := by omega
      go_wp2
      go_ret
      refine ⟨?_, hbel⟩
      rw [kunhide HT]
      simp

abbrev KM : Nat := 140737488351232
/-- What May answers. -/
def kmay (a : ByteArray) : Bool := decide (1 ≤ a.size) && decide (a.size ≤ 64)
theorem rmay_any (a : ByteArray) (w : World) : Calls Try.prog 26 #[.string a] w fun e w' => e = .returned (.bool (kmay a)) ∧ w' = w := by
  by_cases h1 : 1 ≤ a.size
  · by_cases h2 : a.size ≤ 64
    · rw [show kmay a = true by simp [kmay, h1, h2]]
      have i1 : (1 : Int) ≤ (a.size : Int) := by omega
      have i2 : (a.size : Int) ≤ 64 := by omega
      go_enter Try.func26, Try.ntmps26
      go_wp2
      go_ret
      exact ⟨rfl, rfl⟩
    · rw [show kmay a = false by simp [kmay, h2]]
      have i1 : (1 : Int) ≤ (a.size : Int) := by omega
      have i2 : ¬ (a.size : Int) ≤ 64 := by omega
      go_enter Try.func26, Try.ntmps26
      go_wp2
      go_ret
      exact ⟨rfl, rfl⟩
  · rw [show kmay a = false by simp [kmay, h1]]
    have i1 : ¬ (1 : Int) ≤ (a.size : Int) := by omega
    go_enter Try.func26, Try.ntmps26
    go_wp2
    go_ret
    exact ⟨rfl, rfl⟩
theorem kmay_any (a : ByteArray) (w : World) : Calls Try.prog 28 #[.string a] w fun e w' => e = .returned (.bool (kmay a)) ∧ w' = w := by
  by_cases h1 : 1 ≤ a.size
  · have hn : ¬ a.toList = [] := fun e => by have := bl_len a; rw [e] at this; simp at this; omega
    have hn2 : a.toList.isEmpty = false := by simpa using hn
    by_cases h2 : a.size ≤ 64
    · rw [show kmay a = true by simp [kmay, h1, h2]]
      have i2 : (a.size : Int) ≤ 64 := by omega
      go_enter Try.func28, Try.ntmps28
      go_wp2
      go_ret
      exact ⟨rfl, rfl⟩
    · rw [show kmay a = false by simp [kmay, h2]]
      have i2 : ¬ (a.size : Int) ≤ 64 := by omega
      go_enter Try.func28, Try.ntmps28
      go_wp2
      go_ret
      exact ⟨rfl, rfl⟩
  · rw [show kmay a = false by simp [kmay, h1]]
    have hn : a.toList = [] := List.length_eq_zero_iff.1 (by rw [bl_len]; omega)
    go_enter Try.func28, Try.ntmps28
    go_wp2
    go_ret
    exact ⟨rfl, rfl⟩

end Go.Proofs.Ytcjepiihknjeiaa
