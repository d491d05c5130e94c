/- Texts of ours, one behind the other: KeysRef. -/
import Derived.Test.YtehafkbndjifaabG4
import Derived.BigQuiet
/- The reference of layer 9: Less, Within, Empty, Meet, Next, May, Prefix. -/
namespace Go.Proofs.Ytehafkbndjifaab
open Go.RowKit

abbrev KM : Nat := 140737488351232
/-- What May answers. -/
def kmay (a : ByteArray) : Bool := decide (1 ≤ a.size) && decide (a.size ≤ 64)
theorem kmay_any (a : ByteArray) (w : World) : Calls Try.prog 31 #[.string a] w fun e w' => e = .returned (.bool (kmay a)) ∧ w' = w := by
  by_cases h1 : 1 ≤ a.size
  · have hn : ¬ a.toList = [] := fun e => by have := bl_len a; rw [e] at this; simp at this; omega
    have hn2 : a.toList.isEmpty = false := by simpa using hn
    by_cases h2 : a.size ≤ 64
    · rw [show kmay a = true by simp [kmay, h1, h2]]
      have i2 : (a.size : Int) ≤ 64 := by omega
      go_enter Try.func31, Try.ntmps31
      go_wp2
      go_ret
      exact ⟨rfl, rfl⟩
    · rw [show kmay a = false by simp [kmay, h2]]
      have i2 : ¬ (a.size : Int) ≤ 64 := by omega
      go_enter Try.func31, Try.ntmps31
      go_wp2
      go_ret
      exact ⟨rfl, rfl⟩
  · rw [show kmay a = false by simp [kmay, h1]]
    have hn : a.toList = [] := List.length_eq_zero_iff.1 (by rw [bl_len]; omega)
    go_enter Try.func31, Try.ntmps31
    go_wp2
    go_ret
    exact ⟨rfl, rfl⟩

end Go.Proofs.Ytehafkbndjifaab
