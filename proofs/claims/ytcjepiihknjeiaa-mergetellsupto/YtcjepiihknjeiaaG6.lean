/- Texts of ours, one behind the other: KeysA, KeysB, CelHead. -/
import Derived.Test.YtcjepiihknjeiaaG5
import Derived.Test.YtcjepiihknjeiaaProg
import Derived.WalkKit
import Derived.ProofKit
import Derived.Below
import Derived.Laws.BytesArg
import Derived.Laws.IdiomStrings
import Derived.WalkMore
import Derived.Laws.BitsAllLaws
/- The landed package keys, and the reference: Less, May, Within, Empty, Next, Meet; the statements' awake. -/
namespace Go.Proofs.Ytcjepiihknjeiaa
open Go.RowKit

theorem kless_any (a b : ByteArray) (w : World) : Calls Try.prog 29 #[.string a, .string b] w fun e w' => e = .returned (.bool (tl a.toList b.toList)) ∧ w' = w := by
  go_enter Try.func29, Try.ntmps29
  go_wp2
  go_ret
  exact ⟨rfl, rfl⟩

def mloB (a c : ByteArray) : ByteArray := if tl a.toList c.toList then c else a
def mhiB (b d : ByteArray) : ByteArray := if d.toList.isEmpty || (!b.toList.isEmpty && tl b.toList d.toList) then b else d
theorem mloB_l (a c : ByteArray) : (mloB a c).toList = mlo a.toList c.toList := by unfold mloB mlo; split <;> rfl
theorem mhiB_l (a c : ByteArray) : (mhiB a c).toList = mhi a.toList c.toList := by unfold mhiB mhi; split <;> rfl

/-- What Meet answers. -/
def meetV (a b c d : ByteArray) : Value := if em (mloB a c).toList (mhiB b d).toList then .tuple #[.string ⟨#[]⟩, .string ⟨#[]⟩, .bool false] else .tuple #[.string (mloB a c), .string (mhiB b d), .bool true]
end Go.Proofs.Ytcjepiihknjeiaa

/- The landed package keys: behind, Prefix. -/
namespace Go.Proofs.Ytcjepiihknjeiaa
open Go.RowKit

end Go.Proofs.Ytcjepiihknjeiaa

/- The landed package cells, and the reference: Head, Size, Ptrs, Kind; the statements' awake. -/
namespace Go.Proofs.Ytcjepiihknjeiaa
open Go.RowKit

theorem or_add (a b k : Nat) (hb : b < 2 ^ k) : (a * 2 ^ k) ||| b = a * 2 ^ k + b := by
  rw [Nat.mul_comm]
  exact (Nat.two_pow_add_eq_or_of_lt hb a).symm
theorem head_or (s p k : Int) (h1 : 0 ≤ p) (h2 : p ≤ 255) (h3 : 0 ≤ k) (h4 : k ≤ 15) (h5 : p < s) (h6 : s < 1048576) : bits .or .u32 (bits .or .u32 (s * 4096) (p * 16)) k = s * 4096 + p * 16 + k := by
  obtain ⟨s, rfl⟩ := Int.eq_ofNat_of_zero_le (show 0 ≤ s by omega)
  obtain ⟨p, rfl⟩ := Int.eq_ofNat_of_zero_le h1
  obtain ⟨k, rfl⟩ := Int.eq_ofNat_of_zero_le h3
  have e1 : ((s : Int) * 4096) = ((s * 4096 : Nat) : Int) := by omega
  have e2 : ((p : Int) * 16) = ((p * 16 : Nat) : Int) := by omega
  rw [e1, e2, u32_or_nat _ _ (by omega) (by omega), or_add s (p * 16) 12 (by omega), u32_or_nat _ _ (by omega) (by omega)]
  have e3 : s * 2 ^ 12 + p * 16 = (s * 256 + p) * 2 ^ 4 := by omega
  rw [e3, or_add _ k 4 (by omega)]
  omega
end Go.Proofs.Ytcjepiihknjeiaa
