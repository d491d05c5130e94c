/- Texts of ours, one behind the other: KeysA, KeysB. -/
import Derived.Test.YtjkkdijoogiipaaG3
import Derived.Test.YtjkkdijoogiipaaProg
import Derived.WalkKit
import Derived.ProofKit
import Derived.Below
import Derived.Laws.BytesArg
import Derived.Laws.IdiomStrings
import Derived.WalkMore
/- The landed package keys, and the reference: Less, May, Within, Empty, Next, Meet; the statements' awake. -/
namespace Go.Proofs.Ytjkkdijoogiipaa
open Go.RowKit

theorem kless_any (a b : ByteArray) (w : World) : Calls Try.prog 27 #[.string a, .string b] w fun e w' => e = .returned (.bool (tl a.toList b.toList)) ∧ w' = w := by
  go_enter Try.func27, Try.ntmps27
  go_wp2
  go_ret
  exact ⟨rfl, rfl⟩

def mloB (a c : ByteArray) : ByteArray := if tl a.toList c.toList then c else a
def mhiB (b d : ByteArray) : ByteArray := if d.toList.isEmpty || (!b.toList.isEmpty && tl b.toList d.toList) then b else d
theorem mloB_l (a c : ByteArray) : (mloB a c).toList = mlo a.toList c.toList := by unfold mloB mlo; split <;> rfl
theorem mhiB_l (a c : ByteArray) : (mhiB a c).toList = mhi a.toList c.toList := by unfold mhiB mhi; split <;> rfl

/-- What Meet answers. -/
def meetV (a b c d : ByteArray) : Value := if em (mloB a c).toList (mhiB b d).toList then .tuple #[.string ⟨#[]⟩, .string ⟨#[]⟩, .bool false] else .tuple #[.string (mloB a c), .string (mhiB b d), .bool true]
end Go.Proofs.Ytjkkdijoogiipaa

/- The landed package keys: behind, Prefix. -/
namespace Go.Proofs.Ytjkkdijoogiipaa
open Go.RowKit

/-- 'string([]byte{c})' of one byte in a block just made. -/
theorem conv_one (W : World) (n : Nat) (c : UInt8) (h : c.toNat = n + 1) :
    (convert 29 9 (.slice (some ⟨W.heap.size, 0, none⟩) 1 1)).run Try.prog (W.alloc (.cells #[.int .u8 ((n : Int) + 1)] 5)).drew = .ok (.string ⟨#[c]⟩) (W.alloc (.cells #[.int .u8 ((n : Int) + 1)] 5)).drew := by
  refine run_convert_bytes_back _ 29 9 5 ⟨W.heap.size, 0, none⟩ 1 [c] Try.underlying29 Try.underlying5 Try.underlying9 (fun j hj => ?_)
  simp only [List.length_singleton] at hj
  obtain rfl : j = 0 := by omega
  simp [go_sem, h]

end Go.Proofs.Ytjkkdijoogiipaa
