/- What the statements of layer 3 ask of package sector, as contracts; and that 'awake' answers true by them. -/
import Derived.Test.YtdpoiieblbmofaaSecRef2
import Derived.Test.YtdpoiieblbmofaaSecPlain2
import Derived.Test.YtdpoiieblbmofaaMine
import Derived.Lib.SlBytesConst
import Derived.OpenShut
namespace Go.Proofs.Ytdpoiieblbmofaa
open Go.RowKit

theorem byte_of {a : Int} (h : (Lit.int .u8 a).wf = true) : ∃ k : UInt8, a = (k.toNat : Int) := by
  have hb := bounds_u8 h
  exact ⟨UInt8.ofNat a.toNat, by simp; omega⟩

def KnownC : Prop := ∀ (k : UInt8) (w : World), Calls Try.prog 90 #[.int .u8 (k.toNat : Int)] w fun e w' => e = .returned (.bool (knownB k)) ∧ Below w.heap.size w w'
def SealC : Prop := ∀ (k : UInt8) (turn : Nat) (s : Value) (p : List UInt8) (w : World), turn < 18446744073709551616 → p.length ≤ 140737488351232 → Row w s p →
  Calls Try.prog 79 #[.int .u8 (k.toNat : Int), .int .u64 turn, s] w fun e w' => ∃ t, e = .returned (.tuple #[t, .int .i64 (sealE k p)]) ∧ Mine w' w.heap.size t (sealB k turn p) ∧ Below w.heap.size w w'
def OpenC : Prop := ∀ (s : Value) (b : List UInt8) (w : World), b.length ≤ 140737488351232 → Row w s b →
  Calls Try.prog 95 #[s] w fun e w' => ∃ t, e = .returned (.tuple #[.agg #[.int .u8 ((openR b).1.toNat : Int), .int .u64 ((openR b).2.1 : Nat), t], .int .i64 (openR b).2.2.2]) ∧ Mine w' w.heap.size t (openR b).2.2.1 ∧ Below w.heap.size w w'
theorem ab_row (w : World) (fr : Nat × Nat) : Row (w.alloc (.cells #[.int .u8 97, .int .u8 98] 5 fr)) (.slice (some ⟨w.heap.size, 0, none⟩) 2 2) [97, 98] := by
  refine ⟨_, 2, rfl, by simp, by unfold maxLen; omega, by simp, Or.inr ⟨_, 0, rfl, fun j hj => ?_⟩⟩
  rw [Nat.zero_add]
  have hj' : j < 2 := by simpa using hj
  rw [cell_of_row _ _ j _ _ fr (heap_alloc_new _ _)]
  match j, hj' with
  | 0, _ | 1, _ => rfl
end Go.Proofs.Ytdpoiieblbmofaa
