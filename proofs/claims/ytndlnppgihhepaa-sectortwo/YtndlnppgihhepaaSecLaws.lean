/- What the statements of layer 3 ask of package sector, as contracts; and that 'awake' answers true by them. -/
import Derived.Test.YtndlnppgihhepaaSecRef2
import Derived.Test.YtndlnppgihhepaaSecPlain2
import Derived.Test.YtndlnppgihhepaaMine
import Derived.Lib.SlBytesConst
import Derived.OpenShut
namespace Go.Proofs.Ytndlnppgihhepaa
open Go.RowKit

theorem byte_of {a : Int} (h : (Lit.int .u8 a).wf = true) : ∃ k : UInt8, a = (k.toNat : Int) := by
  have hb := bounds_u8 h
  exact ⟨UInt8.ofNat a.toNat, by simp; omega⟩

def KnownC : Prop := ∀ (k : UInt8) (w : World), Calls Try.prog 12 #[.int .u8 (k.toNat : Int)] w fun e w' => e = .returned (.bool (knownB k)) ∧ Below w.heap.size w w'
def SealC : Prop := ∀ (k : UInt8) (turn : Nat) (s : Value) (p : List UInt8) (w : World), turn < 18446744073709551616 → p.length ≤ 140737488351232 → Row w s p →
  Calls Try.prog 9 #[.int .u8 (k.toNat : Int), .int .u64 turn, s] w fun e w' => ∃ t, e = .returned (.tuple #[t, .int .i64 (sealE k p)]) ∧ Mine w' w.heap.size t (sealB k turn p) ∧ Below w.heap.size w w'
def OpenC : Prop := ∀ (s : Value) (b : List UInt8) (w : World), b.length ≤ 140737488351232 → Row w s b →
  Calls Try.prog 17 #[s] w fun e w' => ∃ t, e = .returned (.tuple #[.agg #[.int .u8 ((openR b).1.toNat : Int), .int .u64 ((openR b).2.1 : Nat), t], .int .i64 (openR b).2.2.2]) ∧ Mine w' w.heap.size t (openR b).2.2.1 ∧ Below w.heap.size w w'
def GoodC : Prop := ∀ (s : Value) (b : List UInt8) (w : World), b.length ≤ 140737488351232 → Row w s b →
  Calls Try.prog 20 #[s] w fun e w' => e = .returned (.bool ((openR b).2.2.2 == 0)) ∧ Below w.heap.size w w'

theorem ab_row (w : World) (fr : Nat × Nat) : Row (w.alloc (.cells #[.int .u8 97, .int .u8 98] 5 fr)) (.slice (some ⟨w.heap.size, 0, none⟩) 2 2) [97, 98] := by
  refine ⟨_, 2, rfl, by simp, by unfold maxLen; omega, by simp, Or.inr ⟨_, 0, rfl, fun j hj => ?_⟩⟩
  rw [Nat.zero_add]
  have hj' : j < 2 := by simpa using hj
  rw [cell_of_row _ _ j _ _ fr (heap_alloc_new _ _)]
  match j, hj' with
  | 0, _ | 1, _ => rfl

theorem awake_any (hs : SealC) (hk : KnownC) (w : World) : Calls Try.prog 11 #[] w fun e w' => e = .returned (.bool true) ∧ Below w.heap.size w w' := by
  have hcv := Lib.run_convert_bytes_const (P := Try.prog) w 23 5 #[.int .u8 97, .int .u8 98] 2 2 Try.underlying23 Try.underlying5
  have bel : Below w.heap.size w (w.alloc (.cells #[.int .u8 97, .int .u8 98] 5 (2, 2 + 1))) := (Below.refl _ _).alloc (Nat.le_refl _) _
  have HS := hide (hs 77 5 _ [97, 98] _ (by omega) (by simp) (ab_row w (2, 2 + 1)))
  have HK := hide (fun w => hk 113 w)
  have e1 : sealE 77 [97, 98] = 0 := rfl
  have e2 : sealB 77 5 [97, 98] = sealed 77 5 [97, 98] := rfl
  rw [e1, e2] at HS
  have hl := length_sealed 77 5 [97, 98] (by simp)
  clear e1 e2 hs hk
  go_enter Try.func11, Try.ntmps11
  go_wp2_with fail
  refine Calls.mono (unhide HS) ?_
  rintro e w1 ⟨t, rfl, hm, hb1⟩
  have B1 : Below w.heap.size w w1 := bel.trans (hb1.mono (by simp))
  obtain ⟨g, off, cap, rfl, hc, _, hcell⟩ := hm.row.open (by intro e; rw [e] at hl; simp at hl)
  have c0 := hcell 0 (by omega)
  rw [Nat.add_zero] at c0
  have c0' : w1.cell? ⟨g, off, none⟩ = some (.int .u8 77) := c0
  rw [hl]
  clear hcell c0 hm hcv bel hb1 HS hl
  go_wp2_with fail
  refine Calls.mono (unhide HK _) ?_
  rintro e w2 ⟨rfl, hb2⟩
  have e3 : knownB 113 = true := by decide
  rw [e3]
  go_wp2
  go_ret
  exact ⟨rfl, B1.trans (hb2.mono B1.size)⟩
end Go.Proofs.Ytndlnppgihhepaa
