/- What 'awake' of layer 6 answers. -/
import Derived.Test.YtpiekbjpnifjlaaFrOwn5
import Derived.Lib.SlBytesConst
import Derived.OpenShut
namespace Go.Proofs.Ytpiekbjpnifjlaa
open Go.RowKit

theorem ab_row (w : World) (fr : Nat × Nat) : Row (w.alloc (.cells #[.int .u8 97, .int .u8 98] 5 fr)) (.slice (some ⟨w.heap.size, 0, none⟩) 2 2) [97, 98] := by
  refine ⟨_, 2, rfl, by simp, by unfold maxLen; omega, by simp, Or.inr ⟨_, 0, rfl, fun j hj => ?_⟩⟩
  rw [Nat.zero_add]
  have hj' : j < 2 := by simpa using hj
  rw [cell_of_row _ _ j _ _ fr (heap_alloc_new _ _)]
  match j, hj' with
  | 0, _ | 1, _ => rfl

set_option maxRecDepth 20000 in
theorem awake_any (w : World) : Calls Try.prog 13 #[] w fun e w' => e = .returned (.bool true) ∧ Below w.heap.size w w' := by
  have hcv := Lib.run_convert_bytes_const (P := Try.prog) w 23 5 #[.int .u8 97, .int .u8 98] 2 2 Try.underlying23 Try.underlying5
  have bel : Below w.heap.size w (w.alloc (.cells #[.int .u8 97, .int .u8 98] 5 (2, 2 + 1))) := (Below.refl _ _).alloc (Nat.le_refl _) _
  have HC := hide (cut_any 2 7 (by omega) (by omega) _ [97, 98] _ (ab_row w (2, 2 + 1)))
  have e1 : cutE [97, 98] = 0 := rfl
  have e2 : (cutL 2 7 [97, 98]).length = 1 := by
    have := length_cutL 2 7 [97, 98] (by decide)
    have e : countN (([97, 98] : List UInt8).length : Int) = 1 := rfl
    omega
  rw [e1] at HC
  have HN := hide (fun w => count_any 441 w (by omega) (by omega))
  have e3 : countN 441 = 2 := rfl
  rw [e3] at HN
  have HBEL := hide bel
  clear bel
  go_enter Try.func13, Try.ntmps13
  go_wp2_with fail
  refine Calls.mono (unhide HC) ?_
  rintro e w1 ⟨v, rfl, hv, hb1⟩
  have hv2 : ∃ p c, v = .slice p 1 c := by
    rcases hv with ⟨h, _⟩ | ⟨_, g, cur, blk, hv, _⟩
    · cases h
    · exact ⟨_, _, by rw [hv, e2]⟩
  obtain ⟨p, c, rfl⟩ := hv2
  have B1 : Below w.heap.size w w1 := (unhide HBEL).trans (hb1.mono (by simp))
  have HB1 := hide B1
  clear hv hb1 B1 hcv HC
  go_wp2_with fail
  refine Calls.mono (unhide HN _) ?_
  rintro e w2 ⟨rfl, rfl⟩
  go_wp2
  go_ret
  exact ⟨rfl, unhide HB1⟩
end Go.Proofs.Ytpiekbjpnifjlaa
