/- The walk of the law FrameJoins. -/
import Derived.Test.YtpiekbjpnifjlaaFrRef4
import Derived.Test.YtpiekbjpnifjlaaFrOwn8
import Derived.Test.YtpiekbjpnifjlaaFrAwake
import Derived.Test.YtpiekbjpnifjlaaFrArgs
namespace Go.Proofs.Ytpiekbjpnifjlaa
open Go.RowKit

set_option maxRecDepth 20000 in
theorem walk_FrameJoins (s0 : Value) (d0 : Dt) (w : World) (h0 : Reads limSaid w framesSh [s0] d0) :
    Calls Try.prog 5 #[s0] w fun e w' => e = .returned (.bool true) ∧ Below w.heap.size w w' := by
  obtain ⟨l, hl⟩ := fl_of_reads h0
  clear h0
  have HJ := hide (join_any s0 l w hl)
  have HR := hide (fun w' (hb : Below w.heap.size w w') => rjoin_any s0 l w' (hl.below hb))
  have HA := hide awake_any
  obtain ⟨a, cap, rfl, _⟩ := hl.shape
  generalize joinE (frs l) = E at *
  generalize joinB (frs l) = X at *
  clear hl
  go_enter Try.func5, Try.ntmps5
  go_wp2_with fail
  refine Calls.mono (unhide HJ) ?_
  rintro e w1 ⟨t, rfl, m1, b1⟩
  have HJ2 := hide (unhide HR w1 b1)
  clear HR HJ
  go_wp2_with fail
  refine Calls.mono (unhide HJ2) ?_
  rintro e w2 ⟨t2, rfl, r2, b2⟩
  have B2 := b1.trans (b2.mono b1.size)
  have r1 := m1.row.below b2
  clear HJ2 b1 b2 m1
  go_wp2_with fail
  refine Calls.mono (unhide HA _) ?_
  rintro e w3 ⟨rfl, b3⟩
  have HB := hide (bytes_any t t2 X X w3 (r1.below b3) (r2.below b3))
  rw [show (X == X) = true by simp] at HB
  have B3 := hide (B2.trans (b3.mono B2.size))
  have hee : (E == E) = true := by simp
  clear r1 r2 b3 B2
  go_wp2_with fail
  refine Calls.mono (unhide HB) ?_
  rintro e w4 ⟨rfl, rfl⟩
  go_wp2
  go_ret
  exact ⟨rfl, unhide B3⟩
end Go.Proofs.Ytpiekbjpnifjlaa
