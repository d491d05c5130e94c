/- The walk of the law WordVars, out of the contracts of Var and ReadVar, the reference's, and the helpers. -/
import Derived.Test.YtjcemodfpcohgaaRv
import Derived.Test.YtjcemodfpcohgaaRefRv
import Derived.Test.YtjcemodfpcohgaaHelp
import Derived.Test.YtjcemodfpcohgaaBytes
import Derived.OpenShut
namespace Go.Proofs.Ytjcemodfpcohgaa
open Go.RowKit

set_option maxHeartbeats 1000000 in
theorem vars_any (v : Nat) (s : Value) (bs : List UInt8) (a : Int) (w : World) (hs : Row w s bs) (hroom : bs.length ≤ 140737488351232) (hv : v < 18446744073709551616) :
    Calls Try.prog 5 #[.int .u64 v, s, .int .i64 a] w fun e w' => e = .returned (.bool true) ∧ Below w.heap.size w w' := by
  go_enter Try.func5, Try.ntmps5
  go_wp2_with fail
  refine (own_any s bs 71 71 rfl w hs hroom).mono ?_
  rintro e w1 ⟨g, rfl, hg, ho1, hb1⟩
  have hs1 := hs.below hb1
  clear hs
  go_wp2_with fail
  refine (readvar_any _ bs a w1 (ho1.row (by unfold maxLen; omega)) hroom).mono ?_
  rintro e w2 ⟨rfl, hb2⟩
  have ho2 := ho1.below hb2
  have hs2 := hs1.below hb2
  have B2 : Below w.heap.size w w2 := hb1.trans (hb2.mono hb1.size)
  clear ho1 hs1
  go_wp2_with fail
  refine (rrv_any s bs a w2 hs2 hroom).mono ?_
  rintro e w2 ⟨rfl, rfl⟩
  go_wp2_with fail
  refine (awake_any w2).mono ?_
  rintro e w3 ⟨rfl, hb3⟩
  have ho3 := ho2.below hb3
  have hs3 := hs2.below hb3
  have B3 : Below w.heap.size w w3 := B2.trans (hb3.mono B2.size)
  clear ho2 hs2
  go_wp2_with fail
  refine (var_any v hv w3).mono ?_
  rintro e w4 ⟨t, rfl, hown4, hb4⟩
  have ht4 := row_of_owns hown4
  have ho4 := ho3.below hb4
  have hs4 := hs3.below hb4
  have B4 : Below w.heap.size w w4 := B3.trans (hb4.mono B3.size)
  clear ho3 hs3 hown4
  go_wp2_with fail
  refine (rvar_any v hv w4).mono ?_
  rintro e w5 ⟨u, rfl, hown5, hb5⟩
  have hu5 := row_of_owns hown5
  have ht5 := ht4.below hb5
  have ho5 := ho4.below hb5
  have hs5 := hs4.below hb5
  have B5 : Below w.heap.size w w5 := B4.trans (hb5.mono B4.size)
  clear ho4 hs4 hown5 ht4
  go_wp2_with fail
  refine (bytes_any _ _ _ _ w5 ht5 hu5).mono ?_
  rintro e w5 ⟨rfl, rfl⟩
  rw [show (varF 9 v == varF 9 v) = true by simp]
  have he : (readE bs a == readE bs a) = true := by simp
  have hN : (readN bs a == readN bs a) = true := by simp
  have hV : (((readV bs a : Nat) : Int) == (readV bs a : Nat)) = true := by simp
  go_wp2_with fail
  refine (kept_any g s bs 71 71 rfl w5 ho5 hs5 hroom).mono ?_
  rintro e w6 ⟨rfl, hb6⟩
  go_wp2
  go_ret
  exact ⟨rfl, B5.trans (hb6.mono B5.size)⟩

theorem walk_WordVars (a0 : Int) (w0 : (Lit.int .u64 a0).wf = true) (s : Value) (bs : List UInt8) (a2 : Int) (_w2 : (Lit.int .i64 a2).wf = true) (w : World) (hs : Row w s bs) (hroom : bs.length ≤ 140737488351232) :
    Calls Try.prog 5 #[.int .u64 a0, s, .int .i64 a2] w fun e w' => e = .returned (.bool true) ∧ Below w.heap.size w w' := by
  have hb0 := bounds_u64 w0
  obtain ⟨v, rfl⟩ := Int.eq_ofNat_of_zero_le hb0.1
  exact vars_any v s bs a2 w hs hroom (by omega)
end Go.Proofs.Ytjcemodfpcohgaa
