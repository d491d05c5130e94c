/- The walk of the law WordPuts, out of the contracts of Put and Get, the reference's Put and Get, and the helpers. -/
import Derived.Test.YtjcemodfpcohgaaRef01
import Derived.Test.YtjcemodfpcohgaaHelp
import Derived.Test.YtjcemodfpcohgaaBytes
import Derived.OpenShut
namespace Go.Proofs.Ytjcemodfpcohgaa
open Go.RowKit

set_option maxHeartbeats 1000000 in
theorem puts_any (s : Value) (bs : List UInt8) (v : Nat) (n a k : Int) (w : World) (hs : Row w s bs) (hroom : bs.length ≤ 140737488351232) (hv : v < 18446744073709551616) (ha : a ≤ 9223372036854775807) :
    Calls Try.prog 3 #[s, .int .u64 v, .int .i64 n, .int .i64 a, .int .i64 k] w fun e w' => e = .returned (.bool true) ∧ Below w.heap.size w w' := by
  go_enter Try.func3, Try.ntmps3
  go_wp2_with fail
  refine (own_any s bs 71 71 rfl w hs hroom).mono ?_
  rintro e w1 ⟨g, rfl, hg, ho1, hb1⟩
  have hs1 := hs.below hb1
  have HS := hide hs
  clear hs
  go_wp2_with fail
  refine (put_any _ bs v n w1 (ho1.row (by unfold maxLen; omega)) hroom hv).mono ?_
  rintro e w2 ⟨t, rfl, hownt, hb2⟩
  have ho2 := ho1.below hb2
  have hs2 := hs1.below hb2
  have B2 : Below w.heap.size w w2 := hb1.trans (hb2.mono hb1.size)
  have hg1 : g < w1.heap.size := ho1.lt
  clear ho1 hs1
  go_wp2_with fail
  refine (rput_any s bs v n w2 hs2 hroom hv).mono ?_
  rintro e w3 ⟨u, rfl, hownu, hb3⟩
  have ho3 := ho2.below hb3
  have hs3 := hs2.below hb3
  have B3 : Below w.heap.size w w3 := B2.trans (hb3.mono B2.size)
  have hu3 := row_of_owns hownu
  have ht3 : w3.ownsRow w1.heap.size 5 1 t (putB bs v n).length ((putB bs v n).map B) := owns_below hownt hb3
  clear ho2 hs2 hownu hownt
  go_wp2_with fail
  refine (get_any _ bs a k w3 (ho3.row (by unfold maxLen; omega)) ha).mono ?_
  rintro e w4 ⟨rfl, hb4⟩
  have ho4 := ho3.below hb4
  have hs4 := hs3.below hb4
  have B4 : Below w.heap.size w w4 := B3.trans (hb4.mono B3.size)
  have hu4 := hu3.below hb4
  have ht4 := owns_below ht3 hb4
  clear ho3 hs3 hu3 ht3
  go_wp2_with fail
  refine (rget_any s bs a k w4 hs4).mono ?_
  rintro e w4 ⟨rfl, rfl⟩
  go_wp2_with fail
  refine (awake_any w4).mono ?_
  rintro e w5 ⟨rfl, hb5⟩
  have ho5 := ho4.below hb5
  have hs5 := hs4.below hb5
  have B5 : Below w.heap.size w w5 := B4.trans (hb5.mono B4.size)
  have hu5 := hu4.below hb5
  have ht5 := owns_below ht4 hb5
  clear ho4 hs4 hu4 ht4
  go_wp2_with fail
  refine (bytes_any _ _ _ _ w5 (row_of_owns ht5) hu5).mono ?_
  rintro e w5 ⟨rfl, rfl⟩
  rw [show (putB bs v n == putB bs v n) = true by simp]
  have he : (putE v n != putE v n) = false := by simp
  have hE : (getE bs a k != getE bs a k) = false := by simp
  have hV : (((getV bs a k : Nat) : Int) != (getV bs a k : Nat)) = false := by simp
  go_wp2_with fail
  refine (kept_any g s bs 71 71 rfl w5 ho5 hs5 hroom).mono ?_
  rintro e w6 ⟨rfl, hb6⟩
  have ho6 := ho5.below hb6
  have hs6 := hs5.below hb6
  have B6 : Below w.heap.size w w6 := B5.trans (hb6.mono B5.size)
  have ht6 := owns_below ht5 hb6
  clear ho5 hs5 hu5 ht5
  go_wp2_with fail
  refine (spoil_any t _ w1.heap.size w6 ht6).mono ?_
  rintro e w7 ⟨rfl, hb7⟩
  have ho7 := ho6.below' hb7 hg1
  have B7 : Below w.heap.size w w7 := B6.trans (hb7.mono hb1.size)
  have hs7 : Row w7 s bs := (unhide HS).below B7
  clear ho6 hs6 ht6
  go_wp2_with fail
  refine (kept_any g s bs 71 71 rfl w7 ho7 hs7 hroom).mono ?_
  rintro e w8 ⟨rfl, hb8⟩
  go_wp2
  go_ret
  exact ⟨rfl, B7.trans (hb8.mono B7.size)⟩

theorem walk_WordPuts (s : Value) (bs : List UInt8) (a1 : Int) (w1 : (Lit.int .u64 a1).wf = true) (a2 : Int) (_w2 : (Lit.int .i64 a2).wf = true) (a3 : Int) (w3 : (Lit.int .i64 a3).wf = true) (a4 : Int) (_w4 : (Lit.int .i64 a4).wf = true) (w : World) (hs : Row w s bs) (hroom : bs.length ≤ 140737488351232) :
    Calls Try.prog 3 #[s, .int .u64 a1, .int .i64 a2, .int .i64 a3, .int .i64 a4] w fun e w' => e = .returned (.bool true) ∧ Below w.heap.size w w' := by
  have hb1 := bounds_u64 w1
  have hb3 := bounds_i64 w3
  obtain ⟨v, rfl⟩ := Int.eq_ofNat_of_zero_le hb1.1
  exact puts_any s bs v a2 a3 a4 w hs hroom (by omega) hb3.2
end Go.Proofs.Ytjcemodfpcohgaa
