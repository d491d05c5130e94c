/- The walk of the law WordTexts, out of the contracts of Text, ReadText and Zero, the reference's, and the helpers. -/
import Derived.Test.YtjcemodfpcohgaaRefText
import Derived.Test.YtjcemodfpcohgaaHelp
import Derived.Test.YtjcemodfpcohgaaBytes
import Derived.OpenShut
namespace Go.Proofs.Ytjcemodfpcohgaa
open Go.RowKit

set_option maxHeartbeats 1000000 in
theorem texts_any (s0 : Value) (ts : List UInt8) (s : Value) (bs : List UInt8) (a m : Int) (w : World) (hs0 : Row w s0 ts) (hroom0 : ts.length ≤ 140737488351232) (hs : Row w s bs) (hroom : bs.length ≤ 140737488351232) (hm : m ≤ 9223372036854775807) :
    Calls Try.prog 6 #[s0, s, .int .i64 a, .int .i64 m] w fun e w' => e = .returned (.bool true) ∧ Below w.heap.size w w' := by
  have HS := hide hs
  have HS0 := hide hs0
  go_enter Try.func6, Try.ntmps6
  go_wp2_with fail
  refine (own_any s bs 71 71 rfl w hs hroom).mono ?_
  rintro e w1 ⟨g, rfl, hg, ho1, hb1⟩
  have hg1 : g < w1.heap.size := ho1.lt
  clear hs hs0
  go_wp2_with fail
  refine (own_any s0 ts 71 71 rfl w1 ((unhide HS0).below hb1) hroom0).mono ?_
  rintro e w2 ⟨g0, rfl, hg0, hp2, hb2⟩
  have hg2 : g0 < w2.heap.size := hp2.lt
  have B2 : Below w.heap.size w w2 := hb1.trans (hb2.mono hb1.size)
  have ho2 := ho1.below hb2
  clear ho1
  go_wp2_with fail
  refine (text_any _ ts w2 (hp2.row (by unfold maxLen; omega)) hroom0).mono ?_
  rintro e w3 ⟨t, rfl, hownt, hb3⟩
  have HT := hide (fun k (hk : t.ownBlock = some k) => (hownt.lt k hk).2)
  have B3 : Below w.heap.size w w3 := B2.trans (hb3.mono B2.size)
  have ho3 := ho2.below hb3
  have hp3 := hp2.below hb3
  clear ho2 hp2
  go_wp2_with fail
  refine (readtext_any _ bs a m w3 (ho3.row (by unfold maxLen; omega)) hroom hm).mono ?_
  rintro e w4 ⟨x, rfl, hownx, hb4⟩
  have B4 : Below w.heap.size w w4 := B3.trans (hb4.mono B3.size)
  have ho4 := ho3.below hb4
  have hp4 := hp3.below hb4
  have ht4 := owns_below hownt hb4
  clear ho3 hp3 hownt
  go_wp2_with fail
  refine (rreadtext_any s bs a m w4 ((unhide HS).below B4) hroom hm).mono ?_
  rintro e w5 ⟨y, rfl, howny, hb5⟩
  have B5 : Below w.heap.size w w5 := B4.trans (hb5.mono B4.size)
  have ho5 := ho4.below hb5
  have hp5 := hp4.below hb5
  have ht5 := owns_below ht4 hb5
  have hx5 := owns_below hownx hb5
  have hy5 := row_of_owns howny
  clear ho4 hp4 ht4 hownx howny
  go_wp2_with fail
  refine (awake_any w5).mono ?_
  rintro e w6 ⟨rfl, hb6⟩
  have B6 : Below w.heap.size w w6 := B5.trans (hb6.mono B5.size)
  have ho6 := ho5.below hb6
  have hp6 := hp5.below hb6
  have ht6 := owns_below ht5 hb6
  have hx6 := owns_below hx5 hb6
  have hy6 := hy5.below hb6
  clear ho5 hp5 ht5 hx5 hy5
  go_wp2_with fail
  refine (rtext_any s0 ts w6 ((unhide HS0).below B6) hroom0).mono ?_
  rintro e w7 ⟨u, rfl, hownu, hb7⟩
  have B7 : Below w.heap.size w w7 := B6.trans (hb7.mono B6.size)
  have ho7 := ho6.below hb7
  have hp7 := hp6.below hb7
  have ht7 := owns_below ht6 hb7
  have hx7 := owns_below hx6 hb7
  have hy7 := hy6.below hb7
  have hu7 := row_of_owns hownu
  clear ho6 hp6 ht6 hx6 hy6 hownu
  go_wp2_with fail
  refine (bytes_any _ _ _ _ w7 (row_of_owns ht7) hu7).mono ?_
  rintro e w7 ⟨rfl, rfl⟩
  rw [show (varF 9 ts.length ++ ts == varF 9 ts.length ++ ts) = true by simp]
  go_wp2_with fail
  refine (bytes_any _ _ _ _ w7 (row_of_owns hx7) hy7).mono ?_
  rintro e w7 ⟨rfl, rfl⟩
  rw [show (textB bs a m == textB bs a m) = true by simp]
  have hN : (textN bs a m != textN bs a m) = false := by simp
  have hE : (textE bs a m != textE bs a m) = false := by simp
  go_wp2_with fail
  refine (zero_any _ bs w7 (ho7.row (by unfold maxLen; omega))).mono ?_
  rintro e w8 ⟨rfl, hb8⟩
  have B8 : Below w.heap.size w w8 := B7.trans (hb8.mono B7.size)
  have ho8 := ho7.below hb8
  have hp8 := hp7.below hb8
  have ht8 := owns_below ht7 hb8
  have hx8 := owns_below hx7 hb8
  clear ho7 hp7 ht7 hx7 hy7 hu7
  go_wp2_with fail
  refine (rzero_any s bs w8 ((unhide HS).below B8)).mono ?_
  rintro e w8 ⟨rfl, rfl⟩
  have hZ : (bs.all (· == 0) != bs.all (· == 0)) = false := by simp
  generalize bs.all (· == 0) = z at *
  go_wp2_with fail
  refine (spoil_any x _ w3.heap.size w8 hx8).mono ?_
  rintro e w9 ⟨rfl, hb9⟩
  have s12 := hb1.size
  have s23 := hb2.size
  have s34 := hb3.size
  have B9 : Below w.heap.size w w9 := B8.trans (hb9.mono (by omega))
  have ho9 := ho8.below' hb9 (by omega)
  have hp9 := hp8.below' hb9 (by omega)
  have ht9 := owns_below' ht8 hb9 (unhide HT)
  clear ho8 hp8 ht8 hx8
  go_wp2_with fail
  refine (spoil_any t _ w2.heap.size w9 ht9).mono ?_
  rintro e w10 ⟨rfl, hb10⟩
  have B10 : Below w.heap.size w w10 := B9.trans (hb10.mono (by omega))
  have ho10 := ho9.below' hb10 (by omega)
  have hp10 := hp9.below' hb10 (by omega)
  clear ho9 hp9 ht9
  go_wp2_with fail
  refine (kept_any g s bs 71 71 rfl w10 ho10 ((unhide HS).below B10) hroom).mono ?_
  rintro e w11 ⟨rfl, hb11⟩
  have B11 : Below w.heap.size w w11 := B10.trans (hb11.mono B10.size)
  have hp11 := hp10.below hb11
  clear ho10 hp10
  go_wp2_with fail
  refine (kept_any g0 s0 ts 71 71 rfl w11 hp11 ((unhide HS0).below B11) hroom0).mono ?_
  rintro e w12 ⟨rfl, hb12⟩
  go_wp2
  go_ret
  exact ⟨rfl, B11.trans (hb12.mono B11.size)⟩

theorem walk_WordTexts (s0 : Value) (ts : List UInt8) (s : Value) (bs : List UInt8) (a2 : Int) (_w2 : (Lit.int .i64 a2).wf = true) (a3 : Int) (w3 : (Lit.int .i64 a3).wf = true) (w : World) (hs0 : Row w s0 ts) (hroom0 : ts.length ≤ 140737488351232) (hs : Row w s bs) (hroom : bs.length ≤ 140737488351232) :
    Calls Try.prog 6 #[s0, s, .int .i64 a2, .int .i64 a3] w fun e w' => e = .returned (.bool true) ∧ Below w.heap.size w w' :=
  texts_any s0 ts s bs a2 a3 w hs0 hroom0 hs hroom (bounds_i64 w3).2
end Go.Proofs.Ytjcemodfpcohgaa
