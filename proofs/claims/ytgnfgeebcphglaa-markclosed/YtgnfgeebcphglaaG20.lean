/- Texts of ours, one behind the other: MarkLivesWalk. -/
import Derived.Test.YtgnfgeebcphglaaG15
import Derived.Test.YtgnfgeebcphglaaG17
import Derived.Test.YtgnfgeebcphglaaG19
/- The walk of the statement 'MarkLives'. -/
namespace Go.Proofs.Ytgnfgeebcphglaa
open Go.RowKit

theorem u32_of14 {ws : List Int} (h : ∀ x ∈ ws, (Lit.int .u32 x).wf = true) : U32 ws := fun x hx => by
  have := bounds_u32 (h x hx)
  omega

set_option maxRecDepth 20000 in
set_option maxHeartbeats 4000000 in
theorem marklives_any (s t : Value) (ws rs : List Int) (a b : Int) (w : World) (hs : VRow w s (Uw ws)) (ht : VRow w t (Iw rs)) (hU : U32 ws) (hl : (ws.length + 3) * 4 ≤ 140737488355328) (hr : (rs.length + 3) * 8 ≤ 140737488355328) (hb : (Lit.int .i64 b).wf = true) :
    Calls Try.prog 3 #[s, t, .int .i64 a, .int .i64 b] w fun e w' => e = .returned (.bool true) ∧ Below w.heap.size w w' := by
  have HS := hide hs
  have HT := hide ht
  have HOW := hide (HU32.own_any s ws 71 w hs hl)
  have HOR := hide (fun w' (hb : Below w.heap.size w w') => HInt.own_any t rs 71 w' (ht.below hb) hr)
  have hl2 : ws.length < 70368744177664 := by omega
  have hr2 : rs.length < 35184372088832 := by omega
  have hm1 : ws.length + 3 ≤ maxLen := by unfold maxLen; omega
  have hm2 : rs.length + 3 ≤ maxLen := by unfold maxLen; omega
  have HK := hide (fun W (g : Nat) (h : HU32.Owned W g ws 71) (hb : Below w.heap.size w W) => HU32.kept_any g s ws 71 W h (hs.below hb) hl)
  have HK2 := hide (fun W (g : Nat) (h : HInt.Owned W g rs 71) (hb : Below w.heap.size w W) => HInt.kept_any g t rs 71 W h (ht.below hb) hr)
  have HML := hide (fun W (g g' : Nat) (h : HU32.Owned W g ws 71) (h' : HInt.Owned W g' rs 71) => mlive_any _ _ ws rs W (h.row hm1) (h'.row hm2) hU hl2 hr2)
  have HMW := hide (fun W (g g' : Nat) (h : HU32.Owned W g ws 71) (h' : HInt.Owned W g' rs 71) => mwords_any _ _ ws rs W (h.row hm1) (h'.row hm2) hU hl2 hr2)
  have HMR := hide (fun W (g : Nat) (h : HU32.Owned W g ws 71) => mreaches_any _ ws a b W (h.row hm1) hU hl2 hb)
  have HRL := hide (fun W (hb : Below w.heap.size w W) => rlive14_any s t ws rs W (hs.below hb) (ht.below hb) hU)
  have HRW := hide (fun W (hb : Below w.heap.size w W) => rwords14_any s t ws rs W (hs.below hb) (ht.below hb) hU)
  have HRR := hide (fun W (hb : Below w.heap.size w W) => rreaches_any s ws a b W (hs.below hb) hU)
  generalize chkE (rightB ws rs) = E at *
  generalize reaE ws a b = E2 at *
  clear hs ht hU hl hr hl2 hr2 hm1 hm2 hb HS HT
  go_enter Try.func3, Try.ntmps3
  go_wp2_with fail
  refine Calls.mono (unhide HOW) ?_
  rintro e w1 ⟨g, rfl, hg, ho1, b1⟩
  have HO1 := hide ho1
  have HB1 := hide b1
  clear ho1 b1 hg HOW
  go_wp2_with fail
  refine Calls.mono (unhide HOR w1 (unhide HB1)) ?_
  rintro e w2 ⟨g', rfl, hg', ho2, b2⟩
  have HO2 := hide (And.intro ((unhide HO1).below b2) ho2)
  have HB2 := hide ((unhide HB1).trans (b2.mono (unhide HB1).size))
  clear ho2 b2 hg' HOR HO1 HB1
  go_wp2_with fail
  refine Calls.mono (unhide HML w2 g g' (unhide HO2).1 (unhide HO2).2) ?_
  rintro e w3 ⟨v, l, rfl, hli, hrow, b3⟩
  have HO3 := hide (And.intro ((unhide HO2).1.below b3) ((unhide HO2).2.below b3))
  have HB3 := hide ((unhide HB2).trans (b3.mono (unhide HB2).size))
  obtain ⟨pv, cv, rfl⟩ := ownsV_shape hrow
  have HV3 := hide (vrow_of_owns (vs := Iw l) (s := .slice pv l.length cv) (by simpa using hrow))
  have HLI := hide hli
  clear hli hrow b3 HO2 HB2
  go_wp2_with fail
  refine Calls.mono (unhide HRL w3 (unhide HB3)) ?_
  rintro e w4 ⟨v, m, rfl, hlm, hrow, b4⟩
  obtain rfl : l = m := (unhide HLI).unique hlm
  have HO4 := hide (And.intro ((unhide HO3).1.below b4) ((unhide HO3).2.below b4))
  have HB4 := hide ((unhide HB3).trans (b4.mono (unhide HB3).size))
  obtain ⟨pm, cm, rfl⟩ := ownsV_shape hrow
  have HV4 := hide (And.intro ((unhide HV3).below b4) (vrow_of_owns (vs := Iw l) (s := .slice pm l.length cm) (by simpa using hrow)))
  clear hlm hrow b4 HO3 HB3 HV3
  go_wp2_with fail
  refine Calls.mono (unhide HMW w4 g g' (unhide HO4).1 (unhide HO4).2) ?_
  rintro e w5 ⟨m, rfl, hlm, b5⟩
  obtain rfl : l = m := (unhide HLI).unique hlm
  have HO5 := hide (And.intro ((unhide HO4).1.below b5) ((unhide HO4).2.below b5))
  have HB5 := hide ((unhide HB4).trans (b5.mono (unhide HB4).size))
  have HV5 := hide (And.intro ((unhide HV4).1.below b5) ((unhide HV4).2.below b5))
  clear hlm b5 HO4 HB4 HV4
  go_wp2_with fail
  refine Calls.mono (unhide HRW w5 (unhide HB5)) ?_
  rintro e w6 ⟨m, rfl, hlm, b6⟩
  obtain rfl : l = m := (unhide HLI).unique hlm
  have HO6 := hide (And.intro ((unhide HO5).1.below b6) ((unhide HO5).2.below b6))
  have HB6 := hide ((unhide HB5).trans (b6.mono (unhide HB5).size))
  have HV6 := hide (And.intro ((unhide HV5).1.below b6) ((unhide HV5).2.below b6))
  generalize sumW ws l = N at *
  clear hlm b6 HO5 HB5 HV5 HLI
  go_wp2_with fail
  refine Calls.mono (unhide HMR w6 g (unhide HO6).1) ?_
  rintro e w7 ⟨B, rfl, hB, b7⟩
  have HO7 := hide (And.intro ((unhide HO6).1.below b7) ((unhide HO6).2.below b7))
  have HB7 := hide ((unhide HB6).trans (b7.mono (unhide HB6).size))
  have HV7 := hide (And.intro ((unhide HV6).1.below b7) ((unhide HV6).2.below b7))
  have HBB := hide hB
  clear hB b7 HO6 HB6 HV6
  go_wp2_with fail
  refine Calls.mono (unhide HRR w7 (unhide HB7)) ?_
  rintro e w8 ⟨B', rfl, hB, b8⟩
  obtain rfl : B = B' := (unhide HBB).unique hB
  have HO8 := hide (And.intro ((unhide HO7).1.below b8) ((unhide HO7).2.below b8))
  have HB8 := hide ((unhide HB7).trans (b8.mono (unhide HB7).size))
  have HV8 := hide (And.intro ((unhide HV7).1.below b8) ((unhide HV7).2.below b8))
  clear hB b8 HO7 HB7 HV7 HBB
  go_wp2_with fail
  refine Calls.mono (mawake_any w8) ?_
  rintro e w9 ⟨rfl, b9⟩
  have HO9 := hide (And.intro ((unhide HO8).1.below b9) ((unhide HO8).2.below b9))
  have HB9 := hide ((unhide HB8).trans (b9.mono (unhide HB8).size))
  have HP9 := hide (HInt.plain_any (.slice pv l.length cv) (.slice pm l.length cm) l w9 ((unhide HV8).1.below b9) ((unhide HV8).2.below b9))
  clear b9 HO8 HB8 HV8
  go_wp2_with fail
  refine Calls.mono (unhide HP9) ?_
  rintro e w10 ⟨rfl, b10⟩
  have HO10 := hide (And.intro ((unhide HO9).1.below b10) ((unhide HO9).2.below b10))
  have HB10 := hide ((unhide HB9).trans (b10.mono (unhide HB9).size))
  have HBE : (B == B) = true := by cases B <;> rfl
  clear b10 HO9 HB9
  go_wp2_with fail
  refine Calls.mono (unhide HK w10 g (unhide HO10).1 (unhide HB10)) ?_
  rintro e w11 ⟨rfl, b11⟩
  have HO11 := hide ((unhide HO10).2.below b11)
  have HB11 := hide ((unhide HB10).trans (b11.mono (unhide HB10).size))
  clear b11 HO10 HB10
  go_wp2_with fail
  refine Calls.mono (unhide HK2 w11 g' (unhide HO11) (unhide HB11)) ?_
  rintro e w12 ⟨rfl, b12⟩
  have HB12 := hide ((unhide HB11).trans (b12.mono (unhide HB11).size))
  clear b12
  go_wp2_with fail
  go_ret
  exact ⟨rfl, unhide HB12⟩

theorem walk_MarkLives (s0 : Value) (d0 : Dt) (s1 : Value) (d1 : Dt) (a2 : Int) (_w2 : (Lit.int .i64 a2).wf = true) (a3 : Int) (w3 : (Lit.int .i64 a3).wf = true) (w : World) (h0 : Reads limSaid w (.row 4 (.int .u32)) [s0] d0) (h1 : Reads limSaid w (.row 8 (.int .i64)) [s1] d1) :
    Calls Try.prog 3 #[s0, s1, .int .i64 a2, .int .i64 a3] w fun e w' => e = .returned (.bool true) ∧ Below w.heap.size w w' := by
  obtain ⟨ws, r0, l0, u0⟩ := nums_of_reads h0
  obtain ⟨rs, r1, l1, u1⟩ := nums_of_reads h1
  unfold limSaid reachBytes at l0 l1
  exact marklives_any s0 s1 ws rs a2 a3 w r0 r1 (u32_of14 u0) (by omega) (by omega) w3
end Go.Proofs.Ytgnfgeebcphglaa
