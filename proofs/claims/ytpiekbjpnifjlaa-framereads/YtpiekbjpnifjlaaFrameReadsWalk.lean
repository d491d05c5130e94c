/- The walk of the law FrameReads. -/
import Derived.Test.YtpiekbjpnifjlaaFrRef6
import Derived.Test.YtpiekbjpnifjlaaFrOwn4
import Derived.Test.YtpiekbjpnifjlaaFrHelp
import Derived.Test.YtpiekbjpnifjlaaFrAwake
import Derived.Test.YtpiekbjpnifjlaaFrArgs
import Derived.Test.YtpiekbjpnifjlaaHelp
namespace Go.Proofs.Ytpiekbjpnifjlaa
open Go.RowKit

set_option maxRecDepth 20000 in
set_option maxHeartbeats 2000000 in
theorem freads_any (f : Fr) (sf : Value) (s : Value) (b : List UInt8) (n : Int) (w : World) (hsf : Row w sf f.data) (hok : f.ok) (hs : Row w s b) (hroom : b.length ≤ 140737488351232) (n1 : -9223372036854775808 ≤ n) (n2 : n ≤ 9223372036854775807) :
    Calls Try.prog 3 #[fv f sf, s, .int .i64 n] w fun e w' => e = .returned (.bool true) ∧ Below w.heap.size w w' := by
  obtain ⟨pf, lf, qf, rfl⟩ := slice_of_row hsf
  obtain ⟨W0, hW0⟩ : ∃ W0, W0 = w.alloc (.cells #[.int .u64 (f.age : Int), .int .u64 (f.first : Int), .int .i64 f.of, .slice pf lf qf] 25) := ⟨_, rfl⟩
  have hb0 : Below w.heap.size w W0 := by rw [hW0]; exact (Below.refl _ _).alloc (Nat.le_refl _) _
  have hc0 : At4 W0 w.heap.size 0 (.int .u64 (f.age : Int)) (.int .u64 (f.first : Int)) (.int .i64 f.of) (.slice pf lf qf) := by rw [hW0]; exact at4_new _ _ _ _ _ _
  have HOW := hide (own_any s b 71 71 rfl W0 (hs.below hb0) hroom)
  have HWR := hide (fun w' (hb : Below w.heap.size w w') => write_any f (.slice pf lf qf) w' hok (hsf.below hb))
  have HRW := hide (fun w' (hb : Below w.heap.size w w') => rwrite_any f (.slice pf lf qf) w' hok (hsf.below hb))
  have HRR := hide (fun w' (hb : Below w.heap.size w w') => rread_any s b w' (hs.below hb) hroom)
  have HRD := hide (fun g w' (ho : Owned w' g b 71) => read_any (.slice (some ⟨g, 0, none⟩) b.length (b.length + 3)) b w' (ho.row (by unfold maxLen; omega)) hroom)
  have HCA := hide (fun w' (hb : Below W0.heap.size W0 w') => hc0.below hb)
  have HS := hide hs
  have HW0 := hide hW0
  have HB0 := hide hb0
  have HA := hide awake_any
  have HCN := hide (fun w' => count_any n w' n1 n2)
  have HRC := hide (fun w' => rcount_any n w' n1 n2)
  obtain ⟨q, c, l, e0, hl⟩ := hs.shape
  subst e0
  subst hl
  clear hs hsf hW0 hb0 hc0 n1 n2
  unfold fv at HWR HRW ⊢
  generalize writeE f = E1 at *
  generalize writeB f = X1 at *
  generalize countN n = N at *
  generalize readF b = R at *
  obtain ⟨x, E2⟩ := R
  simp only at HRD HRR
  go_enter Try.func3, Try.ntmps3
  go_wp2_with fail
  rw [← unhide HW0]
  refine Calls.mono (unhide HOW) ?_
  rintro e w1 ⟨g, rfl, hg1, ho1, b1⟩
  have B1 := (unhide HB0).trans (b1.mono (unhide HB0).size)
  have HWR1 := hide (unhide HWR w1 B1)
  obtain ⟨c0, c1, c2, c3⟩ := unhide HCA w1 b1
  have HO1 := hide ho1
  have HB1 := hide b1
  have hlw : w.heap.size ≤ W0.heap.size := (unhide HB0).size
  clear b1 B1 ho1 HOW HWR
  go_wp2_with fail
  refine Calls.mono (unhide HWR1) ?_
  rintro e w2 ⟨t2, rfl, m2, b2⟩
  have C2 := (unhide HB1).trans (b2.mono (unhide HB1).size)
  have B2 := (unhide HB0).trans (C2.mono hlw)
  have HRW2 := hide (unhide HRW w2 B2)
  obtain ⟨c0, c1, c2, c3⟩ := unhide HCA w2 C2
  have HO2 := hide ((unhide HO1).below b2)
  have HM2 := hide m2.row
  have HC2 := hide C2
  have hgs2 := (unhide HO2).lt
  clear b2 C2 B2 m2 HWR1 HRW HB1 HO1
  go_wp2_with fail
  refine Calls.mono (unhide HRW2) ?_
  rintro e w3 ⟨t3, rfl, x3, b3⟩
  have C3 := (unhide HC2).trans (b3.mono (unhide HC2).size)
  have HO3 := hide ((unhide HO2).below b3)
  have HM3 := hide (And.intro ((unhide HM2).below b3) (row_of_owns x3))
  have HRD3 := hide (unhide HRD g w3 (unhide HO3))
  have HC3 := hide C3
  clear b3 C3 x3 HRW2 HO2 HM2 HC2 HRD HCA c0 c1 c2 c3
  go_wp2_with fail
  refine Calls.mono (unhide HRD3) ?_
  rintro e w4 ⟨t4, rfl, m4, b4⟩
  unfold fv
  obtain ⟨p4, l4, q4, e4⟩ := slice_of_row m4.row
  subst e4
  obtain ⟨W5, hW5⟩ : ∃ W5, W5 = w4.alloc (.cells #[.int .u64 (x.age : Int), .int .u64 (x.first : Int), .int .i64 x.of, .slice p4 l4 q4] 25) := ⟨_, rfl⟩
  have hb5 : Below w4.heap.size w4 W5 := by rw [hW5]; exact (Below.refl _ _).alloc (Nat.le_refl _) _
  have h45 : At4 W5 w4.heap.size 0 (.int .u64 (x.age : Int)) (.int .u64 (x.first : Int)) (.int .i64 x.of) (.slice p4 l4 q4) := by rw [hW5]; exact at4_new _ _ _ _ _ _
  have C4 := (unhide HC3).trans (b4.mono (unhide HC3).size)
  have C5 := C4.trans (hb5.mono C4.size)
  have B5 := (unhide HB0).trans (C5.mono hlw)
  have HRR5 := hide (unhide HRR W5 B5)
  have HO5 := hide (((unhide HO3).below b4).below hb5)
  have HM5 := hide (And.intro (((unhide HM3).1.below b4).below hb5) (((unhide HM3).2.below b4).below hb5))
  have HX5 := hide (m4.below hb5)
  have H45 := hide h45
  have HW5 := hide hW5
  have HC5 := hide C5
  have hs34 : w3.heap.size ≤ w4.heap.size := b4.size
  have hg3 : g < w3.heap.size := (unhide HO3).lt
  clear b4 hb5 h45 C4 C5 B5 m4 hW5 HRD3 HRR HO3 HM3 HC3
  go_wp2_with fail
  rw [← unhide HW5]
  refine Calls.mono (unhide HRR5) ?_
  rintro e w6 ⟨t6, rfl, r6, b6⟩
  unfold fv
  obtain ⟨p6, l6, q6, e6⟩ := slice_of_row r6
  subst e6
  obtain ⟨W7, hW7⟩ : ∃ W7, W7 = w6.alloc (.cells #[.int .u64 (x.age : Int), .int .u64 (x.first : Int), .int .i64 x.of, .slice p6 l6 q6] 25) := ⟨_, rfl⟩
  have hb7 : Below w6.heap.size w6 W7 := by rw [hW7]; exact (Below.refl _ _).alloc (Nat.le_refl _) _
  have h47 : At4 W7 w6.heap.size 0 (.int .u64 (x.age : Int)) (.int .u64 (x.first : Int)) (.int .i64 x.of) (.slice p6 l6 q6) := by rw [hW7]; exact at4_new _ _ _ _ _ _
  have C6 := (unhide HC5).trans (b6.mono (unhide HC5).size)
  have C7 := C6.trans (hb7.mono C6.size)
  obtain ⟨K, hK0, HKu, HKb⟩ : ∃ K : World → Prop, K W7 ∧ Hid (∀ w', K w' → Below W0.heap.size W0 w' ∧ Owned w' g b 71 ∧ (Row w' t2 X1 ∧ Row w' t3 X1) ∧ Mine w' w3.heap.size (.slice p4 l4 q4) x.data ∧ Row w' (.slice p6 l6 q6) x.data ∧ At4 w' w4.heap.size 0 (.int .u64 (x.age : Int)) (.int .u64 (x.first : Int)) (.int .i64 x.of) (.slice p4 l4 q4) ∧ At4 w' w6.heap.size 0 (.int .u64 (x.age : Int)) (.int .u64 (x.first : Int)) (.int .i64 x.of) (.slice p6 l6 q6))
      ∧ Hid (∀ w' w'', K w' → Below w'.heap.size w' w'' → K w'') := by
    refine ⟨fun w' => Below W0.heap.size W0 w' ∧ Owned w' g b 71 ∧ (Row w' t2 X1 ∧ Row w' t3 X1) ∧ Mine w' w3.heap.size (.slice p4 l4 q4) x.data ∧ Row w' (.slice p6 l6 q6) x.data ∧ At4 w' w4.heap.size 0 (.int .u64 (x.age : Int)) (.int .u64 (x.first : Int)) (.int .i64 x.of) (.slice p4 l4 q4) ∧ At4 w' w6.heap.size 0 (.int .u64 (x.age : Int)) (.int .u64 (x.first : Int)) (.int .i64 x.of) (.slice p6 l6 q6), ?_, fun w' h => h, ?_⟩
    · exact ⟨C7, ((unhide HO5).below b6).below hb7, ⟨((unhide HM5).1.below b6).below hb7, ((unhide HM5).2.below b6).below hb7⟩, ((unhide HX5).below b6).below hb7, r6.below hb7, ((unhide H45).below b6).below hb7, h47⟩
    · rintro w' w'' ⟨a1, a2, a3, a4, a5, a6, a7⟩ hb
      exact ⟨a1.trans (hb.mono a1.size), a2.below hb, ⟨a3.1.below hb, a3.2.below hb⟩, a4.below hb, a5.below hb, a6.below hb, a7.below hb⟩
  have HW7 := hide hW7
  clear b6 hb7 h47 C6 C7 r6 hW7 HRR5 HO5 HM5 HX5 H45 HC5
  go_wp2_with fail
  rw [← unhide HW7]
  refine Calls.mono (unhide HA _) ?_
  rintro e w8 ⟨rfl, b8⟩
  have k8 := unhide HKb _ _ hK0 b8
  have HBY := hide (bytes_any t2 t3 X1 X1 w8 (unhide HKu _ k8).2.2.1.1 (unhide HKu _ k8).2.2.1.2)
  rw [show (X1 == X1) = true by simp] at HBY
  obtain ⟨c0, c1, c2, c3⟩ := (unhide HKu _ k8).2.2.2.2.2.1
  obtain ⟨e0, e1, e2, e3⟩ := (unhide HKu _ k8).2.2.2.2.2.2
  have HFR := hide (hframe_any x x (.slice p4 l4 q4) (.slice p6 l6 q6) w8 (unhide HKu _ k8).2.2.2.1.row (unhide HKu _ k8).2.2.2.2.1)
  rw [show decide (x = x) = true by simp] at HFR
  unfold fv at HFR
  have hee : (E1 != E1) = false := by simp
  have hee2 : (E2 != E2) = false := by simp
  have hnn : (N != N) = false := by simp
  clear b8 hK0
  go_wp2_with fail
  refine Calls.mono (unhide HBY) ?_
  rintro e w9 ⟨rfl, rfl⟩
  go_wp2_with fail
  refine Calls.mono (unhide HFR) ?_
  rintro e w10 ⟨rfl, b10⟩
  have k10 := unhide HKb _ _ k8 b10
  clear b10 HBY HFR c0 c1 c2 c3 e0 e1 e2 e3
  go_wp2_with fail
  refine Calls.mono (unhide HCN _) ?_
  rintro e w11 ⟨rfl, rfl⟩
  go_wp2_with fail
  refine Calls.mono (unhide HRC _) ?_
  rintro e w12 ⟨rfl, rfl⟩
  obtain ⟨a1, a2, _, a4, _, ⟨c0, c1, c2, c3⟩, _⟩ := unhide HKu _ k10
  have HSP := hide (spoil_mine _ x.data w3.heap.size w12 a4)
  have HA1 := hide a1
  have HA2 := hide a2
  clear a1 a2 a4 k8 k10 HCN HRC HA
  go_wp2_with fail
  refine Calls.mono (unhide HSP) ?_
  rintro e w13 ⟨rfl, b13⟩
  have hW3 : W0.heap.size ≤ w3.heap.size := by omega
  have B13 : Below w.heap.size w w13 := by
    have h1 := (unhide HA1).trans (b13.mono hW3)
    exact (unhide HB0).trans (h1.mono hlw)
  have HKP := hide (kept_any g (.slice q b.length c) b 71 71 rfl w13 ((unhide HA2).below' b13 hg3) ((unhide HS).below B13) hroom)
  have HB13 := hide B13
  clear b13 B13 c0 c1 c2 c3 HSP
  go_wp2_with fail
  refine Calls.mono (unhide HKP) ?_
  rintro e w14 ⟨rfl, b14⟩
  go_wp2
  go_ret
  exact ⟨rfl, (unhide HB13).trans (b14.mono (unhide HB13).size)⟩

theorem walk_FrameReads (cs0 : Array Value) (d0 : Dt) (s1 : Value) (b1 : List UInt8) (a2 : Int) (w2 : (Lit.int .i64 a2).wf = true) (w : World) (h0 : Reads limSaid w frSh cs0.toList d0) (h1 : Row w s1 b1) (room1 : b1.length ≤ 140737488351232) :
    Calls Try.prog 3 #[.agg cs0, s1, .int .i64 a2] w fun e w' => e = .returned (.bool true) ∧ Below w.heap.size w w' := by
  obtain ⟨f, s, e, hr, hok⟩ := fr_of_reads h0
  have e2 : cs0 = #[.int .u64 (f.age : Int), .int .u64 (f.first : Int), .int .i64 f.of, s] := by
    apply Array.ext'
    rw [e]
    rfl
  subst e2
  have hb := bounds_i64 w2
  exact freads_any f s s1 b1 a2 w hr hok h1 room1 (by omega) (by omega)
end Go.Proofs.Ytpiekbjpnifjlaa
