/- The walk of the law BatchReads, of the landed package batch. -/
import Derived.Test.YtpampknbbpjkiaaG15
import Derived.Test.YtpampknbbpjkiaaG27
import Derived.Test.YtpampknbbpjkiaaG29
import Derived.Test.YtpampknbbpjkiaaG30
import Derived.Test.YtpampknbbpjkiaaG31
namespace Go.Proofs.Ytpampknbbpjkiaa
open Go.RowKit

theorem qread_any (s : Value) (b : List UInt8) (w : World) (hs : Row w s b) (hroom : b.length ≤ 140737488351232) :
    Calls Try.prog 28 #[s] w fun x w' => ∃ v, x = .returned (.tuple #[.agg (rcdA (readF10 b).1 v), .int .i64 (readF10 b).2]) ∧ CL w' v (readF10 b).1.chg ∧ Below w.heap.size w w' := by
  by_cases hE : (byteF b 0 0).2.2 = 0
  · by_cases q1 : (byteF b 0 0).1 = 1
    · exact qread_bat s b w hs hroom hE q1
    · by_cases q2 : (byteF b 0 0).1 = 2
      · exact qread_mov s b w hs hroom hE q2
      · exact qread_other s b w hs hroom hE q1 q2
  · exact qread_err s b w hs hroom hE

set_option maxRecDepth 20000 in
set_option maxHeartbeats 4000000 in
theorem walk_BatchReads (s : Value) (b : List UInt8) (w : World) (hs : Row w s b) (hroom : b.length ≤ 140737488351232) :
    Calls Try.prog 5 #[s] w fun e w' => e = .returned (.bool true) ∧ Below w.heap.size w w' := by
  have HOW := hide (own_any s b 71 71 rfl w hs hroom)
  have HL := hide (fun w' (hb : Below w.heap.size w w') => hs.below hb)
  have HBR := hide (fun v' W h => bread_any v' b W h hroom)
  have HQR := hide (fun v' W h => qread_any v' b W h hroom)
  have HKP := hide (fun g v' W h1 h2 => kept_any g v' b 71 71 rfl W h1 h2 hroom)
  have HLEN : Hid (b.length + 3 ≤ maxLen) := by unfold Hid maxLen; omega
  obtain ⟨sp, sc, sl, rfl, rfl⟩ := hs.shape
  generalize readF10 b = RF at *
  obtain ⟨R, E⟩ := RF
  simp only at HBR HQR
  clear hs hroom
  go_enter Try.func5, Try.ntmps5
  go_wp2_with fail
  refine Calls.mono (unhide HOW) ?_
  rintro e w1 ⟨g, rfl, hgl, hoc, hb1⟩
  have HB2 := hide (unhide HBR _ w1 (hoc.row (unhide HLEN)))
  have HF1 := hide (And.intro hoc hb1)
  clear hoc hb1 HOW HBR
  go_wp2_with fail
  refine Calls.mono (unhide HB2) ?_
  rintro e w2 ⟨v2, rfl, hc2, hb2⟩
  obtain ⟨hoc, hb1⟩ := unhide HF1
  have hB2 := hb1.trans (hb2.mono hb1.size)
  obtain ⟨vp, vc, rfl, _⟩ := KRow.shape hc2
  have ha2 : Below w2.heap.size w2 (w2.alloc (.cells #[.int .i64 R.kind, .int .u64 (R.seq : Int), .slice vp R.chg.length vc, .int .u64 (R.mser : Int), .int .i64 R.frm, .int .i64 R.to, .int .i64 R.n] 39)) := (Below.refl _ _).alloc (Nat.le_refl _) _
  have hB2' := hB2.trans (ha2.mono hB2.size)
  have HQ2 := hide (unhide HQR _ (w2.alloc (.cells #[.int .i64 R.kind, .int .u64 (R.seq : Int), .slice vp R.chg.length vc, .int .u64 (R.mser : Int), .int .i64 R.frm, .int .i64 R.to, .int .i64 R.n] 39)) (unhide HL _ hB2'))
  have HF2 := hide (And.intro ((hoc.below hb2).below ha2) (And.intro (hc2.below ha2) (And.intro hB2' (alloc_new w2 (.cells #[.int .i64 R.kind, .int .u64 (R.seq : Int), .slice vp R.chg.length vc, .int .u64 (R.mser : Int), .int .i64 R.frm, .int .i64 R.to, .int .i64 R.n] 39)))))
  clear ha2 hB2'
  clear hoc hb1 hb2 hc2 hB2 HF1 HB2 HQR
  unfold rcdA at *
  go_wp2_with fail
  refine Calls.mono (unhide HQ2) ?_
  rintro e w3 ⟨v3, rfl, hc3, hb3⟩
  obtain ⟨hoc, hc2, hB, hn2⟩ := unhide HF2
  obtain ⟨wp, wc, rfl, _⟩ := KRow.shape hc3
  have ha3 : Below w3.heap.size w3 (w3.alloc (.cells #[.int .i64 R.kind, .int .u64 (R.seq : Int), .slice wp R.chg.length wc, .int .u64 (R.mser : Int), .int .i64 R.frm, .int .i64 R.to, .int .i64 R.n] 39)) := (Below.refl _ _).alloc (Nat.le_refl _) _
  have hoc3 := (hoc.below hb3).below ha3
  have hc23 := (hc2.below hb3).below ha3
  have hc33 := hc3.below ha3
  have hB30 := hB.trans (hb3.mono hB.size)
  have hB3 := hB30.trans (ha3.mono hB30.size)
  have hn23 := (hb3.block _ (Array.getElem?_eq_some_iff.1 hn2).1).trans hn2
  have hn2W := (ha3.block _ (Array.getElem?_eq_some_iff.1 hn23).1).trans hn23
  have hn3W := alloc_new w3 (.cells #[.int .i64 R.kind, .int .u64 (R.seq : Int), .slice wp R.chg.length wc, .int .u64 (R.mser : Int), .int .i64 R.frm, .int .i64 R.to, .int .i64 R.n] 39)
  obtain ⟨W3, hW3⟩ : ∃ W3, W3 = w3.alloc (.cells #[.int .i64 R.kind, .int .u64 (R.seq : Int), .slice wp R.chg.length wc, .int .u64 (R.mser : Int), .int .i64 R.frm, .int .i64 R.to, .int .i64 R.n] 39) := ⟨_, rfl⟩
  rw [← hW3] at hoc3 hc23 hc33 hB3 hn2W hn3W
  obtain ⟨CC, hCC⟩ : ∃ CC : World → Prop, CC = fun w' => Below W3.heap.size W3 w' := ⟨_, rfl⟩
  have HUP : Hid (∀ w' w'', CC w' → Below w'.heap.size w' w'' → CC w'') := by
    unfold Hid
    rw [hCC]
    exact fun w' w'' h hb => h.trans (hb.mono h.size)
  have HCW : Hid (∀ w', CC w' → Below w.heap.size w w') := by
    unfold Hid
    rw [hCC]
    exact fun w' hb => hB3.trans (hb.mono hB3.size)
  have HOC : Hid (∀ w', CC w' → Owned w' g b 71) := by
    unfold Hid
    rw [hCC]
    exact fun w' hb => hoc3.below hb
  have HRR : Hid (∀ w', CC w' → CL w' (.slice vp R.chg.length vc) R.chg ∧ CL w' (.slice wp R.chg.length wc) R.chg) := by
    unfold Hid
    rw [hCC]
    exact fun w' hb => ⟨hc23.below hb, hc33.below hb⟩
  have HCA : Hid (∀ w', CC w' → w'.heap[w2.heap.size]? = some (.cells #[.int .i64 R.kind, .int .u64 (R.seq : Int), .slice vp R.chg.length vc, .int .u64 (R.mser : Int), .int .i64 R.frm, .int .i64 R.to, .int .i64 R.n] 39 (0, 0)) ∧ w'.heap[w3.heap.size]? = some (.cells #[.int .i64 R.kind, .int .u64 (R.seq : Int), .slice wp R.chg.length wc, .int .u64 (R.mser : Int), .int .i64 R.frm, .int .i64 R.to, .int .i64 R.n] 39 (0, 0))) := by
    unfold Hid
    rw [hCC]
    exact fun w' hb => ⟨(hb.block _ (Array.getElem?_eq_some_iff.1 hn2W).1).trans hn2W, (hb.block _ (Array.getElem?_eq_some_iff.1 hn3W).1).trans hn3W⟩
  have HC1 : Hid (CC W3) := by
    unfold Hid
    rw [hCC]
    exact Below.refl _ _
  have H1 : Hid (∀ w', CC w' → Calls Try.prog 11 #[] w' fun e w'' => e = .returned (.bool true) ∧ CC w'') := fun w' hw => (bawake_any w').mono fun e w'' hx => ⟨hx.1, unhide HUP w' w'' hw hx.2⟩
  have H2 := hide (fun w' hw => (hrecord_any R (.slice vp R.chg.length vc) (.slice wp R.chg.length wc) w' (unhide HRR w' hw).1 (unhide HRR w' hw).2).mono fun e w'' (hx : e = .returned (.bool true) ∧ Below w'.heap.size w' w'') => And.intro hx.1 (unhide HUP w' w'' hw hx.2))
  have H5 := hide (fun w' hw => (unhide HKP g (.slice sp b.length sc) w' (unhide HOC w' hw) (unhide HL w' (unhide HCW w' hw))).mono fun e w'' (hx : e = .returned (.bool true) ∧ Below w'.heap.size w' w'') => And.intro hx.1 (unhide HUP w' w'' hw hx.2))
  unfold rcdA at H2
  have hEE : (E == E) = true := by simp
  rw [hW3] at HC1
  clear hCC hoc hc2 hB hoc3 hc23 hc33 hB3 hB30 hc3 hb3 hn2 hn23 hn2W hn3W ha3 hW3 HF2 HQ2 HKP HL HOC HRR HUP HLEN
  go_wp2_with (first
    | (go_at_call 11; refine Calls.mono (unhide H1 _ (unhide HC1)) ?_; rintro e w4 ⟨rfl, h4⟩; have HD4 := hide h4; obtain ⟨a0, a1, a2, a3, a4, a5, a6⟩ := seven_cells (unhide HCA w4 h4).1; obtain ⟨b0, b1, b2, b3, b4, b5, b6⟩ := seven_cells (unhide HCA w4 h4).2; clear h4)
    | (go_at_call 29; refine Calls.mono (unhide H2 _ (unhide HD4)) ?_; rintro e w5 ⟨rfl, h5⟩; have HD5 := hide h5; clear h5)
    | (go_at_call 30; refine Calls.mono (unhide H5 _ (unhide HD5)) ?_; rintro e w6 ⟨rfl, h6⟩; have HD6 := hide h6; clear h6))
  go_ret
  exact ⟨rfl, unhide HCW _ (unhide HD6)⟩
end Go.Proofs.Ytpampknbbpjkiaa
