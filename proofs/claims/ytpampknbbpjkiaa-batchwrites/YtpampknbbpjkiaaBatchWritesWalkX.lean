/- The walk of the law BatchWrites, of the landed package batch. -/
import Derived.Test.YtpampknbbpjkiaaG10
import Derived.Test.YtpampknbbpjkiaaG15
import Derived.Test.YtpampknbbpjkiaaG16
import Derived.Test.YtpampknbbpjkiaaG22
namespace Go.Proofs.Ytpampknbbpjkiaa
open Go.RowKit

def fillC : Chg := ⟨⟨#[55, 49]⟩, 0, 0, 0, false⟩

set_option maxRecDepth 20000 in
set_option maxHeartbeats 4000000 in
theorem writes_any (r : Rcd) (v : Value) (w : World) (hl : CL w v r.chg) (ho : r.ok) (hroom : r.chg.length * 48 ≤ 140737488351232) :
    Calls Try.prog 4 #[.agg (rcdA r v)] w fun e w' => e = .returned (.bool true) ∧ Below w.heap.size w w' := by
  obtain ⟨p, c, rfl, _⟩ := KRow.shape hl
  have HO := hide ho
  have HL := hide (fun w' (hb : Below w.heap.size w w') => hl.below hb)
  have HBW := hide (fun v' W h => bwrite_any r v' W h ho)
  have HRW := hide (fun v' W h => rwrite_any r v' W h ho)
  have HBM := hide (fun v' W h => bmay_any r v' W h ho.1 ho.2.1)
  have HRM := hide (fun v' W h => rmay10_any r v' W h)
  have HOW := hide (fun s W h => cown_any s r.chg fillC W h hroom)
  have HKP := hide (fun g s W h1 h2 => ckept_any g s r.chg fillC W h1 h2 hroom)
  have hlen : r.chg.length + 3 ≤ maxLen := by unfold maxLen; omega
  have HLEN := hide hlen
  unfold fillC chgV at HOW HKP
  simp only [Int.natCast_zero] at HOW HKP
  generalize wrB r = BB at *
  generalize mayRcd r = M at *
  obtain ⟨kind, seq, l, mser, frm, to, n⟩ := r
  unfold rcdA at *
  simp only at *
  obtain ⟨ob, hob⟩ : ∃ ob, ob = Obj.cells #[.int .i64 kind, .int .u64 (seq : Int), .slice p l.length c, .int .u64 (mser : Int), .int .i64 frm, .int .i64 to, .int .i64 n] 39 := ⟨_, rfl⟩
  have hb0 : Below w.heap.size w ((w.alloc ob).alloc ob) := ((Below.refl _ _).alloc (Nat.le_refl _) _).alloc (by simp) _
  have hg1 : ((w.alloc ob).alloc ob).heap[w.heap.size]? = some ob := (alloc_old (by simp) ob).trans (alloc_new w ob)
  have hg2 : ((w.alloc ob).alloc ob).heap[w.heap.size + 1]? = some ob := alloc_new' (by simp) ob
  have hs0 : ((w.alloc ob).alloc ob).heap.size = w.heap.size + 2 := by simp
  have HOW2 := hide (unhide HOW _ _ (hl.below hb0))
  have HB0 := hide hb0
  have HG1 := hide hg1
  have HG2 := hide hg2
  rw [hs0] at HOW2
  rw [hob] at HOW2 HB0 HG1 HG2 hs0
  have HS0 := hide hs0
  clear hl ho hroom hlen hb0 hg1 hg2 hs0 hob HO HOW
  go_enter Try.func4, Try.ntmps4
  go_wp2_with fail
  refine Calls.mono (unhide HOW2) ?_
  rintro e w1 ⟨g, rfl, hgl, hoc, hb1⟩
  have hb1' := hb1.mono (B' := w.heap.size) (by omega)
  have hB1 := (unhide HB0).trans hb1'
  have hk1 := (hb1.block w.heap.size (by omega)).trans (unhide HG1)
  have hk2 := (hb1.block (w.heap.size + 1) (by omega)).trans (unhide HG2)
  have hs1 : w.heap.size + 2 ≤ w1.heap.size := by have := hb1.size; rw [unhide HS0] at this; exact this
  have hgg : g < w1.heap.size := (Array.getElem?_eq_some_iff.1 hoc).1
  obtain ⟨d0, d1, d2, d3, d4, d5, d6⟩ := seven_cells hk2
  have hfz : w1.frozen? ⟨w.heap.size + 1, 2, none⟩ = false := frozen_of_block hk2
  -- the world behind the store
  obtain ⟨W, hW⟩ : ∃ W, W = w1.setCell ⟨w.heap.size + 1, 2, none⟩ (.slice (some ⟨g, 0, none⟩) l.length (l.length + 3)) := ⟨_, rfl⟩
  have hBW : Below w.heap.size w W := by rw [hW]; exact hB1.setCell (p := ⟨w.heap.size + 1, 2, none⟩) (by simp) _
  have hWs : W.heap.size = w1.heap.size := by rw [hW]; simp [World.setCell]
  have hw1 : W.heap[w.heap.size]? = w1.heap[w.heap.size]? := by rw [hW]; exact heap_setCell_other _ _ _ _ (by simp)
  have hwg : W.heap[g]? = w1.heap[g]? := by rw [hW]; exact heap_setCell_other _ _ _ _ (by simp; omega)
  have hw2 : W.heap[w.heap.size + 1]? = some (.cells #[.int .i64 kind, .int .u64 (seq : Int), .slice (some ⟨g, 0, none⟩) l.length (l.length + 3), .int .u64 (mser : Int), .int .i64 frm, .int .i64 to, .int .i64 n] 39 (0, 0)) := by rw [hW, heap_setCell_same _ _ _ _ _ _ hk2]; rfl
  have hoW : OwnedC W g l ⟨⟨#[55, 49]⟩, 0, 0, 0, false⟩ := hwg.trans hoc
  have hclW := hoW.row (unhide HLEN)
  have HBW2 := hide (unhide HBW _ W hclW)
  have HW := hide hW
  have HF : Hid (W.heap[w.heap.size]? = _ ∧ W.heap[w.heap.size + 1]? = _ ∧ OwnedC W g l ⟨⟨#[55, 49]⟩, 0, 0, 0, false⟩ ∧ Below w.heap.size w W) := ⟨hw1.trans hk1, hw2, hoW, hBW⟩
  obtain ⟨x0, x1, x2, x3, x4, x5, x6⟩ := seven_cells hw2
  rw [hW] at HBW2
  clear hb1 hb1' hB1 hk1 hk2 hoc hBW hw1 hwg hoW hclW hw2 HOW2 HG1 HG2 HB0 HS0 HBW x0 x1 x2 x3 x4 x5 x6
  go_wp2_with fail
  refine Calls.mono (unhide HBW2) ?_
  rintro e w2 ⟨t2, rfl, hown2, hb2⟩
  rw [← unhide HW] at hb2 hown2
  obtain ⟨hk1, hk2, hoc, hB⟩ := unhide HF
  have hj1 := (hb2.block _ (Array.getElem?_eq_some_iff.1 hk1).1).trans hk1
  have hj2 := (hb2.block _ (Array.getElem?_eq_some_iff.1 hk2).1).trans hk2
  have hoc2 := hoc.below hb2
  have hB2 := hB.trans (hb2.mono hB.size)
  have hr2 := row_of_owns hown2
  obtain ⟨q2, c2, l2, rfl, rfl⟩ := hr2.shape
  obtain ⟨y0, y1, y2, y3, y4, y5, y6⟩ := seven_cells hj1
  have HRW2 := hide (unhide HRW _ w2 (unhide HL w2 hB2))
  have HF2 := hide (And.intro hj1 (And.intro hj2 (And.intro hoc2 (And.intro hB2 hr2))))
  clear hk1 hk2 hoc hB hj1 hj2 hoc2 hB2 hr2 hown2 hb2 HF HBW2 HRW d0 d1 d2 d3 d4 d5 d6 hfz
  go_wp2_with fail
  refine Calls.mono (unhide HRW2) ?_
  rintro e w3 ⟨t3, rfl, hown3, hb3⟩
  obtain ⟨hk1, hk2, hoc, hB, hr⟩ := unhide HF2
  have hj1 := (hb3.block _ (Array.getElem?_eq_some_iff.1 hk1).1).trans hk1
  have hj2 := (hb3.block _ (Array.getElem?_eq_some_iff.1 hk2).1).trans hk2
  have hoc3 := hoc.below hb3
  have hB3 := hB.trans (hb3.mono hB.size)
  have hr2 := hr.below hb3
  have hr3 := row_of_owns hown3
  obtain ⟨q3, c3, l3, rfl, rfl⟩ := hr3.shape
  -- the class of worlds of the last region
  obtain ⟨CC, hCC⟩ : ∃ CC : World → Prop, CC = fun w' => Below w3.heap.size w3 w' := ⟨_, rfl⟩
  have HC0 : Hid (CC { w3 with drawn := w3.drawn + 1 }) := by
    unfold Hid
    rw [hCC]
    exact (Below.refl _ _).drew
  have HUP : Hid (∀ w' w'', CC w' → Below w'.heap.size w' w'' → CC w'') := by
    unfold Hid
    rw [hCC]
    exact fun w' w'' h hb => h.trans (hb.mono h.size)
  have HCA : Hid (∀ w', CC w' → w'.cell? ⟨w.heap.size, 0, none⟩ = some (.int .i64 kind) ∧ w'.cell? ⟨w.heap.size, 1, none⟩ = some (.int .u64 (seq : Int)) ∧ w'.cell? ⟨w.heap.size, 2, none⟩ = some (.slice p l.length c) ∧ w'.cell? ⟨w.heap.size, 3, none⟩ = some (.int .u64 (mser : Int)) ∧ w'.cell? ⟨w.heap.size, 4, none⟩ = some (.int .i64 frm) ∧ w'.cell? ⟨w.heap.size, 5, none⟩ = some (.int .i64 to) ∧ w'.cell? ⟨w.heap.size, 6, none⟩ = some (.int .i64 n)) := by
    unfold Hid
    rw [hCC]
    exact fun w' hb => seven_cells ((hb.block _ (Array.getElem?_eq_some_iff.1 hj1).1).trans hj1)
  have HCB : Hid (∀ w', CC w' → w'.cell? ⟨w.heap.size + 1, 0, none⟩ = some (.int .i64 kind) ∧ w'.cell? ⟨w.heap.size + 1, 1, none⟩ = some (.int .u64 (seq : Int)) ∧ w'.cell? ⟨w.heap.size + 1, 2, none⟩ = some (.slice (some ⟨g, 0, none⟩) l.length (l.length + 3)) ∧ w'.cell? ⟨w.heap.size + 1, 3, none⟩ = some (.int .u64 (mser : Int)) ∧ w'.cell? ⟨w.heap.size + 1, 4, none⟩ = some (.int .i64 frm) ∧ w'.cell? ⟨w.heap.size + 1, 5, none⟩ = some (.int .i64 to) ∧ w'.cell? ⟨w.heap.size + 1, 6, none⟩ = some (.int .i64 n)) := by
    unfold Hid
    rw [hCC]
    exact fun w' hb => seven_cells ((hb.block _ (Array.getElem?_eq_some_iff.1 hj2).1).trans hj2)
  have HCW : Hid (∀ w', CC w' → Below w.heap.size w w') := by
    unfold Hid
    rw [hCC]
    exact fun w' hb => hB3.trans (hb.mono hB3.size)
  have HOC : Hid (∀ w', CC w' → OwnedC w' g l ⟨⟨#[55, 49]⟩, 0, 0, 0, false⟩) := by
    unfold Hid
    rw [hCC]
    exact fun w' hb => hoc3.below hb
  have HRR : Hid (∀ w', CC w' → Row w' (.slice q2 BB.length c2) BB ∧ Row w' (.slice q3 BB.length c3) BB) := by
    unfold Hid
    rw [hCC]
    exact fun w' hb => ⟨hr2.below hb, hr3.below hb⟩
  have H1 : Hid (∀ w', CC w' → Calls Try.prog 11 #[] w' fun e w'' => e = .returned (.bool true) ∧ CC w'') := fun w' hw => (bawake_any w').mono fun e w'' hx => ⟨hx.1, unhide HUP w' w'' hw hx.2⟩
  have H2 := hide (fun w' hw => (unhide HBM (.slice (some ⟨g, 0, none⟩) l.length (l.length + 3)) w' ((unhide HOC w' hw).row (unhide HLEN))).mono fun e w'' (hx : e = .returned (.bool M) ∧ Below w'.heap.size w' w'') => And.intro hx.1 (unhide HUP w' w'' hw hx.2))
  have H3 := hide (fun w' hw => (unhide HRM (.slice p l.length c) w' (unhide HL w' (unhide HCW w' hw))).mono fun e w'' (hx : e = .returned (.bool M) ∧ Below w'.heap.size w' w'') => And.intro hx.1 (unhide HUP w' w'' hw hx.2))
  have H4 : Hid (∀ w', CC w' → Calls Try.prog 24 #[.slice q2 BB.length c2, .slice q3 BB.length c3] w' fun e w'' => e = .returned (.bool true) ∧ CC w'') := fun w' hw => (bytes_any _ _ BB BB w' (unhide HRR w' hw).1 (unhide HRR w' hw).2).mono fun e w'' hx => ⟨by rw [hx.1]; simp, by rw [hx.2]; exact hw⟩
  have H5 := hide (fun w' hw => (unhide HKP g (.slice p l.length c) w' (unhide HOC w' hw) (unhide HL w' (unhide HCW w' hw))).mono fun e w'' (hx : e = .returned (.bool true) ∧ Below w'.heap.size w' w'') => And.intro hx.1 (unhide HUP w' w'' hw hx.2))
  clear hCC hk1 hk2 hoc hB hr hj1 hj2 hoc3 hB3 hr2 hr3 hown3 hb3 HF2 HRW2 HBM HRM HKP HL HOC HRR HUP HLEN HW hW y0 y1 y2 y3 y4 y5 y6
  go_wp2_with fail
  refine region_calm CC (by kernel_rfl) (by kernel_rfl) (unhide HC0) ?_
  repeat (first
    | go_big_quiet_skip
    | (go_big_quiet_want
       apply Exists.intro
       refine ⟨fun w' hw' => ?_, ?_⟩
       · obtain ⟨a0, a1, a2, a3, a4, a5, a6⟩ := unhide HCA w' hw'
         obtain ⟨b0, b1, b2, b3, b4, b5, b6⟩ := unhide HCB w' hw'
         go_simp
         first | done | rfl | exact unhide H1 w' hw' | exact unhide H2 w' hw' | exact unhide H3 w' hw' | exact unhide H4 w' hw' | exact unhide H5 w' hw'
       simp only [Act.put, List.setIfInBounds_toArray, List.set_cons_zero, List.set_cons_succ]
       go_big_quiet_on))
  refine wpQuiet_nil ?_
  intro w' hw'
  have HBF := hide (unhide HCW w' hw')
  go_wp2
  go_ret
  exact ⟨rfl, unhide HBF⟩

theorem walk_BatchWrites (cs : Array Value) (d : Dt) (w : World) (h : Reads limSaid w rcdSh cs.toList d) : Calls Try.prog 4 #[.agg cs] w fun e w' => e = .returned (.bool true) ∧ Below w.heap.size w w' := by
  obtain ⟨r, v, hc, hl, ho, hr⟩ := rcd_of_reads h
  obtain rfl : cs = rcdA r v := Array.toList_inj.1 hc
  exact writes_any r v w hl ho hr
end Go.Proofs.Ytpampknbbpjkiaa
