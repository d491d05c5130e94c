/- Texts of ours, one behind the other: DiskOwn12. -/
import Derived.Test.YtdpoiieblbmofabGreatG11
import Derived.Deep.RegionHeld3
/- The landed package disk: Fork. -/
namespace Go.Proofs.YtdpoiieblbmofabGreat
open Go.RowKit

set_option maxRecDepth 20000 in
set_option maxHeartbeats 2000000 in
theorem ofork_any (F : Nat → Prop) (p : Value) (s : DK) (w : World) (h : DRep F w p s) (hw : s.waits.length ≤ 1048576) :
    Calls Tryz.prog 7 #[p] w fun e w' => ∃ q, e = .returned q ∧ (∃ G, DRep G w' q s ∧ ∀ k, G k → w.heap.size ≤ k) ∧ Below w.heap.size w w' := by
  obtain ⟨g, kb, kc, wv, mv, hit, rfl, R⟩ := h
  obtain ⟨c0, c1, c2, c3, c4, c5, c6, c7, hfz⟩ := eight_cells R.blk
  obtain ⟨q, cw, rfl⟩ := R.shape
  obtain ⟨mo, rfl⟩ := R.mshape
  have hgl := R.lt g R.fg
  have HR := hide R
  obtain ⟨w1, hw1⟩ : ∃ w1, w1 = w.alloc (.cells #[.slice (some ⟨kb, 0, none⟩) s.n kc, .slice q s.waits.length cw, .map mo, .bool s.fell, .int .i64 (s.ticks : Int), .int .i64 hit, .int .i64 (s.turns : Int), .int .i64 0] 66) := ⟨_, rfl⟩
  have hb1 : Below w.heap.size w w1 := by rw [hw1]; exact (Below.refl _ _).alloc (Nat.le_refl _) _
  have hx1 : w1.heap[w.heap.size]? = some (.cells #[.slice (some ⟨kb, 0, none⟩) s.n kc, .slice q s.waits.length cw, .map mo, .bool s.fell, .int .i64 (s.ticks : Int), .int .i64 hit, .int .i64 (s.turns : Int), .int .i64 0] 66 (0, 0)) := by rw [hw1]; exact heap_alloc_new _ _
  have HC1 := hide (ocloneI_any w1 kb s.n kc s.kept (R.kept.stays (hb1.block kb (R.lt kb R.fk))) R.ok.kept R.ok.size)
  have HB1 := hide hb1
  have HX1 := hide hx1
  clear R hfz hb1 hx1
  go_enter Tryz.func7, Tryz.ntmps7
  go_wp2_with fail
  rw [← hw1]
  refine Calls.mono (unhide HC1) ?_
  rintro e w2 ⟨g2, cap2, rfl, hg2, hI2, hb2⟩
  have hx2 : w2.heap[w.heap.size]? = some (.cells #[.slice (some ⟨kb, 0, none⟩) s.n kc, .slice q s.waits.length cw, .map mo, .bool s.fell, .int .i64 (s.ticks : Int), .int .i64 hit, .int .i64 (s.turns : Int), .int .i64 0] 66 (0, 0)) := (hb2.block _ (Array.getElem?_eq_some_iff.1 (unhide HX1)).1).trans (unhide HX1)
  obtain ⟨y0, _, _, _, _, _, _, _, yfz⟩ := eight_cells hx2
  have yf0 := yfz 0
  have hx1l : w.heap.size < w1.heap.size := (Array.getElem?_eq_some_iff.1 (unhide HX1)).1
  obtain ⟨w3, hw3⟩ : ∃ w3, w3 = w2.setCell ⟨w.heap.size, 0, none⟩ (.slice (some ⟨g2, 0, none⟩) s.n cap2) := ⟨_, rfl⟩
  have hb02 : Below w.heap.size w w2 := (unhide HB1).trans (hb2.mono (unhide HB1).size)
  have hb03 : Below w.heap.size w w3 := by rw [hw3]; exact hb02.setCell (p := ⟨w.heap.size, 0, none⟩) (Nat.le_refl _) _
  have hx3 : w3.heap[w.heap.size]? = some (.cells #[.slice (some ⟨g2, 0, none⟩) s.n cap2, .slice q s.waits.length cw, .map mo, .bool s.fell, .int .i64 (s.ticks : Int), .int .i64 hit, .int .i64 (s.turns : Int), .int .i64 0] 66 (0, 0)) := by
    rw [hw3, heap_setCell_same w2 _ 0 _ _ _ hx2]
    rfl
  have hI3 : Imgs w3 g2 s.n cap2 s.kept := hI2.stays (by rw [hw3]; exact Below.heap_setCell _ _ _ _ (show g2 ≠ w.heap.size by omega))
  have HSW : Hid (∀ W', Below w.heap.size w W' → W'.cell? ⟨g, 1, none⟩ = some (.slice q s.waits.length cw) ∧ W'.cell? ⟨g, 2, none⟩ = some (.map mo)) := fun W' hb => ⟨(hb.cell (p := ⟨g, 1, none⟩) hgl).trans c1, (hb.cell (p := ⟨g, 2, none⟩) hgl).trans c2⟩
  have HCW : Hid (∀ W', Below w.heap.size w W' → Calls Tryz.prog 25 #[.slice q s.waits.length cw] W' fun e w' => ∃ v', e = .returned v' ∧ w'.ownsRow W'.heap.size 72 513 v' s.waits.length (wrs s.waits) ∧ (∃ q c, v' = .slice q s.waits.length c) ∧ Below W'.heap.size W' w') := fun W' hb =>
    ocloneW_any W' _ s.waits (row_stays (unhide HR).own fun k hk => hb.block k ((unhide HR).lt k ((unhide HR).fw k hk))) (fun x hx => ((unhide HR).ok.waits x hx).2) hw
  have HCM : Hid (∀ W', Below w.heap.size w W' → Calls Tryz.prog 26 #[.map mo] W' fun e w' => ∃ mo', e = .returned (.map mo') ∧ MapAt (fun k => W'.heap.size ≤ k ∧ k < w'.heap.size) w' (.map mo') s.waits ∧ Below W'.heap.size W' w') := fun W' hb => by
    rcases (unhide HR).map with ⟨e, hnil⟩ | ⟨m, f, cnt, e, hFm, hM, hcnt, hlast⟩
    · cases e
      refine (ocloneM_nil W').mono ?_
      rintro e w' ⟨rfl, rfl⟩
      exact ⟨none, rfl, Or.inl ⟨rfl, hnil⟩, Below.refl _ _⟩
    · cases e
      have hM' := hM.stays (hb.block m ((unhide HR).lt m hFm))
      obtain ⟨D, ⟨es, clock, hh, hrest⟩, hD⟩ := hM'
      refine (ocloneM_some m es clock W' hh).mono ?_
      rintro e w' ⟨rfl, rfl⟩
      exact ⟨some W'.heap.size, rfl, Or.inr ⟨_, f, cnt, rfl, ⟨Nat.le_refl _, by simp⟩, ⟨D, ⟨es, clock, heap_alloc_new _ _, hrest⟩, hD⟩, hcnt, hlast⟩, (Below.refl _ _).alloc (Nat.le_refl _) _⟩
  have HB3 := hide (hb03.drew)
  have HX3 : Hid (w3.drew.heap[w.heap.size]? = some (.cells #[.slice (some ⟨g2, 0, none⟩) s.n cap2, .slice q s.waits.length cw, .map mo, .bool s.fell, .int .i64 (s.ticks : Int), .int .i64 hit, .int .i64 (s.turns : Int), .int .i64 0] 66 (0, 0))) := hx3
  have HI3 : Hid (Imgs w3.drew g2 s.n cap2 s.kept) := hI3.stays rfl
  have hg2' : w.heap.size < g2 := by omega
  have HOK := hide ((unhide HR).ok)
  have HAR := hide ((unhide HR).armed)
  have hSW3 := unhide HSW _ (unhide HB3)
  clear hb02 hb03 hx3 hI3 hI2 hb2 hx2 yfz HC1 HB1 HX1 hx1l hw1 HR c0 c3 c4 c5 c6 c7
  go_wp2_with fail
  rw [← hw3]
  clear y0 yf0 hw3
  go_region_held3 (fun w' => w'.cell? ⟨g, 1, none⟩ = some (.slice q s.waits.length cw) ∧ w'.cell? ⟨g, 2, none⟩ = some (.map mo)) (first | exact unhide HSW _ (unhide HB3) | exact hS4 | exact hS5 | exact hS6) (first
    | (go_at_call 25; refine Calls.mono (unhide HCW _ (unhide HB3)) ?_; rintro e w4 ⟨v4, rfl, ho4, ⟨q4, cc4, rfl⟩, hb4⟩; have hbb4 := (unhide HB3).trans (hb4.mono (unhide HB3).size); have hS4 := unhide HSW _ hbb4; have HB4 := hide hbb4; have HO4 := hide ho4; have HBS4 := hide hb4; clear hbb4 ho4 hb4)
    | (go_at_call 26; refine Calls.mono (unhide HCM _ (unhide HB4)) ?_; rintro e w5 ⟨mo5, rfl, hm5, hb5⟩; have hbb5 := (unhide HB4).trans (hb5.mono (unhide HB4).size); have hS5 := unhide HSW _ hbb5; have hx5 := ((unhide HBS4).trans (hb5.mono (unhide HBS4).size)).block _ (Array.getElem?_eq_some_iff.1 (unhide HX3)).1 |>.trans (unhide HX3); obtain ⟨y0, y1, y2, y3, y4, y5, y6, y7, yfz⟩ := eight_cells hx5; have yf1 := yfz 1; have yf2 := yfz 2; have hS6 := unhide HSW _ ((hbb5.setCell (p := ⟨w.heap.size, 1, none⟩) (Nat.le_refl _) (.slice q4 s.waits.length cc4)).setCell (p := ⟨w.heap.size, 2, none⟩) (Nat.le_refl _) (.map mo5)); have HB5 := hide hbb5; have HBS5 := hide hb5; have HM5 := hide hm5; have HX5 := hide hx5; clear hbb5 hb5 hm5 hx5 yfz y0 y3 y4 y5 y6 y7))
  obtain ⟨w6, hw6⟩ : ∃ w6, w6 = (w5.setCell ⟨w.heap.size, 1, none⟩ (.slice q4 s.waits.length cc4)).setCell ⟨w.heap.size, 2, none⟩ (.map mo5) := ⟨_, rfl⟩
  have HFIN : Hid ((∃ G, DRep G w6 (.pointer (some ⟨w.heap.size, 0, none⟩)) s ∧ ∀ k, G k → w.heap.size ≤ k) ∧ Below w.heap.size w w6) := by
    have hK := (keep_set w5 w.heap.size 1 (.slice q4 s.waits.length cc4)).also 2 (.map mo5)
    rw [← hw6] at hK
    have hs6 : w6.heap.size = w5.heap.size := by rw [hw6]; simp
    have b1 := heap_setCell_same w5 w.heap.size 1 _ _ (.slice q4 s.waits.length cc4) (unhide HX5)
    have b2 := heap_setCell_same _ w.heap.size 2 _ _ (.map mo5) b1
    rw [← hw6] at b2
    have hB35 := (unhide HBS4).trans ((unhide HBS5).mono (unhide HBS4).size)
    have hx3l : w.heap.size < w3.drew.heap.size := (Array.getElem?_eq_some_iff.1 (unhide HX3)).1
    have h34 := (unhide HBS4).size
    have h45 := (unhide HBS5).size
    have hk6 : ∀ k, k ≠ w.heap.size → k < w5.heap.size → w6.heap[k]? = w5.heap[k]? := fun k h1 h2 => hK.block k h2 h1
    have hg2l : g2 < w3.drew.heap.size := by obtain ⟨C, hC, _⟩ := unhide HI3; exact (Array.getElem?_eq_some_iff.1 hC).1
    have ho4 : ∀ k, (Value.slice q4 s.waits.length cc4).ownBlock = some k → w3.drew.heap.size ≤ k ∧ k < w4.heap.size := fun k hk => (World.ownsRow.lt (unhide HO4) k hk)
    refine ⟨⟨fun k => w.heap.size ≤ k ∧ k < w6.heap.size, ⟨w.heap.size, g2, cap2, .slice q4 s.waits.length cc4, .map mo5, hit, rfl, ?_⟩, fun k h => h.1⟩, ?_⟩
    · refine ⟨?_, ?_, ?_, ?_, unhide HAR, ⟨Nat.le_refl _, by omega⟩, ⟨by omega, by omega⟩, fun k hk => ?_, fun k h => h.2, unhide HOK⟩
      · rw [b2]
        rfl
      · exact (unhide HI3).stays ((hk6 g2 (by omega) (by omega)).trans (hB35.block g2 hg2l))
      · have h0 : w4.ownsRow 0 72 513 (.slice q4 s.waits.length cc4) s.waits.length (wrs s.waits) := by
          refine ⟨(unhide HO4).1, (unhide HO4).2.imp id ?_⟩
          rintro ⟨g', cap', cur, h1, _, h2⟩
          exact ⟨g', cap', cur, h1, Nat.zero_le _, h2⟩
        refine row_stays h0 fun k hk => ?_
        have := ho4 k hk
        exact (hk6 k (by omega) (by omega)).trans ((unhide HBS5).block k this.2)
      · refine ((unhide HM5).weak (G := fun k => w.heap.size ≤ k ∧ k < w6.heap.size) (fun k hk => by have := hk.1; have := hk.2; omega)).stays (fun k hk hm => hk6 k (fun e => ?_) (by omega))
        obtain ⟨es, c, hm⟩ := hm
        rw [e, unhide HX5] at hm
        cases hm
      · have := ho4 k hk
        exact ⟨by omega, by omega⟩
    · exact (unhide HB5).trans (hK.below (by have := (unhide HB5).size; omega) (fun k e => by omega))
  go_wp2
  go_ret
  rw [← hw6]
  exact ⟨_, rfl, (unhide HFIN).1, (unhide HFIN).2⟩
end Go.Proofs.YtdpoiieblbmofabGreat
