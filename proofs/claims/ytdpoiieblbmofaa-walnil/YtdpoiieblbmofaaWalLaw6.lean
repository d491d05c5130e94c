/- The statements of layer 7: a log on an empty device, and its book. -/
import Derived.Test.YtdpoiieblbmofaaWalLaw5
namespace Go.Proofs.Ytdpoiieblbmofaa
open Go.RowKit

def bk0 : BK := ⟨1, [], [], [], 0, 0, 0, false⟩

set_option maxRecDepth 20000 in
set_option maxHeartbeats 1000000 in
theorem begin_any (w : World) : Calls Try.prog 7 #[] w fun e w' => ∃ g, e = .returned (.pointer (some ⟨g, 0, none⟩)) ∧ ∃ lp dp F G K, Book F G K w' g lp dp (DK.new 256) (lg0 0 1) bk0 (.slice none 0 0) (.slice none 0 0) (.slice none 0 0) ∧ (∀ k, all3 F G K k → w.heap.size ≤ k) ∧ Below w.heap.size w w' := by
  have HDV := hide (device_any w)
  have HOP := hide (fun F dp w' (h : DRep F w' dp (DK.new 256)) => wopen_any F dp (DK.new 256) 256 0 0 1 w' h rfl fits256 (by omega) (by omega) (by omega) (by omega))
  rw [lay256] at HDV HOP
  go_enter Try.func7, Try.ntmps7
  go_wp2_with fail
  refine Calls.mono (unhide HDV) ?_
  rintro e w1 ⟨dp, rfl, ⟨F, hD, hF⟩, b1⟩
  obtain ⟨dg, rfl⟩ := hD.ptr
  obtain ⟨W2, hW2⟩ : ∃ W2, W2 = w1.alloc (.cells #[.int .i64 256, .int .i64 3, .int .i64 13, .int .i64 30, .int .i64 43, .int .i64 73, .int .i64 30, .int .i64 103, .int .i64 4] 33) := ⟨_, rfl⟩
  have hal : Below w1.heap.size w1 W2 := by rw [hW2]; exact (Below.refl _ _).alloc (Nat.le_refl _) _
  have hX2 : W2.heap[w1.heap.size]? = some (.cells #[.int .i64 256, .int .i64 3, .int .i64 13, .int .i64 30, .int .i64 43, .int .i64 73, .int .i64 30, .int .i64 103, .int .i64 4] 33 (0, 0)) := by rw [hW2]; exact heap_alloc_new w1 _
  have hD2 := hD.stays hal.size (fun k hk => hal.block k (hD.lt k hk))
  have HO := hide (unhide HOP F _ W2 hD2)
  have HD2 := hide hD2
  have HF := hide hF
  have HB2 := hide (b1.trans (hal.mono b1.size))
  have HX2 := hide hX2
  have HW2 := hide hW2
  have HWS : Hid (w.heap.size ≤ w1.heap.size) := b1.size
  clear hD hD2 hF b1 hal HDV HOP hX2 hW2
  go_wp2_with fail
  rw [← unhide HW2]
  refine Calls.mono (unhide HO) ?_
  rintro e w3 ⟨hO, b3⟩
  unfold OpenR at hO
  rw [if_neg (by decide), opened_new, if_neg (by simp)] at hO
  obtain ⟨lp, v, G, H, rfl, hr, hl, hH, hG, hHG⟩ := hO
  have hD3 := (unhide HD2).stays b3.size (fun k hk => b3.block k ((unhide HD2).lt k hk))
  have hlt2 := (unhide HD2).lt
  have hBo : Both F G w3 lp (.pointer (some dg)) 256 (DK.new 256) (lg0 0 1) := ⟨hD3, hl, fun k hk hg => by have := hlt2 k hk; have := hG k hg; omega, rfl⟩
  obtain ⟨vs, hvs⟩ := hr.owns
  obtain ⟨q5, c5, hv5⟩ : ∃ q cc, v = .slice q 0 cc := by
    rcases hvs.2 with ⟨e1, _⟩ | ⟨g6, cap6, cur6, e1, _⟩
    · exact ⟨_, _, e1⟩
    · exact ⟨_, _, e1⟩
  subst hv5
  obtain ⟨lg, hlg⟩ : ∃ lg, lp = .pointer (some lg) := by obtain ⟨g, sv, e, _⟩ := hl; exact ⟨_, e⟩
  subst hlg
  have hX3 := (b3.block w1.heap.size (Array.getElem?_eq_some_iff.1 (unhide HX2)).1).trans (unhide HX2)
  obtain ⟨c0, c1, c2, c3, c4, c5', c6, c7, c8⟩ := nine_cells hX3
  have HB3 := hide ((unhide HB2).trans (b3.mono (unhide HB2).size))
  obtain ⟨W4, hW4⟩ : ∃ W4, W4 = w3.alloc (.cells #[.pointer (some dg), .int .i64 256, .int .i64 3, .int .i64 13, .int .i64 30, .int .i64 43, .int .i64 73, .int .i64 30, .int .i64 103, .int .i64 4, .pointer (some lg), .int .u64 1, .slice none 0 0, .slice none 0 0, .slice none 0 0, .int .u64 0, .int .u64 0, .int .i64 0, .bool false] 39) := ⟨_, rfl⟩
  have hb4 : Below w3.heap.size w3 W4 := by rw [hW4]; exact (Below.refl _ _).alloc (Nat.le_refl _) _
  have hBk : Book F G (fun k => k = w3.heap.size) W4 w3.heap.size (.pointer (some lg)) (.pointer (some dg)) (DK.new 256) (lg0 0 1) bk0 (.slice none 0 0) (.slice none 0 0) (.slice none 0 0) := by
    refine ⟨hBo.below hb4, ⟨by rw [hW4]; exact heap_alloc_new w3 _, TRecs.nil _ _, TRow.nil _ _ _, TRow.nil _ _ _, (fun k hk => by cases hk), rfl, fun k hk => by rw [hk, hW4]; simp⟩, fun k hk e => ?_, fun k hk e => ?_, rfl, rfl, rfl, rfl, rfl, rfl⟩
    · have := hBo.dev.lt k hk; omega
    · have := hBo.log.lt k hk; omega
  have HEND : Hid (∃ lp dp F G K, Book F G K W4 w3.heap.size lp dp (DK.new 256) (lg0 0 1) bk0 (.slice none 0 0) (.slice none 0 0) (.slice none 0 0) ∧ (∀ k, all3 F G K k → w.heap.size ≤ k) ∧ Below w.heap.size w W4) := by
    refine ⟨_, _, F, G, _, hBk, fun k hk => ?_, (unhide HB3).trans (hb4.mono (unhide HB3).size)⟩
    rcases hk with h | h | h
    · exact unhide HF k h
    · exact Nat.le_trans (unhide HB2).size (hG k h)
    · rw [h]; exact (unhide HB3).size
  have HW4 := hide hW4
  clear hr hl hH hG hHG hD3 hlt2 hBo hvs b3 hX3 hW4 hb4 hBk HO
  go_wp2_with fail
  rw [← unhide HW4]
  go_ret
  exact ⟨_, rfl, unhide HEND⟩
end Go.Proofs.Ytdpoiieblbmofaa
