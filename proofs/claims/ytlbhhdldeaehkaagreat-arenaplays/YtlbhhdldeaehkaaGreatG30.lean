/- Texts of ours, one behind the other: ArPack, ArPack2, ArAll2, ArLaw1. -/
import Derived.Test.YtlbhhdldeaehkaaGreatG16
import Derived.Test.YtlbhhdldeaehkaaGreatG21
import Derived.Test.YtlbhhdldeaehkaaGreatG22
import Derived.Test.YtlbhhdldeaehkaaGreatG28
import Derived.Test.YtlbhhdldeaehkaaGreatG29
import Derived.Test.YtlbhhdldeaehkaaGreatG31
import Derived.Deep.RegionHeld3
/- Package arena as landed: Live, Pack, Fork. -/
namespace Go.Proofs.YtlbhhdldeaehkaaGreat
open Go.RowKit

theorem alive_nil (w : World) : Calls Tryz.prog 42 #[.pointer none] w fun e w' => e = .returned (.int .i64 0) ∧ w' = w := by
  have HN := hide (anone_nil w)
  go_enter Tryz.func42, Tryz.ntmps42
  go_wp2_with fail
  refine Calls.mono (unhide HN) ?_
  rintro e w1 ⟨rfl, rfl⟩
  go_wp2_with fail
  go_ret
  exact ⟨rfl, rfl⟩
theorem apack_nil (w : World) : Calls Tryz.prog 9 #[.pointer none] w fun e w' => e = .returned (.int .i64 0) ∧ w' = w := by
  have HN := hide (anone_nil w)
  go_enter Tryz.func9, Tryz.ntmps9
  go_wp2_with fail
  refine Calls.mono (unhide HN) ?_
  rintro e w1 ⟨rfl, rfl⟩
  go_wp2_with fail
  go_ret
  exact ⟨rfl, rfl⟩
theorem afork_nil (w : World) : Calls Tryz.prog 7 #[.pointer none] w fun e w' => e = .returned (.pointer none) ∧ w' = w := by
  have HN := hide (anone_nil w)
  go_enter Tryz.func7, Tryz.ntmps7
  go_wp2_with fail
  refine Calls.mono (unhide HN) ?_
  rintro e w1 ⟨rfl, rfl⟩
  go_wp2_with fail
  go_ret
  exact ⟨rfl, rfl⟩

set_option maxRecDepth 20000 in
theorem alive_any (w : World) (g gh : Nat) (wv hv rv : Value) (n : Nat) (ws rs : List Int) (h : AAt w g gh wv hv rv n ws rs) :
    Calls Tryz.prog 42 #[.pointer (some ⟨g, 0, none⟩)] w fun e w' => ∃ l, e = .returned (.int .i64 (sumW ws l)) ∧ LiveIs ws rs l ∧ Below w.heap.size w w' := by
  obtain ⟨c0, c1, c2, _⟩ := three_cells h.blk
  obtain ⟨d0, d1, d2, _⟩ := three_cells h.hblk
  have HN := hide (anone_no w g gh _ hv rv n ws rs h)
  have HW := hide (mwords_any wv rv ws rs w.drew (h.below ((Below.refl _ w).drew)).wrow (h.below ((Below.refl _ w).drew)).rrow h.ok.u32 (by have := h.ok.len; omega) (by rw [h.ok.slots]; omega))
  have HR := hide h.ok.right
  have HKB := hide (fun W (hb : Below w.drew.heap.size w.drew W) => And.intro (three_cells ((hb.block g (Array.getElem?_eq_some_iff.1 h.blk).1).trans h.blk)).2.1 (And.intro (three_cells ((hb.block gh (Array.getElem?_eq_some_iff.1 h.hblk).1).trans h.hblk)).1 (three_cells ((hb.block gh (Array.getElem?_eq_some_iff.1 h.hblk).1).trans h.hblk)).2.2.1))
  have hmx : Tryz.prog.follows .mixedOrders = true := by kernel_rfl
  obtain ⟨pw, cw, rfl⟩ := ownsV_shape h.wown
  obtain ⟨pr, cr, rfl⟩ := ownsV_shape h.rown
  clear h
  go_enter Tryz.func42, Tryz.ntmps42
  go_wp2_with fail
  refine Calls.mono (unhide HN) ?_
  rintro e w1 ⟨rfl, rfl⟩
  go_wp2_with fail
  go_region_held3 (fun w' => w'.cell? ⟨g, 1, none⟩ = some (.pointer (some ⟨gh, 0, none⟩)) ∧ w'.cell? ⟨gh, 0, none⟩ = some (.slice pw ws.length cw) ∧ w'.cell? ⟨gh, 2, none⟩ = some (.slice pr 16 cr)) (first | assumption | go_keep) (first
    | (go_at_call 73; refine Calls.mono (unhide HW) ?_; rintro e w2 ⟨l, rfl, hl, b2⟩; have hS2 := unhide HKB w2 b2; have HL := hide (And.intro hl b2); clear hl b2))
  clear hS2
  go_wp2_with fail
  go_ret
  exact ⟨l, rfl, (unhide HL).1.1 (unhide HR), ((Below.refl _ _).drew).trans (unhide HL).2⟩

set_option maxRecDepth 20000 in
set_option maxHeartbeats 2000000 in
theorem aforkh_any (w : World) (g gh : Nat) (wv hv rv : Value) (n : Nat) (ws rs : List Int) (h : AAt w g gh wv hv rv n ws rs) :
    Calls Tryz.prog 18 #[.pointer (some ⟨gh, 0, none⟩)] w fun e w' => ∃ q wv' hv' rv', e = .returned (.pointer (some ⟨q, 0, none⟩)) ∧ w.heap.size ≤ q ∧ w'.heap[q]? = some (.cells #[wv', hv', rv'] 64 (0, 0)) ∧ w'.ownsRow w.heap.size 31 1 wv' ws.length (Uw ws) ∧ w'.ownsRow w.heap.size 4 1 hv' ws.length (mkV ws) ∧ w'.ownsRow w.heap.size 3 1 rv' 16 (Iw rs) ∧ Below w.heap.size w w' := by
  obtain ⟨d0, d1, d2, _⟩ := three_cells h.hblk
  have hm := mkV_len ws
  have hpos := h.ok.pos
  have hlen := h.ok.len
  have hsl := h.ok.slots
  have hne1 : Uw ws ≠ [] := fun e => by have := congrArg List.length e; simp at this; rw [this] at hpos; simp at hpos
  have hne2 : mkV ws ≠ [] := fun e => by have := congrArg List.length e; rw [hm] at this; simp at this; rw [this] at hpos; simp at hpos
  have hne3 : Iw rs ≠ [] := fun e => by have := congrArg List.length e; simp [hsl] at this
  have HCU := hide (fun W (hb : Below w.heap.size w W) => cloneU_any wv (Uw ws) W (h.wrow.below hb) hne1 (fun u hu => by obtain ⟨x, _, rfl⟩ := List.mem_map.1 hu; rfl) (by simp; omega))
  have HCB := hide (fun W (hb : Below w.heap.size w W) => cloneB_any hv (mkV ws) W (h.hrow.below hb) hne2 (fun u hu => by unfold mkV at hu; obtain ⟨x, _, rfl⟩ := List.mem_map.1 hu; rfl) (by rw [hm]; omega))
  have HCI := hide (fun W (hb : Below w.heap.size w W) => cloneI_any rv (Iw rs) W (h.rrow.below hb) hne3 (fun u hu => by obtain ⟨x, _, rfl⟩ := List.mem_map.1 hu; rfl) (by simp [hsl]))
  have hkb := fun W (hb : Below w.heap.size w W) => (hb.block gh (Array.getElem?_eq_some_iff.1 h.hblk).1).trans h.hblk
  obtain ⟨pw, cw, rfl⟩ := ownsV_shape h.wown
  obtain ⟨ph, ch, rfl⟩ := ownsV_shape h.hown
  obtain ⟨pr, cr, rfl⟩ := ownsV_shape h.rown
  have HKB := hide (fun W (hb : Below w.heap.size w W) => show W.cell? ⟨gh, 0, none⟩ = some (.slice pw ws.length cw) ∧ W.cell? ⟨gh, 1, none⟩ = some (.slice ph ws.length ch) ∧ W.cell? ⟨gh, 2, none⟩ = some (.slice pr 16 cr) from by obtain ⟨z0, z1, z2, _⟩ := three_cells (hkb W hb); exact ⟨z0, z1, z2⟩)
  have HSL := hide (show (Uw ws).length = ws.length ∧ (mkV ws).length = ws.length ∧ (Iw rs).length = 16 from ⟨by simp, hm, by simp [hsl]⟩)
  clear h hm hpos hlen hsl hne1 hne2 hne3 hkb
  have B0 := Below.refl w.heap.size w
  go_enter Tryz.func18, Tryz.ntmps18
  go_wp2_with fail
  go_region_held3 (fun w' => w'.cell? ⟨gh, 0, none⟩ = some (.slice pw ws.length cw) ∧ w'.cell? ⟨gh, 1, none⟩ = some (.slice ph ws.length ch) ∧ w'.cell? ⟨gh, 2, none⟩ = some (.slice pr 16 cr)) (first | assumption | go_keep)
    (first
      | (go_at_call 46; refine Calls.mono (unhide HCU _ B0.drew) ?_; rintro e w2 ⟨v2, rfl, ho2, b2⟩; have B2 := B0.drew.trans (b2.mono B0.drew.size); have hS2 := unhide HKB _ B2; have HO2 := hide (And.intro ho2 b2); obtain ⟨p2, c2, rfl⟩ := ownsV_shape ho2; clear ho2 b2)
      | (go_at_call 47; refine Calls.mono (unhide HCB _ B2) ?_; rintro e w3 ⟨v3, rfl, ho3, b3⟩; have B3 := B2.trans (b3.mono B2.size); have hS3 := unhide HKB _ B3; have HO3 := hide (And.intro ho3 b3); obtain ⟨p3, c3, rfl⟩ := ownsV_shape ho3; clear ho3 b3)
      | (go_at_call 48; refine Calls.mono (unhide HCI _ B3) ?_; rintro e w4 ⟨v4, rfl, ho4, b4⟩; have B4 := B3.trans (b4.mono B3.size); have hS4 := unhide HKB _ B4; have HO4 := hide (And.intro ho4 b4); obtain ⟨p4, c4, rfl⟩ := ownsV_shape ho4; clear ho4 b4))
  have HB4 := hide B4
  have HB23 := hide (And.intro B2 B3)
  clear hS2 hS3 hS4 B0 B2 B3 B4
  go_wp2_with fail
  go_ret
  obtain ⟨o2, b2⟩ := unhide HO2
  obtain ⟨o3, b3⟩ := unhide HO3
  obtain ⟨o4, b4⟩ := unhide HO4
  obtain ⟨B2, B3⟩ := unhide HB23
  obtain ⟨l1, l2, l3⟩ := unhide HSL
  have B4 := unhide HB4
  rw [l1] at o2
  have l4 : (Iw rs).length = rs.length := by simp
  rw [l4] at o4 l3
  have o4' : w4.ownsRow w3.heap.size 3 1 (.slice p4 rs.length c4) 16 (Iw rs) := by
    rw [← l3]; exact o4
  have o3' : w3.ownsRow w2.heap.size 4 1 (.slice p3 (mkV ws).length c3) ws.length (mkV ws) := by
    have := o3
    conv at this => arg 6; rw [l2]
    exact this
  have hn := World.alloc_heap_new w4 (.cells #[.slice p2 ws.length c2, .slice p3 (mkV ws).length c3, .slice p4 rs.length c4] 64)
  have hb5 : Below w4.heap.size w4 (w4.alloc (.cells #[.slice p2 ws.length c2, .slice p3 (mkV ws).length c3, .slice p4 rs.length c4] 64)) := (Below.refl _ _).alloc (Nat.le_refl _) _
  have k3 : Below w3.heap.size w3 (w4.alloc (.cells #[.slice p2 ws.length c2, .slice p3 (mkV ws).length c3, .slice p4 rs.length c4] 64)) := b4.trans (hb5.mono b4.size)
  have k2 : Below w2.heap.size w2 (w4.alloc (.cells #[.slice p2 ws.length c2, .slice p3 (mkV ws).length c3, .slice p4 rs.length c4] 64)) := b3.trans (k3.mono b3.size)
  refine ⟨_, _, _, _, rfl, B4.size, hn, ?_, ?_, ?_, B4.trans (hb5.mono B4.size)⟩
  · exact ownsV_base (ownsV_keep (F := fun _ => False) o2 (Keep.of_below k2) (fun _ _ => id)) (Nat.le_refl _)
  · exact ownsV_base (ownsV_keep (F := fun _ => False) o3' (Keep.of_below k3) (fun _ _ => id)) B2.size
  · exact ownsV_base (ownsV_keep (F := fun _ => False) o4' (Keep.of_below hb5) (fun _ _ => id)) B3.size
end Go.Proofs.YtlbhhdldeaehkaaGreat

/- Package arena as landed: Fork, Pack. -/
namespace Go.Proofs.YtlbhhdldeaehkaaGreat
open Go.RowKit

set_option maxRecDepth 20000 in
set_option maxHeartbeats 2000000 in
theorem afork_any (F : Nat → Prop) (w : World) (g n : Nat) (ws rs : List Int) (hA : AR F w g n ws rs) :
    Calls Tryz.prog 7 #[.pointer (some ⟨g, 0, none⟩)] w fun e w' => ∃ g' F', e = .returned (.pointer (some ⟨g', 0, none⟩)) ∧ AR F' w' g' n ws rs ∧ (∀ k, F' k → w.heap.size ≤ k) ∧ Below w.heap.size w w' := by
  obtain ⟨gh, wv, hv, rv, h, hF⟩ := hA
  have HN := hide (anone_no w g gh wv hv rv n ws rs h)
  have HFK := hide (aforkh_any w.drew g gh wv hv rv n ws rs (h.below ((Below.refl _ w).drew)))
  have HKB := hide (fun W (hb : Below w.drew.heap.size w.drew W) => show W.cell? ⟨g, 0, none⟩ = some (.int .i64 (n : Int)) ∧ W.cell? ⟨g, 1, none⟩ = some (.pointer (some ⟨gh, 0, none⟩)) from And.intro (three_cells ((hb.block g (Array.getElem?_eq_some_iff.1 h.blk).1).trans h.blk)).1 (three_cells ((hb.block g (Array.getElem?_eq_some_iff.1 h.blk).1).trans h.blk)).2.1)
  obtain ⟨c0, c1, c2, _⟩ := three_cells h.blk
  have HOK := hide h.ok
  clear h hF
  go_enter Tryz.func7, Tryz.ntmps7
  go_wp2_with fail
  refine Calls.mono (unhide HN) ?_
  rintro e w1 ⟨rfl, rfl⟩
  go_wp2_with fail
  go_region_held3 (fun w' => w'.cell? ⟨g, 0, none⟩ = some (.int .i64 (n : Int)) ∧ w'.cell? ⟨g, 1, none⟩ = some (.pointer (some ⟨gh, 0, none⟩))) (first | assumption | go_keep) (first
    | (go_at_call 18; refine Calls.mono (unhide HFK) ?_; rintro e w2 ⟨q, wv', hv', rv', rfl, q1, q2, q3, q4, q5, b2⟩; have hS2 := unhide HKB w2 b2; have HO2 := hide (And.intro q1 (And.intro q2 (And.intro q3 (And.intro q4 (And.intro q5 b2))))); clear q1 q2 q3 q4 q5)
    | (go_at_call 12; refine Calls.mono (aof_any (n : Int) q w2) ?_; rintro e w3 ⟨rfl, k1, b3⟩; have hS3 := unhide HKB w3 (b2.trans (b3.mono b2.size)); have HO3 := hide (And.intro k1 b3); clear k1 b3))
  clear hS2 hS3 b2
  go_wp2_with fail
  go_ret
  obtain ⟨q1, q2, q3, q4, q5, b2⟩ := unhide HO2
  obtain ⟨k1, b3⟩ := unhide HO3
  have B2 := ((Below.refl _ w1).drew).trans b2
  have hs2 := B2.size
  refine ⟨w2.heap.size, AF w2.heap.size q wv' hv' rv', rfl, ⟨q, wv', hv', rv', ⟨k1, (b3.block _ (Array.getElem?_eq_some_iff.1 q2).1).trans q2, ?_, ?_, ?_, unhide HOK⟩, fun _ => Iff.rfl⟩, fun k hk => ?_, B2.trans (b3.mono hs2)⟩
  · exact ownsV_base (ownsV_keep (F := fun _ => False) q3 (Keep.of_below b3) (fun _ _ => id)) (Nat.zero_le _)
  · exact ownsV_base (ownsV_keep (F := fun _ => False) q4 (Keep.of_below b3) (fun _ _ => id)) (Nat.zero_le _)
  · exact ownsV_base (ownsV_keep (F := fun _ => False) q5 (Keep.of_below b3) (fun _ _ => id)) (Nat.zero_le _)
  · rcases hk with rfl | rfl | hk | hk | hk
    · exact hs2
    · exact q1
    · exact (q3.lt k hk).1
    · exact (q4.lt k hk).1
    · exact (q5.lt k hk).1

set_option maxRecDepth 20000 in
set_option maxHeartbeats 4000000 in
theorem apack_any (F : Nat → Prop) (w : World) (g n : Nat) (ws rs : List Int) (hA : AR F w g n ws rs) :
    Calls Tryz.prog 9 #[.pointer (some ⟨g, 0, none⟩)] w fun e w' => ∃ l, e = .returned (.int .i64 ((ws.length : Int) - ((cW ws l).length : Int))) ∧ LiveIs ws rs l ∧ ∃ F', AR F' w' g n (cW ws l) (cR ws l rs) ∧ Moves F F' w w' := by
  have HA := hide hA
  obtain ⟨gh, wv, hv, rv, h, hF⟩ := hA
  have HN := hide (anone_no w g gh wv hv rv n ws rs h)
  have HC := hide (compact_any wv rv ws rs w.drew (h.below ((Below.refl _ w).drew)).wrow (h.below ((Below.refl _ w).drew)).rrow h.ok.u32 (by have := h.ok.len; omega) (by rw [h.ok.slots]; omega))
  have HKB0 := fun W (hb : Below w.drew.heap.size w.drew W) => And.intro ((hb.block g (Array.getElem?_eq_some_iff.1 h.blk).1).trans h.blk) ((hb.block gh (Array.getElem?_eq_some_iff.1 h.hblk).1).trans h.hblk)
  have HR := hide h.ok.right
  have HOK := hide h.ok
  have HAA := hide h
  obtain ⟨c0, c1, c2, _⟩ := three_cells h.blk
  obtain ⟨d0, d1, d2, _⟩ := three_cells h.hblk
  obtain ⟨pw, cw, rfl⟩ := ownsV_shape h.wown
  obtain ⟨pr, cr, rfl⟩ := ownsV_shape h.rown
  have HKB := hide (fun W (hb : Below w.drew.heap.size w.drew W) => show W.cell? ⟨g, 1, none⟩ = some (.pointer (some ⟨gh, 0, none⟩)) ∧ W.cell? ⟨gh, 0, none⟩ = some (.slice pw ws.length cw) ∧ W.cell? ⟨gh, 2, none⟩ = some (.slice pr 16 cr) from And.intro (three_cells (HKB0 W hb).1).2.1 (And.intro (three_cells (HKB0 W hb).2).1 (three_cells (HKB0 W hb).2).2.2.1))
  have HFF := hide hF
  clear h hF HKB0
  go_enter Tryz.func9, Tryz.ntmps9
  go_wp2_with fail
  refine Calls.mono (unhide HN) ?_
  rintro e w1 ⟨rfl, rfl⟩
  go_wp2_with fail
  go_region_held3 (fun w' => w'.cell? ⟨g, 1, none⟩ = some (.pointer (some ⟨gh, 0, none⟩)) ∧ w'.cell? ⟨gh, 0, none⟩ = some (.slice pw ws.length cw) ∧ w'.cell? ⟨gh, 2, none⟩ = some (.slice pr 16 cr)) (first | assumption | go_keep) (first
    | (go_at_call 22; refine Calls.mono (unhide HC) ?_; rintro e w2 ⟨vo, vr, vp, l, rfl, hl, hc, b2⟩; have hS2 := unhide HKB w2 b2; have HL := hide (And.intro hl (And.intro hc b2)); have hc3 := hc; obtain ⟨po, co, rfl⟩ := ownsV_shape hc3.1; obtain ⟨pq, cq, rfl⟩ := ownsV_shape hc3.2.1; obtain ⟨pp, cp, rfl⟩ := ownsV_shape hc3.2.2; clear hl hc hc3))
  clear hS2 c0 c1 c2 d0 d1 d2 HN HC HKB
  obtain ⟨hl0, hc, b2'⟩ := unhide HL
  have hR := unhide HR
  have hl := hl0.1 hR
  have hpk := (unhide HOK).pack hl
  unfold CmpD outW outR at hc
  rw [if_pos hR, if_pos hR] at hc
  obtain ⟨hc1, hc2, _⟩ := hc
  have hsl : (cR ws l rs).length = 16 := hpk.1.slots
  have eW : outW ws rs l = cW ws l := by unfold outW; rw [if_pos hR]
  have eR : outR ws rs l = cR ws l rs := by unfold outR; rw [if_pos hR]
  rw [eW, eR, hsl] at *
  have B2 := ((Below.refl _ w1).drew).trans b2'
  have hA2 := (unhide HAA).below B2
  have HUS := hide (aused_any w2 g gh _ _ _ n ws rs hA2)
  have HUS2 := hide (aused_any w2.drew g gh _ _ _ n ws rs (hA2.below ((Below.refl _ w2).drew)))
  have HX := hide (And.intro hl (And.intro hpk (And.intro hc1 (And.intro hc2 (And.intro hA2 B2)))))
  clear hl0 hc1 hc2 hpk hl hA2 B2 b2 b2' hR
  generalize hWg : cW ws l = W at *
  generalize hRg : cR ws l rs = R at *
  clear HL eW eR hsl
  have e3 : IntKind.i64.wrap ((ws.length : Int) - (W.length : Int)) = (ws.length : Int) - (W.length : Int) := by
    have h1 := (unhide HX).2.1.1.len
    have h2 := (unhide HOK).len
    rw [IntKind.wrap_i64]; omega
  go_wp2_with fail
  refine Calls.mono (unhide HUS) ?_
  rintro e w3 ⟨rfl, rfl⟩
  obtain ⟨hl, hpk, hc1, hc2, hA2, B2⟩ := unhide HX
  have hd3 : Below w3.heap.size w3 w3.drew := (Below.refl _ w3).drew
  have o1 := ownsV_base (ownsV_keep (F := fun _ => False) hc1 (Keep.of_below hd3) (fun _ _ => id)) (Nat.zero_le _)
  have o2 := ownsV_base (ownsV_keep (F := fun _ => False) hc2 (Keep.of_below hd3) (fun _ _ => id)) (Nat.zero_le _)
  rw [hpk.1.slots] at o2
  have HNH := hide (anewheap_any _ _ W R w3.drew o1 o2 hpk.1.u32 hpk.1.len)
  have HKB2 := hide (fun X (hb : Below w3.heap.size w3 X) => show X.cell? ⟨g, 0, none⟩ = some (.int .i64 (n : Int)) ∧ X.cell? ⟨g, 1, none⟩ = some (.pointer (some ⟨gh, 0, none⟩)) ∧ X.cell? ⟨g, 2, none⟩ = some (hasV gh) ∧ X.frozen? ⟨g, 0, none⟩ = false ∧ X.frozen? ⟨g, 1, none⟩ = false ∧ X.frozen? ⟨g, 2, none⟩ = false from by
    obtain ⟨z0, z1, z2, zf⟩ := three_cells ((hb.block g (Array.getElem?_eq_some_iff.1 hA2.blk).1).trans hA2.blk)
    exact ⟨z0, z1, z2, zf 0, zf 1, zf 2⟩)
  have HD3 := hide hd3
  have HO12 := hide (And.intro o1 o2)
  obtain ⟨z0, z1, z2, zf0, zf1, zf2⟩ := unhide HKB2 w3 (Below.refl _ _)
  have HE3 := hide e3
  clear hl hpk hc1 hc2 hA2 B2 o1 o2 hd3 HUS HUS2
  go_wp2_with fail
  go_region_law (first
    | (go_simp; go_at_call 13; refine Calls.mono (unhide HNH) ?_; rintro e w4 ⟨q, hv4, rfl, q1, q2, q3, b4⟩; have B4 := (unhide HD3).trans b4; obtain ⟨y0, y1, y2, yf0, yf1, yf2⟩ := unhide HKB2 w4 B4; have HO4 := hide (And.intro q1 (And.intro q2 (And.intro q3 b4))); clear q1 q2 q3 b4; dsimp only)
    | (go_simp; go_at_call 12; refine Calls.mono (aof_any (n : Int) q w4) ?_; rintro e w5 ⟨rfl, k1, b5⟩; have B5 := B4.trans (b5.mono B4.size); obtain ⟨v0, v1, v2, vf0, vf1, vf2⟩ := unhide HKB2 w5 B5; obtain ⟨x0, x1, x2, _⟩ := three_cells k1; unfold hasV at x2 v2; have HO5 := hide (And.intro k1 b5); clear k1 b5; dsimp only))
  all_goals
    have HFIN : Hid (∃ F', AR F' (((w5.setCell ⟨g, 0, none⟩ (.int .i64 (n : Int))).setCell ⟨g, 1, none⟩ (.pointer (some ⟨q, 0, none⟩))).setCell ⟨g, 2, none⟩ (hasV q)) g n W R ∧ Moves F F' w1 (((w5.setCell ⟨g, 0, none⟩ (.int .i64 (n : Int))).setCell ⟨g, 1, none⟩ (.pointer (some ⟨q, 0, none⟩))).setCell ⟨g, 2, none⟩ (hasV q))) := by
      obtain ⟨hl, hpk, hc1, hc2, hA2, B2⟩ := unhide HX
      obtain ⟨o1, o2⟩ := unhide HO12
      obtain ⟨q1, q2, q3, b4⟩ := unhide HO4
      obtain ⟨k1, b5⟩ := unhide HO5
      have hF := unhide HFF
      have hg3 := (Array.getElem?_eq_some_iff.1 hA2.blk).1
      have hg5 := (B5.block g hg3).trans hA2.blk
      obtain ⟨s3, K3⟩ := set_three (x := .int .i64 (n : Int)) (y := .pointer (some ⟨q, 0, none⟩)) (z := hasV q) hg5
      have hq4 := (Array.getElem?_eq_some_iff.1 q1).1
      have q3' : w3.heap.size ≤ q := q3
      have hB25 : Below w1.heap.size w1 w5 := B2.trans (B5.mono B2.size)
      have b45 : Below w3.drew.heap.size w3.drew w5 := b4.trans (b5.mono b4.size)
      have O1 := ownsV_keep (F := fun _ => False) o1 (Keep.of_below b45) (fun _ _ => id)
      have O2 := ownsV_keep (F := fun _ => False) o2 (Keep.of_below b45) (fun _ _ => id)
      have O3 := ownsV_keep (F := fun _ => False) q2 (Keep.of_below b5) (fun _ _ => id)
      refine ⟨AF g q (.slice po W.length co) hv4 (.slice pq 16 cq), ⟨q, .slice po W.length co, hv4, .slice pq 16 cq, ⟨s3, ?_, ?_, ?_, ?_, hpk.1⟩, fun _ => Iff.rfl⟩, ⟨?_, fun k hk => ?_⟩⟩
      · have hq5 := (b5.block q hq4).trans q1
        exact (K3.block q (Array.getElem?_eq_some_iff.1 hq5).1 (by omega)).trans hq5
      · exact ownsV_keep O1 K3 (fun k hk e => own_type O1 hg5 (by decide) (e ▸ hk))
      · exact ownsV_base (ownsV_keep O3 K3 (fun k hk e => own_type O3 hg5 (by decide) (e ▸ hk))) (Nat.zero_le _)
      · exact ownsV_keep O2 K3 (fun k hk e => own_type O2 hg5 (by decide) (e ▸ hk))
      · exact (Keep.of_below hB25).trans K3 (fun k e => Or.inl ((hF k).2 (Or.inl e)))
      · have hs1 := B2.size
        rcases hk with rfl | rfl | hk | hk | hk
        · exact Or.inl ((hF _).2 (Or.inl rfl))
        · exact Or.inr (by omega)
        · exact Or.inr (hc1.lt k hk).1
        · have h3 := (q2.lt k hk).1
          exact Or.inr (Nat.le_trans hs1 h3)
        · have h3 := (hc2.lt k (by rw [hpk.1.slots]; exact hk)).1
          exact Or.inr h3
    unfold hasV at HFIN
    generalize (((w5.setCell ⟨g, 0, none⟩ (.int .i64 (n : Int))).setCell ⟨g, 1, none⟩ (.pointer (some ⟨q, 0, none⟩))).setCell ⟨g, 2, none⟩ (.func (.func 44) #[.pointer (some ⟨q, 0, none⟩)] #[])) = WF at HFIN ⊢
    have e3 := unhide HE3
    go_wp2_with fail
    go_ret
    refine ⟨l, by rw [hWg]; rfl, (unhide HX).1, ?_⟩
    rw [hWg, hRg]
    exact unhide HFIN
end Go.Proofs.YtlbhhdldeaehkaaGreat

/- Package arena as landed: All. -/
namespace Go.Proofs.YtlbhhdldeaehkaaGreat
open Go.RowKit

/-- What All answers: its sequence, over words in a variable of its own. -/
def AllD (b : Nat) (ws : List Int) (e : Ending) (w' : World) : Prop :=
  ∃ B v, e = .returned (.func (.func 89) #[] #[.pointer (some ⟨B, 0, none⟩)]) ∧ b ≤ B ∧ B < w'.heap.size ∧ w'.cell? ⟨B, 0, none⟩ = some v ∧ VRow w' v (Uw ws) ∧ ∀ k, v.ownBlock = some k → b ≤ k ∧ k < w'.heap.size

set_option maxRecDepth 20000 in
theorem aall_nil (w : World) : Calls Tryz.prog 68 #[.pointer none] w fun e w' => AllD w.heap.size [] e w' ∧ Below w.heap.size w w' := by
  have hmf : ∀ (fn : Fn) (first cap : Array Value) (w : World), (Instr.makeFunc fn first cap).run Tryz.prog w = .ok (.func fn first cap) w := fun _ _ _ _ => rfl
  have HN := hide (fun w => anone_nil w)
  have HB := hide ((Below.refl _ w).alloc (Nat.le_refl _) (.cells #[.slice none 0 0] 33))
  have hn := World.alloc_heap_new w (.cells #[.slice none 0 0] 33)
  have HNW := hide hn
  clear hn
  go_enter Tryz.func68, Tryz.ntmps68
  go_wp2_with fail
  refine Calls.mono (unhide HN _) ?_
  rintro e w1 ⟨rfl, rfl⟩
  go_wp2_with fail
  go_ret
  refine ⟨⟨_, _, rfl, Nat.le_refl _, (Array.getElem?_eq_some_iff.1 (unhide HNW)).1, by rw [cell_of_row _ _ _ _ _ (0, 0) (unhide HNW)]; rfl, VRow.nil _, fun k hk => by cases hk⟩, unhide HB⟩

set_option maxRecDepth 20000 in
set_option maxHeartbeats 2000000 in
theorem aall_any (w : World) (g gh : Nat) (wv hv rv : Value) (n : Nat) (ws rs : List Int) (h : AAt w g gh wv hv rv n ws rs) :
    Calls Tryz.prog 68 #[.pointer (some ⟨g, 0, none⟩)] w fun e w' => AllD w.heap.size ws e w' ∧ Below w.heap.size w w' := by
  have hmf : ∀ (fn : Fn) (first cap : Array Value) (w : World), (Instr.makeFunc fn first cap).run Tryz.prog w = .ok (.func fn first cap) w := fun _ _ _ _ => rfl
  have hbY := (Below.refl _ w).alloc (Nat.le_refl _) (.cells #[.slice none 0 0] 33)
  have hY := h.below hbY
  have HN := hide (anone_no _ g gh _ hv rv n ws rs hY)
  obtain ⟨c0, c1, c2, _⟩ := three_cells hY.blk
  obtain ⟨d0, d1, d2, _⟩ := three_cells hY.hblk
  have hpos := h.ok.pos
  have hne1 : Uw ws ≠ [] := fun e => by have := congrArg List.length e; simp at this; rw [this] at hpos; simp at hpos
  have HCU := hide (fun W (hb : Below w.heap.size w W) => cloneU_any wv (Uw ws) W (h.wrow.below hb) hne1 (fun u hu => by obtain ⟨x, _, rfl⟩ := List.mem_map.1 hu; rfl) (by have := h.ok.len; simp; omega))
  have hn := World.alloc_heap_new w (.cells #[.slice none 0 0] 33)
  have HNW := hide hn
  have HLU := hide (show (Uw ws).length = ws.length by simp)
  have HBY := hide hbY
  obtain ⟨pw, cw, rfl⟩ := ownsV_shape h.wown
  clear hn h hY hbY hpos hne1
  go_enter Tryz.func68, Tryz.ntmps68
  go_wp2_with fail
  refine Calls.mono (unhide HN) ?_
  rintro e w1 ⟨rfl, rfl⟩
  go_wp2_with fail
  refine Calls.mono (unhide HCU _ (unhide HBY)) ?_
  rintro e w2 ⟨v2, rfl, ho, b2⟩
  rw [unhide HLU] at ho
  have hl := (Array.getElem?_eq_some_iff.1 (unhide HNW)).1
  have hblk := (b2.block _ hl).trans (unhide HNW)
  have y0 : w2.cell? ⟨w.heap.size, 0, none⟩ = some (.slice none 0 0) := by rw [cell_of_row _ _ _ _ _ (0, 0) hblk]; rfl
  have yf : w2.frozen? ⟨w.heap.size, 0, none⟩ = false := frozen_of_block hblk
  have HO := hide (And.intro ho (And.intro b2 hblk))
  obtain ⟨p2, cc2, rfl⟩ := ownsV_shape ho
  clear ho b2 hblk hl
  go_wp2_with fail
  go_ret
  obtain ⟨ho, b2, hblk⟩ := unhide HO
  have K := keep_set w2 w.heap.size 0 (.slice p2 ws.length cc2)
  have hl := (Array.getElem?_eq_some_iff.1 hblk).1
  have hg := heap_setCell_same w2 w.heap.size 0 _ _ (.slice p2 ws.length cc2) hblk
  have hs := K.size
  have hs2 := b2.size
  rw [World.size_alloc] at hs2
  have hB2 := (unhide HBY).trans (b2.mono (unhide HBY).size)
  rw [World.size_alloc] at ho
  refine ⟨⟨_, .slice p2 ws.length cc2, rfl, Nat.le_refl _, by omega, ?_, ?_, fun k hk => ?_⟩, ?_⟩
  · rw [cell_of_row _ _ _ _ _ (0, 0) hg]; rfl
  · refine (ownsV_row ho (by simp)).keep K (fun b off c e _ he => ?_)
    have := (ho.lt b (by rw [e]; rfl)).1
    omega
  · have := ho.lt k hk
    omega
  · exact hB2.trans (K.below hB2.size (fun k hk => by omega))
end Go.Proofs.YtlbhhdldeaehkaaGreat

/- The statements' own functions of layer 16: awake. -/
namespace Go.Proofs.YtlbhhdldeaehkaaGreat
open Go.RowKit

theorem own_seven (w : World) : VRow (w.alloc (.cells #[.int .u32 7] 31)) (.slice (some ⟨w.heap.size, 0, none⟩) 1 1) (Uw [7]) := by
  refine vrow_of_owns (base := 0) (e := 31) ⟨rfl, Or.inr ⟨w.heap.size, 1, _, rfl, Nat.zero_le _, World.alloc_heap_new w _, Nat.le_refl _, by unfold maxLen; omega, rfl, rfl⟩⟩
theorem make_seven : makeP 16 [0] (1, [], [7]) = ((1, 0), addW [0] (1, [], [7])) := by
  unfold makeP
  rw [if_pos ⟨⟨by decide, by decide, by decide, by decide⟩, rfl⟩, if_pos (by decide)]
  rfl
theorem add_seven_len : (addW [0] (1, [], [7])).length = 3 := by
  rw [addW_len ⟨by decide, by decide, by decide, by decide⟩]
  rfl

set_option maxRecDepth 20000 in
theorem aawake16_any (w : World) : Calls Tryz.prog 6 #[] w fun e w' => e = .returned (.bool true) ∧ Below w.heap.size w w' := by
  have HNEW := hide (anew_any 16 w (by omega) (by omega))
  go_enter Tryz.func6, Tryz.ntmps6
  go_wp2_with fail
  refine Calls.mono (unhide HNEW) ?_
  rintro e w1 ⟨g, F, rfl, hA, hF, b1⟩
  have hb2 := (Below.refl _ w1).alloc (Nat.le_refl _) (.cells #[.int .u32 7] 31)
  have HMK := hide (amake_any F _ g 16 [0] (List.replicate 16 0) [] [7] 1 (.slice none 0 0) _ (hA.below hb2) (VRow.nil _) (own_seven w1) (by intro z hz; simp at hz; subst hz; omega) (fun _ k hk e => by cases e) (fun _ k hk e => by simp only [Value.ownBlock, Option.some.injEq] at e; have := hA.lt hk; omega) (by decide) (by decide))
  rw [make_seven] at HMK
  have H1 := hide (And.intro b1 (And.intro hb2 (And.intro hF hA)))
  clear hA hF b1 hb2
  go_wp2_with fail
  refine Calls.mono (unhide HMK) ?_
  rintro e w2 ⟨rfl, F2, hA2, hm2⟩
  have H2 := hide hm2
  obtain ⟨gh, wv, hv, rv, h2, hF2⟩ := hA2
  have HU := hide (aused_any w2 g gh wv hv rv _ _ _ h2)
  rw [add_seven_len] at HU
  clear hm2 h2 hF2
  go_wp2_with fail
  refine Calls.mono (unhide HU) ?_
  rintro e w3 ⟨rfl, rfl⟩
  go_wp2_with fail
  go_ret
  obtain ⟨b1, b2, hF, hA⟩ := unhide H1
  have hB := b1.trans (b2.mono b1.size)
  exact ⟨rfl, hB.trans ((unhide H2).keep.below hB.size hF)⟩
end Go.Proofs.YtlbhhdldeaehkaaGreat
