/- Texts of ours, one behind the other: WalUp6. -/
import Derived.Test.YtpkpjmebkikgdaaGreatG35
import Derived.Test.YtpkpjmebkikgdaaGreatG38
/- The statements of layer 7: one thing that is done to a book, whatever it is. -/
namespace Go.Proofs.YtpkpjmebkikgdaaGreat
open Go.RowKit

/-- A book in some state, nothing of it below a size. -/
def Playing (w0 : World) (g : Nat) (m : Nat) (w : World) : Prop :=
  ∃ F G K lp dp s L b rv tv av S ids, (RunU F G K w g lp dp s L b rv tv av S ids m ∨ RunD F G K w g lp dp s L b rv tv av S ids m) ∧ (∀ j, all3 F G K j → w0.heap.size ≤ j) ∧ Below w0.heap.size w0 w
theorem Gone.mono {F G K : Nat → Prop} {w w' : World} {g : Nat} {dp : Value} {m m' : Nat} (h : Gone F G K w w' g dp m) (h1 : m ≤ m') (h2 : m' ≤ 1000) : Gone F G K w w' g dp m' := by
  obtain ⟨F', G', K', lp', s', L', b', rv', tv', av', S', ids', h3, h4⟩ := h
  exact ⟨F', G', K', lp', s', L', b', rv', tv', av', S', ids', h3.imp (fun h => h.mono h1 h2) (fun h => h.mono h1 h2), h4⟩
theorem Gone.playing {F G K : Nat → Prop} {w0 w w' : World} {g : Nat} {dp : Value} {m : Nat} (h : Gone F G K w w' g dp m) (hall : ∀ j, all3 F G K j → w0.heap.size ≤ j) (hB : Below w0.heap.size w0 w) : Playing w0 g m w' := by
  obtain ⟨F', G', K', lp', s', L', b', rv', tv', av', S', ids', h3, h4⟩ := h
  exact ⟨F', G', K', lp', dp, s', L', b', rv', tv', av', S', ids', h3, fun j hj => (h4.sub j hj).elim (hall j) (Nat.le_trans hB.size), hB.trans (h4.keep.below hB.size hall)⟩

set_option maxRecDepth 20000 in
set_option maxHeartbeats 8000000 in
theorem step_up (w0 : World) (g m : Nat) (o : OpW) (bv kv : Value) (w : World) {F G K : Nat → Prop} {lp dp : Value} {s : DK} {L : LG} {b : BK} {rv tv av : Value} {S : Id → Prop} {ids : List Id} (hR : RunU F G K w g lp dp s L b rv tv av S ids m) (hall : ∀ j, all3 F G K j → w0.heap.size ≤ j) (hB : Below w0.heap.size w0 w) (hm : m + 1 ≤ 1000) (hb : Row w0 bv o.b) (hbl : o.b.length ≤ 140737488351232) (hk : BRow w0 kv o.keep) (hn : -9223372036854775808 ≤ o.n ∧ o.n ≤ 9223372036854775807) :
    Calls Tryz.prog 7 #[.pointer (some ⟨g, 0, none⟩), .agg (opC o bv kv)] w fun e w' => e = .returned (.bool true) ∧ Playing w0 g (m + 1) w' := by
  obtain ⟨bp, bc, bl, rfl, hbe⟩ := hb.shape
  obtain ⟨kp, kc, rfl, _, _⟩ := hk.shape
  obtain ⟨dg, hdg⟩ := hR.book.both.dev.ptr
  subst hdg
  obtain ⟨lg, hlg⟩ := hR.book.both.log.ptr
  subst hlg
  unfold opC
  obtain ⟨knd, num, bb, ks⟩ := o
  dsimp only at *
  have HR := hide hR
  have HALL := hide hall
  have HB := hide hB
  have HBV := hide hb
  have HKV := hide hk
  have HBE := hide hbe
  have HHN := hide hn
  have c0 := (nineteen_cells hR.book.at_.blk).1.1
  have hgl : g < w.heap.size := hR.book.at_.lt g hR.book.at_.fg
  have hne : ¬ w.heap.size = g := by omega
  have hne2 : ¬ g = w.heap.size := by omega
  obtain ⟨W1, hW1⟩ : ∃ W1, W1 = w.alloc (.cells #[.int .i64 knd, .int .i64 num, .slice bp bl bc, .slice kp ks.length kc] 30) := ⟨_, rfl⟩
  have b1 : Below w.heap.size w W1 := by rw [hW1]; exact (Below.refl _ _).alloc (Nat.le_refl _) _
  have hX1 : W1.heap[w.heap.size]? = some (.cells #[.int .i64 knd, .int .i64 num, .slice bp bl bc, .slice kp ks.length kc] 30 (0, 0)) := by rw [hW1]; exact heap_alloc_new w _
  have HDN := hide (odown_any F _ s W1 (hR.below b1).book.both.dev)
  rw [hR.up] at HDN
  have HX1 := hide hX1
  have HB1 := hide b1
  have HW1 := hide hW1
  clear hR hall hB hb hk hbe hn b1 hX1 hW1
  go_enter Tryz.func7, Tryz.ntmps7
  go_wp2_with fail
  rw [← unhide HW1]
  refine Calls.mono (unhide HDN) ?_
  rintro e w2 ⟨rfl, b2⟩
  have hX2 := (b2.block w.heap.size (Array.getElem?_eq_some_iff.1 (unhide HX1)).1).trans (unhide HX1)
  have o0 : w2.cell? ⟨w.heap.size, 0, none⟩ = some (.int .i64 knd) := by rw [cell_of_row w2 _ _ _ _ (0, 0) hX2]; rfl
  have o1 : w2.cell? ⟨w.heap.size, 1, none⟩ = some (.int .i64 num) := by rw [cell_of_row w2 _ _ _ _ (0, 0) hX2]; rfl
  have o2 : w2.cell? ⟨w.heap.size, 2, none⟩ = some (.slice bp bl bc) := by rw [cell_of_row w2 _ _ _ _ (0, 0) hX2]; rfl
  have o3 : w2.cell? ⟨w.heap.size, 3, none⟩ = some (.slice kp ks.length kc) := by rw [cell_of_row w2 _ _ _ _ (0, 0) hX2]; rfl
  have hR2 := (unhide HR).below ((unhide HB1).trans (b2.mono (unhide HB1).size))
  have hB2 := (unhide HB).trans (((unhide HB1).trans (b2.mono (unhide HB1).size)).mono (unhide HB).size)
  clear c0
  have c0 := (nineteen_cells hR2.book.at_.blk).1.1
  have c10 := (nineteen_cells hR2.book.at_.blk).1.2.2.1
  have HR2 := hide hR2
  have HB2 := hide hB2
  have HX2 := hide hX2
  clear b2 hR2 hB2 hX2 HDN HX1 HB1 HR HB HW1 hne hne2 hgl
  by_cases hk1 : knd = 1
  · subst hk1
    by_cases ha : s.armed = 1
    · have HSY := hide (runu_sync_falls (unhide HR2) hm ha)
      have HLST := hide (unhide HR2).lst
      have HBD2 : Hid (b.next ≤ 64 * m ∧ b.age ≤ m + 1 ∧ L.next ≤ 64 * m) := ⟨(unhide HR2).next, (unhide HR2).age, by rw [(unhide HR2).book.next]; exact (unhide HR2).next⟩
      go_wp2_with fail
      refine Calls.mono (unhide HSY) ?_
      rintro e w3 ⟨rfl, F3, s3, hH3, hf3, hi3, hw3, ht3, hM3⟩
      have hall3 : ∀ j, all3 F3 G K j → w0.heap.size ≤ j := fun j hj => by
        rcases hM3.sub j hj with h | h
        · exact unhide HALL j h
        · exact Nat.le_trans (unhide HB2).size h
      have hB3 := (unhide HB2).trans (hM3.keep.below (unhide HB2).size (unhide HALL))
      obtain ⟨b1, hb1⟩ : ∃ b1 : BK, b1 = { b with dead := true } := ⟨_, rfl⟩
      obtain ⟨W4, hW4⟩ : ∃ W4, W4 = w3.setCell ⟨g, 18, none⟩ (.bool true) := ⟨_, rfl⟩
      have hkp4 : Keep (fun k => k = g) w3 W4 := by rw [hW4]; exact sets_keep g [(18, .bool true)] w3
      have hK4 : Keep K w3 W4 := hkp4.weak (fun k hk => by rw [hk]; exact hH3.at_.fg)
      have hat4 : BAt K W4 g (.pointer (some dg)) (.pointer (some lg)) b1 rv tv av := by
        rw [hb1]
        refine hH3.at_.anew ?_ hkp4.size (fun k hk hlt => hkp4.block k hlt hk) hH3.at_.recs hH3.at_.turns hH3.at_.ages hH3.at_.two
        have h := sets_block g _ [(18, Value.bool true)] w3 _ hH3.at_.blk
        rw [hW4]
        exact Eq.trans h rfl
      have hH4 : Held F3 G K W4 g (.pointer (some lg)) (.pointer (some dg)) s3 L.down b1 rv tv av := ⟨⟨hH3.both.dev.stays hK4.size (fun k hk => hK4.block k (hH3.both.dev.lt k hk) (hH3.apF k hk)), hH3.both.log.keep hK4 (fun k hk hg => hH3.apG k hg hk), hH3.both.apart, hH3.both.size⟩, hat4, hH3.apF, hH3.apG⟩
      have hB4 := hB3.trans (hK4.below hB3.size (fun j hj => hall3 j (Or.inr (Or.inr hj))))
      have HDN := hide (odown_any F3 _ s3 W4 hH4.both.dev)
      rw [hf3] at HDN
      have d0 := (nineteen_cells hH3.at_.blk).1.1
      have d18 := (nineteen_cells hH3.at_.blk).2.2.1.2.2.2
      have f18 := (nineteen_cells hH3.at_.blk).2.2.2 18
      have eA : appE 256 s3 L.down [] = 40 ∧ appS 256 s3 L.down [] = s3 ∧ appL 256 s3 L.down [] = L.down := by
        have e1 : appE 256 s3 L.down [] = 40 := by unfold appE; rw [if_neg (by simp), if_pos (show L.down.fallen = true ∨ s3.fell = true from Or.inl rfl)]
        refine ⟨e1, ?_, ?_⟩
        · unfold appS; rw [if_neg (by simp), if_pos (show L.down.fallen = true ∨ s3.fell = true from Or.inl rfl)]
        · unfold appL; rw [e1]; rfl
      have HAX := hide (fun w' (hb : Below W4.heap.size W4 w') => wappend_any F3 G (.pointer (some lg)) (.pointer (some dg)) 256 s3 L.down (.slice none 0 0) [] w' (hH4.both.below hb) (Row.nil w') (by omega) (by omega) (by have := (unhide HBD2).2.2; show L.next + 32 < _; omega))
      rw [eA.1, eA.2.1, eA.2.2] at HAX
      have HFIN : Hid (∀ w6 F6 G6, Held F6 G6 K w6 g (.pointer (some lg)) (.pointer (some dg)) s3 L.down b1 rv tv av → (∀ j, all3 F6 G6 K j → w0.heap.size ≤ j) → Below w0.heap.size w0 w6 → Playing w0 g (m + 1) w6) := fun w6 F6 G6 h6 ha6 hb6 => by
        have hBD := unhide HBD2
        have hLS := unhide HLST
        subst hb1
        exact ⟨F6, G6, K, _, _, s3, L.down, _, rv, tv, av, S, ids, Or.inr ⟨h6, hf3, rfl, rfl, ⟨hLS.recs, hLS.turns, hLS.ages⟩, hi3, by omega, by omega, by show b.next ≤ _; omega, by show b.age ≤ _; omega, hm, by show L.next ≤ _; omega⟩, ha6, hb6⟩
      have HH4 := hide hH4
      have HA3 := hide hall3
      have HB4 := hide hB4
      have HW4 := hide hW4
      have k10 := (nineteen_cells hat4.blk).1.2.2.1
      clear hH3 hf3 hi3 hw3 ht3 hM3 hall3 hB3 hb1 hkp4 hK4 hat4 hH4 hB4 eA hW4 HSY c10 c0
      go_wp2_with fail
      rw [← unhide HW4]
      refine Calls.mono (unhide HDN) ?_
      rintro e w5 ⟨rfl, b5⟩
      have HH5 := hide ((unhide HH4).below b5)
      have HB5 := hide ((unhide HB4).trans (b5.mono (unhide HB4).size))
      have HAX5 := hide (unhide HAX w5 b5)
      have k10' := (nineteen_cells (unhide HH5).at_.blk).1.2.2.1
      clear b5 HDN k10 d0 d18 f18 HAX HW4 HH4 HB4
      go_wp2_with fail
      refine Calls.mono (unhide HAX5) ?_
      rintro e w6 ⟨rfl, F6, G6, hbo6, hm6⟩
      have HE : Hid (Playing w0 g (m + 1) w6) := by
        obtain ⟨h6, hM6⟩ := held_on (unhide HH5) (Moves.refl _ _) hbo6 hm6
        exact unhide HFIN w6 F6 G6 h6 (fun j hj => by
          rcases hM6.sub j hj with h | h
          · exact unhide HA3 j h
          · exact Nat.le_trans (unhide HB5).size h) ((unhide HB5).trans (hM6.keep.below (unhide HB5).size (unhide HA3)))
      clear hbo6 hm6 HAX5 k10' HFIN
      go_wp2_with fail
      go_ret
      exact ⟨rfl, unhide HE⟩
    · skip
      have HSY := hide (runu_sync (unhide HR2) hm ha)
      go_wp2_with fail
      refine Calls.mono (unhide HSY) ?_
      rintro e w3 ⟨rfl, F3, s3, hR3, hw3, hM3⟩
      obtain ⟨vs, hvl, hvr⟩ := hR3.book.at_.recs.row
      obtain ⟨rq, rc, hrv, _⟩ := hvr.shape
      subst hrv
      obtain ⟨_, ⟨d12, _⟩, ⟨_, _, d17, _⟩, fz⟩ := nineteen_cells hR3.book.at_.blk
      have f17 := fz 17
      obtain ⟨hR4, hK4⟩ := hR3.allSafe hw3 vs.length (by rw [hvl, hR3.len]; exact Nat.le_refl _)
      obtain ⟨W4, hW4⟩ : ∃ W4, W4 = w3.setCell ⟨g, 17, none⟩ (.int .i64 (vs.length : Int)) := ⟨_, rfl⟩
      rw [← hW4] at hR4 hK4
      have hall3 : ∀ j, all3 F3 G K j → w0.heap.size ≤ j := fun j hj => by
        rcases hM3.sub j hj with h | h
        · exact unhide HALL j h
        · exact Nat.le_trans (unhide HB2).size h
      have hB3 := (unhide HB2).trans (hM3.keep.below (unhide HB2).size (unhide HALL))
      have hB4 := hB3.trans (hK4.below hB3.size hall3)
      have HAG := hide (agree_any G K g _ _ _ _ _ _ _ W4 hR4.book.at_ hR4.book.both.log hR4.book.first hR4.book.next hR4.book.least)
      have HFIN : Hid (∀ w5, Below W4.heap.size W4 w5 → Playing w0 g (m + 1) w5) := fun w5 b5 => ⟨F3, G, K, _, _, s3, L, _, _, tv, av, S, ids, Or.inl (hR4.below b5), hall3, hB4.trans (b5.mono hB4.size)⟩
      have HW4 := hide hW4
      clear hR3 hw3 hM3 hvl hvr fz hR4 hK4 hall3 hB3 hB4 hW4 HSY c10 c0
      go_wp2_with fail
      rw [← unhide HW4]
      refine Calls.mono (unhide HAG) ?_
      rintro e w5 ⟨rfl, b5⟩
      have HE := hide (unhide HFIN w5 b5)
      clear b5 HFIN HAG
      go_wp2_with fail
      go_ret
      exact ⟨rfl, unhide HE⟩
  · by_cases hk2 : knd = 2
    · subst hk2
      clear hk1
      obtain ⟨vs, hvl, hvr⟩ := (unhide HR2).book.at_.recs.row
      obtain ⟨rq, rc, hrv, _⟩ := hvr.shape
      subst hrv
      have c12 := (nineteen_cells (unhide HR2).book.at_.blk).2.1.1
      have hvi : vs.length = ids.length := by rw [hvl, (unhide HR2).len]
      have hcnt := (unhide HR2).inv.count
      obtain ⟨NN, hw1, hNN⟩ : ∃ NN : Int, IntKind.i64.wrap ((vs.length : Int) + 1) = NN ∧ NN = (vs.length : Int) + 1 := ⟨_, rfl, by rw [IntKind.wrap_i64]; omega⟩
      have hw2 : IntKind.u64.wrap NN = NN := by rw [IntKind.wrap_u64]; omega
      obtain ⟨i, hi1, hi2⟩ : ∃ i : Nat, (IntKind.u64.wrap num).tmod NN = (i : Int) ∧ i ≤ ids.length := by
        have h0 : 0 ≤ IntKind.u64.wrap num := by rw [IntKind.wrap_u64]; omega
        rw [Int.tmod_eq_emod_of_nonneg h0]
        have h1 := Int.emod_nonneg (IntKind.u64.wrap num) (b := NN) (by omega)
        have h2 := Int.emod_lt_of_pos (IntKind.u64.wrap num) (b := NN) (by omega)
        exact ⟨(IntKind.u64.wrap num % NN).toNat, by omega, by omega⟩
      have hnz : ¬ NN = 0 := by omega
      have hwi : IntKind.i64.wrap (i : Int) = (i : Int) := by rw [IntKind.wrap_i64]; omega
      have hiI : (i : Int) ≤ 30 := by omega
      have HI2 := hide hi2
      have hdr : Below w2.heap.size w2 w2.drew := (Below.refl _ _).drew
      have HFR := hide (runu_free ((unhide HR2).below hdr) i hi2)
      have HBD := hide ((unhide HB2).trans (hdr.mono (unhide HB2).size))
      clear hvl hvr hvi hcnt hNN hi2 c0 c10 hdr
      go_wp2_with fail
      go_still_tail 13, (by kernel_rfl)
      go_wp2_with fail
      refine Calls.mono (unhide HFR) ?_
      rintro e w3 ⟨rfl, hG3⟩
      have HE : Hid (Playing w0 g (m + 1) w3) := (hG3.mono (by omega) hm).playing (unhide HALL) (unhide HBD)
      clear hG3 HFR
      go_wp2_with fail
      go_ret
      exact ⟨rfl, unhide HE⟩
    · by_cases hk3 : knd = 3
      · subst hk3
        clear hk1 hk2
        have hksl : ∀ b' off n' c', Value.slice kp ks.length kc = .slice (some ⟨b', off, none⟩) n' c' → 0 < n' → ¬ F b' := fun b' off n' c' e hn0 h => by
          have hkl : 0 < ks.length := by simp only [Value.slice.injEq] at e; omega
          obtain ⟨b7, o7, cap7, e7, _, hc7⟩ := (unhide HKV).at 0 hkl
          rw [e] at e7
          simp only [Value.slice.injEq, Option.some.injEq, Addr.mk.injEq, and_true] at e7
          have h1 := World.block_lt_of_cell? w0 _ hc7
          have h2 := unhide HALL b' (Or.inl h)
          rw [e7.1.1] at h2
          exact Nat.lt_irrefl _ (Nat.lt_of_lt_of_le h1 h2)
        have hdr : Below w2.heap.size w2 w2.drew := (Below.refl _ _).drew
        have HBD := hide ((unhide HB2).trans (hdr.mono (unhide HB2).size))
        have HCR := hide (held_crash ((unhide HR2).below hdr).book.held ((unhide HKV).below (unhide HBD)) hksl (by have := (unhide HR2).waits; omega))
        clear hksl c10 hdr
        go_wp2_with fail
        go_still_tail 6, (by kernel_rfl)
        go_wp2_with fail
        refine Calls.mono (unhide HCR) ?_
        rintro e w3 ⟨rfl, F3, hH3, hM3⟩
        have d0 := (nineteen_cells hH3.at_.blk).1.1
        have HST := hide (held_start hH3)
        have HB3 := hide ((unhide HBD).trans (hM3.keep.below (unhide HBD).size (fun j hj => unhide HALL j (Or.inl hj))))
        have HN3 : Hid (∀ j, F3 j → w0.heap.size ≤ j) := fun j hj => by
          rcases hM3.sub j hj with h | h
          · exact unhide HALL j (Or.inl h)
          · exact Nat.le_trans (unhide HBD).size h
        clear hH3 hM3 c0 HCR o0 o1 o2 o3
        go_wp2_with fail
        refine Calls.mono (unhide HST) ?_
        rintro e w4 ⟨rfl, F4, hH4, hM4⟩
        have hR := unhide HR2
        have hmay : ∀ j c, May ((s.crash ks).start) j c → May s j c := fun j c h => may_crash (start_may h)
        obtain ⟨l1, l2, hids, hr1, hr2⟩ := split_right ((s.crash ks).start) ids
        have HOPN := hide (reopen (l1 := l1) (l2 := l2) (m := m) hH4 (fun h => by rw [hR.dead] at h; cases h) (by rw [← hids]; exact hR.lst) (by rw [← hids]; exact hR.inv.less hmay) rfl hr1 hr2 (Or.inl rfl) true (fun _ => rfl) (by show 0 ≤ _; omega) (by show 0 ≤ _; omega) hR.next hR.age hm (by rw [hR.book.next]; exact hR.next))
        have HB4 := hide ((unhide HB3).trans (hM4.keep.below (unhide HB3).size (unhide HN3)))
        have HN4 : Hid (∀ j, F4 j → w0.heap.size ≤ j) := fun j hj => by
          rcases hM4.sub j hj with h | h
          · exact unhide HN3 j h
          · exact Nat.le_trans (unhide HB3).size h
        clear hH4 hM4 hmay hids hr1 hr2 hR HST d0
        go_wp2_with fail
        refine Calls.mono (unhide HOPN) ?_
        rintro e w5 ⟨rfl, hG5⟩
        have HE : Hid (Playing w0 g (m + 1) w5) := hG5.playing (fun j hj => by
          rcases hj with h | h | h
          · exact unhide HN4 j h
          · exact unhide HALL j (Or.inr (Or.inl h))
          · exact unhide HALL j (Or.inr (Or.inr h))) (unhide HB4)
        clear hG5 HOPN
        go_wp2_with fail
        go_ret
        exact ⟨rfl, unhide HE⟩
      · by_cases hk4 : knd = 4
        · subst hk4
          clear hk1 hk2 hk3
          have hdr : Below w2.heap.size w2 w2.drew := (Below.refl _ _).drew
          have HBD := hide ((unhide HB2).trans (hdr.mono (unhide HB2).size))
          have hRd := (unhide HR2).below hdr
          have HAR := hide (oarm_any F _ s num w2.drew hRd.book.both.dev (unhide HHN).2)
          rw [show s.armE = 0 by unfold DK.armE; rw [if_neg (by rw [hRd.up]; decide)]] at HAR
          have HRD := hide hRd
          clear hRd hdr c10
          go_wp2_with fail
          go_still_tail 6, (by kernel_rfl)
          go_wp2_with fail
          refine Calls.mono (unhide HAR) ?_
          rintro e w3 ⟨rfl, F3, hD3, hM3⟩
          have HE : Hid (Playing w0 g (m + 1) w3) := by
            have hR := unhide HRD
            have ea : s.arm num = { s with armed := num.toNat, ticks := 0 } := by unfold DK.arm; rw [if_neg (by rw [hR.up]; decide)]
            rw [ea] at hD3
            have hH3 := hR.book.held.move hD3 hM3 rfl
            have hw := hR.waits
            have hnx := hR.next
            have hag := hR.age
            refine ⟨F3, G, K, _, _, _, L, b, rv, tv, av, S, ids, Or.inl ⟨⟨hH3.both, hH3.at_, hH3.apF, hH3.apG, hR.book.first, hR.book.next, hR.book.age, hR.book.starts, hR.book.tl, hR.book.al⟩, hR.up, hR.live, hR.dead, hR.lst, hR.inv.less (fun k c hc => hc), hR.right, by show s.waits.length ≤ _; omega, by show 0 ≤ _; omega, by omega, by omega, hm⟩, fun j hj => ?_, (unhide HBD).trans (hM3.keep.below (unhide HBD).size (fun j hj => unhide HALL j (Or.inl hj)))⟩
            rcases hj with h | h | h
            · rcases hM3.sub j h with h | h
              · exact unhide HALL j (Or.inl h)
              · exact Nat.le_trans (unhide HBD).size h
            · exact unhide HALL j (Or.inr (Or.inl h))
            · exact unhide HALL j (Or.inr (Or.inr h))
          clear hD3 hM3 HAR
          go_wp2_with fail
          go_ret
          exact ⟨rfl, unhide HE⟩
        · by_cases hk5 : knd = 5
          · subst hk5
            clear hk1 hk2 hk3
            have HOPN := hide (reopen (l1 := ids) (l2 := []) (unhide HR2).book.held (fun h => by rw [(unhide HR2).dead] at h; cases h) (by rw [List.append_nil]; exact (unhide HR2).lst) (by rw [List.append_nil]; exact (unhide HR2).inv) (unhide HR2).up (unhide HR2).right (fun z l3 h => by cases h) (Or.inr rfl) false (fun h => by cases h) (unhide HR2).waits (unhide HR2).ticks (unhide HR2).next (unhide HR2).age hm (by rw [(unhide HR2).book.next]; exact (unhide HR2).next))
            go_wp2_with fail
            refine Calls.mono (unhide HOPN) ?_
            rintro e w3 ⟨rfl, hG3⟩
            have HE : Hid (Playing w0 g (m + 1) w3) := hG3.playing (unhide HALL) (unhide HB2)
            clear hG3 HOPN
            go_wp2_with fail
            go_ret
            exact ⟨rfl, unhide HE⟩
          · have HAP := hide (runu_append (unhide HR2) hm ((unhide HBV).below (unhide HB2)) hbl (fun j off n c e hne => by
              have h4 := row_block_lt (unhide HBV) e hne
              exact ⟨fun h => by have := unhide HALL j (Or.inl h); omega, fun h => by have := unhide HALL j (Or.inr (Or.inl h)); omega, fun h => by have := unhide HALL j (Or.inr (Or.inr h)); omega⟩))
            go_wp2_with fail
            refine Calls.mono (unhide HAP) ?_
            rintro e w3 ⟨rfl, hG3⟩
            have HE : Hid (Playing w0 g (m + 1) w3) := hG3.playing (unhide HALL) (unhide HB2)
            clear hG3 HAP
            go_wp2_with fail
            go_ret
            exact ⟨rfl, unhide HE⟩

set_option maxRecDepth 20000 in
set_option maxHeartbeats 8000000 in
theorem step_down (w0 : World) (g m : Nat) (o : OpW) (bv kv : Value) (w : World) {F G K : Nat → Prop} {lp dp : Value} {s : DK} {L : LG} {b : BK} {rv tv av : Value} {S : Id → Prop} {ids : List Id} (hR : RunD F G K w g lp dp s L b rv tv av S ids m) (hall : ∀ j, all3 F G K j → w0.heap.size ≤ j) (hB : Below w0.heap.size w0 w) (hm : m + 1 ≤ 1000) (hb : Row w0 bv o.b) (hk : BRow w0 kv o.keep) :
    Calls Tryz.prog 7 #[.pointer (some ⟨g, 0, none⟩), .agg (opC o bv kv)] w fun e w' => e = .returned (.bool true) ∧ Playing w0 g (m + 1) w' := by
  obtain ⟨bp, bc, bl, rfl, hbe⟩ := hb.shape
  obtain ⟨kp, kc, rfl, _, _⟩ := hk.shape
  obtain ⟨dg, hdg⟩ := hR.held.both.dev.ptr
  subst hdg
  obtain ⟨lg, hlg⟩ := hR.held.both.log.ptr
  subst hlg
  unfold opC
  obtain ⟨knd, num, bb, ks⟩ := o
  dsimp only at *
  have HR := hide hR
  have HALL := hide hall
  have HB := hide hB
  have HKV := hide hk
  have c0 := (nineteen_cells hR.held.at_.blk).1.1
  have hgl : g < w.heap.size := hR.held.at_.lt g hR.held.at_.fg
  have hne : ¬ w.heap.size = g := by omega
  have hne2 : ¬ g = w.heap.size := by omega
  obtain ⟨W1, hW1⟩ : ∃ W1, W1 = w.alloc (.cells #[.int .i64 knd, .int .i64 num, .slice bp bl bc, .slice kp ks.length kc] 30) := ⟨_, rfl⟩
  have b1 : Below w.heap.size w W1 := by rw [hW1]; exact (Below.refl _ _).alloc (Nat.le_refl _) _
  have hX1 : W1.heap[w.heap.size]? = some (.cells #[.int .i64 knd, .int .i64 num, .slice bp bl bc, .slice kp ks.length kc] 30 (0, 0)) := by rw [hW1]; exact heap_alloc_new w _
  have HDN := hide (odown_any F _ s W1 (hR.held.below b1).both.dev)
  rw [hR.down] at HDN
  have HX1 := hide hX1
  have HB1 := hide b1
  have HW1 := hide hW1
  clear hR hall hB hb hk hbe b1 hX1 hW1
  go_enter Tryz.func7, Tryz.ntmps7
  go_wp2_with fail
  rw [← unhide HW1]
  refine Calls.mono (unhide HDN) ?_
  rintro e w2 ⟨rfl, b2⟩
  have hX2 := (b2.block w.heap.size (Array.getElem?_eq_some_iff.1 (unhide HX1)).1).trans (unhide HX1)
  have o0 : w2.cell? ⟨w.heap.size, 0, none⟩ = some (.int .i64 knd) := by rw [cell_of_row w2 _ _ _ _ (0, 0) hX2]; rfl
  have o3 : w2.cell? ⟨w.heap.size, 3, none⟩ = some (.slice kp ks.length kc) := by rw [cell_of_row w2 _ _ _ _ (0, 0) hX2]; rfl
  have hR2 := (unhide HR).below ((unhide HB1).trans (b2.mono (unhide HB1).size))
  have hB2 := (unhide HB).trans (((unhide HB1).trans (b2.mono (unhide HB1).size)).mono (unhide HB).size)
  clear c0
  have c0 := (nineteen_cells hR2.held.at_.blk).1.1
  have c10 := (nineteen_cells hR2.held.at_.blk).1.2.2.1
  have HR2 := hide hR2
  have HB2 := hide hB2
  clear b2 hR2 hB2 hX2 HDN HX1 HB1 HR HB HW1 hne hne2 hgl
  by_cases hk3 : knd = 3
  · subst hk3
    have hksl : ∀ b' off n' c', Value.slice kp ks.length kc = .slice (some ⟨b', off, none⟩) n' c' → 0 < n' → ¬ F b' := fun b' off n' c' e hn0 h => by
      have hkl : 0 < ks.length := by simp only [Value.slice.injEq] at e; omega
      obtain ⟨b7, o7, cap7, e7, _, hc7⟩ := (unhide HKV).at 0 hkl
      rw [e] at e7
      simp only [Value.slice.injEq, Option.some.injEq, Addr.mk.injEq, and_true] at e7
      have h1 := World.block_lt_of_cell? w0 _ hc7
      have h2 := unhide HALL b' (Or.inl h)
      rw [e7.1.1] at h2
      exact Nat.lt_irrefl _ (Nat.lt_of_lt_of_le h1 h2)
    have hdr : Below w2.heap.size w2 w2.drew := (Below.refl _ _).drew
    have HBD := hide ((unhide HB2).trans (hdr.mono (unhide HB2).size))
    have HCR := hide (held_crash ((unhide HR2).below hdr).held ((unhide HKV).below (unhide HBD)) hksl (by have := (unhide HR2).waits; omega))
    clear hksl c10 hdr
    go_wp2_with fail
    go_still_tail 6, (by kernel_rfl)
    go_wp2_with fail
    refine Calls.mono (unhide HCR) ?_
    rintro e w3 ⟨rfl, F3, hH3, hM3⟩
    have d0 := (nineteen_cells hH3.at_.blk).1.1
    have HST := hide (held_start hH3)
    have HB3 := hide ((unhide HBD).trans (hM3.keep.below (unhide HBD).size (fun j hj => unhide HALL j (Or.inl hj))))
    have HN3 : Hid (∀ j, F3 j → w0.heap.size ≤ j) := fun j hj => by
      rcases hM3.sub j hj with h | h
      · exact unhide HALL j (Or.inl h)
      · exact Nat.le_trans (unhide HBD).size h
    clear hH3 hM3 c0 HCR o0 o3
    go_wp2_with fail
    refine Calls.mono (unhide HST) ?_
    rintro e w4 ⟨rfl, F4, hH4, hM4⟩
    have hR := unhide HR2
    have hmay : ∀ j c, May ((s.crash ks).start) j c → May s j c := fun j c h => may_crash (start_may h)
    obtain ⟨l1, l2, hids, hr1, hr2⟩ := split_right ((s.crash ks).start) ids
    have HOPN := hide (reopen (l1 := l1) (l2 := l2) (m := m) hH4 (fun _ => ⟨hR.fallen, rfl⟩) (by rw [← hids]; exact hR.lst) (by rw [← hids]; exact hR.inv.less hmay) rfl hr1 hr2 (Or.inl rfl) true (fun _ => rfl) (by show 0 ≤ _; omega) (by show 0 ≤ _; omega) hR.next hR.age hm hR.lnext)
    have HB4 := hide ((unhide HB3).trans (hM4.keep.below (unhide HB3).size (unhide HN3)))
    have HN4 : Hid (∀ j, F4 j → w0.heap.size ≤ j) := fun j hj => by
      rcases hM4.sub j hj with h | h
      · exact unhide HN3 j h
      · exact Nat.le_trans (unhide HB3).size h
    clear hH4 hM4 hmay hids hr1 hr2 hR HST d0
    go_wp2_with fail
    refine Calls.mono (unhide HOPN) ?_
    rintro e w5 ⟨rfl, hG5⟩
    have HE : Hid (Playing w0 g (m + 1) w5) := hG5.playing (fun j hj => by
      rcases hj with h | h | h
      · exact unhide HN4 j h
      · exact unhide HALL j (Or.inr (Or.inl h))
      · exact unhide HALL j (Or.inr (Or.inr h))) (unhide HB4)
    clear hG5 HOPN
    go_wp2_with fail
    go_ret
    exact ⟨rfl, unhide HE⟩
  · by_cases hk5 : knd = 5
    · subst hk5
      clear hk3
      have hksl : ∀ b' off n' c', Value.slice kp ks.length kc = .slice (some ⟨b', off, none⟩) n' c' → 0 < n' → ¬ F b' := fun b' off n' c' e hn0 h => by
        have hkl : 0 < ks.length := by simp only [Value.slice.injEq] at e; omega
        obtain ⟨b7, o7, cap7, e7, _, hc7⟩ := (unhide HKV).at 0 hkl
        rw [e] at e7
        simp only [Value.slice.injEq, Option.some.injEq, Addr.mk.injEq, and_true] at e7
        have h1 := World.block_lt_of_cell? w0 _ hc7
        have h2 := unhide HALL b' (Or.inl h)
        rw [e7.1.1] at h2
        exact Nat.lt_irrefl _ (Nat.lt_of_lt_of_le h1 h2)
      have hdr : Below w2.heap.size w2 w2.drew := (Below.refl _ _).drew
      have HBD := hide ((unhide HB2).trans (hdr.mono (unhide HB2).size))
      have HCR := hide (held_crash ((unhide HR2).below hdr).held ((unhide HKV).below (unhide HBD)) hksl (by have := (unhide HR2).waits; omega))
      clear hksl c10 hdr
      go_wp2_with fail
      go_still_tail 6, (by kernel_rfl)
      go_wp2_with fail
      refine Calls.mono (unhide HCR) ?_
      rintro e w3 ⟨rfl, F3, hH3, hM3⟩
      have d0 := (nineteen_cells hH3.at_.blk).1.1
      have HST := hide (held_start hH3)
      have HB3 := hide ((unhide HBD).trans (hM3.keep.below (unhide HBD).size (fun j hj => unhide HALL j (Or.inl hj))))
      have HN3 : Hid (∀ j, F3 j → w0.heap.size ≤ j) := fun j hj => by
        rcases hM3.sub j hj with h | h
        · exact unhide HALL j (Or.inl h)
        · exact Nat.le_trans (unhide HBD).size h
      clear hH3 hM3 c0 HCR o0 o3
      go_wp2_with fail
      refine Calls.mono (unhide HST) ?_
      rintro e w4 ⟨rfl, F4, hH4, hM4⟩
      have hR := unhide HR2
      have hmay : ∀ j c, May ((s.crash ks).start) j c → May s j c := fun j c h => may_crash (start_may h)
      obtain ⟨l1, l2, hids, hr1, hr2⟩ := split_right ((s.crash ks).start) ids
      have HOPN := hide (reopen (l1 := l1) (l2 := l2) (m := m) hH4 (fun _ => ⟨hR.fallen, rfl⟩) (by rw [← hids]; exact hR.lst) (by rw [← hids]; exact hR.inv.less hmay) rfl hr1 hr2 (Or.inl rfl) true (fun _ => rfl) (by show 0 ≤ _; omega) (by show 0 ≤ _; omega) hR.next hR.age hm hR.lnext)
      have HB4 := hide ((unhide HB3).trans (hM4.keep.below (unhide HB3).size (unhide HN3)))
      have HN4 : Hid (∀ j, F4 j → w0.heap.size ≤ j) := fun j hj => by
        rcases hM4.sub j hj with h | h
        · exact unhide HN3 j h
        · exact Nat.le_trans (unhide HB3).size h
      clear hH4 hM4 hmay hids hr1 hr2 hR HST d0
      go_wp2_with fail
      refine Calls.mono (unhide HOPN) ?_
      rintro e w5 ⟨rfl, hG5⟩
      have HE : Hid (Playing w0 g (m + 1) w5) := hG5.playing (fun j hj => by
        rcases hj with h | h | h
        · exact unhide HN4 j h
        · exact unhide HALL j (Or.inr (Or.inl h))
        · exact unhide HALL j (Or.inr (Or.inr h))) (unhide HB4)
      clear hG5 HOPN
      go_wp2_with fail
      go_ret
      exact ⟨rfl, unhide HE⟩
    · have hk3b : (knd != 3) = true := by simp [hk3]
      have hk5b : (knd != 5) = true := by simp [hk5]
      have hLf := (unhide HR2).fallen
      have eY : syncE s L = 40 ∧ syncS s L = s ∧ syncL s L = L := ⟨by unfold syncE; rw [if_pos hLf], by unfold syncS; rw [if_pos hLf], by unfold syncL; rw [if_pos hLf]⟩
      have HSX := hide (wsync_any F G (.pointer (some lg)) (.pointer (some dg)) 256 s L w2 (unhide HR2).held.both (by have := (unhide HR2).waits; omega) (by have := (unhide HR2).ticks; omega))
      rw [eY.1, eY.2.1, eY.2.2] at HSX
      clear eY hLf c0
      go_wp2_with fail
      refine Calls.mono (unhide HSX) ?_
      rintro e w3 ⟨rfl, F3, hbo3, hm3⟩
      have HE : Hid (Playing w0 g (m + 1) w3) := by
        have hR := (unhide HR2).mono (m' := m + 1) (by omega) hm
        obtain ⟨h3, hM3⟩ := held_on hR.held (Moves.refl _ _) hbo3 hm3
        exact ⟨F3, G, K, _, _, s, L, b, rv, tv, av, S, ids, Or.inr ⟨h3, hR.down, hR.fallen, hR.dead, hR.lst, hR.inv, hR.waits, hR.ticks, hR.next, hR.age, hR.small, hR.lnext⟩, fun j hj => by
          rcases hM3.sub j hj with h | h
          · exact unhide HALL j h
          · exact Nat.le_trans (unhide HB2).size h, (unhide HB2).trans (hM3.keep.below (unhide HB2).size (unhide HALL))⟩
      clear hbo3 hm3 HSX
      go_wp2_with fail
      go_ret
      exact ⟨rfl, unhide HE⟩
theorem step_any (w0 : World) (g m : Nat) (o : OpW) (bv kv : Value) (w : World) (h : Playing w0 g m w) (hm : m + 1 ≤ 1000) (hb : Row w0 bv o.b) (hbl : o.b.length ≤ 140737488351232) (hk : BRow w0 kv o.keep) (hn : -9223372036854775808 ≤ o.n ∧ o.n ≤ 9223372036854775807) :
    Calls Tryz.prog 7 #[.pointer (some ⟨g, 0, none⟩), .agg (opC o bv kv)] w fun e w' => e = .returned (.bool true) ∧ Playing w0 g (m + 1) w' := by
  obtain ⟨F, G, K, lp, dp, s, L, b, rv, tv, av, S, ids, hR | hR, hall, hB⟩ := h
  · exact step_up w0 g m o bv kv w hR hall hB hm hb hbl hk hn
  · exact step_down w0 g m o bv kv w hR hall hB hm hb hk
end Go.Proofs.YtpkpjmebkikgdaaGreat
