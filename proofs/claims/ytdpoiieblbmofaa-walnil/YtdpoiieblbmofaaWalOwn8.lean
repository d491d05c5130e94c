/- The landed package wal: the frames that stand as one record's. -/
import Derived.Test.YtdpoiieblbmofaaWalOwn7
import Derived.Test.YtdpoiieblbmofaaFrOwnL
import Derived.Test.YtdpoiieblbmofaaFrRef1
namespace Go.Proofs.Ytdpoiieblbmofaa
open Go.RowKit

def sliceLen : Value → Nat
  | .slice _ n _ => n
  | _ => 0

/-- A slice of one frame. -/
theorem fown_one (W : World) (f : Fr) (p : Option Addr) (l c : Nat) (hok : f.ok) (hr : Row W (.slice p l c) f.data) :
    FOwn (W.alloc (.cells #[.int .u64 (f.age : Int), .int .u64 (f.first : Int), .int .i64 f.of, .slice p l c] 91)) W.heap.size (.slice (some ⟨W.heap.size, 0, none⟩) 1 1) [(f, .slice p l c)] := by
  have hb : Below W.heap.size W (W.alloc (.cells #[.int .u64 (f.age : Int), .int .u64 (f.first : Int), .int .i64 f.of, .slice p l c] 91)) := (Below.refl _ _).alloc (Nat.le_refl _) _
  refine ⟨⟨by simp [cellsL, frC], Or.inr ⟨W.heap.size, 1, _, rfl, Nat.le_refl _, heap_alloc_new W _, Nat.le_refl _, by unfold maxLen; omega, by simp, by simp [cellsL, frC]⟩⟩, fun q hq => ?_⟩
  simp only [List.mem_singleton] at hq
  subst hq
  refine ⟨hok, hr.below hb, fun b off n c' e hne hx => ?_⟩
  have := row_block_lt hr e hne
  simp only [Value.ownBlock, Option.some.injEq] at hx
  omega

set_option maxRecDepth 20000 in
set_option maxHeartbeats 4000000 in
theorem wparts_any (F : Nat → Prop) (dp : Value) (s : DK) (n : Int) (o A t p : Nat) (w : World) (hD : DRep F w dp s) (hfit : Fits n) (hn : (s.n : Int) = n) (hf : s.fell = false) (ho : o ≤ t) (ht : t + 64 < 9223372036854775808) :
    Calls Try.prog 63 #[.agg (rdC dp n o A), .int .u64 (t : Int), .int .u64 (p : Int)] w fun e w' => ∃ v l, e = .returned (.tuple #[v, .int .i64 (partsW (frameW (shW s n) (lz n).toNat o) A t p).2]) ∧ FOwn w' w.heap.size v l ∧ frs l = (partsW (frameW (shW s n) (lz n).toNat o) A t p).1 ∧ Below w.heap.size w w' := by
  obtain ⟨i0, hi, hz0, hz1, hz2⟩ := info_parts Try.info91
  have HFR := hide (fun (t' : Nat) w' (hb : Below w.heap.size w w') (h1 : o ≤ t') (h2 : t' < 9223372036854775808) => wframe_any F dp s n o A t' w' (hD.stays hb.size (fun k hk => hb.block k (hD.lt k hk))) hfit hn hf h1 h2)
  have HOK := hide (fun t' => frame_ok (shW s n) (lz n).toNat o t')
  have HMAY : Hid (∀ t', 1 ≤ (frameW (shW s n) (lz n).toNat o t').1.of → (frameW (shW s n) (lz n).toNat o t').1.of ≤ 32) := fun t' h => ((may_iff _).1 (frame_may _ _ _ t' h).1).2.1
  generalize frameW (shW s n) (lz n).toNat o = fr at *
  obtain ⟨Res, hRes⟩ : ∃ Res, Res = partsW fr A t p := ⟨_, rfl⟩
  rw [← hRes]
  unfold partsW at hRes
  have HRES := hide hRes
  have HO := hide ho
  have HT := hide ht
  have HB0 : Hid (Below w.heap.size w (w.alloc (.cells (rdC dp n o A) 88))) := (Below.refl _ _).alloc (Nat.le_refl _) _
  have HX0 : Hid ((w.alloc (.cells (rdC dp n o A) 88)).heap[w.heap.size]? = some (.cells (rdC dp n o A) 88 (0, 0))) := heap_alloc_new w _
  have HC0 := hide (unhide HFR t _ (unhide HB0) ho (by omega))
  generalize hW0 : w.alloc (.cells (rdC dp n o A) 88) = W0 at *
  have HW0 := hide hW0
  unfold rdC at HW0 HX0 HFR HC0 ⊢
  unfold fv at HC0 HFR
  obtain ⟨x0, x1, x2, x3, x4, x5, x6, x7, x8, x9, x10, x11⟩ := twelve_cells (unhide HX0)
  generalize lz n = z at *
  generalize lseg n = m at *
  clear hW0 hRes ho ht hD hfit hn hf
  go_enter Try.func63, Try.ntmps63
  go_wp2_with fail
  rw [unhide HW0]
  refine Calls.mono (unhide HC0) ?_
  rintro e w1 ⟨v1, rfl, m1, b1⟩
  have hok1 := unhide HOK t
  have hmay1 := unhide HMAY t
  have HRES1 := hide (unhide HRES)
  generalize hh : fr t = H at *
  obtain ⟨⟨ha, hfi, hof, hda⟩, E⟩ := H
  simp only at m1 hok1 hmay1 HRES1
  have B1 : Below w.heap.size w w1 := (unhide HB0).trans (b1.mono (unhide HB0).size)
  have hX1 := (b1.block w.heap.size (World.block_lt_of_cell? _ _ x0)).trans (unhide HX0)
  have HX1 := hide hX1
  obtain ⟨p1, q1, l1, rfl, hl1⟩ := m1.row.shape
  obtain ⟨W1, hW1⟩ : ∃ W1, W1 = w1.alloc (.cells #[.int .u64 (ha : Int), .int .u64 (hfi : Int), .int .i64 hof, .slice p1 l1 q1] 91) := ⟨_, rfl⟩
  have HW1 := hide hW1
  have hb1 : Below w1.heap.size w1 W1 := by rw [hW1]; exact (Below.refl _ _).alloc (Nat.le_refl _) _
  have hk1 : Blk4 W1 w1.heap.size 91 (.int .u64 (ha : Int)) (.int .u64 (hfi : Int)) (.int .i64 hof) (.slice p1 l1 q1) := by rw [hW1]; exact heap_alloc_new w1 _
  have HK1 := hide hk1
  obtain ⟨k0, k1, k2, k3, _⟩ := hk1.cells
  have HBW : Hid (Below w.heap.size w W1) := B1.trans (hb1.mono B1.size)
  have HRW := hide (m1.row.below hb1)
  have HXW : Hid (W1.heap[w.heap.size]? = _) := (hb1.block w.heap.size (Array.getElem?_eq_some_iff.1 hX1).1).trans hX1
  obtain ⟨y0, y1, y2, y3, y4, y5, y6, y7, y8, y9, y10, y11⟩ := twelve_cells hX1
  have hnl : w.heap.size < w1.heap.size := World.block_lt_of_cell? w1 _ y11
  have hnw : ¬ w1.heap.size = w.heap.size := by omega
  have hnw' : ¬ w.heap.size = w1.heap.size := by omega
  clear hl1 m1 b1 hX1 HX0 HB0 HC0 HRES B1 hb1 hk1 hW1 HX1 x0 x1 x2 x3 x4 x5 x6 x7 x8 x9 x10 x11 HW0 hh
  by_cases hE : E = 0
  · subst hE
    by_cases hbad : headBad ⟨ha, hfi, hof, hda⟩ t p A
    · have hRv := unhide HRES1
      rw [if_neg (by simp), if_pos hbad] at hRv
      have HEND : Hid (∃ v l, Ending.returned (.tuple #[.slice none 0 0, .int .i64 0]) = .returned (.tuple #[v, .int .i64 Res.2]) ∧ FOwn W1 w.heap.size v l ∧ frs l = Res.1 ∧ Below w.heap.size w W1) := by
        unfold Hid
        rw [hRv]
        exact ⟨_, [], rfl, FOwn.nil _ _, rfl, unhide HBW⟩
      unfold headBad at hbad
      simp only at hbad
      clear hRv HRES1 hok1 hmay1 HFR HOK HMAY HRW
      by_cases a1 : hof < 1
      · clear hbad
        go_wp2_with fail
        rw [← unhide HW1]
        go_ret2
        exact unhide HEND
      · by_cases a2 : hfi = t
        · subst a2
          by_cases a3 : ha < p
          · have d1 : decide (hof < 1) = false := decide_eq_false a1
            have a3' : (ha : Int) < p := by omega
            clear hbad
            go_wp2_with fail
            rw [← unhide HW1]
            go_ret2
            exact unhide HEND
          · have d1 : decide (hof < 1) = false := decide_eq_false a1
            have d3 : decide (ha < p) = false := decide_eq_false a3
            have a3' : ¬ (ha : Int) < p := by omega
            have a4' : (A : Int) ≤ ha := by omega
            clear hbad
            go_wp2_with fail
            rw [← unhide HW1]
            go_ret2
            exact unhide HEND
        · have a2' : ((hfi : Int) == (t : Int)) = false := by rw [beq_eq_false_iff_ne]; omega
          have d1 : decide (hof < 1) = false := decide_eq_false a1
          clear hbad
          go_wp2_with fail
          rw [← unhide HW1]
          go_ret2
          exact unhide HEND
    · have hRv := unhide HRES1
      rw [if_neg (by simp), if_neg hbad] at hRv
      unfold headBad at hbad
      simp only at hbad hRv
      have a2 : hfi = t := by omega
      subst a2
      have a1 : 1 ≤ hof := by omega
      have a1' : ¬ hof < 1 := by omega
      have a3 : ¬ ha < p := by omega
      have a4 : ¬ A ≤ ha := by omega
      have a3' : ¬ (ha : Int) < p := by omega
      have a4' : ¬ (A : Int) ≤ ha := by omega
      have d1 : decide (hof < 1) = false := decide_eq_false a1'
      have d3 : decide (ha < p) = false := decide_eq_false a3
      have d4 : decide (A ≤ ha) = false := decide_eq_false a4
      have h32 := hmay1 a1
      have HH := hide hRv
      have HF1 := hide (fown_one W1 ⟨ha, hfi, hof, hda⟩ p1 l1 q1 hok1 (unhide HRW))
      obtain ⟨W2, hW2⟩ : ∃ W2, W2 = W1.alloc (.cells #[.int .u64 (ha : Int), .int .u64 (hfi : Int), .int .i64 hof, .slice p1 l1 q1] 91) := ⟨_, rfl⟩
      simp only at HF1
      rw [← hW2] at HF1
      have HW2 := hide hW2
      have HB2 : Hid (Below W1.heap.size W1 W2) := by rw [hW2]; exact (Below.refl _ _).alloc (Nat.le_refl _) _
      have hs1 : W1.heap.size = w1.heap.size + 1 := by rw [unhide HW1]; simp
      have HS1 := hide hs1
      clear hRv hbad HRES1 hok1 hmay1 hW2 hs1 HRW a3 a4
      go_wp2_with fail
      rw [← unhide HW1, ← unhide HW2]
      have HH2 := unhide HS1
      rw [← unhide HS1]
      clear y0 y1 y2 y3 y4 y5 y6 y7 y8 y9 y10 y11 k0 k1 k2 k3 hnw hnw' hnl HH2 a3' a4' d1 d3 d4
      go_loopw [10] (fun v wr => ∃ (L : List (Fr × Value)), Hid (FOwn wr W1.heap.size v L) ∧ 1 ≤ L.length ∧ (L.length : Int) ≤ hof ∧ Hid (Res = scanW fr ⟨ha, hfi, hof, hda⟩ (hof.toNat - L.length) (hfi + L.length) (frs L)) ∧ Hid (Below W1.heap.size W1 wr)) (fun v _ => hof.toNat - sliceLen v)
      case atStart => exact ⟨[(⟨ha, hfi, hof, hda⟩, .slice p1 l1 q1)], unhide HF1, by simp, by simpa using a1, unhide HH, unhide HB2⟩
      case round =>
        obtain ⟨L, hF, hL1, hL2, hsc, hbel⟩ := hrel
        obtain ⟨k0, k1, k2, k3, _⟩ := ((unhide HK1).below (unhide hbel)).cells
        have hXr := ((unhide hbel).block w.heap.size (Array.getElem?_eq_some_iff.1 (unhide HXW)).1).trans (unhide HXW)
        obtain ⟨y0, y1, y2, y3, y4, y5, y6, y7, y8, y9, y10, y11⟩ := twelve_cells hXr
        obtain ⟨vp, vc, hve, hv1, hv2, _⟩ := (unhide hF).fl.shape
        subst hve
        by_cases hlt : (L.length : Int) < hof
        · have hto := unhide HT
          have hoo := unhide HO
          have HC := hide (unhide HFR (hfi + L.length) wr ((unhide HBW).trans ((unhide hbel).mono (unhide HBW).size)) (by omega) (by omega))
          rw [Int.natCast_add] at HC
          have hok2 := unhide HOK (hfi + L.length)
          have hscv := unhide hsc
          rw [show hof.toNat - L.length = (hof.toNat - L.length - 1) + 1 by omega] at hscv
          unfold scanW at hscv
          have HSC := hide hscv
          have hL32 : (L.length : Int) ≤ 32 := by omega
          have htI : (hfi : Int) + (L.length : Int) < 9223372036854775808 := by omega
          generalize hg2 : fr (hfi + L.length) = H2 at *
          obtain ⟨⟨fa, ff, fo, fd⟩, E2⟩ := H2
          simp only at HC hok2
          clear hscv hsc hto hoo hg2
          go_wp2_with fail
          refine Calls.mono (unhide HC) ?_
          rintro e w3 ⟨v3, rfl, m3, b3⟩
          have hF3 := (unhide hF).below b3
          have hB3 := (unhide hbel).trans (b3.mono (unhide hbel).size)
          obtain ⟨k0', k1', k2', k3', _⟩ := ((unhide HK1).below hB3).cells
          obtain ⟨p3, q3, l3, rfl, hl3⟩ := m3.row.shape
          have hbs : hof.toNat - L.length - 1 = hof.toNat - (L.length + 1) := by omega
          have hnl : w1.heap.size < w3.heap.size := World.block_lt_of_cell? w3 _ k0'
          have hn3 : ¬ w3.heap.size = w1.heap.size := by omega
          have hn3' : ¬ w1.heap.size = w3.heap.size := by omega
          clear hl3 k0 k1 k2 k3 y0 y1 y2 y3 y4 y5 y6 y7 y8 y9 y10 y11 hXr HC hv1 hv2
          by_cases hE2 : E2 = 0
          · subst hE2
            have HBX : Hid (Below w.heap.size w (w3.alloc (.cells #[.int .u64 (fa : Int), .int .u64 (ff : Int), .int .i64 fo, .slice p3 l3 q3] 91))) := by
              have h1 := (unhide HBW).trans (hB3.mono (unhide HBW).size)
              exact h1.alloc h1.size _
            by_cases hdif : ff ≠ hfi ∨ fa ≠ ha ∨ fo ≠ hof
            · have hRv := unhide HSC
              rw [if_neg (by simp), if_pos hdif] at hRv
              have HRV := hide hRv
              clear hRv HSC hF3 hB3 m3 b3 hok2 hbs hL32 htI hlt
              by_cases t1 : ff = hfi
              · subst t1
                by_cases t2 : fa = ha
                · subst t2
                  have t3 : ¬ fo = hof := by intro e; subst e; rcases hdif with h | h | h <;> exact h rfl
                  have t3' : (fo == hof) = false := by rw [beq_eq_false_iff_ne]; exact t3
                  clear hdif
                  go_wp2_with fail
                  go_ret2
                  exact ⟨_, [], by rw [unhide HRV]; rfl, FOwn.nil _ _, by rw [unhide HRV]; rfl, unhide HBX⟩
                · have t2' : ((fa : Int) == (ha : Int)) = false := by rw [beq_eq_false_iff_ne]; omega
                  clear hdif
                  go_wp2_with fail
                  go_ret2
                  exact ⟨_, [], by rw [unhide HRV]; rfl, FOwn.nil _ _, by rw [unhide HRV]; rfl, unhide HBX⟩
              · have t1' : ((ff : Int) == (hfi : Int)) = false := by rw [beq_eq_false_iff_ne]; omega
                clear hdif
                go_wp2_with fail
                go_ret2
                exact ⟨_, [], by rw [unhide HRV]; rfl, FOwn.nil _ _, by rw [unhide HRV]; rfl, unhide HBX⟩
            · have hRv := unhide HSC
              rw [if_neg (by simp), if_neg hdif] at hRv
              have t1 : ff = hfi := Decidable.byContradiction fun h => hdif (Or.inl h)
              have t2 : fa = ha := Decidable.byContradiction fun h => hdif (Or.inr (Or.inl h))
              have t3 : fo = hof := Decidable.byContradiction fun h => hdif (Or.inr (Or.inr h))
              subst t1 t2 t3
              rw [hbs] at hRv
              have HRV := hide hRv
              obtain ⟨W4, hW4⟩ : ∃ W4, W4 = w3.alloc (.cells #[.int .u64 (fa : Int), .int .u64 (ff : Int), .int .i64 fo, .slice p3 l3 q3] 91) := ⟨_, rfl⟩
              obtain ⟨W5, hW5⟩ : ∃ W5, W5 = W4.alloc (.cells #[.int .u64 (fa : Int), .int .u64 (ff : Int), .int .i64 fo, .slice p3 l3 q3] 91) := ⟨_, rfl⟩
              have hb34 : Below w3.heap.size w3 W4 := by rw [hW4]; exact (Below.refl _ _).alloc (Nat.le_refl _) _
              have hb45 : Below W4.heap.size W4 W5 := by rw [hW5]; exact (Below.refl _ _).alloc (Nat.le_refl _) _
              have hb35 : Below w3.heap.size w3 W5 := hb34.trans (hb45.mono hb34.size)
              have hs4 : W4.heap.size = w3.heap.size + 1 := by rw [hW4]; simp
              have h4 : At4 W5 W4.heap.size 0 (.int .u64 (fa : Int)) (.int .u64 (ff : Int)) (.int .i64 fo) (.slice p3 l3 q3) := by rw [hW5]; exact at4_new _ _ _ _ _ _
              have hF5 := hF3.below hb35
              have hB5 : Below W1.heap.size W1 W5 := hB3.trans (hb35.mono hB3.size)
              have hap : ∀ b off n c, Value.slice p3 l3 q3 = .slice (some ⟨b, off, none⟩) n c → fd ≠ [] → (Value.slice vp L.length vc).ownBlock ≠ some b := by
                intro b off n c e hne hb
                have h1 := ((unhide hF).1.lt b hb).2
                rcases m3.2 with h0 | ⟨g, off', cap, e', cur, ht, hg, _⟩
                · exact hne h0
                · rw [ht] at e
                  simp only [Value.slice.injEq, Option.some.injEq, Addr.mk.injEq, and_true] at e
                  omega
              have HMORE := hide (fun v' w5 => hF3.more (v' := v') (w2 := w5) (m := [((⟨fa, ff, fo, fd⟩ : Fr), .slice p3 l3 q3)]) hb35 (fun p hp => by
                simp only [List.mem_singleton] at hp
                subst hp
                exact ⟨hok2, m3.row, hap⟩))
              have HW4 := hide hW4
              have HW5 := hide hW5
              have HS4 := hide hs4
              have HOWN := hide hF5.1
              have HB5 := hide hB5
              have hszW := hB5.size
              have HLTB := hide (fun j hj => (hF5.1.lt j hj).1)
              clear hRv HSC hF3 hB3 m3 b3 hok2 hbs hdif hW4 hW5 hb34 hb45 hb35 hs4 hF5 hB5 hap
              go_wp2_with (at_builtin; rw [← unhide HW4, ← unhide HW5, ← unhide HS4]; refine wpList_append_gen rfl _ _ 89 rfl W1.heap.size 91 i0 _ Try.underlying89 hi hz0 4 48 (by omega) hz1 hz2 rfl (.slice vp L.length vc) L.length (cellsL L) rfl (unhide HOWN) ⟨W4.heap.size, 0, none⟩ 1 1 (cellsL [((⟨fa, ff, fo, fd⟩ : Fr), .slice p3 l3 q3)]) rfl rfl ?c1 ?c2 ?c3 ?c4 hszW ?_)
              case c1 =>
                intro j u hj
                obtain ⟨a0, a1, a2, a3⟩ := h4
                match j, hj with
                | 0, hj => simp [cellsL, frC] at hj; subst hj; simpa [Addr.add] using a0
                | 1, hj => simp [cellsL, frC] at hj; subst hj; simpa [Addr.add] using a1
                | 2, hj => simp [cellsL, frC] at hj; subst hj; simpa [Addr.add] using a2
                | 3, hj => simp [cellsL, frC] at hj; subst hj; simpa [Addr.add] using a3
                | j + 4, hj => simp [cellsL, frC] at hj
              case c2 => exact oneCell_L _ (fun p hp => by simp only [List.mem_singleton] at hp; subst hp; exact ⟨_, _, _, rfl⟩)
              case c3 => unfold maxLen; omega
              case c4 => omega
              intro v' w6 hown6 hgrow hvb
              have hF6 := unhide HMORE v' w6 hown6 hgrow hvb
              have HF6 := hide hF6
              have HB6 := hide ((unhide HB5).grown hgrow hszW (fun j hj => unhide HLTB j hj))
              obtain ⟨vp6, vc6, hve6, _, _, _⟩ := hF6.fl.shape
              subst hve6
              clear hown6 hgrow hvb hF6 HMORE HOWN HB5 HLTB h4
              go_wp2
              go_roundw
              case rel => exact ⟨_, unhide HF6, by simp, by simp; omega, by unfold Hid; rw [unhide HRV, frs_append]; simp [frs, Nat.add_assoc], unhide HB6⟩
              case measure => simp [sliceLen]; omega
          · have hRv := unhide HSC
            rw [if_pos hE2] at hRv
            have hE' : (E2 == 0) = false := by rw [beq_eq_false_iff_ne]; exact hE2
            have HBX : Hid (Below w.heap.size w (w3.alloc (.cells #[.int .u64 (fa : Int), .int .u64 (ff : Int), .int .i64 fo, .slice p3 l3 q3] 91))) := by
              have h1 := (unhide HBW).trans (hB3.mono (unhide HBW).size)
              exact h1.alloc h1.size _
            have HRV := hide hRv
            clear hRv HSC hE2 hF3 hB3 m3 b3 hok2 hbs hL32 htI hlt
            go_wp2_with fail
            go_ret2
            exact ⟨_, [], by rw [unhide HRV]; rfl, FOwn.nil _ _, by rw [unhide HRV]; rfl, unhide HBX⟩
        · have hRv := unhide hsc
          rw [show hof.toNat - L.length = 0 by omega] at hRv
          have HRV : Hid (Res = (frs L, 0)) := hRv
          have HFE := hide ((unhide hF).base (base' := w.heap.size) (unhide HBW).size)
          have HBE := hide ((unhide HBW).trans ((unhide hbel).mono (unhide HBW).size))
          clear hRv hsc y0 y1 y2 y3 y4 y5 y6 y7 y8 y9 y10 y11 hXr
          go_wp2_with fail
          go_ret2
          exact ⟨_, by rw [unhide HRV]; rfl, L, unhide HFE, by rw [unhide HRV], unhide HBE⟩
  · have hRv := unhide HRES1
    rw [if_pos hE] at hRv
    have HEND : Hid (∃ v l, Ending.returned (.tuple #[.slice none 0 0, .int .i64 E]) = .returned (.tuple #[v, .int .i64 Res.2]) ∧ FOwn W1 w.heap.size v l ∧ frs l = Res.1 ∧ Below w.heap.size w W1) := by
      unfold Hid
      rw [hRv]
      exact ⟨_, [], rfl, FOwn.nil _ _, rfl, unhide HBW⟩
    have hE' : (E == 0) = false := by rw [beq_eq_false_iff_ne]; exact hE
    clear hRv HRES1 hok1 hmay1 HFR HOK HMAY hE
    go_wp2_with fail
    rw [← unhide HW1]
    go_ret2
    exact unhide HEND
end Go.Proofs.Ytdpoiieblbmofaa
