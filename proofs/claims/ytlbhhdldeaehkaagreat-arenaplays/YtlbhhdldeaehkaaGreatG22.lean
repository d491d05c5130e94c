/- Texts of ours, one behind the other: ArMake, ThThr, ThWays, ThMoves. -/
import Derived.Test.YtlbhhdldeaehkaaGreatG1
import Derived.Test.YtlbhhdldeaehkaaGreatG6
import Derived.Test.YtlbhhdldeaehkaaGreatG19
import Derived.Test.YtlbhhdldeaehkaaGreatG20
import Derived.Test.YtlbhhdldeaehkaaGreatG21
import Derived.Laws.EntriesVeiled
/- Package arena as landed: Make. -/
namespace Go.Proofs.YtlbhhdldeaehkaaGreat
open Go.RowKit

def makeP (n : Nat) (ws : List Int) (x : Ob) : (Int × Int) × List Int := if goodO x ∧ x.2.1.all (mayB ws) = true then (if ws.length + (1 + x.2.1.length + x.2.2.length) ≤ n then (((ws.length : Int), 0), addW ws x) else ((0, 3), ws)) else ((0, 1), ws)
theorem mayB_all {ws ps : List Int} (h : ps.all (mayB ws) = true) : ∀ p ∈ ps, p = 0 ∨ isOb ws p := fun p hp => by
  have := List.all_eq_true.1 h p hp
  unfold mayB at this
  simpa using this

theorem amake_nil (k : Int) (s d : Value) (w : World) : Calls Tryz.prog 8 #[.pointer none, .int .i64 k, s, d] w fun e w' => e = .returned (.tuple #[.int .i64 0, .int .i64 2]) ∧ w' = w := by
  have HN := hide (anone_nil w)
  go_enter Tryz.func8, Tryz.ntmps8
  go_wp2_with fail
  refine Calls.mono (unhide HN) ?_
  rintro e w1 ⟨rfl, rfl⟩
  go_wp2_with fail
  go_ret2
  exact ⟨rfl, rfl⟩

set_option maxRecDepth 20000 in
set_option maxHeartbeats 4000000 in
theorem amake_any (F : Nat → Prop) (w : World) (g n : Nat) (ws rs ps ds : List Int) (kd : Int) (s d : Value) (hA : AR F w g n ws rs) (hs : VRow w s (Iw ps)) (hd : VRow w d (Uw ds)) (hU : U32 ds) (hsf : ps ≠ [] → ∀ k, F k → s.ownBlock ≠ some k) (hdf : ds ≠ [] → ∀ k, F k → d.ownBlock ≠ some k)
    (hl1 : ps.length < 35184372088832) (hl2 : ds.length < 70368744177664) :
    Calls Tryz.prog 8 #[.pointer (some ⟨g, 0, none⟩), .int .i64 kd, s, d] w fun e w' => e = .returned (.tuple #[.int .i64 (makeP n ws (kd, ps, ds)).1.1, .int .i64 (makeP n ws (kd, ps, ds)).1.2]) ∧ ∃ F', AR F' w' g n (makeP n ws (kd, ps, ds)).2 rs ∧ Moves F F' w w' := by
  have HA := hide hA
  obtain ⟨gh, wv, hv, rv, h, hF⟩ := hA
  have HN := hide (anone_no w g gh wv hv rv n ws rs h)
  have HALL := hide (aallmay_any w g gh wv hv rv s n ws rs ps h hs hl1)
  have HUS := hide (aused_any · g gh wv hv rv n ws rs)
  obtain ⟨c0, c1, c2, _⟩ := three_cells h.blk
  obtain ⟨a1, cap1, rfl, _, _, _⟩ := hs.shape
  obtain ⟨a2, cap2, rfl, _, _, _⟩ := hd.shape
  have hlp : (Iw ps).length = ps.length := by simp
  have hld : (Uw ds).length = ds.length := by simp
  rw [hlp] at hs hsf HALL ⊢
  rw [hld] at hd hdf ⊢
  have e1 : IntKind.i64.wrap (1 + (ps.length : Int)) = 1 + (ps.length : Int) := by rw [IntKind.wrap_i64]; omega
  have e2 : IntKind.i64.wrap (1 + (ps.length : Int) + (ds.length : Int)) = 1 + (ps.length : Int) + (ds.length : Int) := by rw [IntKind.wrap_i64]; omega
  unfold makeP
  by_cases hg : goodO (kd, ps, ds)
  · obtain ⟨g1, g2, g3, g4⟩ := hg
    dsimp only at g1 g2 g3 g4
    have HHD := hide (fun w => chead_t (1 + (ps.length : Int) + (ds.length : Int)) (ps.length : Int) kd w (by omega) (by omega) g2 g3 (by omega) (by omega))
    have hx : goodO (kd, ps, ds) := ⟨g1, g2, g3, g4⟩
    obtain ⟨p1, p2, p3, p4, p5⟩ := hdO_parts hx
    have hhd : (1 + (ps.length : Int) + (ds.length : Int)) * 4096 + (ps.length : Int) * 16 + kd = hdO (kd, ps, ds) := rfl
    rw [hhd] at HHD
    cases hall : ps.all (mayB ws) with
    | false =>
      rw [if_neg (fun hh => by cases hh.2)]
      rw [hall] at HALL
      generalize hdO (kd, ps, ds) = H at *
      generalize ps.length = p at *
      generalize ds.length = q at *
      clear h hF hs hd hU hsf hdf hl1 hl2 hlp hld g1 g2 g3 g4 hx hall p1 p2 p3 p4 p5 hhd HUS
      go_enter Tryz.func8, Tryz.ntmps8
      go_wp2_with fail
      refine Calls.mono (unhide HN) ?_
      rintro e w1 ⟨rfl, rfl⟩
      go_wp2_with fail
      refine Calls.mono (unhide HHD _) ?_
      rintro e w1 ⟨rfl, rfl⟩
      go_wp2_with fail
      refine Calls.mono (unhide HALL) ?_
      rintro e w1 ⟨rfl, rfl⟩
      go_wp2_with fail
      go_ret2
      exact ⟨rfl, F, unhide HA, Moves.refl _ _⟩
    | true =>
      rw [if_pos ⟨hx, rfl⟩]
      rw [hall] at HALL
      have hpt := mayB_all hall
      obtain ⟨d0, d1, d2, _⟩ := three_cells h.hblk
      obtain ⟨pw, cw, rfl⟩ := ownsV_shape h.wown
      have hmx : Tryz.prog.follows .mixedOrders = true := by kernel_rfl
      have HUS2 := hide (unhide HUS w.drew (h.below ((Below.refl _ w).drew)))
      have hn1 := h.ok.hi
      have hn2 := h.ok.fit
      have e3 : IntKind.i64.wrap ((n : Int) - (ws.length : Int)) = (n : Int) - (ws.length : Int) := by rw [IntKind.wrap_i64]; omega
      dsimp only
      by_cases hf : ws.length + (1 + ps.length + ds.length) ≤ n
      · rw [if_pos hf]
        have hle : 1 + (ps.length : Int) + (ds.length : Int) ≤ (n : Int) - (ws.length : Int) := by omega
        have hHA := (HAt.of h).below ((Below.refl _ w).drew)
        have HADD := hide (aadd_any w.drew gh _ hv rv _ _ ws ps ds rs _ (hdO (kd, ps, ds)) hHA (hs.below ((Below.refl _ w).drew)) (hd.below ((Below.refl _ w).drew)) (fun hne k hk => hsf hne k ((hF k).2 (by rcases hk with hk | hk | hk; exact Or.inr (Or.inl hk); exact Or.inr (Or.inr (Or.inl hk)); exact Or.inr (Or.inr (Or.inr (Or.inl hk)))))) (fun hne k hk => hdf hne k ((hF k).2 (by rcases hk with hk | hk | hk; exact Or.inr (Or.inl hk); exact Or.inr (Or.inr (Or.inl hk)); exact Or.inr (Or.inr (Or.inr (Or.inl hk)))))) (by omega) (by rw [marks_length]) h.ok.pos ⟨p1, p2⟩)
        have HOK := hide (h.ok.add hx hpt hU hf)
        have HMK := hide (marks_add (ws := ws) hx h.ok.ends)
        have HWE := hide (show ws ++ hdO (kd, ps, ds) :: (w32 ps ++ ds) = addW ws (kd, ps, ds) by unfold addW; rw [wrdO_good hx])
        have HH := hide h
        have HFF := hide hF
        generalize hdO (kd, ps, ds) = H at *
        generalize hpl : ps.length = p at *
        generalize hql : ds.length = q at *
        generalize hml : ws.length = m at *
        clear h hF hs hd hU hsf hdf hl1 hl2 hlp hld g1 g2 g3 g4 hx hall p1 p2 p3 p4 p5 hhd hpt hHA hf hn1 hn2 hpl hql hml
        go_enter Tryz.func8, Tryz.ntmps8
        go_wp2_with fail
        refine Calls.mono (unhide HN) ?_
        rintro e w1 ⟨rfl, rfl⟩
        go_wp2_with fail
        refine Calls.mono (unhide HHD _) ?_
        rintro e w1 ⟨rfl, rfl⟩
        go_wp2_with fail
        refine Calls.mono (unhide HALL) ?_
        rintro e w1 ⟨rfl, rfl⟩
        go_wp2_with fail
        refine wp_region_still_lit hmx (by kernel_rfl) ?_
        repeat (first | still_step | still_call (unhide HUS2))
        refine wpStill_nil ?_
        go_wp2_with fail
        refine Calls.mono (unhide HADD) ?_
        rintro e w2 ⟨rfl, wv', hv', hA2, hM2⟩
        have HFIN := hide (And.intro hA2 hM2)
        clear hA2 hM2
        go_wp2_with fail
        go_ret2
        obtain ⟨hA2, hM2⟩ := unhide HFIN
        rw [unhide HWE, unhide HMK] at hA2
        have h := unhide HH
        have hF := unhide HFF
        have hk2 := (Keep.of_below (F := HF gh (.slice pw m cw) hv) ((Below.refl _ w1).drew)).trans hM2.keep (fun x hx => Or.inl hx)
        have hgn : ¬ HF gh (.slice pw m cw) hv g := fun hh => by
          rcases hh with hh | hh | hh
          · exact blk_unlike h.blk h.hblk (by decide) hh
          · exact own_type h.wown h.blk (by decide) hh
          · exact own_type h.hown h.blk (by decide) hh
        have hblk := (hk2.block g (Array.getElem?_eq_some_iff.1 h.blk).1 hgn).trans h.blk
        refine ⟨rfl, AF g gh wv' hv' rv, ⟨gh, wv', hv', rv, ⟨hblk, hA2.hblk, hA2.wown, ?_, hA2.rown, unhide HOK⟩, fun _ => Iff.rfl⟩, hk2.weak (fun x hx => (hF x).2 ?_), fun x hx => ?_⟩
        · have := hA2.hown
          rw [marks_length] at this
          exact this
        · rcases hx with hx | hx | hx
          · exact Or.inr (Or.inl hx)
          · exact Or.inr (Or.inr (Or.inl hx))
          · exact Or.inr (Or.inr (Or.inr (Or.inl hx)))
        · have hsub : ∀ y, HF gh wv' hv' y → F y ∨ w1.heap.size ≤ y := fun y hy => by
            rcases hM2.sub y hy with hh | hh
            · refine Or.inl ((hF y).2 ?_)
              rcases hh with hh | hh | hh
              · exact Or.inr (Or.inl hh)
              · exact Or.inr (Or.inr (Or.inl hh))
              · exact Or.inr (Or.inr (Or.inr (Or.inl hh)))
            · exact Or.inr hh
          rcases hx with hx | hx | hx | hx | hx
          · exact Or.inl ((hF x).2 (Or.inl hx))
          · exact hsub x (Or.inl hx)
          · exact hsub x (Or.inr (Or.inl hx))
          · exact hsub x (Or.inr (Or.inr hx))
          · exact Or.inl ((hF x).2 (Or.inr (Or.inr (Or.inr (Or.inr hx)))))
      · rw [if_neg hf]
        have hle : (n : Int) - (ws.length : Int) < 1 + (ps.length : Int) + (ds.length : Int) := by omega
        have HAD := hide ((unhide HA).below ((Below.refl _ w).drew))
        generalize hdO (kd, ps, ds) = H at *
        generalize hpl : ps.length = p at *
        generalize hql : ds.length = q at *
        generalize hml : ws.length = m at *
        clear h hF hs hd hU hsf hdf hl1 hl2 hlp hld g1 g2 g3 g4 hx hall p1 p2 p3 p4 p5 hhd hpt hf hn1 hn2 hpl hql hml
        go_enter Tryz.func8, Tryz.ntmps8
        go_wp2_with fail
        refine Calls.mono (unhide HN) ?_
        rintro e w1 ⟨rfl, rfl⟩
        go_wp2_with fail
        refine Calls.mono (unhide HHD _) ?_
        rintro e w1 ⟨rfl, rfl⟩
        go_wp2_with fail
        refine Calls.mono (unhide HALL) ?_
        rintro e w1 ⟨rfl, rfl⟩
        go_wp2_with fail
        refine wp_region_still_lit hmx (by kernel_rfl) ?_
        repeat (first | still_step | still_call (unhide HUS2))
        refine wpStill_nil ?_
        go_wp2_with fail
        go_ret2
        exact ⟨rfl, F, unhide HAD, Moves.of_below ((Below.refl _ _).drew)⟩
  · rw [if_neg (fun hh => hg hh.1)]
    have HHD := hide (fun w => chead_f (1 + (ps.length : Int) + (ds.length : Int)) (ps.length : Int) kd w (fun hh => hg ⟨by dsimp only; omega, by dsimp only; omega, by dsimp only; omega, by dsimp only; omega⟩))
    generalize ps.length = p at *
    generalize ds.length = q at *
    clear h hF hs hd hU hsf hdf hl1 hl2 hlp hld hg HUS HALL
    go_enter Tryz.func8, Tryz.ntmps8
    go_wp2_with fail
    refine Calls.mono (unhide HN) ?_
    rintro e w1 ⟨rfl, rfl⟩
    go_wp2_with fail
    refine Calls.mono (unhide HHD _) ?_
    rintro e w1 ⟨rfl, rfl⟩
    go_wp2_with fail
    go_ret2
    exact ⟨rfl, F, unhide HA, Moves.refl _ _⟩
end Go.Proofs.YtlbhhdldeaehkaaGreat

/- The landed package thread: through. -/
namespace Go.Proofs.YtlbhhdldeaehkaaGreat
open Go.RowKit

set_option maxRecDepth 20000 in
set_option maxHeartbeats 2000000 in
theorem lthrough_any (F1 F2 g gs N : Nat) (mv : Value) (L0 : List Int) (PL : List (Int × Int)) (I J : Nat → List Int → Prop) (w : World)
    (e1 : ∀ args w, (callFunc F1 args).run Tryz.prog w = .ok (.enter F1 args) w) (e2 : ∀ args w, (callFunc F2 args).run Tryz.prog w = .ok (.enter F2 args) w)
    (h1 : ∀ k L w, (hk : k < PL.length) → I k L → LmAt w g L → Calls Tryz.prog F1 #[.slice (some ⟨g, 0, none⟩) N N, .agg #[.int .i64 PL[k].1, .int .i64 PL[k].2]] w fun e w' => e = .returned (.tuple #[]) ∧ ∃ L', J k L' ∧ LmAt w' g L' ∧ Keep (fun k => k = g) w w')
    (h2 : ∀ k L w, (hk : k < PL.length) → J k L → LmAt w g L → Calls Tryz.prog F2 #[.slice (some ⟨g, 0, none⟩) N N, .agg #[.int .i64 PL[k].1, .int .i64 PL[k].2]] w fun e w' => e = .returned (.tuple #[]) ∧ ∃ L', I (k + 1) L' ∧ LmAt w' g L' ∧ Keep (fun k => k = g) w w')
    (hA : LmAt w g L0) (h0 : I 0 L0) (hm : PR w mv PL) (hmg : ∀ b, mv.ownBlock = some b → b ≠ g) (hl : PL.length ≤ 1048576) (hs : w.heap[gs]? = some (.cells #[.func (.func F1) #[] #[], .func (.func F2) #[] #[]] 126 (0, 0))) (hsg : gs ≠ g) :
    Calls Tryz.prog 55 #[.slice (some ⟨g, 0, none⟩) N N, mv, .slice (some ⟨gs, 0, none⟩) 2 2] w fun e w' => e = .returned (.tuple #[]) ∧ ∃ L', I PL.length L' ∧ LmAt w' g L' ∧ Keep (fun k => k = g) w w' := by
  have H0 := hide (And.intro h0 hA)
  have H1 := hide h1
  have H2 := hide h2
  obtain ⟨s0, s1⟩ := tw_cells hs
  have HS := hide (fun wr (hk : Keep (fun k => k = g) w wr) => And.intro ((hk.cell (p := ⟨gs, 0, none⟩) (World.block_lt_of_cell? _ _ s0) hsg).trans s0) ((hk.cell (p := ⟨gs, 1, none⟩) (World.block_lt_of_cell? _ _ s1) hsg).trans s1))
  have HM := hide hm
  have HMG := hide hmg
  have HL := hide hl
  obtain ⟨a, cap, rfl, g1, g2⟩ := hm.shape
  obtain ⟨n, hn⟩ : ∃ n, n = PL.length := ⟨_, rfl⟩
  have HN := hide hn
  have hGS := hA.size
  have HGS := hide hGS
  rw [← hn] at HM HMG HL ⊢
  clear h1 h2 hA h0 hm hmg hl hs s0 s1 g1 g2 hn hGS
  go_enter Tryz.func55, Tryz.ntmps55
  go_wp2_with fail
  go_loopw [12] (fun i wr => ∃ k : Nat, i = .int .i64 (k : Int) ∧ k ≤ n ∧ Hid (∃ L, I k L ∧ LmAt wr g L ∧ Keep (fun k => k = g) w wr)) (fun i _ => n - (intOf i).toNat)
  case atStart => exact ⟨0, rfl, Nat.zero_le _, L0, (unhide H0).1, (unhide H0).2, Keep.refl _ _⟩
  case round =>
    obtain ⟨k, rfl, hk, hst⟩ := hrel
    have hkw : IntKind.i64.wrap ((k : Int) + 1) = (k : Int) + 1 := by have := unhide HL; rw [IntKind.wrap_i64]; omega
    by_cases hlt : k < n
    · have hkI : (k : Int) < (n : Int) := by omega
      obtain ⟨L, x1, x2, x3⟩ := unhide hst
      have hkP : k < PL.length := by have := unhide HN; omega
      obtain ⟨b, off, cap', e0, hc⟩ := (unhide HM).open (by omega)
      simp only [Value.slice.injEq] at e0
      obtain ⟨rfl, e9, rfl⟩ := e0
      clear e9
      obtain ⟨c0, c1⟩ := hc k hkP
      have hbg := unhide HMG b rfl
      have d0 := (x3.cell (p := ⟨b, off + k * 2, none⟩) (World.block_lt_of_cell? _ _ c0) hbg).trans c0
      have d1 := (x3.cell (p := ⟨b, off + k * 2 + 1, none⟩) (World.block_lt_of_cell? _ _ c1) hbg).trans c1
      have HC1 := hide (fun L w => unhide H1 k L w hkP)
      have HC2 := hide (fun L w => unhide H2 k L w hkP)
      generalize PL[k].1 = px at *
      generalize PL[k].2 = py at *
      clear c0 c1 hc
      have HST := hide (And.intro x1 (And.intro x2 x3))
      have HLT := hide hlt
      clear x1 x2 x3 hst hlt hbg
      go_wp2_with fail
      obtain ⟨W7, hW7⟩ : ∃ W7, W7 = wr.alloc (.cells #[.int .i64 px, .int .i64 py] 123) := ⟨_, rfl⟩
      have hb7 := World.alloc_heap_new wr (.cells #[.int .i64 px, .int .i64 py] 123)
      have hk7 : Keep (fun k => k = g) wr W7 := by rw [hW7]; exact Keep.of_below ((Below.refl _ _).alloc (Nat.le_refl _) _)
      rw [← hW7] at hb7 ⊢
      obtain ⟨v0, v1⟩ := tw_cells hb7
      obtain ⟨b7, hb⟩ : ∃ b7, b7 = wr.heap.size := ⟨_, rfl⟩
      rw [← hb] at v0 v1 ⊢
      have HST7 : Hid (∃ L, I k L ∧ LmAt W7 g L ∧ Keep (fun k => k = g) w W7) := by
        obtain ⟨x1, x2, x3⟩ := unhide HST
        exact ⟨L, x1, by rw [hW7]; exact x2.below ((Below.refl _ _).alloc (Nat.le_refl _) _) x2.size, x3.trans hk7 (fun _ h => Or.inl h)⟩
      have HV := hide (fun wz (hz : Keep (fun k => k = g) W7 wz) => (show wz.cell? ⟨b7, 0, none⟩ = some (.int .i64 px) ∧ wz.cell? ⟨b7, 1, none⟩ = some (.int .i64 py) from by
        have hne : ¬ b7 = g := by
          obtain ⟨x1, x2, x3⟩ := unhide HST
          have := x2.size
          omega
        exact ⟨(hz.cell (p := ⟨b7, 0, none⟩) (World.block_lt_of_cell? _ _ v0) hne).trans v0, (hz.cell (p := ⟨b7, 1, none⟩) (World.block_lt_of_cell? _ _ v1) hne).trans v1⟩))
      clear hb7 hk7 v0 v1 hW7 hb d0 d1 HST
      go_loopw [18] (fun i wz => ∃ j : Int, i = .int .i64 j ∧ 0 ≤ j ∧ j ≤ 2 ∧ Hid (Keep (fun k => k = g) W7 wz ∧ ∃ L, (if j = 0 then I k L else if j = 1 then J k L else I (k + 1) L) ∧ LmAt wz g L ∧ Keep (fun k => k = g) w wz)) (fun i _ => 2 - (intOf i).toNat)
      case atStart => exact ⟨0, rfl, by omega, by omega, Keep.refl _ _, unhide HST7⟩
      case round =>
        obtain ⟨j, rfl, hj0, hj, hjs⟩ := hrel
        rename World => wz
        obtain ⟨y0, L', y1, y2, y3⟩ := unhide hjs
        obtain ⟨d0, d1⟩ := unhide HV wz y0
        obtain ⟨f0, f1⟩ := unhide HS wz y3
        obtain rfl | rfl | rfl : j = 0 ∨ j = 1 ∨ j = 2 := by omega
        · have HY := hide (unhide HC1 L' wz y1 y2)
          have HK := hide (And.intro y0 y3)
          clear y0 y1 y2 y3 hjs
          go_wp2_with fail
          refine Calls.mono (unhide HY) ?_
          rintro e wq ⟨rfl, L2, z1, z2, z3⟩
          have HF := hide (show Keep (fun k => k = g) W7 wq ∧ ∃ L, (if 1 = 0 then I k L else if 1 = 1 then J k L else I (k + 1) L) ∧ LmAt wq g L ∧ Keep (fun k => k = g) w wq from ⟨(unhide HK).1.trans z3 (fun _ h => Or.inl h), L2, z1, z2, (unhide HK).2.trans z3 (fun _ h => Or.inl h)⟩)
          clear z1 z2 z3 HY HK
          go_wp2_with fail
          go_roundw
          case rel => exact ⟨1, by go_num, by omega, by omega, unhide HF⟩
          case measure => simp [intOf]
        · have HY := hide (unhide HC2 L' wz y1 y2)
          have HK := hide (And.intro y0 y3)
          clear y0 y1 y2 y3 hjs
          go_wp2_with fail
          refine Calls.mono (unhide HY) ?_
          rintro e wq ⟨rfl, L2, z1, z2, z3⟩
          have HF := hide (show Keep (fun k => k = g) W7 wq ∧ ∃ L, (if 2 = 0 then I k L else if 2 = 1 then J k L else I (k + 1) L) ∧ LmAt wq g L ∧ Keep (fun k => k = g) w wq from ⟨(unhide HK).1.trans z3 (fun _ h => Or.inl h), L2, z1, z2, (unhide HK).2.trans z3 (fun _ h => Or.inl h)⟩)
          clear z1 z2 z3 HY HK
          go_wp2_with fail
          go_roundw
          case rel => exact ⟨2, by go_num, by omega, by omega, unhide HF⟩
          case measure => simp [intOf]
        · have HK := hide (show ∃ L, I (k + 1) L ∧ LmAt wz g L ∧ Keep (fun k => k = g) w wz from ⟨L', y1, y2, y3⟩)
          clear y0 y1 y2 y3 hjs
          go_wp2_with fail
          go_roundw
          case rel => exact ⟨k + 1, by go_num, by have := unhide HLT; omega, unhide HK⟩
          case measure => (have := unhide HLT; simp [intOf]; omega)
    · have hke : k = n := by omega
      subst hke
      have hge : ¬ (k : Int) < (k : Int) := by omega
      have HST := hide (unhide hst)
      clear hst hlt hk hkw
      go_wp2_with fail
      go_end0
      exact ⟨rfl, unhide HST⟩
end Go.Proofs.YtlbhhdldeaehkaaGreat

/- The landed package thread: both ways through. -/
namespace Go.Proofs.YtlbhhdldeaehkaaGreat
open Go.RowKit

theorem ent_untie (args : Array Value) (w : World) : (callFunc 54 args).run Tryz.prog w = .ok (.enter 54 args) w := by kernel_rfl
theorem ent_tie (args : Array Value) (w : World) : (callFunc 56 args).run Tryz.prog w = .ok (.enter 56 args) w := by kernel_rfl
theorem ent_slide (args : Array Value) (w : World) : (callFunc 57 args).run Tryz.prog w = .ok (.enter 57 args) w := by kernel_rfl

theorem liv_count {ws rs l : List Int} (h : Rts ws rs l) : l.length ≤ 1048576 := Nat.le_trans (obs_count ws l (h.rise.imp fun {a b} h => by omega) h.ob) h.most
theorem pl_get {ws l : List Int} {k : Nat} (hk : k < (l.map fun a => (a, toA ws l a)).length) : ∃ hk2 : k < l.length, (l.map fun a => (a, toA ws l a))[k].1 = l[k] ∧ (l.map fun a => (a, toA ws l a))[k].2 = toA ws l l[k] := by
  have hk2 : k < l.length := by simpa using hk
  exact ⟨hk2, by simp, by simp⟩

theorem through1_any (ws rs l : List Int) (g gs N : Nat) (mv : Value) (L0 : List Int) (w : World) (h : Rts ws rs l) (hN : N = ws.length + rs.length) (hA : LmAt w g L0) (h0 : I1 ws rs l 0 L0) (hm : PR w mv (l.map fun a => (a, toA ws l a))) (hmg : ∀ b, mv.ownBlock = some b → b ≠ g)
    (hs : w.heap[gs]? = some (.cells #[.func (.func 54) #[] #[], .func (.func 56) #[] #[]] 126 (0, 0))) (hsg : gs ≠ g) :
    Calls Tryz.prog 55 #[.slice (some ⟨g, 0, none⟩) N N, mv, .slice (some ⟨gs, 0, none⟩) 2 2] w fun e w' => e = .returned (.tuple #[]) ∧ ∃ L', I1 ws rs l l.length L' ∧ LmAt w' g L' ∧ Keep (fun k => k = g) w w' := by
  have hmo := h.most
  have hfw := h.few
  have := lthrough_any 54 56 g gs N mv L0 (l.map fun a => (a, toA ws l a)) (I1 ws rs l) (J1 ws rs l) w ent_untie ent_tie (fun k L w hk hI hL => ?_) (fun k L w hk hJ hL => ?_) hA h0 hm hmg (by rw [List.length_map]; exact liv_count h) hs hsg
  · rw [List.length_map] at this
    exact this
  · obtain ⟨hk2, p1, p2⟩ := pl_get hk
    rw [p1, p2]
    obtain ⟨hlen, th, t1, t2, t3, t4⟩ := i1_untie h hk2 hI
    have hl := h.lt (List.getElem_mem hk2)
    obtain ⟨a, ha⟩ : ∃ a : Nat, a = l[k].toNat := ⟨_, rfl⟩
    rw [← ha] at t3 t4 hl
    rw [← hl.2.2.2]
    rw [hl.2.2.2]
    have hh := h.u32.wd a
    have hc := luntie_any g a N (toA ws l l[k]) (hdA ws l[k]) th L w hL (by omega) (by omega) (by omega) (h.toLiv.to_bound _) (by unfold hdA; rw [← ha]; exact hh) (by rw [hN]; exact t2) t1 t3
    rw [hl.2.2.2] at hc
    exact hc.mono fun e w' he => ⟨he.1, _, t4, he.2⟩
  · obtain ⟨hk2, p1, p2⟩ := pl_get hk
    rw [p1, p2]
    obtain ⟨hlen, q1, q2, q3, q4⟩ := j1_tie h hk2 hJ
    have hl := h.lt (List.getElem_mem hk2)
    obtain ⟨a, ha⟩ : ∃ a : Nat, a = l[k].toNat := ⟨_, rfl⟩
    rw [← ha] at q1 q4 hl
    have hh := h.u32.wd a
    have hc := ltie_any ws rs (P1 ws rs l l[k]) g a N (toA ws l l[k]) (hdA ws l[k]) L w hL (by omega) q1 (by unfold hdA; rw [← ha]; exact hh) q2 (by unfold hdA; rw [← ha]; omega) (by omega) (by rw [hN]; exact q4)
    rw [hl.2.2.2] at hc
    exact hc.mono fun e w' he => ⟨he.1, by obtain ⟨L', x1, x2, x3⟩ := he.2; exact ⟨L', q3 L' x1, x2, x3⟩⟩

theorem through2_any (ws rs l : List Int) (g gs N : Nat) (mv : Value) (L0 : List Int) (w : World) (h : Rts ws rs l) (hN : N = ws.length + rs.length) (hA : LmAt w g L0) (h0 : I2 ws rs l 0 L0) (hm : PR w mv (l.map fun a => (a, toA ws l a))) (hmg : ∀ b, mv.ownBlock = some b → b ≠ g)
    (hs : w.heap[gs]? = some (.cells #[.func (.func 54) #[] #[], .func (.func 57) #[] #[]] 126 (0, 0))) (hsg : gs ≠ g) :
    Calls Tryz.prog 55 #[.slice (some ⟨g, 0, none⟩) N N, mv, .slice (some ⟨gs, 0, none⟩) 2 2] w fun e w' => e = .returned (.tuple #[]) ∧ ∃ L', I2 ws rs l l.length L' ∧ LmAt w' g L' ∧ Keep (fun k => k = g) w w' := by
  have hmo := h.most
  have hfw := h.few
  have := lthrough_any 54 57 g gs N mv L0 (l.map fun a => (a, toA ws l a)) (I2 ws rs l) (J2 ws rs l) w ent_untie ent_slide (fun k L w hk hI hL => ?_) (fun k L w hk hJ hL => ?_) hA h0 hm hmg (by rw [List.length_map]; exact liv_count h) hs hsg
  · rw [List.length_map] at this
    exact this
  · obtain ⟨hk2, p1, p2⟩ := pl_get hk
    rw [p1, p2]
    obtain ⟨hlen, th, t1, t2, t3, t4⟩ := i2_untie h hk2 hI
    have hl := h.lt (List.getElem_mem hk2)
    obtain ⟨a, ha⟩ : ∃ a : Nat, a = l[k].toNat := ⟨_, rfl⟩
    rw [← ha] at t3 t4 hl
    have hh := h.u32.wd a
    have hc := luntie_any g a N (toA ws l l[k]) (hdA ws l[k]) th L w hL (by omega) (by omega) (by omega) (h.toLiv.to_bound _) (by unfold hdA; rw [← ha]; exact hh) (by rw [hN]; exact t2) t1 t3
    rw [hl.2.2.2] at hc
    exact hc.mono fun e w' he => ⟨he.1, _, t4, he.2⟩
  · obtain ⟨hk2, p1, p2⟩ := pl_get hk
    rw [p1, p2]
    obtain ⟨hlen, q1, q2⟩ := j2_slide h hk2 hJ
    have hm2 : l[k] ∈ l := List.getElem_mem hk2
    have hl := h.lt hm2
    have hto := h.toLiv.to hm2
    have hsz := h.toLiv.size hm2
    obtain ⟨a, ha⟩ : ∃ a : Nat, a = l[k].toNat := ⟨_, rfl⟩
    obtain ⟨t, ht⟩ : ∃ t : Nat, t = (toA ws l l[k]).toNat := ⟨_, rfl⟩
    have ht2 : ((t : Nat) : Int) = toA ws l l[k] := by omega
    have hszA : szA ws l[k] = szN (hdA ws l[k]) := rfl
    rw [← ha] at q1 q2 hl
    rw [← ht] at q2
    rw [hszA] at q2 hl hsz
    have hh := h.u32.wd a
    have hc := lslide_any g a t N (hdA ws l[k]) L w hL (by omega) q1 (by unfold hdA; rw [← ha]; exact hh) (by omega) hsz (by omega) (by omega)
    rw [hl.2.2.2, ht2] at hc
    exact hc.mono fun e w' he => ⟨he.1, _, q2, he.2⟩
end Go.Proofs.YtlbhhdldeaehkaaGreat

/- The landed package thread: moves. -/
namespace Go.Proofs.YtlbhhdldeaehkaaGreat
open Go.RowKit

theorem own_push' {w w2 : World} {base e n sz : Nat} {lv : Value} {o : Obj} {xs : List Value} (h : (w.alloc o).ownsRow base e sz lv n xs) (hb : base ≤ w.heap.size) (hg : (w.alloc o).grownBy w2 lv.ownBlock) : Below base w w2 := by
  have hs := hg.size
  rw [World.size_alloc] at hs
  exact ⟨hg.os, hg.tape, hg.output, by omega, fun k hk => (hg.block k (by rw [World.size_alloc]; omega) (fun e => by have := (h.lt k e.symm).1; omega)).trans (Below.heap_alloc _ _ k (by omega))⟩

set_option maxRecDepth 20000 in
set_option maxHeartbeats 4000000 in
theorem lmoves_any (s t : Value) (ws rs l : List Int) (w : World) (hs : VRow w s (Uw ws)) (ht : VRow w t (Iw l)) (h : Rts ws rs l) :
    Calls Tryz.prog 51 #[s, t] w fun e w' => ∃ v, e = .returned (.tuple #[v, .int .i64 ((1 + sums ws l : Nat) : Int)]) ∧ w'.ownsRow w.heap.size 123 2 v l.length (posC (l.map fun a => (a, toA ws l a))) ∧ Below w.heap.size w w' := by
  obtain ⟨i1, hi1, hy0, hy1, hy2⟩ := info_parts Tryz.infoPos
  have HV := hide h
  have HS := hide hs
  have HT := hide ht
  have HLL := hide (show l.length ≤ 1048576 from Nat.le_trans (obs_count ws l (h.rise.imp fun {a b} h => by omega) h.ob) h.most)
  obtain ⟨a1, cap1, rfl, g1, g2, g3⟩ := hs.shape
  obtain ⟨a2, cap2, rfl, k1, k2, k3⟩ := ht.shape
  have hlw : (Uw ws).length = ws.length := by simp
  have hlr : (Iw l).length = l.length := by simp
  rw [hlw] at HS ⊢
  rw [hlr] at HT ⊢
  clear hs ht h g1 g2 g3 k1 k2 k3 hlw hlr
  go_enter Tryz.func51, Tryz.ntmps51
  go_wp2_with fail
  go_loopw [6, 7, 12] (fun pv av iv wr => ∃ (k q : Nat) (pp : Option Addr) (pc : Nat), iv = .int .i64 (k : Int) ∧ av = .int .i64 (q : Int) ∧ pv = .slice pp k pc ∧ k ≤ l.length ∧ Hid (q = 1 + sums ws (l.take k)) ∧ Hid (wr.ownsRow w.heap.size 123 2 (.slice pp k pc) k (posC ((l.take k).map fun a => (a, toA ws l a)))) ∧ Hid (Below w.heap.size w wr)) (fun _ _ iv _ => l.length - (intOf iv).toNat)
  case atStart => exact ⟨0, 1, none, 0, rfl, rfl, rfl, Nat.zero_le _, rfl, World.ownsRow_nil _ _ _ _, Below.refl _ _⟩
  case round =>
    obtain ⟨k, q, pp, pc, rfl, rfl, rfl, hk, hq, hT, hbr⟩ := hrel
    have hkw : IntKind.i64.wrap ((k : Int) + 1) = (k : Int) + 1 := by have := unhide HLL; rw [IntKind.wrap_i64]; omega
    by_cases hlt : k < l.length
    · have hkI : (k : Int) < (l.length : Int) := by omega
      have hbw := unhide hbr
      obtain ⟨bt, ot, ct, e9, _, _, htl⟩ := (unhide HT).open (by intro e; have := congrArg List.length e; simp at this; rw [this] at hlt; simp at hlt)
      simp only [Value.slice.injEq, List.length_map] at e9
      obtain ⟨rfl, e8, rfl⟩ := e9
      have ht0 := htl k (.int .i64 l[k]) (by rw [List.getElem?_map, List.getElem?_eq_getElem hlt]; rfl)
      have hvv := unhide HV
      have hll := hvv.lt (List.getElem_mem hlt)
      obtain ⟨p, hp⟩ : ∃ p : Nat, (p : Int) = l[k] := ⟨_, hll.2.2.2⟩
      have htk := List.take_succ_eq_append_getElem hlt
      have hat : toA ws l l[k] = ((1 + sums ws (l.take k) : Nat) : Int) := hvv.toLiv.at (M := l.take k) (R := l.drop (k + 1)) (by rw [← List.drop_eq_getElem_cons hlt, List.take_append_drop])
      rw [← hp] at ht0 hll htk hat
      rw [Int.toNat_natCast] at hll
      have hpw : p < ws.length := by omega
      have hpI : (p : Int) < (ws.length : Int) := by omega
      obtain ⟨bk, off, cz, e5, _, _, hwl⟩ := (unhide HS).open (by intro e; have := congrArg List.length e; simp at this; rw [this] at hpw; simp at hpw)
      simp only [Value.slice.injEq, List.length_map] at e5
      obtain ⟨rfl, e6, rfl⟩ := e5
      have hw0 := hwl p _ (by rw [List.getElem?_map, wd_get hpw]; rfl)
      obtain ⟨u0, u1⟩ := hvv.u32.wd p
      have HSZ := hide (fun w => csize_t (wd ws p) w u0 u1)
      have hsA : wd ws p / 4096 = ((szA ws (p : Int) : Nat) : Int) := by unfold szA; rw [Int.toNat_natCast]; exact (szN_int u0).symm
      have hall := hvv.all hvv.pos
      have hsum : sums ws (l.take (k + 1)) = sums ws (l.take k) + szA ws (p : Int) := by rw [htk, sums_app]; simp [sums]
      have hsl : sums ws (l.take (k + 1)) ≤ sums ws l := by
        have : sums ws l = sums ws (l.take (k + 1)) + sums ws (l.drop (k + 1)) := by rw [← sums_app, List.take_append_drop]
        omega
      have hqq := unhide hq
      have hmo := hvv.most
      have hwr : IntKind.i64.wrap ((q : Int) + wd ws p / 4096) = ((q + szA ws (p : Int) : Nat) : Int) := by
        rw [hsA, IntKind.wrap_i64]; omega
      have HQ2 := hide (show q + szA ws (p : Int) = 1 + sums ws (l.take (k + 1)) by rw [hsum, hqq]; omega)
      have HPS := hide (show (l.take (k + 1)).map (fun a => (a, toA ws l a)) = ((l.take k).map fun a => (a, toA ws l a)) ++ [((p : Int), (q : Int))] by rw [htk, List.map_append, List.map_cons, List.map_nil, hat, hqq])
      have htw := (hbw.cell (World.block_lt_of_cell? _ _ ht0)).trans ht0
      have HCW := hide (fun (W : World) (hW : Below w.heap.size w W) => (hW.cell (World.block_lt_of_cell? _ _ hw0)).trans hw0)
      have HBW := hide hbw
      have HOX := hide (show (wr.alloc (.cells #[.int .i64 (p : Int), .int .i64 (q : Int)] 123)).ownsRow w.heap.size 123 2 (.slice pp k pc) k (posC ((l.take k).map fun a => (a, toA ws l a))) from ownsV_keep (F := fun _ => False) (unhide hT) (Keep.of_below ((Below.refl _ _).alloc (Nat.le_refl _) _)) (fun _ _ => id))
      have HGS := hide (show w.heap.size ≤ (wr.alloc (.cells #[.int .i64 (p : Int), .int .i64 (q : Int)] 123)).heap.size by rw [World.size_alloc]; have := hbw.size; omega)
      have HLT := hide hlt
      obtain ⟨PC, hPC⟩ : ∃ PC, PC = posC ((l.take k).map fun a => (a, toA ws l a)) := ⟨_, rfl⟩
      rw [← hPC] at HOX
      have HPC := hide hPC
      generalize wd ws p = x at *
      clear hbw e8 htl hvv hll hpw hp htk hat e6 hwl hw0 hall hsum hsl hqq hlt ht0 hbr hk hq hPC hsA hT hmo u0 u1
      go_wp2_with (first
        | (at_builtin; refine wpList_append_gen rfl _ _ 59 rfl w.heap.size 123 i1 (.agg #[.int .i64 0, .int .i64 0]) Tryz.underlying59 hi1 hy0 2 16 (by omega) hy1 hy2 rfl (.slice pp k pc) k PC rfl (unhide HOX) ⟨wr.heap.size, 0, none⟩ 1 1 [.int .i64 (p : Int), .int .i64 (q : Int)] rfl rfl cell_two (by intro u hu; simp at hu; rcases hu with rfl | rfl <;> rfl) (by have := unhide HLL; have := unhide HLT; unfold maxLen; omega) (by have := unhide HLL; have := unhide HLT; omega) (unhide HGS) ?_))
      intro v6 w6 hown6 hgrow6 hob6
      obtain ⟨p6, c6, rfl⟩ := ownsV_shape hown6
      have hb6 := (unhide HBW).trans (own_push' (unhide HOX) (by have := (unhide HBW).size; exact this) hgrow6)
      have HF := hide (show w6.ownsRow w.heap.size 123 2 (.slice p6 (k + 1) c6) (k + 1) (posC ((l.take (k + 1)).map fun a => (a, toA ws l a))) by rw [unhide HPS, posC_snoc, ← unhide HPC]; exact hown6)
      have HB6 := hide hb6
      have d0 := unhide HCW w6 hb6
      clear hown6 hgrow6 hob6 hb6
      go_wp2_with fail
      refine Calls.mono (unhide HSZ _) ?_
      rintro e w7 ⟨rfl, rfl⟩
      go_wp2_with fail
      go_roundw
      case rel => exact ⟨k + 1, _, p6, c6, by go_num, rfl, rfl, unhide HLT, unhide HQ2, unhide HF, unhide HB6⟩
      case measure => (have := unhide HLT; simp [intOf]; omega)
    · have hke : k = l.length := by omega
      have HF := hide (show wr.ownsRow w.heap.size 123 2 (.slice pp k pc) l.length (posC (l.map fun a => (a, toA ws l a))) ∧ Below w.heap.size w wr ∧ q = 1 + sums ws l by
        have h1 := unhide hT
        have h2 := unhide hq
        rw [hke, List.take_length] at h1 h2
        rw [hke]
        exact ⟨h1, unhide hbr, h2⟩)
      subst hke
      have hge : ¬ (l.length : Int) < (l.length : Int) := by omega
      clear hlt hk hkw hq hT hbr
      go_wp2_with fail
      go_ret2
      have hf := unhide HF
      rw [hf.2.2]
      exact ⟨_, rfl, hf.1, hf.2.1⟩
end Go.Proofs.YtlbhhdldeaehkaaGreat
