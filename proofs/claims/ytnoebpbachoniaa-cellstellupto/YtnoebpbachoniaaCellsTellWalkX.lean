/- The walk of the statement 'CellsTell'. -/
import Derived.Test.YtnoebpbachoniaaG14
import Derived.Test.YtnoebpbachoniaaG15
import Derived.Test.YtnoebpbachoniaaG19
import Derived.Test.YtnoebpbachoniaaG21
namespace Go.Proofs.Ytnoebpbachoniaa
open Go.RowKit

theorem Try.sizeI64 : (Try.prog.info? 3).map (·.size) = some 1 := by kernel_rfl
theorem two_objs (w : World) (a b c d e f : Value) (t : Nat) : ((w.alloc (.cells #[a, b, c] t)).alloc (.cells #[d, e, f] t)).heap[w.heap.size]? = some (.cells #[a, b, c] t (0, 0)) ∧ ((w.alloc (.cells #[a, b, c] t)).alloc (.cells #[d, e, f] t)).heap[w.heap.size + 1]? = some (.cells #[d, e, f] t (0, 0)) := by
  refine ⟨(Below.heap_alloc _ _ _ (by simp)).trans (World.alloc_heap_new w _), ?_⟩
  have := World.alloc_heap_new (w.alloc (.cells #[a, b, c] t)) (.cells #[d, e, f] t)
  rwa [World.size_alloc] at this
theorem hobject_any (kd : Int) (ps ds : List Int) (p d p' d' : Value) (w : World) (h1 : VRow w p (Iw ps)) (h2 : VRow w d (Uw ds)) (h3 : VRow w p' (Iw ps)) (h4 : VRow w d' (Uw ds)) :
    Calls Try.prog 25 #[.agg #[.int .i64 kd, p, d], .agg #[.int .i64 kd, p', d']] w fun e w' => e = .returned (.bool true) ∧ Below w.heap.size w w' := by
  have HP := hide (fun w' (hb : Below w.heap.size w w') => HInt.plain_any p p' ps w' (h1.below hb) (h3.below hb))
  have HD := hide (fun w' (hb : Below w.heap.size w w') => HU32.plain_any d d' ds w' (h2.below hb) (h4.below hb))
  obtain ⟨a1, c1, rfl, q1⟩ := h1.shape
  obtain ⟨a2, c2, rfl, q2⟩ := h2.shape
  obtain ⟨a3, c3, rfl, q3⟩ := h3.shape
  obtain ⟨a4, c4, rfl, q4⟩ := h4.shape
  have eU : (Uw ds).length = ds.length := List.length_map _
  have eI : (Iw ps).length = ps.length := List.length_map _
  rw [eI] at HP ⊢
  rw [eU] at HD ⊢
  have hb0 : Below w.heap.size w ((w.alloc (.cells #[.int .i64 kd, .slice a1 ps.length c1, .slice a2 ds.length c2] 39)).alloc (.cells #[.int .i64 kd, .slice a3 ps.length c3, .slice a4 ds.length c4] 39)) := ((Below.refl _ w).alloc (Nat.le_refl _) _).alloc (by simp) _
  have HB0 := hide hb0
  have HV := hide (two_objs w (.int .i64 kd) (.slice a1 ps.length c1) (.slice a2 ds.length c2) (.int .i64 kd) (.slice a3 ps.length c3) (.slice a4 ds.length c4) 39)
  clear h1 h2 h3 h4 q1 q2 q3 q4 eU eI hb0
  go_enter Try.func25, Try.ntmps25
  go_wp2_with fail
  refine Calls.mono (unhide HP _ (unhide HB0)) ?_
  rintro e w1 ⟨rfl, b1⟩
  have HB1 := hide ((unhide HB0).trans (b1.mono (unhide HB0).size))
  obtain ⟨e1, e2⟩ := unhide HV
  obtain ⟨_, _, x2, _⟩ := three_cells ((b1.block _ (Array.getElem?_eq_some_iff.1 e1).1).trans e1)
  obtain ⟨_, _, y2, _⟩ := three_cells ((b1.block _ (Array.getElem?_eq_some_iff.1 e2).1).trans e2)
  clear b1 e1 e2
  go_wp2_with fail
  refine Calls.mono (unhide HD w1 (unhide HB1)) ?_
  rintro e w2 ⟨rfl, b2⟩
  have HB2 := hide ((unhide HB1).trans (b2.mono (unhide HB1).size))
  clear b2
  go_wp2_with fail
  go_ret
  exact ⟨rfl, unhide HB2⟩

theorem atR_len {ws : List Int} {a kd er : Int} {ps ds : List Int} (h : atR ws a = (kd, ps, ds, er)) : ds.length ≤ ws.length := by
  unfold atR at h
  split at h
  · simp only [Prod.mk.injEq] at h
    rw [← h.2.2.1, dataO, List.length_take, List.length_drop]
    omega
  · simp only [Prod.mk.injEq] at h
    rw [← h.2.2.1]
    exact Nat.zero_le _
theorem u32_of {ws : List Int} (h : ∀ x ∈ ws, (Lit.int .u32 x).wf = true) : U32 ws := fun x hx => by
  have := bounds_u32 (h x hx)
  omega
theorem most_mod (x : Int) (n : Nat) (hn : n ≤ 1048576) : ∃ q : Nat, wrap64 ((IntKind.u64.wrap x).tmod ((n : Int) + 3)) = (q : Int) ∧ q < n + 3 := by
  have h0 : 0 ≤ IntKind.u64.wrap x := by rw [IntKind.wrap_u64]; omega
  have h1 := Int.emod_nonneg (IntKind.u64.wrap x) (show ((n : Int) + 3) ≠ 0 by omega)
  have h2 := Int.emod_lt_of_pos (IntKind.u64.wrap x) (show (0 : Int) < (n : Int) + 3 by omega)
  refine ⟨((IntKind.u64.wrap x).emod ((n : Int) + 3)).toNat, ?_, ?_⟩
  · rw [Int.tmod_eq_emod_of_nonneg h0]
    unfold wrap64
    have e : (IntKind.u64.wrap x).emod ((n : Int) + 3) = IntKind.u64.wrap x % ((n : Int) + 3) := rfl
    rw [e]
    omega
  · have e : (IntKind.u64.wrap x).emod ((n : Int) + 3) = IntKind.u64.wrap x % ((n : Int) + 3) := rfl
    rw [e]
    omega

set_option maxRecDepth 20000 in
set_option maxHeartbeats 4000000 in
theorem cellstell_any (s t : Value) (ws rs : List Int) (at' most : Int) (w : World) (hs : VRow w s (Uw ws)) (ht : VRow w t (Iw rs)) (hU : U32 ws) (hl : ws.length ≤ 1048576) (hr : rs.length ≤ 1048576) :
    Calls Try.prog 4 #[s, t, .int .i64 at', .int .i64 most] w fun e w' => e = .returned (.bool true) ∧ Below w.heap.size w w' := by
  have HS := hide hs
  have HT := hide ht
  have HU := hide hU
  have HL := hide hl
  have HRL := hide hr
  have HOW := hide (HU32.own_any s ws 71 w hs (by omega))
  have HOR := hide (fun w' (hb : Below w.heap.size w w') => HInt.own_any t rs 71 w' (ht.below hb) (by omega))
  obtain ⟨a, cap, rfl, g1, g2, g3⟩ := hs.shape
  obtain ⟨a', cap', rfl, k1, k2, k3⟩ := ht.shape
  have eU : (Uw ws).length = ws.length := List.length_map _
  have eI : (Iw rs).length = rs.length := List.length_map _
  rw [eU] at HS HOW ⊢
  rw [eI] at HT HOR ⊢
  clear hs ht hU hl hr g1 g2 g3 k1 k2 k3 eU eI
  go_enter Try.func4, Try.ntmps4
  go_wp2_with fail
  refine Calls.mono (unhide HOW) ?_
  rintro e w1 ⟨g, rfl, hg, ho1, b1⟩
  have HO1 := hide ho1
  have HB1 := hide b1
  have HG := hide hg
  clear ho1 b1 hg HOW
  go_wp2_with fail
  refine Calls.mono (unhide HOR w1 (unhide HB1)) ?_
  rintro e w2 ⟨g', rfl, hg', ho2, b2⟩
  have HO2 := hide (And.intro ((unhide HO1).below b2) ho2)
  have HGG := hide (And.intro (unhide HG) (Nat.le_trans (unhide HB1).size hg'))
  have HNE := hide (show g < g' from Nat.lt_of_lt_of_le (unhide HO1).lt hg')
  have HB2 := hide ((unhide HB1).trans (b2.mono (unhide HB1).size))
  clear ho2 b2 hg' HOR HO1 HB1 HG
  go_wp2_with fail
  refine Calls.mono (rplaces_any _ ws w2 ((unhide HS).below (unhide HB2)) (unhide HU) (by have := unhide HL; omega)) ?_
  rintro e w3 ⟨v, rfl, hown, b3⟩
  obtain ⟨pv, cv, rfl⟩ := ownsV_shape hown
  have HLV := hide (show VRow w3 (.slice pv (obs ws 1).length cv) (plV (obs ws 1)) from vrow_of_owns (by simpa [plV] using hown))
  have HB3 := hide ((unhide HB2).trans (b3.mono (unhide HB2).size))
  have HO3 := hide (And.intro ((unhide HO2).1.below b3) ((unhide HO2).2.below b3))
  have hZL : (obs ws 1).length ≤ 1048576 := Nat.le_trans (obs_len ws) (unhide HL)
  obtain ⟨q, hq, hq2⟩ := most_mod most (obs ws 1).length hZL
  have hzI : ((obs ws 1).length : Int) ≤ 1048576 := by omega
  have hwl : IntKind.u64.wrap (((obs ws 1).length : Int) + 3) = ((obs ws 1).length : Int) + 3 := by rw [IntKind.wrap_u64]; omega
  have HQ2 := hide hq2
  have HZL := hide hZL
  clear hown b3 HO2 HB2 hq2 hZL
  generalize hZ : obs ws 1 = Z at *
  have HZ := hide hZ
  clear hZ
  go_wp2_with fail
  have hin := fun w' (hb : Below w3.heap.size w3 w') => ((unhide HO3).1.below hb).row (by have := unhide HL; unfold maxLen; omega)
  have hon := fun w' (hb : Below w3.heap.size w3 w') => ((unhide HO3).2.below hb).row (by have := unhide HRL; unfold maxLen; omega)
  have HIN := hide hin
  have HON := hide hon
  clear hin hon
  refine Calls.mono (told_any _ ws q w3 (unhide HIN w3 (Below.refl _ _)) (unhide HU) (unhide HL) (by have := unhide HQ2; have := unhide HZL; omega)) ?_
  rintro e w4 ⟨vx, rfl, hvx, b4⟩
  obtain ⟨px, cx, rfl, z1, z2, z3⟩ := hvx.shape
  rw [unhide HZ] at hvx ⊢
  obtain ⟨nx, hnx⟩ : ∃ nx, nx = (plV (Z.take q)).length := ⟨_, rfl⟩
  rw [← hnx] at hvx ⊢
  have HNX := hide hnx
  clear hnx
  have HX := hide hvx
  have HB4 := hide b4
  clear hvx b4 z1 z2 z3
  go_wp2_with fail
  refine Calls.mono (rright_any _ _ ws rs w4 (((unhide HS).below (unhide HB3)).below (unhide HB4)) (((unhide HT).below (unhide HB3)).below (unhide HB4)) (unhide HU)) ?_
  rintro e w5 ⟨rfl, b5⟩
  have HB5 := hide ((unhide HB4).trans (b5.mono (unhide HB4).size))
  have HX5 := hide ((unhide HX).below b5)
  obtain ⟨R, hR⟩ : ∃ R, R = rightB ws rs := ⟨_, rfl⟩
  rw [← hR]
  have HR := hide hR
  clear b5 HB4 HX hR
  cases R
  all_goals
    go_wp2_with fail
    refine Calls.mono (cat_any _ ws at' w5 (unhide HIN w5 (unhide HB5)) (unhide HU) (by have := unhide HL; omega)) ?_
    rintro e w6 ⟨vp, vd, kd, er, ps, ds, rfl, hA, op, od, b6⟩
    obtain ⟨pp, pc, rfl⟩ := ownsV_shape op
    obtain ⟨dp, dc, rfl⟩ := ownsV_shape od
    have HOP := hide op
    have HOD := hide od
    have HA := hide hA
    have HB6 := hide ((unhide HB5).trans (b6.mono (unhide HB5).size))
    have HX6 := hide ((unhide HX5).below b6)
    clear op od hA b6
    go_wp2_with fail
    obtain ⟨W6, hW6⟩ : ∃ W6, w6.alloc (.cells #[.int .i64 kd, .slice pp ps.length pc, .slice dp ds.length dc] 39) = W6 := ⟨_, rfl⟩
    have hb6a : Below w6.heap.size w6 W6 := by rw [← hW6]; exact (Below.refl _ _).alloc (Nat.le_refl _) _
    have HOV := hide (show W6.heap[w6.heap.size]? = some (.cells #[.int .i64 kd, .slice pp ps.length pc, .slice dp ds.length dc] 39 (0, 0)) by rw [← hW6]; exact World.alloc_heap_new w6 _)
    have HB6a := hide ((unhide HB6).trans (hb6a.mono (unhide HB6).size))
    have HB66 := hide hb6a
    rw [hW6]
    clear hW6 hb6a
    refine Calls.mono (rat_any _ ws at' W6 (((unhide HS).below (unhide HB3)).below (unhide HB6a)) (unhide HU) (by have := unhide HL; omega)) ?_
    rintro e w7 ⟨vp', vd', kd', er', rfl, ps', ds', hA', op', od', b7⟩
    have hEQ := (unhide HA).symm.trans hA'
    simp only [Prod.mk.injEq] at hEQ
    obtain ⟨rfl, rfl, rfl, rfl⟩ := hEQ
    obtain ⟨pp', pc', rfl⟩ := ownsV_shape op'
    obtain ⟨dp', dc', rfl⟩ := ownsV_shape od'
    have vp1 : VRow w7 (.slice pp ps.length pc) (Iw ps) := ((show VRow w6 (.slice pp ps.length pc) (Iw ps) from vrow_of_owns (by simpa using unhide HOP)).below (unhide HB66)).below b7
    have vd1 : VRow w7 (.slice dp ds.length dc) (Uw ds) := ((show VRow w6 (.slice dp ds.length dc) (Uw ds) from vrow_of_owns (by simpa using unhide HOD)).below (unhide HB66)).below b7
    have vp2 : VRow w7 (.slice pp' ps.length pc') (Iw ps) := vrow_of_owns (by simpa using op')
    have vd2 : VRow w7 (.slice dp' ds.length dc') (Uw ds) := vrow_of_owns (by simpa using od')
    have HVS := hide (And.intro vp1 (And.intro vd1 (And.intro vp2 vd2)))
    have HDB := hide (fun b (e : (Value.slice dp ds.length dc).ownBlock = some b) => ((unhide HOD).lt b e).2)
    have HDL := hide (show ds.length < 4503599627370496 from by
      obtain ⟨_, c', e', h1', h2', _⟩ := vd2
      simp only [Value.slice.injEq] at e'
      have h3 := unhide HL
      have := atR_len (unhide HA)
      omega)
    have HOD7 := hide (ownsV_keep (F := fun _ => False) (ownsV_keep (F := fun _ => False) (unhide HOD) (Keep.of_below (unhide HB66)) (fun _ _ => id)) (Keep.of_below b7) (fun _ _ => id))
    have HB7 := hide ((unhide HB6a).trans (b7.mono (unhide HB6a).size))
    have HX7 := hide (((unhide HX6).below (unhide HB66)).below b7)
    have HOV7 := hide ((b7.block _ (Array.getElem?_eq_some_iff.1 (unhide HOV)).1).trans (unhide HOV))
    clear hA' op' od' b7 vp1 vd1 vp2 vd2 HA HOP HOD HX6 HX5 HOV HB66 HB6a
    go_wp2_with fail
    obtain ⟨W7, hW7⟩ : ∃ W7, w7.alloc (.cells #[.int .i64 kd, .slice pp' ps.length pc', .slice dp' ds.length dc'] 39) = W7 := ⟨_, rfl⟩
    have hb7a : Below w7.heap.size w7 W7 := by rw [← hW7]; exact (Below.refl _ _).alloc (Nat.le_refl _) _
    have HPV := hide (show W7.heap[w7.heap.size]? = some (.cells #[.int .i64 kd, .slice pp' ps.length pc', .slice dp' ds.length dc'] 39 (0, 0)) by rw [← hW7]; exact World.alloc_heap_new w7 _)
    rw [hW7]
    have HB77 := hide hb7a
    clear hW7 hb7a
    refine Calls.mono (cawake_any W7) ?_
    rintro e w8 ⟨rfl, b8⟩
    have hb78 := (unhide HB77).trans (b8.mono (unhide HB77).size)
    have HB78 := hide hb78
    have HB8 := hide ((unhide HB7).trans (hb78.mono (unhide HB7).size))
    have HOV8 := hide ((hb78.block _ (Array.getElem?_eq_some_iff.1 (unhide HOV7)).1).trans (unhide HOV7))
    have HPV8 := hide ((b8.block _ (Array.getElem?_eq_some_iff.1 (unhide HPV)).1).trans (unhide HPV))
    obtain ⟨m, hm⟩ : ∃ m, m = min q Z.length := ⟨_, rfl⟩
    have hm1 : (if Z.length < q then (Z.length : Int) else (q : Int)) = (m : Int) := by rw [hm]; split <;> omega
    have hm2 : (if (Z.length : Int) < (q : Int) then (Z.length : Int) else (q : Int)) = (m : Int) := by rw [hm]; split <;> omega
    have HMZ := hide (show m ≤ Z.length by omega)
    obtain ⟨ql, cl, hcut, hrow, _⟩ := ((unhide HLV).below (unhide HB8)).cut_h Try.underlying30 Try.sizeI64 m (by simp [plV]; omega)
    have HXL := hide (show VRow w8 (.slice px nx cx) (((Z.take q).map fun x => (x.1 : Int)).map (Value.int .i64)) ∧ VRow w8 (.slice ql m cl) (((Z.take q).map fun x => (x.1 : Int)).map (Value.int .i64)) by
      have e1 : ((Z.take q).map fun x => (x.1 : Int)).map (Value.int .i64) = plV (Z.take q) := by rw [List.map_map]; rfl
      have e2 : (plV Z).take m = plV (Z.take q) := by
        rw [plV, plV, ← List.map_take, hm, ← List.take_eq_take_min]
      rw [e1]
      refine ⟨(unhide HX7).below hb78, ?_⟩
      rw [e2] at hrow
      exact hrow)
    have HOD8 := hide (ownsV_keep (F := fun _ => False) (unhide HOD7) (Keep.of_below hb78) (fun _ _ => id))
    have HVS8 := hide (And.intro ((unhide HVS).1.below hb78) (And.intro ((unhide HVS).2.1.below hb78) (And.intro ((unhide HVS).2.2.1.below hb78) ((unhide HVS).2.2.2.below hb78))))
    clear b8 hb78 hm hrow HOV7 HPV HX7 HOD7 HVS HB78 HB77
    go_wp2_with fail
    refine Calls.mono (HInt.plain_any _ _ _ w8 (unhide HXL).1 (unhide HXL).2) ?_
    rintro e w9 ⟨rfl, b9⟩
    have HB89 := hide b9
    have HB9 := hide ((unhide HB8).trans (b9.mono (unhide HB8).size))
    clear b9
    go_wp2_with fail
    refine Calls.mono (ccheck_any _ _ ws rs w9 (unhide HIN w9 (unhide HB9)) (unhide HON w9 (unhide HB9)) (unhide HU) (by have := unhide HL; omega) (by have := unhide HRL; omega)) ?_
    rw [← unhide HR]
    rintro e w10 ⟨rfl, b10⟩
    have hb810 := (unhide HB89).trans (b10.mono (unhide HB89).size)
    have HB810 := hide hb810
    have HB10 := hide ((unhide HB8).trans (hb810.mono (unhide HB8).size))
    have HOV10 := hide ((hb810.block _ (Array.getElem?_eq_some_iff.1 (unhide HOV8)).1).trans (unhide HOV8))
    have HPV10 := hide ((hb810.block _ (Array.getElem?_eq_some_iff.1 (unhide HPV8)).1).trans (unhide HPV8))
    obtain ⟨x0, x1, x2, _⟩ := three_cells (unhide HOV10)
    obtain ⟨y0, y1, y2, _⟩ := three_cells (unhide HPV10)
    have he : chkE false = 11 := rfl
    have he' : chkE true = 0 := rfl
    simp only [he, he']
    clear b10 hb810 he he'
    go_wp2_with fail
    refine Calls.mono (hobject_any kd ps ds _ _ _ _ w10 ((unhide HVS8).1.below (unhide HB810)) ((unhide HVS8).2.1.below (unhide HB810)) ((unhide HVS8).2.2.1.below (unhide HB810)) ((unhide HVS8).2.2.2.below (unhide HB810))) ?_
    rintro e w11 ⟨rfl, b11⟩
    have hb811 := (unhide HB810).trans (b11.mono (unhide HB810).size)
    have HB811 := hide hb811
    have HB11 := hide ((unhide HB8).trans (hb811.mono (unhide HB8).size))
    have HOV11 := hide ((hb811.block _ (Array.getElem?_eq_some_iff.1 (unhide HOV8)).1).trans (unhide HOV8))
    have HOD11 := hide (ownsV_keep (F := fun _ => False) (unhide HOD8) (Keep.of_below hb811) (fun _ _ => id))
    clear b11 hb811 x0 x1 x2 y0 y1 y2
    go_wp2_with fail
    have hdl : ds.length ≤ 4194304 ∨ True := Or.inr trivial
    clear hdl
    go_loopw [21] (fun i wr => ∃ k : Nat, k ≤ ds.length ∧ i = .int .i64 (k : Int) ∧ Keep (fun b => (Value.slice dp ds.length dc).ownBlock = some b) w11 wr ∧ ((Value.slice dp ds.length dc).ownBlock = none ∨ ∃ gd cur, dp = some ⟨gd, 0, none⟩ ∧ wr.heap[gd]? = some (.cells cur 22 (0, 0)) ∧ ds.length ≤ cur.size)) (fun i _ => ds.length - (intOf i).toNat)
    case atStart =>
      refine ⟨0, Nat.zero_le _, rfl, Keep.refl _ _, ?_⟩
      rcases (unhide HOD11).2 with ⟨h', _⟩ | ⟨gd, cap2, cur, h', _, hh, h3, _, h5, _⟩
      · exact Or.inl (by rw [h']; rfl)
      · simp only [Value.slice.injEq] at h'
        obtain ⟨rfl, _, rfl⟩ := h'
        exact Or.inr ⟨gd, cur, rfl, hh, by rw [h5]; omega⟩
    case round =>
      obtain ⟨k, hk, rfl, hkp, hblk⟩ := hrel
      have hodb : ∀ b, (Value.slice dp ds.length dc).ownBlock = some b → w5.heap.size ≤ b := fun b e => ((unhide HOD11).lt b e).1
      have hov := unhide HOV11
      have l6 := (Array.getElem?_eq_some_iff.1 hov).1
      by_cases hlt : k < ds.length
      · have hkI : (k : Int) < (ds.length : Int) := by omega
        rcases hblk with hblk | ⟨gd, cur, rfl, hh, hcs⟩
        · exfalso
          rcases (unhide HOD11).2 with ⟨_, h0⟩ | ⟨gd, cap2, cur, h', _⟩
          · omega
          · rw [h'] at hblk; simp [Value.ownBlock] at hblk
        · have hgd := hodb gd rfl
          have hne : w6.heap.size ≠ gd := fun e => by
            have := unhide HDB gd rfl
            omega
          have hov2 := (hkp.block w6.heap.size l6 (fun e => by simp [Value.ownBlock] at e; omega)).trans hov
          obtain ⟨_, _, x2, _⟩ := three_cells hov2
          obtain ⟨cv0, hcell⟩ : ∃ u, wr.cell? ⟨gd, k, none⟩ = some u := ⟨cur[k]'(by omega), by
            rw [cell_of_row wr gd k cur _ (0, 0) hh]; exact Array.getElem?_eq_getElem (by omega)⟩
          have hfz : wr.frozen? ⟨gd, k, none⟩ = false := frozen_of_block hh
          have HS9 := hide (heap_setCell_same wr gd k cur _ (.int .u32 99) hh)
          have HK9 := hide (hkp.trans (keep_set wr gd k (.int .u32 99)) (fun b e => Or.inl (by rw [e]; rfl)))
          have HCS := hide hcs
          have HLT := hide hlt
          have hnw : IntKind.i64.wrap ((k : Int) + 1) = (k : Int) + 1 := by have := unhide HDL; rw [IntKind.wrap_i64]; omega
          clear hov hov2 hkp hh hcs hodb l6 hk hlt
          go_wp2_with fail
          go_roundw
          case rel => exact ⟨k + 1, unhide HLT, by go_num, unhide HK9, Or.inr ⟨gd, _, rfl, unhide HS9, by rw [Array.size_setIfInBounds]; exact unhide HCS⟩⟩
          case measure => (have := unhide HLT; simp [intOf]; omega)
      · have hke : k = ds.length := by omega
        have hov2 := (hkp.block w6.heap.size l6 (fun e => by
          have h1 := unhide HDB w6.heap.size e
          omega)).trans hov
        obtain ⟨_, _, x2, _⟩ := three_cells hov2
        have hge : (ds.length : Int) ≤ (k : Int) := by omega
        have hk3 : ∀ b, (Value.slice dp ds.length dc).ownBlock = some b → w3.heap.size ≤ b := fun b e => Nat.le_trans (unhide HB5).size (hodb b e)
        have hbw : Below w3.heap.size w3 wr := (unhide HB11).trans (hkp.below (unhide HB11).size hk3)
        have HBW := hide hbw
        clear hov hov2 hkp hblk hodb l6 hk hlt hke hk3 hbw
        go_wp2_with fail
        refine Calls.mono (HU32.kept_any g _ ws 71 wr ((unhide HO3).1.below (unhide HBW)) (((unhide HS).below (unhide HB3)).below (unhide HBW)) (by have := unhide HL; omega)) ?_
        rintro e w12 ⟨rfl, b12⟩
        have HB12 := hide ((unhide HBW).trans (b12.mono (unhide HBW).size))
        clear b12
        go_wp2_with fail
        refine Calls.mono (HInt.kept_any g' _ rs 71 w12 ((unhide HO3).2.below (unhide HB12)) (((unhide HT).below (unhide HB3)).below (unhide HB12)) (by have := unhide HRL; omega)) ?_
        rintro e w13 ⟨rfl, b13⟩
        have HB13 := hide ((unhide HB12).trans (b13.mono (unhide HB12).size))
        clear b13
        go_wp2_with fail
        go_ret
        exact ⟨rfl, (unhide HB3).trans ((unhide HB13).mono (unhide HB3).size)⟩
theorem walk_CellsTell (s0 : Value) (d0 : Dt) (s1 : Value) (d1 : Dt) (a2 : Int) (_w2 : (Lit.int .i64 a2).wf = true) (a3 : Int) (_w3 : (Lit.int .i64 a3).wf = true) (w : World) (h0 : Reads limUpto w (.row 4 (.int .u32)) [s0] d0) (h1 : Reads limUpto w (.row 8 (.int .i64)) [s1] d1) :
    Calls Try.prog 4 #[s0, s1, .int .i64 a2, .int .i64 a3] w fun e w' => e = .returned (.bool true) ∧ Below w.heap.size w w' := by
  obtain ⟨ws, r0, l0, u0⟩ := nums_of_reads h0
  obtain ⟨rs, r1, l1, u1⟩ := nums_of_reads h1
  unfold limUpto at l0 l1
  exact cellstell_any s0 s1 ws rs a2 a3 w r0 r1 (u32_of u0) (by omega) (by omega)
end Go.Proofs.Ytnoebpbachoniaa
