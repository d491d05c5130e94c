/- The walk of the statement 'CellsBack'. -/
import Derived.Test.YtnoebpbachoniaaG9
import Derived.Test.YtnoebpbachoniaaG21
import Derived.Test.YtnoebpbachoniaaG23
import Derived.BigQuiet
import Derived.BigRegion
namespace Go.Proofs.Ytnoebpbachoniaa
open Go.RowKit

/-- A region that draws its order, by a class of worlds that all its operations keep: one walk, in the order of the text. -/
theorem region_calmC {P : Program} {id : Nat} {Q : Exit → Act → World → Prop} {a : Act} {w : World} {l : List Oper} (C : World → Prop) (hm : P.follows .mixedOrders = true) (hB : Region.lexB .any l.toArray = true) (hC : C { w with drawn := w.drawn + 1 })
    (h : wpQuiet P l.toArray C (fun a' => ∀ w', C w' → Q .normal a' w') l a) : (Code.region id l.toArray true).wp P Q a w :=
  wp_region_quiet hm hB hC (by simpa using h)
/-- A world by a letter. -/
theorem wp_world {P : Program} {c : Code} {Q : Exit → Act → World → Prop} {a : Act} {w : World} (h : ∀ z, z = w → c.wp P Q a z) : c.wp P Q a w := h w rfl
/-- What At answers at an object's place. -/
theorem lay_atR (M post : List Ob) {x : Ob} (h : goodO x) : atR (layW (M ++ x :: post)) ((layW M).length : Int) = (x.1, w32 x.2.1, x.2.2, 0) := by
  obtain ⟨k1, k2, k3, k4⟩ := lay_at M post h
  obtain ⟨Z, hZ⟩ := lay_obs M.length M (x :: post) rfl
  rw [obs_step k1, k2] at hZ
  have := atR_some hZ
  dsimp only at this
  rw [this, k3, k4, (hdO_parts h).2.2.2.2]

set_option maxRecDepth 20000 in
set_option maxHeartbeats 4000000 in
theorem cellsback_any (v : Value) (L : List Ob) (w : World) (hv : OL w v L) (hL : L.length ≤ 1048576) (hm : ∀ x ∈ L, U32 x.2.2 ∧ x.2.1.length ≤ 1048576 ∧ x.2.2.length ≤ 1048576) :
    Calls Try.prog 5 #[v] w fun e w' => e = .returned (.bool true) ∧ Below w.heap.size w w' := by
  have HV := hide hv
  have HL := hide hL
  have HM := hide hm
  have HLY := hide (lay_any v L w hv hL hm)
  have HUL := hide (layW_u32 (fun x hx => (hm x hx).1))
  have HWL := hide (show (layW L).length ≤ 1099511627777 by have := layW_len L; omega)
  have hmx : Try.prog.follows .mixedOrders = true := by kernel_rfl
  obtain ⟨a, cap, rfl, hjk⟩ := hv
  clear hL hm hjk
  go_enter Try.func5, Try.ntmps5
  go_wp2_with fail
  refine Calls.mono (unhide HLY) ?_
  rintro e w1 ⟨r, rfl, hown, b1⟩
  obtain ⟨pv, cv, rfl⟩ := ownsV_shape hown
  have hvr : VRow w1 (.slice pv (layW L).length cv) (Uw (layW L)) := vrow_of_owns (by rw [Uw_len2]; exact hown)
  have HB1 := hide b1
  have HAT := hide (show ∀ k (h : k < L.length), goodO L[k] → atR (layW L) ((layW (L.take k)).length : Int) = (L[k].1, w32 L[k].2.1, L[k].2.2, 0) from fun k h hg => by
    have e : L = L.take k ++ L[k] :: L.drop (k + 1) := by rw [← List.drop_eq_getElem_cons h, List.take_append_drop]
    have h2 := lay_atR (L.take k) (L.drop (k + 1)) hg
    rw [← e] at h2
    exact h2)
  have HLE := hide (show ∀ k, (layW (L.take k)).length ≤ (layW L).length from fun k => by
    have e : layW L = layW (L.take k) ++ (L.drop k).flatMap wrdO := by rw [← layW_app, List.take_append_drop]
    rw [e, List.length_append]; omega)
  have HTL := hide (show (layW (L.take L.length)).length = (layW L).length by rw [List.take_length])
  obtain ⟨ws, hws⟩ : ∃ ws, ws = layW L := ⟨_, rfl⟩
  rw [← hws] at hvr HUL HWL HAT HLE HTL ⊢
  have HR := hide hvr
  clear hown b1 HLY hvr hws
  go_wp2_with fail
  refine Calls.mono (cawake_any w1) ?_
  rintro e w2 ⟨rfl, b2⟩
  have HR2 := hide ((unhide HR).below b2)
  have HB2 := hide ((unhide HB1).trans (b2.mono (unhide HB1).size))
  clear b2 HB1 HR
  go_wp2_with fail
  go_loopw [4, 5] (fun t i wr => ∃ k : Nat, k ≤ L.length ∧ i = .int .i64 (k : Int) ∧ t = .int .i64 ((layW (L.take k)).length : Int) ∧ Below w2.heap.size w2 wr) (fun _ i _ => L.length - (intOf i).toNat)
  case atStart => exact ⟨0, Nat.zero_le _, rfl, rfl, Below.refl _ _⟩
  case round =>
    obtain ⟨k, hk, rfl, rfl, hb⟩ := hrel
    by_cases hlt : k < L.length
    · have hkI : (k : Int) < (L.length : Int) := by omega
      have hnw : IntKind.i64.wrap ((k : Int) + 1) = (k : Int) + 1 := by have := unhide HL; rw [IntKind.wrap_i64]; omega
      obtain ⟨g, off, p, pc, d, dc, rfl, q0, q1, q2, r1, r2⟩ := (unhide HV).at k hlt
      have HTK := hide (show L.take (k + 1) = L.take k ++ [L[k]] from List.take_succ_eq_append_getElem hlt)
      have HA := hide (unhide HAT k hlt)
      obtain ⟨m1, m2, m3⟩ := unhide HM L[k] (List.getElem_mem hlt)
      generalize L[k] = x at *
      obtain ⟨kd, ps, ds⟩ := x
      dsimp only at *
      have hbw := (unhide HB2).trans (hb.mono (unhide HB2).size)
      have HC := hide (fun wx (hb : Below w.heap.size w wx) => And.intro ((hb.cell (World.block_lt_of_cell? w _ q0)).trans q0) (And.intro ((hb.cell (World.block_lt_of_cell? w _ q1)).trans q1) (And.intro ((hb.cell (World.block_lt_of_cell? w _ q2)).trans q2) (And.intro (r1.below hb) (r2.below hb)))))
      obtain ⟨c0, c1, c2, _⟩ := unhide HC wr hbw
      have hw1 : IntKind.i64.wrap (1 + (ps.length : Int)) = 1 + (ps.length : Int) := by rw [IntKind.wrap_i64]; omega
      have hw2 : IntKind.i64.wrap (1 + (ps.length : Int) + (ds.length : Int)) = 1 + (ps.length : Int) + (ds.length : Int) := by rw [IntKind.wrap_i64]; omega
      have HL1 := hide (unhide HLE k)
      have HL2 := hide (unhide HLE (k + 1))
      rw [unhide HTK, layW_snoc] at HL2
      have HSN := hide (show (layW (L.take (k + 1))).length = (layW (L.take k)).length + (wrdO (kd, ps, ds)).length by rw [unhide HTK, layW_snoc, List.length_append])
      have HLT := hide hlt
      have HMS := hide (And.intro m1 (And.intro m2 m3))
      have HBR := hide hb
      obtain ⟨t, ht⟩ : ∃ t, t = (layW (L.take k)).length := ⟨_, rfl⟩
      rw [← ht] at HA HSN HL1 ⊢
      have HT := hide ht
      by_cases hg : goodO (kd, ps, ds)
      · have HH := hide (fun w => chead_t (1 + (ps.length : Int) + (ds.length : Int)) ps.length kd w (by omega) (by have := hg.1; dsimp only at this; omega) hg.2.1 hg.2.2.1 (by omega) (by have := hg.2.2.2; dsimp only at this; omega))
        have HWD := hide (show (wrdO (kd, ps, ds)).length = 1 + ps.length + ds.length by rw [wrdO_good hg, List.length_cons, List.length_append, w32_len]; dsimp only; omega)
        have hat := unhide HA hg
        have HZ0 := hide (hb.trans (((Below.refl _ wr).drew).mono hb.size))
        have HCA := hide (fun wz (hbd : Below w2.heap.size w2 wz) => cat_any _ ws (t : Int) wz ((unhide HR2).below hbd) (unhide HUL) (unhide HWL))
        have HAA := hide hat
        clear hg hb hbw hk hlt ht m1 m2 m3 r1 r2 q0 q1 q2 hat HA HL2
        go_wp2_with fail
        refine wp_region_still_tail 14 hmx (by kernel_rfl) ?_
        simp only [List.take_succ_cons, List.take_zero, List.drop_succ_cons, List.drop_zero]
        repeat still_step
        refine wpStill_nil ?_
        go_wp2_with fail
        refine wp_world ?_
        intro wz hwz
        have hwd : wr.drew = wz := hwz.symm
        rw [hwd] at HZ0
        obtain ⟨y0, y1, y2, _⟩ := unhide HC wz ((unhide HB2).trans ((unhide HZ0).mono (unhide HB2).size))
        clear c0 c1 c2 hwz hwd
        refine wp_region_still_tail 17 hmx (by kernel_rfl) ?_
        simp only [List.take_succ_cons, List.take_zero, List.drop_succ_cons, List.drop_zero]
        repeat (first | still_step | still_call (unhide HH _))
        refine wpStill_nil ?_
        go_wp2_with fail
        have hbd : Below w2.heap.size w2 wz.drew := (unhide HZ0).trans (((Below.refl _ wz).drew).mono (unhide HZ0).size)
        have HBD := hide hbd
        clear hbd
        refine Calls.mono (unhide HCA wz.drew (unhide HBD)) ?_
        rintro e w3 ⟨vp, vd, kd', er, ps', ds', rfl, hA', op, od, b3⟩
        have hEQ := (unhide HAA).symm.trans hA'
        simp only [Prod.mk.injEq] at hEQ
        obtain ⟨rfl, rfl, rfl, rfl⟩ := hEQ
        obtain ⟨pp, pq, rfl⟩ := ownsV_shape op
        obtain ⟨dp, dq, rfl⟩ := ownsV_shape od
        rw [w32_len] at op ⊢
        have hbd3 := (unhide HBD).trans (b3.mono (unhide HBD).size)
        obtain ⟨W3, hW3⟩ : ∃ W3, w3.alloc (.cells #[.int .i64 kd, .slice pp ps.length pq, .slice dp ds.length dq] 39) = W3 := ⟨_, rfl⟩
        have hbW : Below w3.heap.size w3 W3 := by rw [← hW3]; exact (Below.refl _ _).alloc (Nat.le_refl _) _
        have hov : W3.heap[w3.heap.size]? = some (.cells #[.int .i64 kd, .slice pp ps.length pq, .slice dp ds.length dq] 39 (0, 0)) := by rw [← hW3]; exact World.alloc_heap_new w3 _
        have hb3W := hbd3.trans (hbW.mono hbd3.size)
        have hwW := (unhide HB2).trans (hb3W.mono (unhide HB2).size)
        have vp2 : VRow w3 (.slice pp ps.length pq) (Iw (w32 ps)) := vrow_of_owns (by rw [show (Iw (w32 ps)).length = ps.length by rw [Iw, List.length_map, w32_len]]; exact op)
        have vd2 : VRow w3 (.slice dp ds.length dq) (Uw ds) := vrow_of_owns (by rw [Uw_len2]; exact od)
        obtain ⟨CC, hCC⟩ : ∃ CC : World → Prop, CC = fun W => Below W3.heap.size W3 W := ⟨_, rfl⟩
        have HC0 : Hid (CC W3.drew) := by
          unfold Hid
          rw [hCC]
          exact (Below.refl _ _).drew
        have HF : Hid (∀ W, CC W → W.heap[w3.heap.size]? = some (.cells #[.int .i64 kd, .slice pp ps.length pq, .slice dp ds.length dq] 39 (0, 0)) ∧ Below w.heap.size w W ∧ VRow W (.slice pp ps.length pq) (Iw (w32 ps)) ∧ VRow W (.slice dp ds.length dq) (Uw ds) ∧ Below w2.heap.size w2 W) := by
          unfold Hid
          rw [hCC]
          exact fun W hW => ⟨(hW.block _ (Array.getElem?_eq_some_iff.1 hov).1).trans hov, hwW.trans (hW.mono hwW.size), (vp2.below hbW).below hW, (vd2.below hbW).below hW, hb3W.trans (hW.mono hb3W.size)⟩
        have HDR : Hid (∀ W W', CC W → Below W.heap.size W W' → CC W') := by
          unfold Hid
          rw [hCC]
          exact fun W W' h1 h2 => Below.trans h1 (h2.mono h1.size)
        have HK : Hid (∀ W, CC W → W.cell? ⟨g, off + k * 3, none⟩ = some (.int .i64 kd) ∧ W.cell? ⟨g, off + k * 3 + 1, none⟩ = some (.slice p ps.length pc) ∧ W.cell? ⟨g, off + k * 3 + 2, none⟩ = some (.slice d ds.length dc) ∧ W.cell? ⟨w3.heap.size, 0, none⟩ = some (.int .i64 kd) ∧ W.cell? ⟨w3.heap.size, 1, none⟩ = some (.slice pp ps.length pq) ∧ W.cell? ⟨w3.heap.size, 2, none⟩ = some (.slice dp ds.length dq)) := fun W hW => by
          obtain ⟨f1, f2, f3, f4, _⟩ := unhide HF W hW
          obtain ⟨g0, g1, g2, _⟩ := unhide HC W f2
          obtain ⟨x0, x1, x2, _⟩ := three_cells f1
          exact ⟨g0, g1, g2, x0, x1, x2⟩
        have HP : Hid (∀ W, CC W → Calls Try.prog 29 #[.slice dp ds.length dq, .slice d ds.length dc] W fun e W' => e = .returned (.bool true) ∧ CC W') := fun W hW => by
          obtain ⟨f1, f2, f3, f4, _⟩ := unhide HF W hW
          obtain ⟨_, _, _, _, g2⟩ := unhide HC W f2
          exact (HU32.plain_any _ _ ds W f4 g2).mono fun e W' hx => ⟨hx.1, unhide HDR W W' hW hx.2⟩
        have HW3 := hide hW3
        clear op od hA' b3 hbd3 hbW hov hb3W hwW vp2 vd2 hCC hW3 y0 y1 y2
        go_wp2_with fail
        rw [unhide HW3]
        refine region_calmC CC (by kernel_rfl) (by kernel_rfl) (unhide HC0) ?_
        repeat (first
          | go_big_quiet_skip
          | (go_big_quiet_want
             apply Exists.intro
             refine ⟨fun w' hw' => ?_, ?_⟩
             · obtain ⟨a0, a1, a2, a3, a4, a5⟩ := unhide HK w' hw'
               go_simp
               first | done | rfl | exact unhide HP w' hw'
             simp only [Act.put, List.setIfInBounds_toArray, List.set_cons_zero, List.set_cons_succ]
             go_big_quiet_on))
        refine wpQuiet_nil ?_
        intro w4 hw4
        have HC4 := hide hw4
        clear hw4
        go_wp2_with fail
        go_loopw [11] (fun i wx => ∃ j : Nat, j ≤ ps.length ∧ i = .int .i64 (j : Int) ∧ CC wx) (fun i _ => ps.length - (intOf i).toNat)
        case atStart => exact ⟨0, Nat.zero_le _, rfl, unhide HC4⟩
        case round =>
          clear HC4
          obtain ⟨j, hj, rfl, hcc⟩ := hrel
          rename World => wx
          obtain ⟨e0, e1, e2, e3, e4, e5⟩ := unhide HK wx hcc
          obtain ⟨f1, f2, f3, f4, f5⟩ := unhide HF wx hcc
          by_cases hlt : j < ps.length
          · have hjI : (j : Int) < (ps.length : Int) := by omega
            have hjw : IntKind.i64.wrap ((j : Int) + 1) = (j : Int) + 1 := by have := unhide HMS; rw [IntKind.wrap_i64]; omega
            obtain ⟨_, _, _, f6, _⟩ := unhide HC wx f2
            obtain ⟨b1, o1, z1, s1, g1, g2, hc1⟩ := f6.open (by intro e; have := congrArg List.length e; simp [Iw] at this; rw [this] at hlt; simp at hlt)
            simp only [Value.slice.injEq] at s1
            obtain ⟨rfl, g3, rfl⟩ := s1
            obtain ⟨b2, o2, z2, s2, g4, g5, hc2⟩ := f3.open (by intro e; have := congrArg List.length e; simp [Iw, w32] at this; rw [this] at hlt; simp at hlt)
            simp only [Value.slice.injEq] at s2
            obtain ⟨rfl, g6, rfl⟩ := s2
            have hx1 := hc1 j _ (by rw [Iw, List.getElem?_map, List.getElem?_eq_getElem hlt]; rfl)
            have hx2 := hc2 j _ (by rw [Iw, w32, List.getElem?_map, List.getElem?_map, List.getElem?_eq_getElem hlt]; rfl)
            have HLJ := hide hlt
            have HCD := hide (unhide HDR wx wx.drew hcc ((Below.refl _ wx).drew))
            generalize ps[j] = y at *
            obtain ⟨y2, hy2⟩ : ∃ y2, y2 = IntKind.u32.wrap y := ⟨_, rfl⟩
            rw [← hy2] at hx2
            obtain ⟨zz, hzz⟩ : ∃ zz, y % 4294967296 = zz := ⟨_, rfl⟩
            have hzz2 : y2 % 4294967296 = zz := by rw [hy2, IntKind.wrap_u32, ← hzz]; omega
            clear hj hlt hcc f1 f2 f3 f4 f5 f6 g1 g2 g3 g4 g5 g6 hc1 hc2 hy2
            go_wp2_with fail
            refine wp_region_still_tail 15 hmx (by kernel_rfl) ?_
            simp only [List.take_succ_cons, List.take_zero, List.drop_succ_cons, List.drop_zero]
            repeat still_step
            refine wpStill_nil ?_
            go_wp2_with fail
            go_roundw
            case rel => exact ⟨j + 1, unhide HLJ, by go_num, unhide HCD⟩
            case measure => (have := unhide HLJ; simp [intOf]; omega)
          · have hje : j = ps.length := by omega
            subst hje
            have HEN := hide f5
            have hwt : IntKind.i64.wrap ((t : Int) + (1 + (ps.length : Int) + (ds.length : Int))) = (t : Int) + (1 + (ps.length : Int) + (ds.length : Int)) := by
              have := unhide HL1
              have := unhide HWL
              have := (unhide HMS).2
              rw [IntKind.wrap_i64]; omega
            clear hj hlt hcc f1 f2 f3 f4 f5
            go_wp2_with fail
            go_roundw
            case rel => exact ⟨k + 1, unhide HLT, by go_num, by rw [unhide HSN, unhide HWD]; congr 1, unhide HEN⟩
            case measure => (have := unhide HLT; simp [intOf]; omega)
      · have HH := hide (fun w => chead_f (1 + (ps.length : Int) + (ds.length : Int)) ps.length kd w (fun h => hg ⟨by dsimp only; omega, h.2.2.1, h.2.2.2.1, by dsimp only; omega⟩))
        have HWD := hide (show (wrdO (kd, ps, ds)).length = 0 by rw [wrdO_bad hg]; rfl)
        have HZ0 := hide (hb.trans (((Below.refl _ wr).drew).mono hb.size))
        clear hg hb hbw hk hlt ht m1 m2 m3 r1 r2 q0 q1 q2 HA HL2
        go_wp2_with fail
        refine wp_region_still_tail 14 hmx (by kernel_rfl) ?_
        simp only [List.take_succ_cons, List.take_zero, List.drop_succ_cons, List.drop_zero]
        repeat still_step
        refine wpStill_nil ?_
        go_wp2_with fail
        refine wp_world ?_
        intro wz hwz
        have hwd : wr.drew = wz := hwz.symm
        rw [hwd] at HZ0
        obtain ⟨y0, y1, y2, _⟩ := unhide HC wz ((unhide HB2).trans ((unhide HZ0).mono (unhide HB2).size))
        clear c0 c1 c2 hwz hwd
        refine wp_region_still_tail 17 hmx (by kernel_rfl) ?_
        simp only [List.take_succ_cons, List.take_zero, List.drop_succ_cons, List.drop_zero]
        repeat (first | still_step | still_call (unhide HH _))
        refine wpStill_nil ?_
        go_wp2_with fail
        go_roundw
        case rel => exact ⟨k + 1, unhide HLT, by go_num, by rw [unhide HSN, unhide HWD]; rfl, (unhide HZ0).trans (((Below.refl _ wz).drew).mono (unhide HZ0).size)⟩
        case measure => (have := unhide HLT; simp [intOf]; omega)
    · have hke : k = L.length := by omega
      subst hke
      rw [unhide HTL]
      have HBR := hide hb
      clear hk hlt hb
      go_wp2_with fail
      go_ret
      exact ⟨rfl, (unhide HB2).trans ((unhide HBR).mono (unhide HB2).size)⟩

theorem walk_CellsBack (s0 : Value) (d0 : Dt) (w : World) (h0 : Reads limUpto w (.row 56 (.struct (.cons (.int .i64) (.cons (.row 8 (.int .i64)) (.cons (.row 4 (.int .u32)) .nil))))) [s0] d0) :
    Calls Try.prog 5 #[s0] w fun e w' => e = .returned (.bool true) ∧ Below w.heap.size w w' := by
  obtain ⟨L, h1, h2, h3⟩ := ol_of_reads h0
  exact cellsback_any s0 L w h1 h2 h3
end Go.Proofs.Ytnoebpbachoniaa
