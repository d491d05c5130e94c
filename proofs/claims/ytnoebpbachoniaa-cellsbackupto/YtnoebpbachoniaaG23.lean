/- Texts of ours, one behind the other: CelLay. -/
import Derived.Test.YtnoebpbachoniaaG14
import Derived.Test.YtnoebpbachoniaaG15
import Derived.Test.YtnoebpbachoniaaG16
import Derived.Test.YtnoebpbachoniaaG18
import Derived.Test.YtnoebpbachoniaaG22
/- Objects that came in; the law's 'lay' of layer 13. -/
namespace Go.Proofs.Ytnoebpbachoniaa
open Go.RowKit

/-- A slice value that reads as these objects. -/
def OL (w : World) (v : Value) (L : List Ob) : Prop :=
  ∃ (a : Option Addr) (cap : Nat), v = .slice a L.length cap ∧ (L = [] ∨ ∃ g off, a = some ⟨g, off, none⟩ ∧ ∀ j (h : j < L.length), ∃ p pn pc d dn dc, w.cell? ⟨g, off + j * 3, none⟩ = some (.int .i64 L[j].1) ∧ w.cell? ⟨g, off + j * 3 + 1, none⟩ = some (.slice p pn pc) ∧ w.cell? ⟨g, off + j * 3 + 2, none⟩ = some (.slice d dn dc) ∧
    VRow w (.slice p pn pc) (Iw L[j].2.1) ∧ VRow w (.slice d dn dc) (Uw L[j].2.2))
theorem OL.below {w w' : World} {v : Value} {L : List Ob} (h : OL w v L) (hb : Below w.heap.size w w') : OL w' v L := by
  obtain ⟨a, cap, e, h⟩ := h
  refine ⟨a, cap, e, ?_⟩
  rcases h with h | ⟨g, off, e2, h⟩
  · exact Or.inl h
  · refine Or.inr ⟨g, off, e2, fun j hj => ?_⟩
    obtain ⟨p, pn, pc, d, dn, dc, h1, h2, h3, h4, h5⟩ := h j hj
    exact ⟨p, pn, pc, d, dn, dc, (hb.cell (World.block_lt_of_cell? w _ h1)).trans h1, (hb.cell (World.block_lt_of_cell? w _ h2)).trans h2, (hb.cell (World.block_lt_of_cell? w _ h3)).trans h3, h4.below hb, h5.below hb⟩
theorem OL.at {w : World} {a : Option Addr} {n c : Nat} {L : List Ob} (h : OL w (.slice a n c) L) (j : Nat) (hj : j < L.length) :
    ∃ g off p pc d dc, a = some ⟨g, off, none⟩ ∧ w.cell? ⟨g, off + j * 3, none⟩ = some (.int .i64 L[j].1) ∧ w.cell? ⟨g, off + j * 3 + 1, none⟩ = some (.slice p L[j].2.1.length pc) ∧ w.cell? ⟨g, off + j * 3 + 2, none⟩ = some (.slice d L[j].2.2.length dc) ∧
    VRow w (.slice p L[j].2.1.length pc) (Iw L[j].2.1) ∧ VRow w (.slice d L[j].2.2.length dc) (Uw L[j].2.2) := by
  obtain ⟨a', cap, e, h⟩ := h
  simp only [Value.slice.injEq] at e
  obtain ⟨rfl, rfl, rfl⟩ := e
  rcases h with h | ⟨g, off, e2, h⟩
  · rw [h] at hj; simp at hj
  · obtain ⟨p, pn, pc, d, dn, dc, h1, h2, h3, h4, h5⟩ := h j hj
    obtain ⟨p', pc', e1, _⟩ := h4.shape
    obtain ⟨d', dc', e2', _⟩ := h5.shape
    simp only [Value.slice.injEq] at e1 e2'
    obtain ⟨rfl, rfl, rfl⟩ := e1
    obtain ⟨rfl, rfl, rfl⟩ := e2'
    have eI : (Iw L[j].2.1).length = L[j].2.1.length := List.length_map _
    rw [eI] at h2 h4
    rw [Uw_len2] at h3 h5
    exact ⟨g, off, p, pc, d, dc, e2, h1, h2, h3, h4, h5⟩
theorem ol_of_reads {w : World} {v : Value} {dt : Dt} (h : Reads limUpto w (.row 56 (.struct (.cons (.int .i64) (.cons (.row 8 (.int .i64)) (.cons (.row 4 (.int .u32)) .nil))))) [v] dt) :
    ∃ L : List Ob, OL w v L ∧ L.length ≤ 1048576 ∧ ∀ x ∈ L, U32 x.2.2 ∧ x.2.1.length ≤ 1048576 ∧ x.2.2.length ≤ 1048576 := by
  obtain ⟨a, cap, l, e, rfl, h1, h2, h3, h4, h5⟩ := h
  simp only [List.cons.injEq, and_true] at e
  subst e
  rcases h5 with rfl | ⟨g, off, rfl, hc⟩
  · exact ⟨[], ⟨a, cap, rfl, Or.inl rfl⟩, Nat.zero_le _, fun x hx => by cases hx⟩
  · have hx : ∀ j (h : j < l.length), ∃ x : Ob, (∃ p pn pc d dn dc, w.cell? ⟨g, off + j * 3, none⟩ = some (.int .i64 x.1) ∧ w.cell? ⟨g, off + j * 3 + 1, none⟩ = some (.slice p pn pc) ∧ w.cell? ⟨g, off + j * 3 + 2, none⟩ = some (.slice d dn dc) ∧ VRow w (.slice p pn pc) (Iw x.2.1) ∧ VRow w (.slice d dn dc) (Uw x.2.2)) ∧ U32 x.2.2 ∧ x.2.1.length ≤ 1048576 ∧ x.2.2.length ≤ 1048576 := by
      intro j hj
      obtain ⟨cs, hcs, h2, c1, r1, d1, dr1, rfl, _, _, ⟨kd, rfl, _, _⟩, c2, r2, d2, dr2, rfl, hl2, _, hr2, c3, r3, d3, dr3, rfl, hl3, _, hr3, rfl, _⟩ := hc j hj
      obtain ⟨v2, rfl⟩ : ∃ v, c2 = [v] := by
        match c2, hl2 with
        | [v], _ => exact ⟨v, rfl⟩
      obtain ⟨v3, rfl⟩ : ∃ v, c3 = [v] := by
        match c3, hl3 with
        | [v], _ => exact ⟨v, rfl⟩
      obtain ⟨ps, q1, q2, _⟩ := nums_of_reads hr2
      obtain ⟨ds, t1, t2, t3⟩ := nums_of_reads hr3
      unfold limUpto at q2 t2
      obtain ⟨pa, pc, rfl, _⟩ := q1.shape
      obtain ⟨da, dc, rfl, _⟩ := t1.shape
      have k0 := h2 0 _ rfl
      have k1 := h2 1 _ rfl
      have k2 := h2 2 _ rfl
      simp only [Sh.size, Nat.reduceAdd, Nat.add_zero] at k0 k1 k2
      exact ⟨(kd, ps, ds), ⟨_, _, _, _, _, _, k0, k1, k2, q1, t1⟩, (fun z hz => by have := bounds_u32 (t3 z hz); omega), q2, t2⟩
    have hch : ∃ F : Nat → Ob, ∀ j, j < l.length → (∃ p pn pc d dn dc, w.cell? ⟨g, off + j * 3, none⟩ = some (.int .i64 (F j).1) ∧ w.cell? ⟨g, off + j * 3 + 1, none⟩ = some (.slice p pn pc) ∧ w.cell? ⟨g, off + j * 3 + 2, none⟩ = some (.slice d dn dc) ∧ VRow w (.slice p pn pc) (Iw (F j).2.1) ∧ VRow w (.slice d dn dc) (Uw (F j).2.2)) ∧ U32 (F j).2.2 ∧ (F j).2.1.length ≤ 1048576 ∧ (F j).2.2.length ≤ 1048576 := by
      refine ⟨fun j => if h : j < l.length then (hx j h).choose else (0, [], []), fun j hj => ?_⟩
      simp only [hj, dif_pos]
      exact (hx j hj).choose_spec
    obtain ⟨F, hF⟩ := hch
    refine ⟨(List.range l.length).map F, ⟨_, cap, by simp, Or.inr ⟨g, off, rfl, fun j hj => ?_⟩⟩, by simpa [limUpto] using h4, fun x hx => ?_⟩
    · have hj' : j < l.length := by simpa using hj
      simp only [List.getElem_map, List.getElem_range]
      exact (hF j hj').1
    · obtain ⟨j, hj, rfl⟩ := List.mem_map.1 hx
      exact (hF j (List.mem_range.1 hj)).2
theorem own_word (w : World) : (w.alloc (.cells #[.int .u32 0] 22)).ownsRow w.heap.size 22 1 (.slice (some ⟨w.heap.size, 0, none⟩) 1 1) 1 (Uw [0]) :=
  ⟨rfl, Or.inr ⟨w.heap.size, 1, _, rfl, Nat.le_refl _, World.alloc_heap_new w _, Nat.le_refl _, by unfold maxLen; omega, rfl, rfl⟩⟩

set_option maxRecDepth 20000 in
set_option maxHeartbeats 2000000 in
theorem lay_any (v : Value) (L : List Ob) (w : World) (hv : OL w v L) (hL : L.length ≤ 1048576) (hm : ∀ x ∈ L, U32 x.2.2 ∧ x.2.1.length ≤ 1048576 ∧ x.2.2.length ≤ 1048576) :
    Calls Try.prog 28 #[v] w fun e w' => ∃ r, e = .returned r ∧ w'.ownsRow w.heap.size 22 1 r (layW L).length (Uw (layW L)) ∧ Below w.heap.size w w' := by
  have HV := hide hv
  have HL := hide hL
  have HM := hide hm
  obtain ⟨i4, hi4, hy0, hy1, hy2⟩ := info_parts Try.infoU32
  have hmx : Try.prog.follows .mixedOrders = true := by kernel_rfl
  obtain ⟨a, cap, rfl, hjk⟩ := hv
  clear hjk
  have HO0 := hide (own_word w)
  have HB0 := hide ((Below.refl _ w).alloc (Nat.le_refl _) (.cells #[.int .u32 0] 22))
  clear hL hm
  go_enter Try.func28, Try.ntmps28
  go_wp2_with fail
  go_loopw [3, 4] (fun o i wr => ∃ k : Nat, k ≤ L.length ∧ i = .int .i64 (k : Int) ∧ wr.ownsRow w.heap.size 22 1 o (layW (L.take k)).length (Uw (layW (L.take k))) ∧ Below w.heap.size w wr) (fun _ i _ => L.length - (intOf i).toNat)
  case atStart => exact ⟨0, Nat.zero_le _, rfl, unhide HO0, unhide HB0⟩
  case round =>
    obtain ⟨k, hk, rfl, hown, hb⟩ := hrel
    obtain ⟨pv, cv, rfl⟩ := ownsV_shape hown
    by_cases hlt : k < L.length
    · have hkI : (k : Int) < (L.length : Int) := by omega
      have hnw : IntKind.i64.wrap ((k : Int) + 1) = (k : Int) + 1 := by have := unhide HL; rw [IntKind.wrap_i64]; omega
      obtain ⟨g, off, p, pc, d, dc, rfl, q0, q1, q2, r1, r2⟩ := (unhide HV).at k hlt
      have HTK := hide (show L.take (k + 1) = L.take k ++ [L[k]] from List.take_succ_eq_append_getElem hlt)
      obtain ⟨m1, m2, m3⟩ := unhide HM L[k] (List.getElem_mem hlt)
      generalize L[k] = x at *
      obtain ⟨kd, ps, ds⟩ := x
      dsimp only at *
      have HC := hide (fun wx (hb : Below w.heap.size w wx) => And.intro ((hb.cell (World.block_lt_of_cell? w _ q0)).trans q0) (And.intro ((hb.cell (World.block_lt_of_cell? w _ q1)).trans q1) (And.intro ((hb.cell (World.block_lt_of_cell? w _ q2)).trans q2) (And.intro (r1.below hb) (r2.below hb)))))
      obtain ⟨c0, c1, c2, _⟩ := unhide HC wr hb
      have hlen : (layW (L.take k)).length ≤ 1 + L.length * 1048575 := Nat.le_trans (layW_len _) (by rw [List.length_take]; have : min k L.length ≤ L.length := Nat.min_le_right _ _; omega)
      have HLN := hide (show (layW (L.take k)).length ≤ 1099511627776 by have := unhide HL; omega)
      have HLT := hide hlt
      have hw1 : IntKind.i64.wrap (1 + (ps.length : Int)) = 1 + (ps.length : Int) := by rw [IntKind.wrap_i64]; omega
      have hw2 : IntKind.i64.wrap (1 + (ps.length : Int) + (ds.length : Int)) = 1 + (ps.length : Int) + (ds.length : Int) := by rw [IntKind.wrap_i64]; omega
      obtain ⟨lw, hlw⟩ : ∃ lw, lw = layW (L.take k) := ⟨_, rfl⟩
      rw [← hlw] at hown HLN ⊢
      have HLW := hide hlw
      have HMS := hide (And.intro m1 (And.intro m2 m3))
      by_cases hg : goodO (kd, ps, ds)
      · obtain ⟨h, hh⟩ : ∃ h, h = hdO (kd, ps, ds) := ⟨_, rfl⟩
        have HH := hide (fun w => chead_t (1 + (ps.length : Int) + (ds.length : Int)) ps.length kd w (by omega) (by have := hg.1; dsimp only at this; omega) hg.2.1 hg.2.2.1 (by omega) (by have := hg.2.2.2; dsimp only at this; omega))
        have hh2 : (1 + (ps.length : Int) + (ds.length : Int)) * 4096 + (ps.length : Int) * 16 + kd = h := hh.symm
        rw [hh2] at HH
        have hbW : Below wr.heap.size wr (wr.alloc (.cells #[.int .u32 h] 22)).drew := ((Below.refl _ wr).alloc (Nat.le_refl _) _).drew
        have HOW := hide (show (wr.alloc (.cells #[.int .u32 h] 22)).drew.ownsRow w.heap.size 22 1 (.slice pv lw.length cv) lw.length (Uw lw) from ownsV_keep (F := fun _ => False) hown (Keep.of_below hbW) (fun _ _ => id))
        have HB := hide (hb.trans (hbW.mono hb.size))
        have HPS := hide (show (wr.alloc (.cells #[.int .u32 h] 22)).drew.heap[wr.heap.size]? = some (.cells #[.int .u32 h] 22 (0, 0)) from World.alloc_heap_new wr _)
        have HWD := hide (show wrdO (kd, ps, ds) = h :: (w32 ps ++ ds) by rw [wrdO_good hg, hh])
        have HG := hide hg
        clear hg hown hb hk hlt hlen hlw m1 m2 m3 r1 r2 q0 q1 q2 hh hh2 hbW
        go_wp2_with fail
        refine wp_region_still_tail 30 hmx (by kernel_rfl) ?_
        simp only [List.take_succ_cons, List.take_zero, List.drop_succ_cons, List.drop_zero]
        repeat (first | still_step | still_call (unhide HH _))
        refine wpStill_nil ?_
        go_wp2_with (first
          | (at_builtin; refine wpList_append_gen rfl _ _ 29 rfl w.heap.size 22 i4 (.int .u32 0) Try.underlying29 hi4 hy0 1 4 (by omega) hy1 hy2 rfl (.slice pv lw.length cv) lw.length (Uw lw) rfl (unhide HOW) ⟨wr.heap.size, 0, none⟩ 1 1 [.int .u32 h] rfl rfl (by intro j u hj; match j, hj with | 0, hj => (simp at hj; subst hj; simp [Addr.add])) (by intro u hu; simp at hu; subst hu; rfl) (by have := unhide HLN; unfold maxLen; omega) (by have := unhide HLN; omega) (unhide HB).size ?_))
        intro v2 w2 hown2 hgrow2 hob2
        have hb2 := (unhide HB).grown hgrow2 (unhide HB).size (fun k e => ((unhide HOW).lt k e).1)
        obtain ⟨pv2, cv2, rfl⟩ := ownsV_shape hown2
        have HJ := hide (And.intro hown2 hb2)
        obtain ⟨e0, e1, e2, _⟩ := unhide HC w2 hb2
        clear hown2 hgrow2 hob2 hb2 c0 c1 c2
        go_wp2_with fail
        go_loopw [3, 7] (fun o i wx => ∃ j : Nat, j ≤ ps.length ∧ i = .int .i64 (j : Int) ∧ wx.ownsRow w.heap.size 22 1 o (lw.length + 1 + j) (Uw (lw ++ h :: w32 (ps.take j))) ∧ Below w.heap.size w wx) (fun _ i _ => ps.length - (intOf i).toNat)
        case atStart => exact ⟨0, Nat.zero_le _, rfl, by simpa [Uw, w32] using (unhide HJ).1, (unhide HJ).2⟩
        case round =>
          clear HJ e0 e1 e2
          obtain ⟨j, hj, rfl, hown, hb⟩ := hrel
          obtain ⟨pv3, cv3, rfl⟩ := ownsV_shape hown
          rename World => wx
          obtain ⟨e0, e1, e2, e3, e4⟩ := unhide HC wx hb
          by_cases hlt : j < ps.length
          · have hjI : (j : Int) < (ps.length : Int) := by omega
            have hjw : IntKind.i64.wrap ((j : Int) + 1) = (j : Int) + 1 := by have := unhide HMS; rw [IntKind.wrap_i64]; omega
            obtain ⟨b', off', cz', e0', g1', g2', hcl'⟩ := e3.open (by intro e; have := congrArg List.length e; simp [Iw] at this; rw [this] at hlt; simp at hlt)
            simp only [Value.slice.injEq] at e0'
            obtain ⟨rfl, g3', rfl⟩ := e0'
            have hcx := hcl' j _ (by rw [Iw, List.getElem?_map, List.getElem?_eq_getElem hlt]; rfl)
            have HTP := hide (show ps.take (j + 1) = ps.take j ++ [ps[j]] from List.take_succ_eq_append_getElem hlt)
            generalize ps[j] = y at *
            obtain ⟨z, hz⟩ : ∃ z, z = y % 4294967296 := ⟨_, rfl⟩
            have HZ := hide (show IntKind.u32.wrap y = z by rw [IntKind.wrap_u32, hz])
            have hz2 : y % 4294967296 = z := hz.symm
            have hbW : Below wx.heap.size wx (wx.alloc (.cells #[.int .u32 z] 22)) := (Below.refl _ wx).alloc (Nat.le_refl _) _
            have HOX := hide (show (wx.alloc (.cells #[.int .u32 z] 22)).ownsRow w.heap.size 22 1 (.slice pv3 (lw.length + 1 + j) cv3) (lw.length + 1 + j) (Uw (lw ++ h :: w32 (ps.take j))) from ownsV_keep (F := fun _ => False) hown (Keep.of_below hbW) (fun _ _ => id))
            have HBX := hide (hb.trans (hbW.mono hb.size))
            have HLJ := hide hlt
            obtain ⟨nn, hnn⟩ : ∃ nn, nn = lw.length + 1 + j := ⟨_, rfl⟩
            have HNL := hide (show nn < 1099521627776 by have := unhide HLN; have := (unhide HMS).2.1; omega)
            rw [← hnn] at HOX ⊢
            have HNN := hide hnn
            clear hown hb hlt hj g1' g2' g3' hcl' e3 e4 hbW hnn hz
            go_wp2_with (first
              | (at_builtin; (try rw [hz2]); refine wpList_append_gen rfl _ _ 29 rfl w.heap.size 22 i4 (.int .u32 0) Try.underlying29 hi4 hy0 1 4 (by omega) hy1 hy2 rfl (.slice pv3 nn cv3) nn (Uw (lw ++ h :: w32 (ps.take j))) rfl (unhide HOX) ⟨wx.heap.size, 0, none⟩ 1 1 [.int .u32 z] rfl rfl (by intro j u hj; match j, hj with | 0, hj => (simp at hj; subst hj; simp [Addr.add])) (by intro u hu; simp at hu; subst hu; rfl) (by have := unhide HNL; unfold maxLen; omega) (by have := unhide HNL; omega) (unhide HBX).size ?_))
            intro v4 w4 hown4 hgrow4 hob4
            have hb4 := (unhide HBX).grown hgrow4 (unhide HBX).size (fun k e => ((unhide HOX).lt k e).1)
            have HJ := hide (And.intro hown4 hb4)
            clear hown4 hgrow4 hob4 hb4
            go_wp2_with fail
            go_roundw
            case rel =>
              refine ⟨j + 1, unhide HLJ, by go_num, ?_, (unhide HJ).2⟩
              have h1 := (unhide HJ).1
              rw [unhide HNN] at h1
              rw [unhide HTP]
              have e5 : Uw (lw ++ h :: w32 (ps.take j ++ [y])) = lw.map (Value.int .u32) ++ .int .u32 h :: ((w32 (ps.take j)).map (Value.int .u32) ++ [.int .u32 z]) := by
                simp [Uw, w32, unhide HZ]
              rw [e5, ← Nat.add_assoc]
              exact h1
            case measure => (have := unhide HLJ; simp [intOf]; omega)
          · have hje : j = ps.length := by omega
            subst hje
            rw [List.take_length] at hown
            have hone : ∀ u ∈ Uw ds, u.oneCell' = true := by
              intro u hu
              obtain ⟨_, _, rfl⟩ := List.mem_map.1 hu
              rfl
            have HON := hide hone
            have HOX := hide hown
            have HBX := hide hb
            have HRD := hide e4
            obtain ⟨nn, hnn⟩ : ∃ nn, nn = lw.length + 1 + ps.length := ⟨_, rfl⟩
            have HNL := hide (show nn + ds.length < 1099531627776 by have := unhide HLN; have := (unhide HMS).2; omega)
            rw [← hnn] at HOX ⊢
            have HNN := hide hnn
            clear hown hb hlt hj e3 e4 hone hnn
            go_wp2_with (first
              | (at_builtin; refine wpList_append_vrow rfl _ _ 29 rfl w.heap.size 22 i4 (.int .u32 0) Try.underlying29 hi4 hy0 4 hy1 hy2 rfl (.slice pv3 nn cv3) nn (Uw (lw ++ h :: w32 ps)) rfl (unhide HOX) d ds.length dc (Uw ds) rfl (unhide HRD) (unhide HON) (by have := unhide HNL; unfold maxLen; omega) (by have := unhide HNL; omega) (unhide HBX).size ?_))
            intro v4 w4 hown4 hgrow4 hob4
            have hb4 := (unhide HBX).grown hgrow4 (unhide HBX).size (fun k e => ((unhide HOX).lt k e).1)
            have HJ := hide (And.intro hown4 hb4)
            clear hown4 hgrow4 hob4 hb4
            go_wp2_with fail
            go_roundw
            case rel =>
              refine ⟨k + 1, unhide HLT, by go_num, ?_, (unhide HJ).2⟩
              have h1 := (unhide HJ).1
              rw [unhide HNN] at h1
              rw [unhide HTK, layW_snoc, unhide HWD, ← unhide HLW]
              have e5 : Uw (lw ++ h :: (w32 ps ++ ds)) = lw.map (Value.int .u32) ++ .int .u32 h :: ((w32 ps).map (Value.int .u32) ++ Uw ds) := by simp [Uw]
              have e6 : (lw ++ h :: (w32 ps ++ ds)).length = lw.length + 1 + ps.length + ds.length := by
                rw [List.length_append, List.length_cons, List.length_append, w32_len]; omega
              rw [e5, e6]
              exact h1
            case measure => (have := unhide HLT; simp [intOf]; omega)
      · have HH := hide (fun w => chead_f (1 + (ps.length : Int) + (ds.length : Int)) ps.length kd w (fun h => hg ⟨by dsimp only; omega, h.2.2.1, h.2.2.2.1, by dsimp only; omega⟩))
        have HWD := hide (wrdO_bad hg)
        have hd1 : Below wr.heap.size wr wr.drew := (Below.refl _ wr).drew
        have HJ := hide (And.intro (show wr.drew.ownsRow w.heap.size 22 1 (.slice pv lw.length cv) lw.length (Uw lw) from ownsV_keep (F := fun _ => False) hown (Keep.of_below hd1) (fun _ _ => id)) (hb.trans (hd1.mono hb.size)))
        clear hg hown hb hk hlt hlen hlw m1 m2 m3 r1 r2 q0 q1 q2 hd1
        go_wp2_with fail
        refine wp_region_still_tail 30 hmx (by kernel_rfl) ?_
        simp only [List.take_succ_cons, List.take_zero, List.drop_succ_cons, List.drop_zero]
        repeat (first | still_step | still_call (unhide HH _))
        refine wpStill_nil ?_
        go_wp2_with fail
        go_roundw
        case rel =>
          refine ⟨k + 1, unhide HLT, by go_num, ?_, (unhide HJ).2⟩
          rw [unhide HTK, layW_snoc, unhide HWD, List.append_nil, ← unhide HLW]
          exact (unhide HJ).1
        case measure => (have := unhide HLT; simp [intOf]; omega)
    · have hke : k = L.length := by omega
      subst hke
      rw [List.take_length] at hown ⊢
      have HJ := hide (And.intro hown hb)
      clear hk hlt hown hb
      go_wp2_with fail
      go_ret
      exact ⟨_, rfl, (unhide HJ).1, (unhide HJ).2⟩
end Go.Proofs.Ytnoebpbachoniaa
