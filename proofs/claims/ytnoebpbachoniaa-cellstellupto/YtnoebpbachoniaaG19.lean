/- Texts of ours, one behind the other: CelRefAt. -/
import Derived.Test.YtnoebpbachoniaaG17
import Derived.Test.YtnoebpbachoniaaG18
/- The reference of layer 13: At. -/
namespace Go.Proofs.Ytnoebpbachoniaa
open Go.RowKit

/-- An object that is put together: the answer's variable r, its own variable v, the rows of its fields from block c on. -/
structure OG (w wr : World) (r v c : Nat) (kd : Int) (p d : Value) (ps ds : List Int) : Prop where
  res : wr.heap[r]? = some (.cells #[.int .i64 0, .slice none 0 0, .slice none 0 0] 39 (0, 0))
  var : wr.heap[v]? = some (.cells #[.int .i64 kd, p, d] 39 (0, 0))
  rowp : wr.ownsRow c 3 1 p ps.length (Iw ps)
  rowd : wr.ownsRow c 22 1 d ds.length (Uw ds)
  bel : Below w.heap.size w wr
  ord : w.heap.size ≤ r ∧ r < v ∧ v < c ∧ c ≤ wr.heap.size
theorem OG.cells {w wr : World} {r v c : Nat} {kd : Int} {p d : Value} {ps ds : List Int} (h : OG w wr r v c kd p d ps ds) : wr.cell? ⟨v, 0, none⟩ = some (.int .i64 kd) ∧ wr.cell? ⟨v, 1, none⟩ = some p ∧ wr.cell? ⟨v, 2, none⟩ = some d ∧ ∀ j, wr.frozen? ⟨v, j, none⟩ = false := three_cells h.var
theorem OG.below {w wr wx : World} {r v c : Nat} {kd : Int} {p d : Value} {ps ds : List Int} (h : OG w wr r v c kd p d ps ds) (hb : Below wr.heap.size wr wx) : OG w wx r v c kd p d ps ds :=
  ⟨(hb.block _ (Array.getElem?_eq_some_iff.1 h.res).1).trans h.res, (hb.block _ (Array.getElem?_eq_some_iff.1 h.var).1).trans h.var, ownsV_keep (F := fun _ => False) h.rowp (Keep.of_below hb) (fun _ _ => id), ownsV_keep (F := fun _ => False) h.rowd (Keep.of_below hb) (fun _ _ => id), h.bel.trans (hb.mono h.bel.size), ⟨h.ord.1, h.ord.2.1, h.ord.2.2.1, Nat.le_trans h.ord.2.2.2 hb.size⟩⟩
theorem OG.set {w wr wx : World} {r v c : Nat} {kd : Int} {p d : Value} {ps ds : List Int} (h : OG w wr r v c kd p d ps ds) {q q2 : Value} (hg : wr.grownBy wx q.ownBlock) (hv : ∀ k, q.ownBlock = some k → c ≤ k) (j : Nat) :
    Keep (fun k => q.ownBlock = some k ∨ k = v) wr (wx.setCell ⟨v, j, none⟩ q2) ∧ (wx.setCell ⟨v, j, none⟩ q2).heap[v]? = some (.cells (#[.int .i64 kd, p, d].setIfInBounds j q2) 39 (0, 0)) ∧ wx.heap[v]? = some (.cells #[.int .i64 kd, p, d] 39 (0, 0)) ∧ wx.heap[r]? = some (.cells #[.int .i64 0, .slice none 0 0, .slice none 0 0] 39 (0, 0)) := by
  obtain ⟨o1, o2, o3, o4⟩ := h.ord
  have hb2 := (hg.block v (Array.getElem?_eq_some_iff.1 h.var).1 (fun e => by have := hv _ e.symm; omega)).trans h.var
  have K1 : Keep (fun k => q.ownBlock = some k) wr wx := ⟨hg.os, hg.tape, hg.output, hg.size, fun k hk hn => hg.block k hk (fun e => hn e.symm)⟩
  exact ⟨(K1.weak (fun _ h => Or.inl h)).trans (keep_set wx v j q2) (fun k e => Or.inl (Or.inr e)), heap_setCell_same wx _ j _ _ q2 hb2, hb2, (hg.block r (Array.getElem?_eq_some_iff.1 h.res).1 (fun e => by have := hv _ e.symm; omega)).trans h.res⟩

theorem atR_at {ws : List Int} {k : Nat} (h : k < (obs ws 1).length) : atR ws ((obs ws 1)[k].1 : Int) = ((obs ws 1)[k].2 % 16, ptrsO ws (obs ws 1)[k], dataO ws (obs ws 1)[k], 0) := by
  have hs : obs ws 1 = (obs ws 1).take k ++ (obs ws 1)[k] :: (obs ws 1).drop (k + 1) := by
    rw [← List.drop_eq_getElem_cons h, List.take_append_drop]
  exact atR_some hs

set_option maxRecDepth 20000 in
set_option maxHeartbeats 2000000 in
theorem rat_any (s : Value) (ws : List Int) (at' : Int) (w : World) (hs : VRow w s (Uw ws)) (hU : U32 ws) (hl : ws.length ≤ 4194304) :
    Calls Try.prog 22 #[s, .int .i64 at'] w fun e w' => ∃ p d kd er, e = .returned (.tuple #[.agg #[.int .i64 kd, p, d], .int .i64 er]) ∧ ∃ ps ds, atR ws at' = (kd, ps, ds, er) ∧ w'.ownsRow w.heap.size 3 1 p ps.length (Iw ps) ∧ w'.ownsRow w.heap.size 22 1 d ds.length (Uw ds) ∧ Below w.heap.size w w' := by
  have HS := hide hs
  have HU := hide hU
  have HL := hide hl
  have HZL := hide (obs_len ws)
  obtain ⟨i0, hi, hz0, hz1, hz2⟩ := info_parts Try.infoI64
  obtain ⟨i4, hi4, hy0, hy1, hy2⟩ := info_parts Try.infoU32
  have hmx : Try.prog.follows .mixedOrders = true := by kernel_rfl
  have hb0 : Below w.heap.size w (w.alloc (.cells #[.int .i64 0, .slice none 0 0, .slice none 0 0] 39)) := (Below.refl _ w).alloc (Nat.le_refl _) _
  have HP := hide (rplaces_any s ws (w.alloc (.cells #[.int .i64 0, .slice none 0 0, .slice none 0 0] 39)) (hs.below hb0) hU hl)
  have HB0 := hide hb0
  obtain ⟨a, cap, rfl, g1, g2, g3⟩ := hs.shape
  rw [Uw_len2] at *
  clear g1 g2 g3 hs hU hl hb0
  go_enter Try.func22, Try.ntmps22
  go_wp2_with fail
  refine Calls.mono (unhide HP) ?_
  rintro e w1 ⟨v, rfl, hown, b1⟩
  obtain ⟨pv, cv, rfl⟩ := ownsV_shape hown
  have HV := hide (show VRow w1 (.slice pv (obs ws 1).length cv) (plV (obs ws 1)) from vrow_of_owns (by simpa [plV] using hown))
  have HRES := hide (show w1.heap[w.heap.size]? = some (.cells #[.int .i64 0, .slice none 0 0, .slice none 0 0] 39 (0, 0)) from (b1.block _ (by simp)).trans (World.alloc_heap_new w _))
  have HB1 := hide ((unhide HB0).trans (b1.mono (unhide HB0).size))
  have HAT := hide (show ∀ k (h : k < (obs ws 1).length), atR ws ((obs ws 1)[k].1 : Int) = ((obs ws 1)[k].2 % 16, ptrsO ws (obs ws 1)[k], dataO ws (obs ws 1)[k], 0) ∧ (obs ws 1)[k].2 = wd ws (obs ws 1)[k].1 ∧ okH ws (obs ws 1)[k].1 from fun k h => ⟨atR_at h, (obs_mem (List.getElem_mem h)).2⟩)
  have HNO := hide (fun (h : ∀ x ∈ obs ws 1, ¬ (x.1 : Int) = at') => atR_none h)
  obtain ⟨Z, hZ⟩ : ∃ Z, Z = obs ws 1 := ⟨_, rfl⟩
  rw [← hZ] at HZL HV HAT HNO ⊢
  clear hown b1 HP hZ
  go_wp2_with fail
  go_loop [8] (fun i => ∃ k : Nat, k ≤ Z.length ∧ i = .int .i64 (k : Int) ∧ Hid (∀ x ∈ Z.take k, ¬ (x.1 : Int) = at')) (fun i => Z.length - (intOf i).toNat)
  case atStart => exact ⟨0, Nat.zero_le _, rfl, by simp [Hid]⟩
  case round =>
    obtain ⟨k, hk, rfl, hno⟩ := hrel
    by_cases hlt : k < Z.length
    · have hkI : (k : Int) < (Z.length : Int) := by omega
      obtain ⟨b, off, cz, e0, g1, g2, hcl⟩ := (unhide HV).open (by intro e; have := congrArg List.length e; simp [plV] at this; rw [this] at hlt; simp at hlt)
      simp only [Value.slice.injEq] at e0
      obtain ⟨rfl, g3, rfl⟩ := e0
      have hc := hcl k _ (plV_at hlt)
      have hnw : IntKind.i64.wrap ((k : Int) + 1) = (k : Int) + 1 := by have := unhide HL; have := unhide HZL; rw [IntKind.wrap_i64]; omega
      have HTK := hide (show Z.take (k + 1) = Z.take k ++ [Z[k]] from List.take_succ_eq_append_getElem hlt)
      obtain ⟨hA, n2, n3⟩ := unhide HAT k hlt
      have HLT := hide hlt
      have HNK := hide hno.out
      generalize Z[k] = x at *
      clear g1 g2 g3 hcl hno hk hlt
      by_cases heq : (x.1 : Int) = at'
      · subst heq
        obtain ⟨o1, o2, o3⟩ := n3
        rw [← n2] at o2 o3
        obtain ⟨u0, u1⟩ := (unhide HU).wd x.1
        rw [← n2] at u0 u1
        have hS1 := (unhide HS).below (unhide HB1)
        obtain ⟨b', off', cz', e0', g1', g2', hcl'⟩ := hS1.open (by intro e; have := congrArg List.length e; rw [Uw_len2] at this; rw [this] at o1; simp at o1)
        simp only [Value.slice.injEq] at e0'
        obtain ⟨rfl, g3', rfl⟩ := e0'
        have hcx := hcl' x.1 _ (by rw [List.getElem?_map, wd_get o1]; rfl)
        rw [← n2] at hcx
        have f1 := szN_int u0
        have f2 := ptN_int x.2
        have f3 := ptN_lt x.2
        have hlp : (ptrsO ws x).length = ptN x.2 := by rw [ptrsO, List.length_take, List.length_drop]; omega
        have HCP := hide (show ∀ j (hj : j < (ptrsO ws x).length), w1.cell? ⟨b', off' + (x.1 + (j + 1)), none⟩ = some (.int .u32 (ptrsO ws x)[j]) ∧ 0 ≤ (ptrsO ws x)[j] ∧ (ptrsO ws x)[j] < 4294967296 ∧ x.1 + (j + 1) < ws.length by
          intro j hj
          rw [hlp] at hj
          have hjj : x.1 + (j + 1) < ws.length := by omega
          have he : (ptrsO ws x)[j]'(by rw [hlp]; exact hj) = wd ws (x.1 + (j + 1)) := by
            have h1 : (ptrsO ws x)[j]? = some (wd ws (x.1 + (j + 1))) := by
              rw [ptrsO, List.getElem?_take_of_lt hj, List.getElem?_drop, show x.1 + 1 + j = x.1 + (j + 1) by omega, wd_get hjj]
            rw [List.getElem?_eq_getElem (by rw [hlp]; exact hj)] at h1
            exact Option.some.inj h1
          rw [he]
          exact ⟨hcl' _ _ (by rw [List.getElem?_map, wd_get hjj]; rfl), ((unhide HU).wd _).1, ((unhide HU).wd _).2, hjj⟩)
        obtain ⟨q2, c2, hcut2, hrow2, _⟩ := hS1.cut_lh Try.underlying29 Try.sizeU32 (x.1 + 1 + ptN x.2) (szN x.2 - 1 - ptN x.2) (by rw [Uw_len2]; omega)
        have HR2 := hide (show VRow w1 (.slice q2 (dataO ws x).length c2) (Uw (dataO ws x)) by
          have e1 : (dataO ws x).length = szN x.2 - 1 - ptN x.2 := by rw [dataO, List.length_take, List.length_drop]; omega
          rw [e1, dataO, Uw, List.map_take, List.map_drop]
          exact hrow2)
        have e1 : szN x.2 - 1 - ptN x.2 = (dataO ws x).length := by rw [dataO, List.length_take, List.length_drop]; omega
        rw [e1] at hcut2
        have e2 : ((x.1 + 1 + ptN x.2 : Nat) : Int) + ((dataO ws x).length : Int) = (x.1 : Int) + x.2 / 4096 := by omega
        rw [e2, show ((x.1 + 1 + ptN x.2 : Nat) : Int) = (x.1 : Int) + 1 + (ptN x.2 : Int) by omega] at hcut2
        obtain ⟨ps, hps⟩ : ∃ ps, ps = ptrsO ws x := ⟨_, rfl⟩
        obtain ⟨ds, hds⟩ : ∃ ds, ds = dataO ws x := ⟨_, rfl⟩
        rw [← hps] at HCP hlp hA
        rw [← hds] at HR2 hcut2 hA
        rw [← hlp] at hcut2
        have hptl : x.2 / 16 % 256 = (ps.length : Int) := by omega
        have HSZ := hide (fun w => rsize_t x.2 w u0 u1)
        have HPT := hide (fun w => rptrs_t x.2 w u0 u1)
        have HKD := hide (fun w => rkind_t x.2 w u0 u1)
        rw [hptl] at HPT
        have HDL := hide (show ds.length < 1048576 by rw [hds, ← e1]; have := szN_lt u1; omega)
        have HPL := hide (show ps.length < 256 by omega)
        have hpI : (x.1 : Int) < (ws.length : Int) := by omega
        have hw1 : IntKind.i64.wrap ((x.1 : Int) + 1) = (x.1 : Int) + 1 := by have := unhide HL; rw [IntKind.wrap_i64]; omega
        have hw2 : IntKind.i64.wrap ((x.1 : Int) + 1 + (ps.length : Int)) = (x.1 : Int) + 1 + (ps.length : Int) := by have := unhide HL; have := unhide HPL; rw [IntKind.wrap_i64]; omega
        have hw3 : IntKind.i64.wrap ((x.1 : Int) + x.2 / 4096) = (x.1 : Int) + x.2 / 4096 := by have := unhide HL; rw [IntKind.wrap_i64]; omega
        have HA := hide hA
        have hwl : w.heap.size < w1.heap.size := (Array.getElem?_eq_some_iff.1 (unhide HRES)).1
        have hbv : Below w1.heap.size w1 (w1.alloc (.cells #[.int .i64 (x.2 % 16), .slice none 0 0, .slice none 0 0] 39)) := (Below.refl _ _).alloc (Nat.le_refl _) _
        have HST := hide (show OG w (w1.alloc (.cells #[.int .i64 (x.2 % 16), .slice none 0 0, .slice none 0 0] 39)) w.heap.size w1.heap.size (w1.heap.size + 1) (x.2 % 16) (.slice none 0 0) (.slice none 0 0) [] [] from
          ⟨(hbv.block _ hwl).trans (unhide HRES), World.alloc_heap_new w1 _, World.ownsRow_nil _ _ _ _, World.ownsRow_nil _ _ _ _, (unhide HB1).trans (hbv.mono (unhide HB1).size), Nat.le_refl _, hwl, Nat.lt_succ_self _, by simp⟩)
        obtain ⟨p, h⟩ := x
        dsimp only at *
        clear g1' g2' g3' hcl' hS1 hrow2 n2 o1 o2 o3 f1 f2 f3 hlp e1 e2 hps hds hptl hA hbv
        go_wp2_with fail
        refine Calls.mono (unhide HKD _) ?_
        rintro e w2 ⟨rfl, hw2⟩
        obtain rfl : w1 = w2 := hw2.symm
        clear hw2
        go_wp2_with fail
        go_loopw [11] (fun i wr => ∃ (k : Nat) (vp : Value), k ≤ ps.length ∧ i = .int .i64 ((k : Int) + 1) ∧ OG w wr w.heap.size w1.heap.size (w1.heap.size + 1) (h % 16) vp (.slice none 0 0) (ps.take k) [] ∧ Keep (fun b => w1.heap.size ≤ b) w1 wr) (fun i _ => ps.length + 1 - (intOf i).toNat)
        case atStart => exact ⟨0, .slice none 0 0, Nat.zero_le _, rfl, by rw [List.take_zero]; exact unhide HST, Keep.of_below ((Below.refl _ _).alloc (Nat.le_refl _) _)⟩
        case round =>
          clear HST
          obtain ⟨k, vp, hk, rfl, hos, hkw⟩ := hrel
          obtain ⟨a0, a1, a2, af⟩ := hos.cells
          have hlk : (ps.take k).length = k := by rw [List.length_take]; omega
          obtain ⟨vpp, vpc, rfl⟩ := ownsV_shape hos.rowp
          rw [hlk] at a1 hos
          by_cases hlt : k < ps.length
          · obtain ⟨hcy, y0, y1, y2⟩ := unhide HCP k hlt
            have hbl : b' < w1.heap.size := World.block_lt_of_cell? w1 _ hcy
            have hcy2 := (hkw.cell (p := ⟨b', off' + (p + (k + 1)), none⟩) hbl (fun h => by have h2 : w1.heap.size ≤ b' := h; omega)).trans hcy
            have hkI2 : (k : Int) + 1 ≤ (ps.length : Int) := by omega
            have HTK2 := hide (show ps.take (k + 1) = ps.take k ++ [ps[k]] from List.take_succ_eq_append_getElem hlt)
            generalize ps[k] = y at *
            have hyw : IntKind.i64.wrap y = y := by rw [IntKind.wrap_i64]; omega
            have hw5 : IntKind.i64.wrap ((p : Int) + ((k : Int) + 1)) = ((p + (k + 1) : Nat) : Int) := by have := unhide HL; rw [IntKind.wrap_i64]; omega
            have hw4 : IntKind.i64.wrap ((k : Int) + 1 + 1) = (k : Int) + 1 + 1 := by have := unhide HPL; rw [IntKind.wrap_i64]; omega
            have hin : ((p + (k + 1) : Nat) : Int) < (ws.length : Int) := by omega
            obtain ⟨z, hz⟩ : ∃ z, z = p + (k + 1) := ⟨_, rfl⟩
            rw [← hz] at hcy2 hw5 hin
            have hbW : Below wr.heap.size wr (wr.alloc (.cells #[.int .i64 y] 3)).drew := ((Below.refl _ wr).alloc (Nat.le_refl _) _).drew
            have hog := hos.below hbW
            have HO := hide hog
            have a1a : (wr.alloc (.cells #[.int .i64 y] 3)).cell? ⟨w1.heap.size, 1, none⟩ = some (.slice vpp k vpc) := (hbW.cell (p := ⟨w1.heap.size, 1, none⟩) (World.block_lt_of_cell? _ _ a1)).trans a1
            have hcya : (wr.alloc (.cells #[.int .i64 y] 3)).cell? ⟨b', off' + z, none⟩ = some (.int .u32 y) := (hbW.cell (p := ⟨b', off' + z, none⟩) (World.block_lt_of_cell? _ _ hcy2)).trans hcy2
            have HOW := hide (show (wr.alloc (.cells #[.int .i64 y] 3)).drew.ownsRow (w1.heap.size + 1) 3 1 (.slice vpp k vpc) k (Iw (ps.take k)) by have := hog.rowp; rw [hlk] at this; exact this)
            have HBS := hide (show w1.heap.size + 1 ≤ wr.heap.size from hos.ord.2.2.2)
            have HLT2 := hide hlt
            have HLK := hide hlk
            have HKW := hide (hkw.trans (Keep.of_below (F := fun b => w1.heap.size ≤ b) hbW) (fun x hx => Or.inl hx))
            clear hos hkw hbW hog hk hlt hlk a0 a2 af hcy y2 hz
            go_wp2_with fail
            refine Calls.mono (unhide HPT _) ?_
            rintro e w3 ⟨rfl, hw3⟩
            obtain rfl : wr = w3 := hw3.symm
            clear hw3
            go_wp2_with fail
            go_region_law (first
              | (refine step_append_gen rfl _ _ 30 rfl (w1.heap.size + 1) 3 i0 (.int .i64 0) Try.underlying30 hi hz0 1 8 (by omega) hz1 hz2 rfl (.slice vpp k vpc) k (Iw (ps.take k)) (by first | rfl | simp [Act.eval, Act.put]) (unhide HOW) ⟨wr.heap.size, 0, none⟩ 1 [.int .i64 y] (by first | rfl | simp [Act.eval, Act.put]) rfl (by intro j u hj; match j, hj with | 0, hj => (simp at hj; subst hj; simp [Addr.add])) (by intro u hu; simp at hu; subst hu; rfl) (by have := unhide HPL; have := unhide HLT2; unfold maxLen; omega) (by have := unhide HPL; have := unhide HLT2; omega) (by show w1.heap.size + 1 ≤ (wr.alloc (.cells #[.int .i64 y] 3)).heap.size; rw [World.size_alloc]; have := unhide HBS; omega) ?_; intro v2 w6 hown6 hgrow6 hob6; obtain ⟨K1, g1, e1, er⟩ := (unhide HO).set (q2 := v2) hgrow6 (fun k' e => ((unhide HOW).lt k' e).1) 1; obtain ⟨_, z1, _, zf⟩ := three_cells e1; have zf1 := zf 1; obtain ⟨p2, c3, rfl⟩ := ownsV_shape hown6; have HJ := hide (And.intro K1 (And.intro g1 hown6)); clear hown6 hgrow6 K1 g1 e1 er hob6 zf))
            all_goals
              go_wp2_with fail
              obtain ⟨K1, g1, hown6⟩ := unhide HJ
              have ho := unhide HO
              obtain ⟨o1, o2, o3, o4⟩ := ho.ord
              have hv0 : ∀ k', (Value.slice vpp k vpc).ownBlock = some k' → w1.heap.size + 1 ≤ k' := fun k' e => ((unhide HOW).lt k' e).1
              have hov : ∀ k', (Value.slice p2 (k + 1) c3).ownBlock = some k' → w1.heap.size + 1 ≤ k' := fun k' e => (hown6.lt k' e).1
              go_roundw
              case rel =>
                refine ⟨k + 1, _, unhide HLT2, by go_num, ⟨(K1.block _ (Array.getElem?_eq_some_iff.1 ho.res).1 (fun hk => ?_)).trans ho.res, g1, ?_, World.ownsRow_nil _ _ _ _, ?_, o1, o2, o3, Nat.le_trans o4 K1.size⟩, (unhide HKW).trans K1 (fun x hx => ?_)⟩
                · rcases hk with hk | hk
                  · have := hv0 _ hk; omega
                  · omega
                · have hl : (ps.take (k + 1)).length = k + 1 := by rw [unhide HTK2, List.length_append, unhide HLK]; rfl
                  rw [hl, unhide HTK2, Iw, List.map_append]
                  exact ownsV_keep (by first | exact hown6 | (rw [← List.map_take] at hown6; exact hown6)) (keep_set w6 w1.heap.size 1 _) (fun k' hk' e => by have := hov k' hk'; omega)
                · refine ho.bel.trans (K1.below ho.bel.size (fun k' hk' => ?_))
                  rcases hk' with hk' | hk'
                  · have := hv0 _ hk'; omega
                  · omega
                · rcases hx with hx | hx
                  · exact Or.inl (by have := hv0 _ hx; omega)
                  · exact Or.inl (by omega)
              case measure => (have := unhide HLT2; simp [intOf]; omega)
          · have hke : k = ps.length := by omega
            subst hke
            rw [List.take_length] at hos
            have hgt : (ps.length : Int) < (ps.length : Int) + 1 := by omega
            have hd1 : Below wr.heap.size wr wr.drew := (Below.refl _ wr).drew
            have HOD := hide (hos.below hd1)
            have hR : VRow wr (.slice q2 ds.length c2) (Uw ds) := (unhide HR2).keep hkw (fun b off c e hne hb => by
              have h1 := hs_block (unhide HR2) hne b (by rw [e]; rfl)
              omega)
            have HR2' := hide (hR.below hd1)
            have hone : ∀ u ∈ Uw ds, u.oneCell' = true := by
              intro u hu
              obtain ⟨_, _, rfl⟩ := List.mem_map.1 hu
              rfl
            have HON := hide hone
            have a2d : ({ wr with drawn := wr.drawn + 1 } : World).cell? ⟨w1.heap.size, 2, none⟩ = some (.slice none 0 0) := a2
            have HBS := hide (show w1.heap.size + 1 ≤ wr.drew.heap.size from hos.ord.2.2.2)
            clear hos hkw hd1 hR hone hk hlt hlk a0 a1 af
            go_wp2_with fail
            refine Calls.mono (unhide HPT _) ?_
            rintro e w3 ⟨rfl, hw3⟩
            obtain rfl : wr = w3 := hw3.symm
            clear hw3
            go_wp2_with fail
            refine wp_region_still_tail 13 hmx (by kernel_rfl) ?_
            simp only [List.take_succ_cons, List.take_zero, List.drop_succ_cons, List.drop_zero]
            repeat (first | still_step | still_call (unhide HPT _) | still_call (unhide HSZ _))
            refine wpStill_nil ?_
            go_wp2_with (first
              | (at_builtin; refine wpList_append_vrow rfl _ _ 29 rfl (w1.heap.size + 1) 22 i4 (.int .u32 0) Try.underlying29 hi4 hy0 4 hy1 hy2 rfl (.slice none 0 0) 0 [] rfl (World.ownsRow_nil _ _ _ _) q2 ds.length c2 (Uw ds) rfl (unhide HR2') (unhide HON) (by have := unhide HDL; unfold maxLen; omega) (by have := unhide HDL; omega) (unhide HBS) ?_))
            intro v2 w6 hown6 hgrow6 hob6
            obtain ⟨K1, g1, e1, er⟩ := (unhide HOD).set (q2 := v2) hgrow6 (by simp [Value.ownBlock]) 2
            obtain ⟨z0, z1, z2, zf⟩ := three_cells e1
            have zf2 := zf 2
            obtain ⟨x0, x1, x2, xf⟩ := three_cells er
            have xf0 := xf 0
            have xf1 := xf 1
            have xf2 := xf 2
            obtain ⟨p2, c3, rfl⟩ := ownsV_shape hown6
            have HJ := hide (And.intro K1 (And.intro g1 (And.intro hown6 er)))
            clear hown6 hgrow6 K1 g1 e1 er hob6 zf xf
            go_wp2_with fail
            obtain ⟨K1, g1, hown6, er⟩ := unhide HJ
            have hod := unhide HOD
            obtain ⟨o1, o2, o3, o4⟩ := hod.ord
            have K0 : Keep (fun k' => k' = w.heap.size ∨ k' = w1.heap.size) wr.drew (w6.setCell ⟨w1.heap.size, 2, none⟩ (.slice p2 ds.length c3)) := K1.weak (fun k' e => by
              rcases e with e | e
              · simp [Value.ownBlock] at e
              · exact Or.inr e)
            have er2 := ((keep_set w6 w1.heap.size 2 (.slice p2 ds.length c3)).block w.heap.size (Array.getElem?_eq_some_iff.1 er).1 (by omega)).trans er
            obtain ⟨s3, K3⟩ := set_three (x := .int .i64 (h % 16)) (y := .slice vpp ps.length vpc) (z := .slice p2 ds.length c3) er2
            obtain ⟨t0, t1, t2, _⟩ := three_cells s3
            have K4 := K0.trans K3 (fun k' e => Or.inl (Or.inl e))
            have hrp := hod.rowp
            refine bodyPost_ret (v := .tuple #[.agg #[.int .i64 (h % 16), .slice vpp ps.length vpc, .slice p2 ds.length c3], .int .i64 0]) (by simp [results, Try.results22, go_sem, t0, t1, t2]) rfl ⟨_, _, _, _, rfl, _, _, unhide HA, ?_, ?_, ?_⟩
            · exact ownsV_base (ownsV_keep hrp K4 (fun k' hk' e => by have := (hrp.lt k' hk').1; omega)) (by omega)
            · refine ownsV_base (ownsV_keep (ownsV_keep hown6 (keep_set w6 w1.heap.size 2 (.slice p2 ds.length c3)) (fun k' hk' e => by have := (hown6.lt k' hk').1; omega)) K3 (fun k' hk' e => by have := (hown6.lt k' hk').1; omega)) (by omega)
            · exact hod.bel.trans (K4.below hod.bel.size (fun k' e => by omega))
      · have hne : ((x.1 : Int) == at') = false := by simpa using heq
        have HNE := hide heq
        clear heq hA n2 n3
        go_wp2_with fail
        go_round
        case rel =>
          refine ⟨k + 1, unhide HLT, by go_num, ?_⟩
          unfold Hid
          rw [unhide HTK]
          intro y hy
          rcases List.mem_append.1 hy with hy | hy
          · exact unhide HNK y hy
          · simp only [List.mem_cons, List.not_mem_nil, or_false] at hy
            rw [hy]
            exact unhide HNE
        case measure => (have := unhide HLT; simp [intOf]; omega)
    · have hke : k = Z.length := by omega
      subst hke
      rw [List.take_length] at hno
      have HN := hide (unhide HNO hno.out)
      obtain ⟨x0, x1, x2, xf⟩ := three_cells (unhide HRES)
      have xf0 := xf 0
      have xf1 := xf 1
      have xf2 := xf 2
      clear hk hlt hno xf
      go_wp2_with fail
      obtain ⟨s3, K3⟩ := set_three (x := .int .i64 0) (y := .slice none 0 0) (z := .slice none 0 0) (unhide HRES)
      obtain ⟨t0, t1, t2, _⟩ := three_cells s3
      refine bodyPost_ret (v := .tuple #[.agg #[.int .i64 0, .slice none 0 0, .slice none 0 0], .int .i64 6]) (by simp [results, Try.results22, go_sem, t0, t1, t2]) rfl ⟨_, _, _, _, rfl, _, _, unhide HN, World.ownsRow_nil _ _ _ _, World.ownsRow_nil _ _ _ _, ?_⟩
      exact (unhide HB1).trans (K3.below (unhide HB1).size (fun k' e => by omega))
end Go.Proofs.Ytnoebpbachoniaa
