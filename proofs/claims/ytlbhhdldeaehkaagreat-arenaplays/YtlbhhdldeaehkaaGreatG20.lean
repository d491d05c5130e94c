/- Texts of ours, one behind the other: ThRef2, ThPos. -/
import Derived.Test.YtlbhhdldeaehkaaGreatG16
import Derived.Test.YtlbhhdldeaehkaaGreatG17
/- The reference of layer 15: Follow, Compact. -/
namespace Go.Proofs.YtlbhhdldeaehkaaGreat
open Go.RowKit

theorem Tryz.infoPos : (Tryz.prog.info? 123).map (fun i => (i.zero, i.size, i.bytes)) = some (some (.agg #[.int .i64 0, .int .i64 0]), 2, 16) := by kernel_rfl
theorem Tryz.infoU32t : (Tryz.prog.info? 31).map (fun i => (i.zero, i.size, i.bytes)) = some (some (.int .u32 0), 1, 4) := by kernel_rfl
theorem run_make_ints (n : Nat) (hn : n ≤ 1048576) (w : World) :
    (Instr.makeSlice 32 (.int .i64 (n : Int)) (.int .i64 (n : Int))).run Tryz.prog w = .ok (.slice (some ⟨w.heap.size, 0, none⟩) n n) (w.alloc (.cells (Array.replicate n (.int .i64 0)) 3)) := by
  rw [← List.toArray_replicate, ← made_arr]
  exact run_make_row' 32 3 (.int .i64 0) 8 Tryz.underlying32 Tryz.infoI64 rfl .i64 .i64 n (by omega) (by omega) w
theorem cell_two {w : World} {v1 v2 : Value} {t : TypeId} : ∀ (j : Nat) (u : Value), [v1, v2][j]? = some u → (w.alloc (.cells #[v1, v2] t)).cell? ((⟨w.heap.size, 0, none⟩ : Addr).add j) = some u := fun j u hj => by
  match j, hj with
  | 0, hj => simp at hj; subst hj; simp [Addr.add]
  | 1, hj => simp at hj; subst hj; simp [Addr.add]

set_option maxRecDepth 20000 in
set_option maxHeartbeats 4000000 in
theorem rcompact_any (s t : Value) (ws rs : List Int) (w : World) (hs : VRow w s (Uw ws)) (ht : VRow w t (Iw rs)) (hU : U32 ws) :
    Calls Tryz.prog 66 #[s, t] w fun e w' => ∃ vo vr vp l, e = .returned (.tuple #[vo, vr, vp, .int .i64 (chkE (rightB ws rs))]) ∧ LivD ws rs l ∧ CmpD w' w.heap.size ws rs l vo vr vp ∧ Below w.heap.size w w' := by
  have HL := hide (rlive14_any s t ws rs w hs ht hU)
  cases hb : rightB ws rs with
  | false =>
    rw [hb, show chkE false = 11 from rfl] at HL
    have HC := hide (show ∀ l w', CmpD w' w.heap.size ws rs l (.slice none 0 0) (.slice none 0 0) (.slice none 0 0) from fun l w' => by
      unfold CmpD outW outR outP
      rw [hb]
      exact ⟨World.ownsRow_nil _ _ _ _, World.ownsRow_nil _ _ _ _, World.ownsRow_nil _ _ _ _⟩)
    clear hs ht hU hb
    go_enter Tryz.func66, Tryz.ntmps66
    go_wp2_with fail
    refine Calls.mono (unhide HL) ?_
    rintro e w1 ⟨v, l, rfl, hli, hrow, b1⟩
    have HB1 := hide b1
    have HLI := hide hli
    obtain ⟨pv, cv, rfl⟩ := ownsV_shape hrow
    clear hli hrow b1
    go_wp2_with fail
    (try simp only [Exit.inBlock, Exit.then])
    refine bodyPost_ret (results_tmp4 rfl _ _ _) rfl ?_
    exact ⟨_, _, _, l, rfl, unhide HLI, unhide HC l w1, unhide HB1⟩
  | true =>
    rw [hb, show chkE true = 0 from rfl] at HL
    obtain ⟨r1, r2, r3, r4, r5⟩ := right_parts hb
    obtain ⟨i0, hi, hz0, hz1, hz2⟩ := info_parts Tryz.infoI64
    obtain ⟨i1, hi1, hy0, hy1, hy2⟩ := info_parts Tryz.infoPos
    obtain ⟨i2, hi2, hx0, hx1, hx2⟩ := info_parts Tryz.infoU32t
    have hmk := run_make_ints ws.length r2
    have HR := hide hb
    have HS := hide hs
    have HT := hide ht
    have HU := hide hU
    have HWL := hide (And.intro r1 (And.intro r2 r4))
    have HPL := hide (fun r hr => isPl_iff14.1 ((heap_parts r5).2.2 r hr))
    obtain ⟨a, cap, rfl, g1, g2, g3⟩ := hs.shape
    obtain ⟨a', cap', rfl, k1, k2, k3⟩ := ht.shape
    have hlw : (Uw ws).length = ws.length := by simp
    have hlr : (Iw rs).length = rs.length := by simp
    rw [hlw] at HS HL
    rw [hlr] at HT HL
    rw [hlw, hlr]
    clear hs ht hU hb g1 g2 g3 k1 k2 k3 hlw hlr r1 r2 r3 r4 r5
    go_enter Tryz.func66, Tryz.ntmps66
    go_wp2_with fail
    refine Calls.mono (unhide HL) ?_
    rintro e w1 ⟨v, l, rfl, hli, hrow, b1⟩
    have hlv := Liv.of (unhide HU) (unhide HR) (hli.1 (unhide HR))
    have HV := hide hlv
    have HLL := hide (show l.length ≤ 1048576 from Nat.le_trans (obs_count ws l (hlv.rise.imp fun {a b} h => by omega) hlv.ob) (unhide HWL).2.1)
    have HLI := hide hli
    obtain ⟨pv, cv, rfl⟩ := ownsV_shape hrow
    have HV1 := hide (vrow_of_owns (vs := Iw l) (s := .slice pv l.length cv) (by simpa using hrow))
    have HB1 := hide b1
    have HTB := hide (show TbP (w1.alloc (.cells (Array.replicate ws.length (.int .i64 0)) 3)) w1.heap.size (.slice none 0 0) (tabL ws []) [] from ⟨by
      rw [tabL_nil]
      have := World.alloc_heap_new w1 (.cells (Array.replicate ws.length (.int .i64 0)) 3)
      simpa using this, World.ownsRow_nil _ _ _ _⟩)
    have HB0 := hide (show Below w1.heap.size w1 (w1.alloc (.cells (Array.replicate ws.length (.int .i64 0)) 3)) from (Below.refl _ _).alloc (Nat.le_refl _) _)
    clear hlv hli hrow b1 HL
    go_wp2_with fail
    obtain ⟨g, hg⟩ : ∃ g, g = w1.heap.size := ⟨_, rfl⟩
    have HG := hide hg
    rw [← hg] at HTB HB0 ⊢
    clear hg
    go_loopw [11, 12, 13] (fun pv av iv wr => ∃ (k q : Nat) (pp : Option Addr) (pc : Nat), iv = .int .i64 (k : Int) ∧ av = .int .i64 (q : Int) ∧ pv = .slice pp k pc ∧ k ≤ l.length ∧ Hid (q = 1 + sums ws (l.take k)) ∧ Hid (TbP wr g (.slice pp k pc) (tabL ws (l.take k)) ((l.take k).map fun a => (a, toA ws l a))) ∧ Hid (Below g w1 wr)) (fun _ _ iv _ => l.length - (intOf iv).toNat)
    case atStart => exact ⟨0, 1, none, 0, rfl, rfl, rfl, Nat.zero_le _, rfl, unhide HTB, unhide HB0⟩
    case round =>
      clear HTB HB0
      obtain ⟨k, q, pp, pc, rfl, rfl, rfl, hk, hq, hT, hbr⟩ := hrel
      have hkw : IntKind.i64.wrap ((k : Int) + 1) = (k : Int) + 1 := by have := unhide HLL; rw [IntKind.wrap_i64]; omega
      by_cases hlt : k < l.length
      · have hkI : (k : Int) < (l.length : Int) := by omega
        have hbr' : Below w1.heap.size w1 wr := by rw [← unhide HG]; exact unhide hbr
        have hbw := (unhide HB1).trans (hbr'.mono (unhide HB1).size)
        obtain ⟨bt, ot, ct, e9, _, _, htl⟩ := (unhide HV1).open (by intro e; have := congrArg List.length e; simp at this; rw [this] at hlt; simp at hlt)
        simp only [Value.slice.injEq, List.length_map] at e9
        obtain ⟨rfl, e8, rfl⟩ := e9
        have ht0 := htl k (.int .i64 l[k]) (by rw [List.getElem?_map, List.getElem?_eq_getElem hlt]; rfl)
        have hob := (unhide HV).ob l[k] (List.getElem_mem hlt)
        obtain ⟨s1, s2, s3, s4⟩ := isOb_size hob
        obtain ⟨p, hp⟩ : ∃ p : Nat, (p : Int) = l[k] := ⟨_, s4⟩
        have htk := List.take_succ_eq_append_getElem hlt
        have hat : toA ws l l[k] = ((1 + sums ws (l.take k) : Nat) : Int) := (unhide HV).at (M := l.take k) (R := l.drop (k + 1)) (by rw [← List.drop_eq_getElem_cons hlt, List.take_append_drop])
        have hnm : l[k] ∉ l.take k := (unhide HV).apart (M := l.take k) (R := l.drop (k + 1)) (by rw [← List.drop_eq_getElem_cons hlt, List.take_append_drop])
        rw [← hp] at ht0 s1 s2 s3 htk hat hnm
        simp only [Int.toNat_natCast] at s1 s2 s3
        have hpI : (p : Int) < (ws.length : Int) := by omega
        obtain ⟨bk, off, cz, e5, _, _, hwl⟩ := (unhide HS).open (by intro e; have := congrArg List.length e; simp at this; rw [this] at s3; simp at s3)
        simp only [Value.slice.injEq, List.length_map] at e5
        obtain ⟨rfl, e6, rfl⟩ := e5
        have hw0 := hwl p _ (by rw [List.getElem?_map, wd_get s3]; rfl)
        obtain ⟨u0, u1⟩ := (unhide HU).wd p
        have HSZ := hide (fun w => rsize_t (wd ws p) w u0 u1)
        have hsA : wd ws p / 4096 = ((szA ws (p : Int) : Nat) : Int) := by unfold szA; rw [Int.toNat_natCast]; exact (szN_int u0).symm
        have hall := (unhide HV).all (unhide HWL).1
        have hsum : sums ws (l.take (k + 1)) = sums ws (l.take k) + szA ws (p : Int) := by rw [htk, sums_app]; simp [sums]
        have hsl : sums ws (l.take (k + 1)) ≤ sums ws l := by
          have : sums ws l = sums ws (l.take (k + 1)) + sums ws (l.drop (k + 1)) := by rw [← sums_app, List.take_append_drop]
          omega
        have hqq := unhide hq
        have hwr : IntKind.i64.wrap ((q : Int) + wd ws p / 4096) = ((q + szA ws (p : Int) : Nat) : Int) := by
          rw [hsA, IntKind.wrap_i64]; have := (unhide HWL).2.1; omega
        have hTM := (unhide hT).mark p (q : Int)
        have hcl := (unhide hT).cell (tabL_get (ws := ws) (M := l.take k) s3)
        have hfz : wr.frozen? ⟨g, p, none⟩ = false := frozen_of_block (unhide hT).blk
        obtain ⟨W1, hW1⟩ : ∃ W1, W1 = wr.setCell ⟨g, p, none⟩ (.int .i64 (q : Int)) := ⟨_, rfl⟩
        rw [← hW1] at hTM
        have hb1 : Below g w1 W1 := by
          refine (unhide hbr).trans ?_
          rw [hW1]
          exact ⟨rfl, rfl, rfl, by simp [World.setCell], fun k hk => heap_setCell_other wr ⟨g, p, none⟩ k _ (fun e => by dsimp only at e; omega)⟩
        have HQ2 := hide (show q + szA ws (p : Int) = 1 + sums ws (l.take (k + 1)) by rw [hsum, hqq]; omega)
        have hTM2 : TbP W1 g (.slice pp k pc) (tabL ws (l.take (k + 1))) ((l.take k).map fun a => (a, toA ws l a)) := by
          rw [htk, ← tabL_snoc hnm s3, ← hqq]
          exact hTM
        have HPS := hide (show (l.take (k + 1)).map (fun a => (a, toA ws l a)) = ((l.take k).map fun a => (a, toA ws l a)) ++ [((p : Int), (q : Int))] by rw [htk, List.map_append, List.map_cons, List.map_nil, hat, hqq])
        have hlk : ((l.take k).map fun a => (a, toA ws l a)).length = k := by rw [List.length_map, List.length_take]; omega
        have HTM := hide hTM2
        have hcl2 : W1.cell? ⟨bt, ot + k, none⟩ = some (.int .i64 (p : Int)) := by
          have hx : Below w1.heap.size w1 W1 := by rw [← unhide HG]; exact hb1
          exact (hx.cell (World.block_lt_of_cell? _ _ ht0)).trans ht0
        have htw := (hbr'.cell (World.block_lt_of_cell? _ _ ht0)).trans ht0
        have HCW := hide (fun (W : World) (hW : Below g w1 W) => (show W.cell? ⟨bt, ot + k, none⟩ = some (.int .i64 (p : Int)) ∧ W.cell? ⟨bk, off + p, none⟩ = some (.int .u32 (wd ws p)) from by
          have hx : Below w1.heap.size w1 W := by rw [← unhide HG]; exact hW
          exact ⟨(hx.cell (World.block_lt_of_cell? _ _ ht0)).trans ht0, (((unhide HB1).trans (hx.mono (unhide HB1).size)).cell (World.block_lt_of_cell? _ _ hw0)).trans hw0⟩))
        have HB1' := hide hb1
        have HOX := hide (show (W1.alloc (.cells #[.int .i64 (p : Int), .int .i64 (q : Int)] 123)).ownsRow (g + 1) 123 2 (.slice pp k pc) k (posC ((l.take k).map fun a => (a, toA ws l a))) from ownsV_keep (F := fun _ => False) (by have := hTM2.own; rw [hlk] at this; exact this) (Keep.of_below ((Below.refl _ _).alloc (Nat.le_refl _) _)) (fun _ _ => id))
        have HGS := hide (show g + 1 ≤ (W1.alloc (.cells #[.int .i64 (p : Int), .int .i64 (q : Int)] 123)).heap.size by rw [World.size_alloc]; have := (Array.getElem?_eq_some_iff.1 hTM2.blk).1; omega)
        have HLK := hide hlk
        have HLT := hide hlt
        obtain ⟨PC, hPC⟩ : ∃ PC, PC = posC ((l.take k).map fun a => (a, toA ws l a)) := ⟨_, rfl⟩
        rw [← hPC] at HOX
        have HPC := hide hPC
        have hW1' := hW1
        generalize wd ws p = x at *
        clear hbr' hbw e8 htl hob s1 s2 s3 s4 hp htk hat hnm e6 hwl hw0 hall hsum hsl hqq hTM hb1 hTM2 hlk hlt ht0 hT hbr hk hq hPC hsA
        go_upto_region 11 with fail
        rw [← hW1]
        clear hW1 hW1' hcl hfz htw
        go_wp2_with (first
          | (at_builtin; refine wpList_append_gen rfl _ _ 59 rfl (g + 1) 123 i1 (.agg #[.int .i64 0, .int .i64 0]) Tryz.underlying59 hi1 hy0 2 16 (by omega) hy1 hy2 rfl (.slice pp k pc) k PC rfl (unhide HOX) ⟨W1.heap.size, 0, none⟩ 1 1 [.int .i64 (p : Int), .int .i64 (q : Int)] rfl rfl cell_two (by intro u hu; simp at hu; rcases hu with rfl | rfl <;> rfl) (by have := unhide HLL; have := unhide HLT; unfold maxLen; omega) (by have := unhide HLL; have := unhide HLT; omega) (unhide HGS) ?_))
        intro v6 w6 hown6 hgrow6 hob6
        have hps := (unhide HTM).push (x := ((p : Int), (q : Int))) (by rw [unhide HLK, ← unhide HPC]; exact hown6) hgrow6
        rw [← unhide HPS] at hps
        obtain ⟨p6, c6, rfl⟩ := ownsV_shape hown6
        have HF := hide hps.1
        have HB6 := hide ((unhide HB1').trans (hps.2.mono (Nat.le_succ _)))
        obtain ⟨d0, d1⟩ := unhide HCW w6 (unhide HB6)
        clear hps hown6 hgrow6 hob6 hcl2
        go_wp2_with fail
        refine Calls.mono (unhide HSZ _) ?_
        rintro e w7 ⟨rfl, rfl⟩
        go_wp2_with fail
        go_roundw
        case rel => exact ⟨k + 1, _, p6, c6, by go_num, rfl, rfl, unhide HLT, unhide HQ2, unhide HF, unhide HB6⟩
        case measure => (have := unhide HLT; simp [intOf]; omega)
      · have hke : k = l.length := by omega
        subst hke
        have hge : ¬ (l.length : Int) < (l.length : Int) := by omega
        rw [List.take_length] at hT
        have hbr' : Below w1.heap.size w1 wr := by rw [← unhide HG]; exact unhide hbr
        have HBW := hide ((unhide HB1).trans (hbr'.mono (unhide HB1).size))
        have HBR := hide hbr'
        have HTT := hide (unhide hT)
        have HGL := hide (show g < wr.heap.size from (Array.getElem?_eq_some_iff.1 (unhide hT).blk).1)
        have HO0 := hide (show (wr.alloc (.cells #[.int .u32 0] 31)).ownsRow wr.heap.size 31 1 (.slice (some ⟨wr.heap.size, 0, none⟩) 1 1) 1 (Uw [0]) from ⟨rfl, Or.inr ⟨wr.heap.size, 1, _, rfl, Nat.le_refl _, World.alloc_heap_new wr _, Nat.le_refl _, by unfold maxLen; omega, rfl, rfl⟩⟩)
        have HBA := hide (show Below wr.heap.size wr (wr.alloc (.cells #[.int .u32 0] 31)) from (Below.refl _ _).alloc (Nat.le_refl _) _)
        clear hlt hk hkw hq hT hbr hbr'
        rename World => wa
        go_wp2_with fail
        go_loopw [14, 15] (fun ov iv wz => ∃ (i : Nat) (po : Option Addr) (pq : Nat) (xs : List Int), iv = .int .i64 (i : Int) ∧ ov = .slice po xs.length pq ∧ i ≤ l.length ∧ Hid (xs = layW ((l.take i).map (obT ws (toA ws l))) ∧ wz.ownsRow wa.heap.size 31 1 (.slice po xs.length pq) xs.length (Uw xs)) ∧ Hid (Below wa.heap.size wa wz)) (fun _ iv _ => l.length - (intOf iv).toNat)
        case atStart => exact ⟨0, _, 1, [0], rfl, rfl, Nat.zero_le _, ⟨rfl, unhide HO0⟩, unhide HBA⟩
        case round =>
          clear HO0 HBA
          obtain ⟨i, po, pq, xs, rfl, rfl, hi9, hX, hbz⟩ := hrel
          have hiw : IntKind.i64.wrap ((i : Int) + 1) = (i : Int) + 1 := by have := unhide HLL; rw [IntKind.wrap_i64]; omega
          by_cases hlt : i < l.length
          · have hiI : (i : Int) < (l.length : Int) := by omega
            obtain ⟨bt, ot, ct, e9, _, _, htl⟩ := (unhide HV1).open (by intro e; have := congrArg List.length e; simp at this; rw [this] at hlt; simp at hlt)
            simp only [Value.slice.injEq, List.length_map] at e9
            obtain ⟨rfl, e8, rfl⟩ := e9
            have ht0 := htl i (.int .i64 l[i]) (by rw [List.getElem?_map, List.getElem?_eq_getElem hlt]; rfl)
            have hob := (unhide HV).ob l[i] (List.getElem_mem hlt)
            have hcl := (unhide HV).closed l[i] (List.getElem_mem hlt)
            obtain ⟨s1, s2, s3, s4⟩ := isOb_size hob
            obtain ⟨p, hp⟩ : ∃ p : Nat, (p : Int) = l[i] := ⟨_, s4⟩
            have htk := List.take_succ_eq_append_getElem hlt
            rw [← hp] at ht0 s1 s2 s3 htk hob hcl
            simp only [Int.toNat_natCast] at s1 s2 s3
            have hpI : (p : Int) < (ws.length : Int) := by omega
            obtain ⟨bk, off, cz, e5, _, _, hwl⟩ := (unhide HS).open (by intro e; have := congrArg List.length e; simp at this; rw [this] at s3; simp at s3)
            simp only [Value.slice.injEq, List.length_map] at e5
            obtain ⟨rfl, e6, rfl⟩ := e5
            have hw0 := hwl p _ (by rw [List.getElem?_map, wd_get s3]; rfl)
            obtain ⟨u0, u1⟩ := (unhide HU).wd p
            have HSZ := hide (fun w => rsize_t (wd ws p) w u0 u1)
            have HPT := hide (fun w => rptrs_t (wd ws p) w u0 u1)
            have hsA : wd ws p / 4096 = ((szA ws (p : Int) : Nat) : Int) := by unfold szA; rw [Int.toNat_natCast]; exact (szN_int u0).symm
            have hpA := ptN_int (wd ws p)
            have HCW := hide (fun (W : World) (hW : Below wa.heap.size wa W) => (show W.cell? ⟨bt, ot + i, none⟩ = some (.int .i64 (p : Int)) ∧ W.cell? ⟨bk, off + p, none⟩ = some (.int .u32 (wd ws p)) ∧ (∀ j, p + 1 + j < ws.length → W.cell? ⟨bk, off + (p + 1 + j), none⟩ = some (.int .u32 (wd ws (p + 1 + j)))) ∧ ∀ v : Nat, v < ws.length → W.cell? ⟨g, v, none⟩ = some (.int .i64 (toA ws l (v : Int))) from by
              have hx : Below w1.heap.size w1 W := (unhide HBR).trans (hW.mono (unhide HBR).size)
              have hy : Below w.heap.size w W := (unhide HB1).trans (hx.mono (unhide HB1).size)
              refine ⟨(hx.cell (World.block_lt_of_cell? _ _ ht0)).trans ht0, (hy.cell (World.block_lt_of_cell? _ _ hw0)).trans hw0, fun j hj => ?_, fun v hv => ?_⟩
              · have h1 := hwl (p + 1 + j) _ (by rw [List.getElem?_map, wd_get hj]; rfl)
                exact (hy.cell (World.block_lt_of_cell? _ _ h1)).trans h1
              · have h1 := (unhide HTT).cell (tabL_get (ws := ws) (M := l) hv)
                exact (hW.cell (World.block_lt_of_cell? _ _ h1)).trans h1))
            obtain ⟨c0, c1, c2, c3⟩ := unhide HCW wr (unhide hbz)
            have hxe := (unhide hX).1
            have hlay : xs.length = 1 + sums ws (l.take i) := by rw [hxe]; exact lay_len (unhide HU) (fun x hx => (unhide HV).ob x (List.mem_of_mem_take hx))
            have hall := (unhide HV).all (unhide HWL).1
            have hsl : sums ws (l.take i) + szA ws (p : Int) ≤ sums ws l := by
              have h1 : sums ws l = sums ws (l.take (i + 1)) + sums ws (l.drop (i + 1)) := by rw [← sums_app, List.take_append_drop]
              rw [htk, sums_app] at h1
              simp only [sums] at h1
              omega
            obtain ⟨g1, g2, g3⟩ := obT_good (unhide HU) (t := toA ws l) hob
            have hw1' : (wrdO (obT ws (toA ws l) (p : Int)))[0]? = some (wd ws p) := by
              rw [wrdO_good g1, g2, Int.toNat_natCast]; rfl
            have HWT := hide (fun j y (h : (wrdO (obT ws (toA ws l) (p : Int)))[j]? = some y) => wrd_take h)
            have HW0 := hide hw1'
            have HWG := hide (fun j (hj : j + 1 < szA ws (p : Int)) => wrd_get (unhide HV) (p := p) rfl hob hj)
            have HPC := hide (show ∀ j, j < ptN (wd ws p) → ∃ v : Nat, v < ws.length ∧ (v : Int) = wd ws (p + 1 + j) from fun j hj => by
              have h1 := ptsA_get hob (k := j) (by rw [Int.toNat_natCast]; exact hj)
              rw [Int.toNat_natCast] at h1
              rcases hcl _ (List.mem_of_getElem? h1) with h2 | h2
              · exact ⟨0, by have := (unhide HWL).1; omega, by omega⟩
              · have h3 := ((unhide HV).ob _ h2)
                have h4 := h3.1
                have h5 := h3.2.1
                exact ⟨(wd ws (p + 1 + j)).toNat, by omega, by omega⟩)
            have HXS := hide (show layW ((l.take (i + 1)).map (obT ws (toA ws l))) = xs ++ wrdO (obT ws (toA ws l) (p : Int)) by rw [htk, lay_snoc', hxe])
            have HGN := hide (show (wrdO (obT ws (toA ws l) (p : Int))).length = szA ws (p : Int) ∧ 0 < szA ws (p : Int) ∧ xs.length + szA ws (p : Int) ≤ 1048577 ∧ p + szA ws (p : Int) ≤ ws.length ∧ ptN (wd ws p) < szA ws (p : Int) from ⟨g3, by unfold szA; rw [Int.toNat_natCast]; omega, by have := (unhide HWL).2.1; omega, by unfold szA; rw [Int.toNat_natCast]; omega, by unfold szA; rw [Int.toNat_natCast]; exact s1⟩)
            have HXL := hide (show xs.length ≤ 1048577 by have := (unhide HGN).2.2.1; omega)
            have HLT := hide hlt
            have HBZ := hide (unhide hbz)
            have HOX := hide (show (wr.alloc (.cells #[.int .u32 (wd ws p)] 31)).ownsRow wa.heap.size 31 1 (.slice po xs.length pq) xs.length (Uw xs) from ownsV_keep (F := fun _ => False) (unhide hX).2 (Keep.of_below ((Below.refl _ _).alloc (Nat.le_refl _) _)) (fun _ _ => id))
            have HNW := hide (show ∀ (j : Nat) (u : Value), [Value.int .u32 (wd ws p)][j]? = some u → (wr.alloc (.cells #[.int .u32 (wd ws p)] 31)).cell? ((⟨wr.heap.size, 0, none⟩ : Addr).add j) = some u from fun j u hj => by match j, hj with | 0, hj => (simp at hj; subst hj; simp [Addr.add]))
            have HGS := hide (show wa.heap.size ≤ (wr.alloc (.cells #[.int .u32 (wd ws p)] 31)).heap.size by rw [World.size_alloc]; have := (unhide hbz).size; omega)
            have HXO := hide (unhide hX).2
            have HSA := hide (And.intro hsA hpA)
            clear htl ht0 e8 hob hcl s1 s2 s3 s4 hp htk e6 hwl hw0 hxe hlay hall hsl g1 g2 g3 hw1' hX hbz hlt hi9 hsA hpA c2 c3
            generalize hxx : wd ws p = x at *
            have HXX := hide hxx
            clear hxx
            go_wp2_with (first
              | (at_builtin; refine wpList_append_gen rfl _ _ 33 rfl wa.heap.size 31 i2 (.int .u32 0) Tryz.underlying33 hi2 hx0 1 4 (by omega) hx1 hx2 rfl (.slice po xs.length pq) xs.length (Uw xs) rfl (unhide HOX) ⟨wr.heap.size, 0, none⟩ 1 1 [.int .u32 x] rfl rfl (unhide HNW) (by intro u hu; simp at hu; subst hu; rfl) (by have := unhide HXL; unfold maxLen; omega) (by have := unhide HXL; omega) (unhide HGS) ?_))
            intro v5 w5 hown5 hgrow5 hob5
            have hb5 := (unhide HBZ).trans (own_push (unhide HXO) (unhide HBZ).size (Nat.le_refl _) hgrow5)
            obtain ⟨p5, c5, rfl⟩ := ownsV_shape hown5
            have HO5 := hide (show w5.ownsRow wa.heap.size 31 1 (.slice p5 (xs.length + 1) c5) (xs ++ [x]).length (Uw (xs ++ [x])) by simpa using hown5)
            have HB5 := hide hb5
            clear hown5 hgrow5 hob5 hb5 HOX HNW HGS HXO HBZ c0 c1
            go_wp2_with fail
            go_loopw [14, 17] (fun ov kv wz => ∃ (j : Nat) (po : Option Addr) (pq : Nat) (ys : List Int), kv = .int .i64 ((j : Int) + 1) ∧ ov = .slice po ys.length pq ∧ j + 1 ≤ szA ws (p : Int) ∧ Hid (ys = xs ++ (wrdO (obT ws (toA ws l) (p : Int))).take (j + 1) ∧ wz.ownsRow wa.heap.size 31 1 (.slice po ys.length pq) ys.length (Uw ys)) ∧ Hid (Below wa.heap.size wa wz)) (fun _ kv _ => szA ws (p : Int) - (intOf kv).toNat)
            case atStart =>
              have hyl8 : (xs ++ [x]).length = xs.length + 1 := by simp
              refine ⟨0, p5, c5, xs ++ [x], by go_num, by rw [hyl8], (unhide HGN).2.1, ⟨?_, ?_⟩, unhide HB5⟩
              · have h1 := unhide HWT 0 _ (unhide HW0)
                rw [h1]; simp
              · rw [hyl8]; have h1 := unhide HO5; rw [hyl8] at h1; exact h1
            case round =>
              clear HO5 HB5
              obtain ⟨j, po, pq, ys, rfl, rfl, hj, hY, hbz⟩ := hrel
              obtain ⟨c0, c1, c2, c3⟩ := unhide HCW wr (unhide hbz)
              obtain ⟨hsA, hpA⟩ := unhide HSA
              have HYO := hide (unhide hY).2
              have HYE := hide (unhide hY).1
              have HBZ := hide (unhide hbz)
              have hjw : IntKind.i64.wrap ((j : Int) + 1 + 1) = (j : Int) + 1 + 1 := by have := (unhide HGN).2.2.2.1; have := (unhide HWL).2.1; rw [IntKind.wrap_i64]; omega
              by_cases hlt : j + 1 < szA ws (p : Int)
              · have hltI : (j : Int) + 1 < x / 4096 := by rw [hsA]; omega
                have hpj : p + 1 + j < ws.length := by have := (unhide HGN).2.2.2.1; omega
                have hpw : IntKind.i64.wrap ((p : Int) + ((j : Int) + 1)) = ((p + 1 + j : Nat) : Int) := by have := (unhide HWL).2.1; rw [IntKind.wrap_i64]; omega
                have hpjI : ((p + 1 + j : Nat) : Int) < (ws.length : Int) := by omega
                have hcj := c2 j hpj
                have hwg := unhide HWG j hlt
                have HYL := hide (show ys.length ≤ 1048577 by
                  rw [unhide HYE, List.length_append, List.length_take]
                  have := (unhide HGN).2.2.1
                  have : min (j + 1) (wrdO (obT ws (toA ws l) (p : Int))).length ≤ j + 1 := Nat.min_le_left _ _
                  omega)
                have HLJ := hide (show j + 1 + 1 ≤ szA ws (p : Int) from hlt)
                obtain ⟨y0, y1⟩ := (unhide HU).wd (p + 1 + j)
                obtain ⟨q9, hq9⟩ : ∃ q9 : Nat, q9 = p + 1 + j := ⟨_, rfl⟩
                rw [← hq9] at hpw hpjI hcj hwg y0 y1
                by_cases hpt : j < ptN x
                · rw [if_pos hpt] at hwg
                  have hle : (j : Int) + 1 ≤ x / 16 % 256 := by rw [← hpA]; omega
                  obtain ⟨v, hv, hve⟩ := unhide HPC j hpt
                  rw [← hq9] at hve
                  rw [← hve] at hcj hwg y0 y1
                  have hcv := c3 v hv
                  have hvI : (v : Int) < (ws.length : Int) := by omega
                  obtain ⟨t0, t1⟩ := (unhide HV).to_bound (v : Int)
                  have HYN := hide (show ys ++ [toA ws l (v : Int)] = xs ++ (wrdO (obT ws (toA ws l) (p : Int))).take (j + 1 + 1) by rw [unhide HWT (j + 1) _ hwg, unhide HYE, List.append_assoc])
                  generalize toA ws l (v : Int) = y at *
                  have hyw : IntKind.u32.wrap y = y := by rw [IntKind.wrap_u32]; omega
                  have HOX := hide (show (wr.alloc (.cells #[.int .u32 y] 31)).ownsRow wa.heap.size 31 1 (.slice po ys.length pq) ys.length (Uw ys) from ownsV_keep (F := fun _ => False) (unhide HYO) (Keep.of_below ((Below.refl _ _).alloc (Nat.le_refl _) _)) (fun _ _ => id))
                  have HNW := hide (show ∀ (i : Nat) (u : Value), [Value.int .u32 y][i]? = some u → (wr.alloc (.cells #[.int .u32 y] 31)).cell? ((⟨wr.heap.size, 0, none⟩ : Addr).add i) = some u from fun i u hi => by match i, hi with | 0, hi => (simp at hi; subst hi; simp [Addr.add]))
                  have HGS := hide (show wa.heap.size ≤ (wr.alloc (.cells #[.int .u32 y] 31)).heap.size by rw [World.size_alloc]; have := (unhide HBZ).size; omega)
                  clear hY hbz hwg hlt hj hpj hve hq9 c2 c3 hsA hpA hpt hv
                  go_wp2_with fail
                  refine Calls.mono (unhide HSZ _) ?_
                  rintro e w6 ⟨rfl, hw6⟩
                  subst hw6
                  go_wp2_with fail
                  refine Calls.mono (unhide HPT _) ?_
                  rintro e w7 ⟨rfl, hw7⟩
                  subst hw7
                  go_wp2_with (first
                    | (at_builtin; refine wpList_append_gen rfl _ _ 33 rfl wa.heap.size 31 i2 (.int .u32 0) Tryz.underlying33 hi2 hx0 1 4 (by omega) hx1 hx2 rfl (.slice po ys.length pq) ys.length (Uw ys) rfl (unhide HOX) ⟨w7.heap.size, 0, none⟩ 1 1 [.int .u32 y] rfl rfl (unhide HNW) (by intro u hu; simp at hu; subst hu; rfl) (by have := unhide HYL; unfold maxLen; omega) (by have := unhide HYL; omega) (unhide HGS) ?_))
                  intro v8 w8 hown8 hgrow8 hob8
                  have hb8 := (unhide HBZ).trans (own_push (unhide HYO) (unhide HBZ).size (Nat.le_refl _) hgrow8)
                  obtain ⟨p8, c8, rfl⟩ := ownsV_shape hown8
                  have HO8 := hide (show w8.ownsRow wa.heap.size 31 1 (.slice p8 (ys.length + 1) c8) (ys ++ [y]).length (Uw (ys ++ [y])) by simpa using hown8)
                  have HB8 := hide hb8
                  have hyl8 : (ys ++ [y]).length = ys.length + 1 := by simp
                  have HY8 := hide hyl8
                  clear hown8 hgrow8 hob8 hb8 hyl8
                  go_wp2_with fail
                  go_roundw
                  case rel => exact ⟨j + 1, p8, c8, ys ++ [y], by go_num, by rw [unhide HY8], unhide HLJ, ⟨unhide HYN, by rw [unhide HY8]; rw [unhide HY8] at HO8; exact unhide HO8⟩, unhide HB8⟩
                  case measure => (have := unhide HLJ; simp [intOf]; omega)
                · rw [if_neg hpt] at hwg
                  have hle : ¬ (j : Int) + 1 ≤ x / 16 % 256 := by rw [← hpA]; omega
                  have HYN := hide (show ys ++ [wd ws q9] = xs ++ (wrdO (obT ws (toA ws l) (p : Int))).take (j + 1 + 1) by rw [unhide HWT (j + 1) _ hwg, unhide HYE, List.append_assoc])
                  generalize wd ws q9 = y at *
                  have HOX := hide (show (wr.alloc (.cells #[.int .u32 y] 31)).ownsRow wa.heap.size 31 1 (.slice po ys.length pq) ys.length (Uw ys) from ownsV_keep (F := fun _ => False) (unhide HYO) (Keep.of_below ((Below.refl _ _).alloc (Nat.le_refl _) _)) (fun _ _ => id))
                  have HNW := hide (show ∀ (i : Nat) (u : Value), [Value.int .u32 y][i]? = some u → (wr.alloc (.cells #[.int .u32 y] 31)).cell? ((⟨wr.heap.size, 0, none⟩ : Addr).add i) = some u from fun i u hi => by match i, hi with | 0, hi => (simp at hi; subst hi; simp [Addr.add]))
                  have HGS := hide (show wa.heap.size ≤ (wr.alloc (.cells #[.int .u32 y] 31)).heap.size by rw [World.size_alloc]; have := (unhide HBZ).size; omega)
                  clear hY hbz hwg hlt hj hpj hq9 c2 c3 hsA hpA hpt
                  go_wp2_with fail
                  refine Calls.mono (unhide HSZ _) ?_
                  rintro e w6 ⟨rfl, hw6⟩
                  subst hw6
                  go_wp2_with fail
                  refine Calls.mono (unhide HPT _) ?_
                  rintro e w7 ⟨rfl, hw7⟩
                  subst hw7
                  go_wp2_with (first
                    | (at_builtin; refine wpList_append_gen rfl _ _ 33 rfl wa.heap.size 31 i2 (.int .u32 0) Tryz.underlying33 hi2 hx0 1 4 (by omega) hx1 hx2 rfl (.slice po ys.length pq) ys.length (Uw ys) rfl (unhide HOX) ⟨w7.heap.size, 0, none⟩ 1 1 [.int .u32 y] rfl rfl (unhide HNW) (by intro u hu; simp at hu; subst hu; rfl) (by have := unhide HYL; unfold maxLen; omega) (by have := unhide HYL; omega) (unhide HGS) ?_))
                  intro v8 w8 hown8 hgrow8 hob8
                  have hb8 := (unhide HBZ).trans (own_push (unhide HYO) (unhide HBZ).size (Nat.le_refl _) hgrow8)
                  obtain ⟨p8, c8, rfl⟩ := ownsV_shape hown8
                  have HO8 := hide (show w8.ownsRow wa.heap.size 31 1 (.slice p8 (ys.length + 1) c8) (ys ++ [y]).length (Uw (ys ++ [y])) by simpa using hown8)
                  have HB8 := hide hb8
                  have hyl8 : (ys ++ [y]).length = ys.length + 1 := by simp
                  have HY8 := hide hyl8
                  clear hown8 hgrow8 hob8 hb8 hyl8
                  go_wp2_with fail
                  go_roundw
                  case rel => exact ⟨j + 1, p8, c8, ys ++ [y], by go_num, by rw [unhide HY8], unhide HLJ, ⟨unhide HYN, by rw [unhide HY8]; rw [unhide HY8] at HO8; exact unhide HO8⟩, unhide HB8⟩
                  case measure => (have := unhide HLJ; simp [intOf]; omega)
              · have hltI : ¬ (j : Int) + 1 < x / 4096 := by rw [hsA]; omega
                have hje : j + 1 = szA ws (p : Int) := by omega
                have HE := hide (show ys = layW ((l.take (i + 1)).map (obT ws (toA ws l))) by
                  rw [unhide HXS, unhide HYE, hje, ← (unhide HGN).1, List.take_length])
                clear hY hbz hlt hj hjw hje c0 c1 c2 c3 hsA hpA
                go_wp2_with fail
                refine Calls.mono (unhide HSZ _) ?_
                rintro e w6 ⟨rfl, hw6⟩
                subst hw6
                go_wp2_with fail
                go_roundw
                case rel => exact ⟨i + 1, po, pq, ys, by go_num, rfl, unhide HLT, ⟨unhide HE, unhide HYO⟩, unhide HBZ⟩
                case measure => (have := unhide HLT; simp [intOf]; omega)
          · have hie : i = l.length := by omega
            subst hie
            have hge2 : ¬ (l.length : Int) < (l.length : Int) := by omega
            rw [List.take_length] at hX
            have HXE := hide (unhide hX).1
            have HXO := hide (unhide hX).2
            have HBZ := hide (unhide hbz)
            have HTW := hide (show ∀ W, Below wr.heap.size wr W → (∀ (j : Nat) (u : Value), (Iw rs)[j]? = some u → True) ∧ VRow W (.slice a' rs.length cap') (Iw rs) ∧ ∀ v : Nat, v < ws.length → W.cell? ⟨g, v, none⟩ = some (.int .i64 (toA ws l (v : Int))) from fun W hW => by
              have hz : Below wa.heap.size wa W := (unhide hbz).trans (hW.mono (unhide hbz).size)
              have hx : Below w1.heap.size w1 W := (unhide HBR).trans (hz.mono (unhide HBR).size)
              have hy : Below w.heap.size w W := (unhide HB1).trans (hx.mono (unhide HB1).size)
              refine ⟨fun _ _ _ => trivial, (unhide HT).below hy, fun v hv => ?_⟩
              have h1 := (unhide HTT).cell (tabL_get (ws := ws) (M := l) hv)
              exact (hz.cell (World.block_lt_of_cell? _ _ h1)).trans h1)
            clear hX hbz hlt hi9 hiw
            rename World => wb
            go_wp2_with fail
            go_loopw [19, 20] (fun rv iv wz => ∃ (i : Nat) (pr : Option Addr) (pq' : Nat), iv = .int .i64 (i : Int) ∧ rv = .slice pr i pq' ∧ i ≤ rs.length ∧ Hid (wz.ownsRow wb.heap.size 3 1 (.slice pr i pq') i (Iw ((rs.take i).map (toA ws l)))) ∧ Hid (Below wb.heap.size wb wz)) (fun _ iv _ => rs.length - (intOf iv).toNat)
            case atStart => exact ⟨0, none, 0, rfl, rfl, Nat.zero_le _, World.ownsRow_nil _ _ _ _, Below.refl _ _⟩
            case round =>
              obtain ⟨i, pr, pq', rfl, rfl, hi9, hR9, hbz⟩ := hrel
              obtain ⟨_, c1, c2⟩ := unhide HTW wr (unhide hbz)
              have hiw : IntKind.i64.wrap ((i : Int) + 1) = (i : Int) + 1 := by have := (unhide HWL).2.2; rw [IntKind.wrap_i64]; omega
              by_cases hlt : i < rs.length
              · have hiI : (i : Int) < (rs.length : Int) := by omega
                obtain ⟨bt, ot, ct, e9, _, _, htl⟩ := c1.open (by intro e; have := congrArg List.length e; simp at this; rw [this] at hlt; simp at hlt)
                simp only [Value.slice.injEq, List.length_map] at e9
                obtain ⟨rfl, e8, rfl⟩ := e9
                have ht0 := htl i (.int .i64 rs[i]) (by rw [List.getElem?_map, List.getElem?_eq_getElem hlt]; rfl)
                obtain ⟨v, hv, hve⟩ : ∃ v : Nat, v < ws.length ∧ (v : Int) = rs[i] := by
                  rcases unhide HPL rs[i] (List.getElem_mem hlt) with h | h
                  · exact ⟨0, by have := (unhide HWL).1; omega, by omega⟩
                  · have h4 := h.1
                    have h5 := h.2.1
                    exact ⟨rs[i].toNat, by omega, by omega⟩
                have hcv := c2 v hv
                have hvI : (v : Int) < (ws.length : Int) := by omega
                have htk : (rs.take (i + 1)).map (toA ws l) = (rs.take i).map (toA ws l) ++ [toA ws l (v : Int)] := by rw [List.take_succ_eq_append_getElem hlt, List.map_append, List.map_cons, List.map_nil, ← hve]
                rw [← hve] at ht0
                have HTK := hide htk
                have HLT := hide hlt
                have HBZ2 := hide (unhide hbz)
                have HRO := hide (unhide hR9)
                generalize toA ws l (v : Int) = y at *
                have HOX := hide (show (wr.alloc (.cells #[.int .i64 y] 3)).ownsRow wb.heap.size 3 1 (.slice pr i pq') i (Iw ((rs.take i).map (toA ws l))) from ownsV_keep (F := fun _ => False) (unhide hR9) (Keep.of_below ((Below.refl _ _).alloc (Nat.le_refl _) _)) (fun _ _ => id))
                have HNW := hide (show ∀ (i : Nat) (u : Value), [Value.int .i64 y][i]? = some u → (wr.alloc (.cells #[.int .i64 y] 3)).cell? ((⟨wr.heap.size, 0, none⟩ : Addr).add i) = some u from fun i u hi => by match i, hi with | 0, hi => (simp at hi; subst hi; simp [Addr.add]))
                have HGS := hide (show wb.heap.size ≤ (wr.alloc (.cells #[.int .i64 y] 3)).heap.size by rw [World.size_alloc]; have := (unhide hbz).size; omega)
                obtain ⟨RL, hRL⟩ : ∃ RL, RL = (rs.take i).map (toA ws l) := ⟨_, rfl⟩
                rw [← hRL] at HTK HRO HOX
                have HR4 := hide (unhide HWL).2.2
                clear htl e8 hve htk hR9 hbz hlt hi9 c1 c2 hv hRL
                go_wp2_with (first
                  | (at_builtin; refine wpList_append_gen rfl _ _ 32 rfl wb.heap.size 3 i0 (.int .i64 0) Tryz.underlying32 hi hz0 1 8 (by omega) hz1 hz2 rfl (.slice pr i pq') i (Iw RL) rfl (unhide HOX) ⟨wr.heap.size, 0, none⟩ 1 1 [.int .i64 y] rfl rfl (unhide HNW) (by intro u hu; simp at hu; subst hu; rfl) (by have := unhide HLT; have := unhide HR4; unfold maxLen; omega) (by have := unhide HLT; have := unhide HR4; omega) (unhide HGS) ?_))
                intro v8 w8 hown8 hgrow8 hob8
                have hb8 := (unhide HBZ2).trans (own_push (unhide HRO) (unhide HBZ2).size (Nat.le_refl _) hgrow8)
                obtain ⟨p8, c8, rfl⟩ := ownsV_shape hown8
                have HO8 := hide (show w8.ownsRow wb.heap.size 3 1 (.slice p8 (i + 1) c8) (i + 1) (Iw ((rs.take (i + 1)).map (toA ws l))) by rw [unhide HTK]; simpa using hown8)
                have HB8 := hide hb8
                clear hown8 hgrow8 hob8 hb8
                go_wp2_with fail
                go_roundw
                case rel => exact ⟨i + 1, p8, c8, by go_num, rfl, unhide HLT, unhide HO8, unhide HB8⟩
                case measure => (have := unhide HLT; simp [intOf]; omega)
              · have hie : i = rs.length := by omega
                subst hie
                have hge3 : ¬ (rs.length : Int) < (rs.length : Int) := by omega
                rw [List.take_length] at hR9
                have hbW : Below w.heap.size w wb := (unhide HBW).trans ((unhide HBZ).mono (unhide HBW).size)
                have HE := hide (show LivD ws rs l ∧ CmpD wr w.heap.size ws rs l (.slice po xs.length pq) (.slice pr rs.length pq') (.slice pp l.length pc) ∧ Below w.heap.size w wr from by
                  refine ⟨unhide HLI, ?_, hbW.trans ((unhide hbz).mono hbW.size)⟩
                  unfold CmpD outW outR outP
                  rw [if_pos (unhide HR), if_pos (unhide HR), if_pos (unhide HR)]
                  have e1 : xs = cW ws l := unhide HXE
                  have e2 : (cR ws l rs).length = rs.length := by unfold cR; rw [List.length_map]
                  have e3 : (posL ws l).length = l.length := by unfold posL; rw [List.length_map]
                  rw [e2, e3, ← e1]
                  have hz1 := (unhide HBZ).trans ((unhide hbz).mono (unhide HBZ).size)
                  refine ⟨ownsRow_base_a (ownsV_keep (F := fun _ => False) (unhide HXO) (Keep.of_below ((unhide hbz))) (fun _ _ => id)) (unhide HBW).size, ownsRow_base_a (unhide hR9) hbW.size, ?_⟩
                  have h9 := (unhide HTT).own
                  rw [show ((l.map fun a => (a, toA ws l a)) : List (Int × Int)).length = l.length by rw [List.length_map]] at h9
                  refine ownsRow_base_a (ownsV_keep (F := fun _ => False) h9 (Keep.of_below hz1) (fun _ _ => id)) ?_
                  have h1 := (unhide HB1).size
                  have h2 := unhide HG
                  omega)
                clear hR9 hbz hlt hi9 hiw c1 c2 hbW
                go_wp2_with fail
                (try simp only [Exit.inBlock, Exit.then])
                refine bodyPost_ret (results_tmp4 rfl _ _ _) rfl ?_
                exact ⟨_, _, _, rfl, l, unhide HE⟩
end Go.Proofs.YtlbhhdldeaehkaaGreat

/- Rows of places that went; the reference's Follow. -/
namespace Go.Proofs.YtlbhhdldeaehkaaGreat
open Go.RowKit

/-- A slice value that reads as places that went. -/
def PR (w : World) (v : Value) (L : List (Int × Int)) : Prop :=
  ∃ (a : Option Addr) (cap : Nat), v = .slice a L.length cap ∧ L.length ≤ cap ∧ cap ≤ maxLen ∧ (a = none → cap = 0) ∧ (L = [] ∨ ∃ g off, a = some ⟨g, off, none⟩ ∧ ∀ j (h : j < L.length), w.cell? ⟨g, off + j * 2, none⟩ = some (.int .i64 L[j].1) ∧ w.cell? ⟨g, off + j * 2 + 1, none⟩ = some (.int .i64 L[j].2))
theorem PR.below {w w' : World} {v : Value} {L : List (Int × Int)} (h : PR w v L) (hb : Below w.heap.size w w') : PR w' v L := by
  obtain ⟨a, cap, e, h1, h2, h3, h4⟩ := h
  refine ⟨a, cap, e, h1, h2, h3, ?_⟩
  rcases h4 with h4 | ⟨g, off, e2, hc⟩
  · exact Or.inl h4
  · refine Or.inr ⟨g, off, e2, fun j hj => ?_⟩
    obtain ⟨c1, c2⟩ := hc j hj
    exact ⟨(hb.cell (World.block_lt_of_cell? _ _ c1)).trans c1, (hb.cell (World.block_lt_of_cell? _ _ c2)).trans c2⟩
theorem PR.shape {w : World} {v : Value} {L : List (Int × Int)} (h : PR w v L) : ∃ (a : Option Addr) (cap : Nat), v = .slice a L.length cap ∧ L.length ≤ cap ∧ cap ≤ maxLen := by
  obtain ⟨a, cap, e, h1, h2, _⟩ := h
  exact ⟨a, cap, e, h1, h2⟩
theorem PR.open {w : World} {v : Value} {L : List (Int × Int)} (h : PR w v L) (hne : 0 < L.length) : ∃ g off cap, v = .slice (some ⟨g, off, none⟩) L.length cap ∧ ∀ j (h : j < L.length), w.cell? ⟨g, off + j * 2, none⟩ = some (.int .i64 L[j].1) ∧ w.cell? ⟨g, off + j * 2 + 1, none⟩ = some (.int .i64 L[j].2) := by
  obtain ⟨a, cap, e, _, _, _, h4⟩ := h
  rcases h4 with h4 | ⟨g, off, e2, hc⟩
  · rw [h4] at hne; simp at hne
  · exact ⟨g, off, cap, by rw [e, e2], hc⟩
theorem posC_get : ∀ {L : List (Int × Int)} {j : Nat} (h : j < L.length), (posC L)[j * 2]? = some (.int .i64 L[j].1) ∧ (posC L)[j * 2 + 1]? = some (.int .i64 L[j].2)
  | x :: L, 0, _ => by simp [posC]
  | x :: L, j + 1, h => by
    have := posC_get (L := L) (j := j) (by simpa using h)
    have e : posC (x :: L) = .int .i64 x.1 :: .int .i64 x.2 :: posC L := by simp [posC]
    rw [e, show (j + 1) * 2 = j * 2 + 1 + 1 by omega, show j * 2 + 1 + 1 + 1 = j * 2 + 1 + 1 + 1 from rfl]
    simp only [List.getElem?_cons_succ, List.getElem_cons_succ]
    exact this
theorem pr_of_owns {w : World} {base : Nat} {v : Value} {L : List (Int × Int)} (h : w.ownsRow base 123 2 v L.length (posC L)) : PR w v L := by
  rcases h.2 with ⟨h1, h2⟩ | ⟨g, cap, cur, e, a1, a2, a3, a4, a5, a6⟩
  · exact ⟨none, 0, by rw [h1, h2], by omega, Nat.zero_le _, fun _ => rfl, Or.inl (List.length_eq_zero_iff.1 h2)⟩
  · refine ⟨_, cap, e, a3, a4, fun e => (nomatch e), Or.inr ⟨g, 0, rfl, fun j hj => ?_⟩⟩
    have hc : ∀ i u, (posC L)[i]? = some u → w.cell? ⟨g, i, none⟩ = some u := fun i u hu => by
      rw [cell_of_row w g i _ _ (0, 0) a2]
      rw [← a6, List.getElem?_take] at hu
      split at hu
      · simpa using hu
      · cases hu
    obtain ⟨c1, c2⟩ := posC_get hj
    rw [Nat.zero_add]
    exact ⟨hc _ _ c1, hc _ _ c2⟩

theorem fndP_take : ∀ {L : List (Int × Int)} {j : Nat} {a : Int} (h : j < L.length), (∀ x ∈ L.take j, x.1 ≠ a) → fndP L a = if L[j].1 = a then L[j].2 else fndP (L.drop (j + 1)) a
  | x :: L, 0, a, _, _ => by simp [fndP]
  | x :: L, j + 1, a, h, hn => by
    have h1 : x.1 ≠ a := hn x (by simp)
    have ih := fndP_take (L := L) (j := j) (a := a) (by simpa using h) (fun y hy => hn y (by simp [hy]))
    simp only [fndP, if_neg h1]
    simpa using ih

end Go.Proofs.YtlbhhdldeaehkaaGreat
