/- The walk of the law WalRounds. -/
import Derived.Test.YtdpoiieblbmofaaG30
import Derived.Test.YtdpoiieblbmofaaG33
import Derived.StillTailTactics
import Derived.BigQuiet
namespace Go.Proofs.Ytdpoiieblbmofaa
open Go.RowKit

/-- What is so at the head of each round. -/
def RoundI (w : World) (g k : Nat) (wr : World) : Prop :=
  ∃ F G K lp dp s L b rv tv av S ids m, Run F G K wr g lp dp s L b rv tv av S ids m ∧ m ≤ 3 * k ∧ b.safe = ids.length ∧ ids.length ≤ 3 ∧ (0 < k → 1 ≤ ids.length) ∧ (∀ y ∈ ids, y.cnt ≤ 4) ∧ s.waits = [] ∧ (∀ j, all3 F G K j → w.heap.size ≤ j) ∧ Below w.heap.size w wr

theorem Run.out {F G K F0 : Nat → Prop} {w w' : World} {g : Nat} {lp dp : Value} {s : DK} {L : LG} {b : BK} {rv tv av : Value} {S : Id → Prop} {ids : List Id} {m : Nat} (h : Run F G K w g lp dp s L b rv tv av S ids m) (hk : Keep F0 w w') (ha : ∀ k, F0 k → ¬ all3 F G K k) : Run F G K w' g lp dp s L b rv tv av S ids m :=
  ⟨⟨⟨h.book.both.dev.stays hk.size (fun k hF => hk.block k (h.book.both.dev.lt k hF) (fun h0 => ha k h0 (Or.inl hF))), h.book.both.log.keep hk (fun k h0 hG => ha k h0 (Or.inr (Or.inl hG))), h.book.both.apart, h.book.both.size⟩, h.book.at_.keep hk (fun k h0 hK => ha k h0 (Or.inr (Or.inr hK))), h.book.apF, h.book.apG, h.book.first, h.book.next, h.book.age, h.book.starts, h.book.tl, h.book.al⟩, h.calm, h.live, h.dead, h.lst, h.inv, h.right, h.waits, h.ticks, h.next, h.age, h.small⟩

/-- .. and in its midst. -/
def RoundM (w : World) (g k : Nat) (wr : World) : Prop :=
  ∃ F G K lp dp s L b rv tv av S ids m, Run F G K wr g lp dp s L b rv tv av S ids m ∧ m ≤ 3 * k + 2 ∧ b.safe = ids.length ∧ ids.length ≤ 3 ∧ 1 ≤ ids.length ∧ (∀ y ∈ ids, y.cnt ≤ 4) ∧ s.waits = [] ∧ (∀ j, all3 F G K j → w.heap.size ≤ j) ∧ Below w.heap.size w wr

set_option maxRecDepth 20000 in
set_option maxHeartbeats 8000000 in
theorem wrounds_any (s0 : Value) (zs : List Int) (kp : Int) (w : World) (h0 : ZRow w s0 zs) :
    Calls Try.prog 6 #[s0, .int .i64 kp] w fun e w' => e = .returned (.bool true) ∧ Below w.heap.size w w' := by
  obtain ⟨a0, c0, rfl, n0, m0, z0, p0⟩ := h0
  have HP0 := hide p0
  have HBG := hide (begin_any w)
  have HAW := hide (fun w' => wawake_any w')
  obtain ⟨kk, hkk, hkk3⟩ : ∃ kk : Nat, (IntKind.u64.wrap kp).tmod 3 = (kk : Int) ∧ kk ≤ 2 := by
    rw [IntKind.wrap_u64]
    refine ⟨((kp % 18446744073709551616) % 3).toNat, ?_, ?_⟩
    · rw [Int.tmod_eq_emod_of_nonneg (by omega)]; omega
    · omega
  have hkI : (kk : Int) ≤ 2 := by omega
  have HKK := hide hkk3
  clear z0 p0 n0 m0 hkk3
  go_enter Try.func6, Try.ntmps6
  go_wp2_with fail
  refine Calls.mono (unhide HBG) ?_
  rintro e w1 ⟨g, rfl, lp, dp, F, G, K, hBk, hnew, b1⟩
  have HBK := hide hBk
  have HN := hide hnew
  have HB1 := hide b1
  clear hBk hnew b1 HBG
  go_wp2_with fail
  refine Calls.mono (unhide HAW _) ?_
  rintro e w2 ⟨rfl, b2⟩
  have hI : RoundI w g 0 w2 := by
    have hb := unhide HBK
    refine ⟨F, G, K, lp, dp, DK.new 256, lg0 0 1, bk0, _, _, _, (fun _ => False), [], 0, ⟨hb.below b2, calm_new, rfl, rfl, ⟨rfl, rfl, rfl⟩, inv_new 1, (fun y hy => by cases hy), Nat.le_refl _, Nat.le_refl _, Nat.le_refl _, Nat.le_refl _, Nat.zero_le _⟩, Nat.le_refl _, rfl, Nat.zero_le _, fun h => absurd h (Nat.lt_irrefl 0), (fun y hy => by cases hy), rfl, unhide HN, (unhide HB1).trans (b2.mono (unhide HB1).size)⟩
  clear b2 HAW HBK HN HB1
  go_wp2_with fail
  go_loopw [6] (fun i wr => ∃ k : Nat, k ≤ zs.length ∧ k ≤ 120 ∧ i = .int .i64 k ∧ RoundI w g k wr) (fun i _ => 120 - (intOf i).toNat)
  case atStart => exact ⟨0, Nat.zero_le _, Nat.zero_le _, rfl, hI⟩
  case round =>
    clear hI
    obtain ⟨k, hk, hk100, rfl, hI⟩ := hrel
    have HI := hide hI
    clear hI
    by_cases hlt : k < zs.length ∧ k < 120
    · obtain ⟨l1, l2⟩ := hlt
      obtain ⟨b0, o0, rfl, hc0⟩ : ∃ b off, a0 = some ⟨b, off, none⟩ ∧ ∀ j (h : j < zs.length), w.cell? ⟨b, off + j, none⟩ = some (.int .i64 zs[j]) := by
        rcases unhide HP0 with h | h
        · rw [h] at l1; simp at l1
        · exact h
      have hbw : Below w.heap.size w wr := by obtain ⟨_, _, _, _, _, _, _, _, _, _, _, _, _, _, _, _, _, _, _, _, _, _, h⟩ := unhide HI; exact h
      have hcell := (hbw.cell (World.block_lt_of_cell? w _ (hc0 k l1))).trans (hc0 k l1)
      have l1' : (k : Int) < (zs.length : Int) := by omega
      have l2' : (k : Int) < 120 := by omega
      have hk0 : (0 : Int) ≤ (k : Int) := by omega
      clear hc0
      generalize zs[k] = z at *
      obtain ⟨n, hn1, hn2⟩ : ∃ n : Nat, (IntKind.u64.wrap z).tmod 1700 = (n : Int) ∧ n ≤ 1699 := by
        rw [IntKind.wrap_u64]
        refine ⟨((z % 18446744073709551616) % 1700).toNat, ?_, ?_⟩
        · rw [Int.tmod_eq_emod_of_nonneg (by omega)]; omega
        · omega
      have hn3 : (n : Int) ≤ 1699 := by omega
      obtain ⟨w8, hrun, hblk8, b8⟩ := make_block wr n (by omega)
      have HBLK := hide hblk8
      have HB8 := hide b8
      have HN2 := hide hn2
      obtain ⟨gx, hgx⟩ : ∃ gx, gx = wr.heap.size := ⟨_, rfl⟩
      rw [← hgx] at hrun HBLK
      have HGX := hide hgx
      obtain ⟨F2, G2, K2, lp2, dp2, s2, L2, b2, rv2, tv2, av2, S2, ids2, m2, hR, j1, j2, j3, j4, j5, j6, j7, j8⟩ := unhide HI
      have HR8 := hide (hR.below b8)
      have HOUT : Hid (∀ j, all3 F2 G2 K2 j → j < gx) := fun j hj => by rw [hgx]; exact hR.lt j hj
      have HBW8 := hide (j8.trans (b8.mono j8.size))
      have HJ1 := hide j1
      have HJ2 := hide j2
      have HJ3 := hide j3
      have HJ5 := hide j5
      have HJ7 := hide j7
      have HGW : Hid (w.heap.size ≤ gx) := by rw [hgx]; exact j8.size
      clear hbw hblk8 b8 hn2 hgx hR j1 j2 j3 j4 j5 j6 j7 j8 HI HGX HB8
      go_wp2_with fail
      go_loopw [8] (fun i wq => ∃ (q : Nat) (cur : Array Value), q ≤ n ∧ i = .int .i64 q ∧ wq.heap[gx]? = some (.cells cur 5 (0, 0)) ∧ Hid (cur.size = n) ∧ Hid (∀ j, j < n → ∃ z : Int, cur[j]? = some (.int .u8 z) ∧ 0 ≤ z ∧ z < 256) ∧ Hid (Keep (fun j => j = gx) w8 wq)) (fun i _ => n - (intOf i).toNat)
      case atStart =>
        refine ⟨0, _, Nat.zero_le _, rfl, unhide HBLK, by unfold Hid; simp, fun j hj => ⟨0, ?_, by omega, by omega⟩, Keep.refl _ _⟩
        simp [B, hj]
      case round =>
        obtain ⟨q, cur, hq, rfl, hblk, hsz, hint, hkp⟩ := hrel
        by_cases hql : q < n
        · obtain ⟨zz, hz1, _, _⟩ := hint.out q hql
          have hc : wr.cell? ⟨gx, q, none⟩ = some (.int .u8 zz) := by rw [cell_of_row wr gx q cur _ (0, 0) hblk]; exact hz1
          have hf : wr.frozen? ⟨gx, q, none⟩ = false := frozen_of_block hblk
          have hqI : (q : Int) < (n : Int) := by omega
          have hq0 : (0 : Int) ≤ (q : Int) := by omega
          have HBL := hide hblk
          clear hz1 hblk
          go_wp2_with fail
          have hcs : q < cur.size := by have := hsz.out; omega
          refine ⟨⟨q + 1, cur.setIfInBounds q _, by omega, by go_num, heap_setCell_same wr gx q cur _ _ (unhide HBL), ?_, ?_, ?_⟩, ?_⟩
          · unfold Hid; rw [Array.size_setIfInBounds]; exact hsz.out
          · intro j hj
            by_cases hjq : q = j
            · subst hjq
              exact ⟨_, by rw [Array.getElem?_setIfInBounds_self_of_lt hcs], by omega, by omega⟩
            · rw [Array.getElem?_setIfInBounds_ne (by omega)]
              exact hint.out j hj
          · exact (unhide hkp).trans (keep_set wr gx q _) (fun _ h => Or.inl h)
          · simp [intOf]; omega
        · have hqn : q = n := by omega
          subst hqn
          obtain ⟨x, hxl, hrow⟩ := row_of_u8 hblk hsz.out (by have := unhide HN2; omega) hint.out
          have hRw := (unhide HR8).out (unhide hkp) (fun j hj ha => by have := unhide HOUT j ha; omega)
          have hBWw : Below w.heap.size w wr := (unhide HBW8).trans ((unhide hkp).below (unhide HBW8).size (fun j hj => by rw [hj]; exact unhide HGW))
          have hnotall : ∀ j, j = gx → ¬ all3 F2 G2 K2 j := fun j hj ha => by have := unhide HOUT j ha; omega
          have HAP := hide (run_append hRw (by have := unhide HJ1; omega) hrow (by have := unhide HN2; omega) (fun j off n' c e hne => by
            simp only [Value.slice.injEq, Option.some.injEq, Addr.mk.injEq, and_true] at e
            obtain ⟨⟨rfl, _⟩, _⟩ := e
            exact ⟨fun h => hnotall _ rfl (Or.inl h), fun h => hnotall _ rfl (Or.inr (Or.inl h)), fun h => hnotall _ rfl (Or.inr (Or.inr h))⟩))
          have HXL := hide hxl
          have HRW := hide hRw
          have HBWW := hide hBWw
          clear hxl hrow hRw hBWw hnotall hint hsz hkp hblk hcell
          go_wp2_with fail
          refine Calls.mono (unhide HAP) ?_
          rintro e w9 ⟨rfl, F3, G3, K3, s3, L3, b3, rv3, tv3, av3, S3, ids3, hR3, hM3, p1, p2, p3, hcase⟩
          have hx1 : x.length ≤ 1699 := by have := unhide HXL; have := unhide HN2; omega
          have hcn : (Id.mk b2.age b2.next x).cnt ≤ 4 := by
            have h1 : ((Id.mk b2.age b2.next x).cnt : Int) = countN x.length := Id.cnt_of _
            have h2 : countN (x.length : Int) ≤ 4 := by unfold countN; repeat' split
                                                        all_goals omega
            omega
          have hfour := chain_four _ _ _ (unhide HR8).inv.links (unhide HJ5)
          have hl3 := unhide HJ3
          rcases hcase with ⟨_, _, hids, hnx3⟩ | ⟨hno, _⟩
          case inr => exact absurd ⟨by omega, by omega⟩ hno
          have hall3 : ∀ j, all3 F3 G3 K3 j → w.heap.size ≤ j := fun j hj => by
            rcases hM3.sub j hj with h | h
            · exact unhide HJ7 j h
            · exact Nat.le_trans (unhide HBWW).size h
          have HB9 := hide ((unhide HBWW).trans (hM3.keep.below (unhide HBWW).size (unhide HJ7)))
          have hc3 : ∀ y ∈ ids3, y.cnt ≤ 4 := by
            intro y hy
            rw [hids] at hy
            rcases List.mem_append.1 hy with h | h
            · exact unhide HJ5 y h
            · have hy2 : y = ⟨b2.age, b2.next, x⟩ := by simpa using h
              rw [hy2]; exact hcn
          have hlen3 : ids3.length = ids2.length + 1 := by rw [hids]; simp
          obtain ⟨lg, hlg⟩ := hR3.book.both.log.ptr
          subst hlg
          have c10 := (nineteen_cells hR3.book.at_.blk).1.2.2.1
          have HSY := hide (run_sync hR3 (by have := unhide HJ1; omega))
          have HALL3 := hide hall3
          have HC3 := hide hc3
          have HL3 : Hid (ids3.length ≤ 4 ∧ 1 ≤ ids3.length) := by unfold Hid; omega
          clear hR3 hM3 p1 p2 p3 hids hnx3 hall3 hc3 hlen3 hl3 hfour hcn hx1 HAP HR8 HOUT HBW8 HRW HBWW
          go_wp2_with fail
          refine Calls.mono (unhide HSY) ?_
          rintro e w10 ⟨rfl, F4, s4, hR4, hw4, hM4⟩
          obtain ⟨vs, hvl, hvr⟩ := hR4.book.at_.recs.row
          obtain ⟨rq, rc, hrv, _⟩ := hvr.shape
          subst hrv
          have hvi : vs.length = ids3.length := by rw [hvl, hR4.len]
          obtain ⟨_, ⟨c12, _⟩, ⟨_, _, c17, _⟩, fz⟩ := nineteen_cells hR4.book.at_.blk
          have f17 := fz 17
          obtain ⟨hR5, hK5⟩ := hR4.allSafe hw4 vs.length (by omega)
          have hall4 : ∀ j, all3 F4 G3 K3 j → w.heap.size ≤ j := fun j hj => by
            rcases hM4.sub j hj with h | h
            · exact unhide HALL3 j h
            · exact Nat.le_trans (unhide HB9).size h
          have hB10 := (unhide HB9).trans (hM4.keep.below (unhide HB9).size (unhide HALL3))
          have HB11 := hide (hB10.trans (hK5.below hB10.size hall4))
          have c12b := (nineteen_cells hR5.book.at_.blk).2.1.1
          have HALL4 := hide hall4
          have HR5 := hide hR5
          have HW4 := hide hw4
          have HVI := hide hvi
          have hv4 : (vs.length : Int) ≤ 4 := by have := unhide HL3; omega
          obtain ⟨W11, hW11⟩ : ∃ W11, W11 = w10.setCell ⟨g, 17, none⟩ (.int .i64 (vs.length : Int)) := ⟨_, rfl⟩
          rw [← hW11] at HR5 HB11 c12b
          have HW11 := hide hW11
          clear hR4 hM4 hvl hvr hvi hw4 fz hR5 hK5 hall4 hB10 c10 HSY hW11 HALL3 HB9
          by_cases hfree : 1 + kk < vs.length
          · have hfI : 1 + (kk : Int) < (vs.length : Int) := by omega
            obtain ⟨i, hi1, hi2, hi3⟩ : ∃ i : Nat, (vs.length : Int) - (1 + (kk : Int)) = (i : Int) ∧ i ≤ ids3.length ∧ ids3.length - i = 1 + kk := by
              have := unhide HVI
              exact ⟨vs.length - (1 + kk), by omega, by omega, by omega⟩
            have hwi : IntKind.i64.wrap ((vs.length : Int) - (1 + (kk : Int))) = (i : Int) := by rw [IntKind.wrap_i64]; omega
            go_wp2_with fail
            rw [← unhide HW11]
            refine Calls.mono (run_free (unhide HR5) i hi2) ?_
            rintro e w12 ⟨rfl, rv5, tv5, av5, hR6, hK6⟩
            have HMID : Hid (RoundM w g k w12) := by
              have h1 := unhide HL3
              have h2 := unhide HKK
              refine ⟨F4, G3, K3, _, _, s4, _, _, rv5, tv5, av5, S3, ids3.drop i, _, hR6, by have := unhide HJ1; omega, ?_, ?_, ?_, fun y hy => unhide HC3 y (List.mem_of_mem_drop hy), unhide HW4, unhide HALL4, (unhide HB11).trans (hK6.below (unhide HB11).size (unhide HALL4))⟩
              · show vs.length - i = _
                rw [List.length_drop, unhide HVI]
              · rw [List.length_drop]; omega
              · rw [List.length_drop]; omega
            clear hR6 hK6 hi1 hwi hfI c12 c12b c17 f17 HR5 HB11
            obtain ⟨F6, G6, K6, lp6, dp6, s6, L6, b6, rv6, tv6, av6, S6, ids6, m6, hR6, y1, y2, y3, y4, y5, y6, y7, y8⟩ := unhide HMID
            obtain ⟨r, hr⟩ : ∃ r : Nat, r = k % 7 := ⟨_, rfl⟩
            have htm : (k : Int).tmod 7 = (r : Int) := by rw [Int.tmod_eq_emod_of_nonneg (by omega)]; omega
            by_cases hr3 : r = 3
            · have htm3 : (k : Int).tmod 7 = 3 := by rw [htm, hr3]; rfl
              have HOPN := hide (run_open (l1 := ids6) (l2 := []) hR6.book.held hR6.dead (by rw [List.append_nil]; exact hR6.lst) (by rw [List.append_nil]; exact hR6.inv) hR6.calm hR6.right (fun z l3 h => by cases h) (Or.inr rfl) false (fun h => by cases h) hR6.waits hR6.ticks hR6.next hR6.age (by omega))
              have HFIN : Hid (∀ w13, ReoPost F6 K6 w12 w13 g dp6 s6 b6 S6 ids6 [] m6 (if false = true then ids6.length else b6.safe) → RoundI w g (k + 1) w13) := by
                rintro w13 ⟨G7, lp7, L7, e7, rv7, tv7, av7, hR7, hG7, hK7, _⟩
                refine ⟨F6, G7, K6, lp7, dp6, s6, L7, _, rv7, tv7, av7, S6, ids6, m6 + 1, hR7, by omega, y2, y3, fun _ => y4, y5, y6, fun j hj => ?_, y8.trans (hK7.below y8.size (fun j hj => y7 j (Or.inr (Or.inr hj))))⟩
                rcases hj with h | h | h
                · exact y7 j (Or.inl h)
                · exact Nat.le_trans y8.size (hG7 j h)
                · exact y7 j (Or.inr (Or.inr h))
              clear hR6 y1 y2 y3 y4 y5 y6 y7 y8 HMID hr htm hr3
              go_wp2_with fail
              refine Calls.mono (unhide HOPN) ?_
              rintro e w13 ⟨rfl, hP⟩
              have HI13 := hide (unhide HFIN w13 hP)
              clear hP HFIN HOPN
              go_wp2_with fail
              exact ⟨⟨k + 1, by omega, by omega, by go_num, unhide HI13⟩, by simp [intOf]; omega⟩
            · have hrn : ¬ (r : Int) = 3 := by omega
              have HI13 : Hid (RoundI w g (k + 1) w12) := ⟨F6, G6, K6, lp6, dp6, s6, L6, b6, rv6, tv6, av6, S6, ids6, m6, hR6, by omega, y2, y3, fun _ => y4, y5, y6, y7, y8⟩
              clear hR6 y1 y2 y3 y4 y5 y6 y7 y8 HMID hr
              go_wp2_with fail
              exact ⟨⟨k + 1, by omega, by omega, by go_num, unhide HI13⟩, by simp [intOf]; omega⟩
          · have hfI : ¬ 1 + (kk : Int) < (vs.length : Int) := by omega
            have HMID : Hid (RoundM w g k W11) := by
              have h1 := unhide HL3
              have h2 := unhide HKK
              have h3 := unhide HVI
              exact ⟨F4, G3, K3, _, _, s4, _, _, _, _, _, S3, ids3, _, unhide HR5, by have := unhide HJ1; omega, h3, by omega, h1.2, unhide HC3, unhide HW4, unhide HALL4, unhide HB11⟩
            clear HR5 HB11
            obtain ⟨F6, G6, K6, lp6, dp6, s6, L6, b6, rv6, tv6, av6, S6, ids6, m6, hR6, y1, y2, y3, y4, y5, y6, y7, y8⟩ := unhide HMID
            obtain ⟨r, hr⟩ : ∃ r : Nat, r = k % 7 := ⟨_, rfl⟩
            have htm : (k : Int).tmod 7 = (r : Int) := by rw [Int.tmod_eq_emod_of_nonneg (by omega)]; omega
            by_cases hr3 : r = 3
            · have htm3 : (k : Int).tmod 7 = 3 := by rw [htm, hr3]; rfl
              have HOPN := hide (run_open (l1 := ids6) (l2 := []) hR6.book.held hR6.dead (by rw [List.append_nil]; exact hR6.lst) (by rw [List.append_nil]; exact hR6.inv) hR6.calm hR6.right (fun z l3 h => by cases h) (Or.inr rfl) false (fun h => by cases h) hR6.waits hR6.ticks hR6.next hR6.age (by omega))
              have HFIN : Hid (∀ w13, ReoPost F6 K6 W11 w13 g dp6 s6 b6 S6 ids6 [] m6 (if false = true then ids6.length else b6.safe) → RoundI w g (k + 1) w13) := by
                rintro w13 ⟨G7, lp7, L7, e7, rv7, tv7, av7, hR7, hG7, hK7, _⟩
                refine ⟨F6, G7, K6, lp7, dp6, s6, L7, _, rv7, tv7, av7, S6, ids6, m6 + 1, hR7, by omega, y2, y3, fun _ => y4, y5, y6, fun j hj => ?_, y8.trans (hK7.below y8.size (fun j hj => y7 j (Or.inr (Or.inr hj))))⟩
                rcases hj with h | h | h
                · exact y7 j (Or.inl h)
                · exact Nat.le_trans y8.size (hG7 j h)
                · exact y7 j (Or.inr (Or.inr h))
              clear hR6 y1 y2 y3 y4 y5 y6 y7 y8 HMID hr htm hr3
              go_wp2_with fail
              first | rw [← unhide HW11] | skip
              refine Calls.mono (unhide HOPN) ?_
              rintro e w13 ⟨rfl, hP⟩
              have HI13 := hide (unhide HFIN w13 hP)
              clear hP HFIN HOPN
              go_wp2_with fail
              exact ⟨⟨k + 1, by omega, by omega, by go_num, unhide HI13⟩, by simp [intOf]; omega⟩
            · have hrn : ¬ (r : Int) = 3 := by omega
              have HI13 : Hid (RoundI w g (k + 1) W11) := ⟨F6, G6, K6, lp6, dp6, s6, L6, b6, rv6, tv6, av6, S6, ids6, m6, hR6, by omega, y2, y3, fun _ => y4, y5, y6, y7, y8⟩
              clear hR6 y1 y2 y3 y4 y5 y6 y7 y8 HMID hr
              go_wp2_with fail
              first | rw [← unhide HW11] | skip
              exact ⟨⟨k + 1, by omega, by omega, by go_num, unhide HI13⟩, by simp [intOf]; omega⟩
    · obtain ⟨F2, G2, K2, lp2, dp2, s2, L2, b2, rv2, tv2, av2, S2, ids2, m2, hR, j1, j2, j3, j4, j5, j6, j7, j8⟩ := unhide HI
      obtain ⟨dg, hdg⟩ := hR.book.both.dev.ptr
      subst hdg
      have c0 := (nineteen_cells hR.book.at_.blk).1.1
      have hwz : s2.waits.length = 0 := by rw [j6]; rfl
      have HCR := hide (ocrash_any F2 _ s2 (.slice none 0 0) [] wr hR.book.both.dev ⟨none, 0, rfl, by simp, by unfold maxLen; omega, fun _ => rfl, Or.inl rfl⟩ (fun b off n c e => by cases e) (by omega))
      have HR := hide hR
      have HJ7 := hide j7
      have HJ8 := hide j8
      have HJ2 := hide j2
      have HJ4 : Hid (0 < zs.length → 1 ≤ ids2.length) := fun hz => j4 (by omega)
      have HJ1 := hide j1
      have hex : ¬ ((k : Int) < (zs.length : Int)) ∨ ((k : Int) < (zs.length : Int) ∧ ¬ (k : Int) < 120) := by omega
      have hk1 : k ≤ 120 := hk100
      clear hR j1 j2 j3 j4 j5 j6 j7 j8 hwz HI hlt
      rcases hex with hex | ⟨hex1, hex2⟩
      · go_wp2_with fail
        refine Calls.mono (unhide HCR) ?_
        rintro e w3 ⟨rfl, F3, hD3, hM3⟩
        have hR := unhide HR
        have hat3 := hR.book.at_.keep hM3.keep hR.book.apF
        have c0b := (nineteen_cells hat3.blk).1.1
        have hlr3 := hR.book.both.log.keep hM3.keep hR.book.both.apart
        have HST := hide (ostart_any F3 _ _ w3 hD3)
        have hsub3 : ∀ j, F3 j → F2 j ∨ wr.heap.size ≤ j := hM3.sub
        have HB3 := hide ((unhide HJ8).trans (hM3.keep.below (unhide HJ8).size (fun j hj => unhide HJ7 j (Or.inl hj))))
        have HSZ3 : Hid (wr.heap.size ≤ w3.heap.size) := hM3.keep.size
        have HAT3 := hide hat3
        have HLR3 := hide hlr3
        have HSUB3 := hide hsub3
        clear hD3 hM3 hat3 hlr3 hsub3 hR HCR c0
        go_wp2_with fail
        refine Calls.mono (unhide HST) ?_
        rintro e w4 ⟨rfl, F4, hD4, hM4⟩
        have hR := unhide HR
        have hapK : ∀ j, F3 j → ¬ K2 j := fun j hj hK => by
          rcases unhide HSUB3 j hj with h | h
          · exact hR.book.apF j h hK
          · have := hR.book.at_.lt j hK; omega
        have hapG : ∀ j, F3 j → ¬ G2 j := fun j hj hG => by
          rcases unhide HSUB3 j hj with h | h
          · exact hR.book.both.apart j h hG
          · have := hR.book.both.log.lt j hG; omega
        have hsub4 : ∀ j, F4 j → F2 j ∨ wr.heap.size ≤ j := fun j hj => by
          rcases hM4.sub j hj with h | h
          · exact unhide HSUB3 j h
          · exact Or.inr (Nat.le_trans (unhide HSZ3) h)
        have hat4 := (unhide HAT3).keep hM4.keep hapK
        have hlr4 := (unhide HLR3).keep hM4.keep hapG
        have hH : Held F4 G2 K2 w4 g lp2 (.pointer (some dg)) (s2.crash []).start L2 b2 rv2 tv2 av2 := by
          refine ⟨⟨hD4, hlr4, fun j hj hG => ?_, hR.book.both.size⟩, hat4, fun j hj hK => ?_, hR.book.apG⟩
          · rcases hsub4 j hj with h | h
            · exact hR.book.both.apart j h hG
            · have := hR.book.both.log.lt j hG; omega
          · rcases hsub4 j hj with h | h
            · exact hR.book.apF j h hK
            · have := hR.book.at_.lt j hK; omega
        have hmay : ∀ j c, May (s2.crash []).start j c → May s2 j c := fun j c h => may_crash (start_may h)
        have hright : ∀ y ∈ ids2, Right (s2.crash []).start y := fun y hy q hq => hR.inv.sure y (by rw [unhide HJ2, List.take_of_length_le (Nat.le_refl _)]; exact hy) q hq _ (hmay _ _ (may_shown _ _))
        have HOPN := hide (run_open (l1 := ids2) (l2 := []) (m := m2) hH hR.dead (by rw [List.append_nil]; exact hR.lst) (by rw [List.append_nil]; exact hR.inv.less hmay) ⟨rfl, rfl⟩ hright (fun z l3 h => by cases h) (Or.inr rfl) true (fun _ => rfl) (by show 0 ≤ _; omega) (by show 0 ≤ _; omega) hR.next hR.age (by have := unhide HJ1; omega))
        have HALL4 : Hid (∀ j, K2 j → w.heap.size ≤ j) := fun j hj => unhide HJ7 j (Or.inr (Or.inr hj))
        have HB4 := hide ((unhide HB3).trans (hM4.keep.below (unhide HB3).size (fun j hj => by
          rcases unhide HSUB3 j hj with h | h
          · exact unhide HJ7 j (Or.inl h)
          · exact Nat.le_trans (unhide HJ8).size h)))
        clear hD4 hM4 hat4 hlr4 hH hmay hright hapK hapG hsub4 hR HST HAT3 HLR3 HSUB3 HR
        go_wp2_with fail
        refine Calls.mono (unhide HOPN) ?_
        rintro e w5 ⟨rfl, G5, lp5, L5, e5, rv5, tv5, av5, hR5, hG5, hK5, _⟩
        obtain ⟨vs, hvl, hvr⟩ := hR5.book.at_.recs.row
        obtain ⟨rq, rc, hrv, _⟩ := hvr.shape
        subst hrv
        have c12 := (nineteen_cells hR5.book.at_.blk).2.1.1
        have HVI : Hid (vs.length = ids2.length) := by unfold Hid; rw [hvl, hR5.len]
        have HB5 := hide ((unhide HB4).trans (hK5.below (unhide HB4).size (unhide HALL4)))
        clear hR5 hG5 hK5 hvl hvr HOPN
        by_cases hz0 : zs.length = 0
        · go_wp2_with fail
          go_ret
          exact ⟨rfl, unhide HB5⟩
        · have hz1 : ¬ (zs.length : Int) = 0 := by omega
          have hv0 : 0 < vs.length := by have := unhide HVI; have := unhide HJ4 (by omega); omega
          have HV0 := hide hv0
          clear hv0
          go_wp2_with fail
          go_ret
          exact ⟨ret_true (b := ((zs.length : Int) == 0 || decide (0 < vs.length))) (by rw [decide_eq_true (unhide HV0), Bool.or_true]), unhide HB5⟩
      · go_wp2_with fail
        refine Calls.mono (unhide HCR) ?_
        rintro e w3 ⟨rfl, F3, hD3, hM3⟩
        have hR := unhide HR
        have hat3 := hR.book.at_.keep hM3.keep hR.book.apF
        have c0b := (nineteen_cells hat3.blk).1.1
        have hlr3 := hR.book.both.log.keep hM3.keep hR.book.both.apart
        have HST := hide (ostart_any F3 _ _ w3 hD3)
        have hsub3 : ∀ j, F3 j → F2 j ∨ wr.heap.size ≤ j := hM3.sub
        have HB3 := hide ((unhide HJ8).trans (hM3.keep.below (unhide HJ8).size (fun j hj => unhide HJ7 j (Or.inl hj))))
        have HSZ3 : Hid (wr.heap.size ≤ w3.heap.size) := hM3.keep.size
        have HAT3 := hide hat3
        have HLR3 := hide hlr3
        have HSUB3 := hide hsub3
        clear hD3 hM3 hat3 hlr3 hsub3 hR HCR c0
        go_wp2_with fail
        refine Calls.mono (unhide HST) ?_
        rintro e w4 ⟨rfl, F4, hD4, hM4⟩
        have hR := unhide HR
        have hapK : ∀ j, F3 j → ¬ K2 j := fun j hj hK => by
          rcases unhide HSUB3 j hj with h | h
          · exact hR.book.apF j h hK
          · have := hR.book.at_.lt j hK; omega
        have hapG : ∀ j, F3 j → ¬ G2 j := fun j hj hG => by
          rcases unhide HSUB3 j hj with h | h
          · exact hR.book.both.apart j h hG
          · have := hR.book.both.log.lt j hG; omega
        have hsub4 : ∀ j, F4 j → F2 j ∨ wr.heap.size ≤ j := fun j hj => by
          rcases hM4.sub j hj with h | h
          · exact unhide HSUB3 j h
          · exact Or.inr (Nat.le_trans (unhide HSZ3) h)
        have hat4 := (unhide HAT3).keep hM4.keep hapK
        have hlr4 := (unhide HLR3).keep hM4.keep hapG
        have hH : Held F4 G2 K2 w4 g lp2 (.pointer (some dg)) (s2.crash []).start L2 b2 rv2 tv2 av2 := by
          refine ⟨⟨hD4, hlr4, fun j hj hG => ?_, hR.book.both.size⟩, hat4, fun j hj hK => ?_, hR.book.apG⟩
          · rcases hsub4 j hj with h | h
            · exact hR.book.both.apart j h hG
            · have := hR.book.both.log.lt j hG; omega
          · rcases hsub4 j hj with h | h
            · exact hR.book.apF j h hK
            · have := hR.book.at_.lt j hK; omega
        have hmay : ∀ j c, May (s2.crash []).start j c → May s2 j c := fun j c h => may_crash (start_may h)
        have hright : ∀ y ∈ ids2, Right (s2.crash []).start y := fun y hy q hq => hR.inv.sure y (by rw [unhide HJ2, List.take_of_length_le (Nat.le_refl _)]; exact hy) q hq _ (hmay _ _ (may_shown _ _))
        have HOPN := hide (run_open (l1 := ids2) (l2 := []) (m := m2) hH hR.dead (by rw [List.append_nil]; exact hR.lst) (by rw [List.append_nil]; exact hR.inv.less hmay) ⟨rfl, rfl⟩ hright (fun z l3 h => by cases h) (Or.inr rfl) true (fun _ => rfl) (by show 0 ≤ _; omega) (by show 0 ≤ _; omega) hR.next hR.age (by have := unhide HJ1; omega))
        have HALL4 : Hid (∀ j, K2 j → w.heap.size ≤ j) := fun j hj => unhide HJ7 j (Or.inr (Or.inr hj))
        have HB4 := hide ((unhide HB3).trans (hM4.keep.below (unhide HB3).size (fun j hj => by
          rcases unhide HSUB3 j hj with h | h
          · exact unhide HJ7 j (Or.inl h)
          · exact Nat.le_trans (unhide HJ8).size h)))
        clear hD4 hM4 hat4 hlr4 hH hmay hright hapK hapG hsub4 hR HST HAT3 HLR3 HSUB3 HR
        go_wp2_with fail
        refine Calls.mono (unhide HOPN) ?_
        rintro e w5 ⟨rfl, G5, lp5, L5, e5, rv5, tv5, av5, hR5, hG5, hK5, _⟩
        obtain ⟨vs, hvl, hvr⟩ := hR5.book.at_.recs.row
        obtain ⟨rq, rc, hrv, _⟩ := hvr.shape
        subst hrv
        have c12 := (nineteen_cells hR5.book.at_.blk).2.1.1
        have HVI : Hid (vs.length = ids2.length) := by unfold Hid; rw [hvl, hR5.len]
        have HB5 := hide ((unhide HB4).trans (hK5.below (unhide HB4).size (unhide HALL4)))
        clear hR5 hG5 hK5 hvl hvr HOPN
        by_cases hz0 : zs.length = 0
        · go_wp2_with fail
          go_ret
          exact ⟨rfl, unhide HB5⟩
        · have hz1 : ¬ (zs.length : Int) = 0 := by omega
          have hv0 : 0 < vs.length := by have := unhide HVI; have := unhide HJ4 (by omega); omega
          have HV0 := hide hv0
          clear hv0
          go_wp2_with fail
          go_ret
          exact ⟨ret_true (b := ((zs.length : Int) == 0 || decide (0 < vs.length))) (by rw [decide_eq_true (unhide HV0), Bool.or_true]), unhide HB5⟩

theorem walk_WalRounds (s0 : Value) (d0 : Dt) (a1 : Int) (_ : (Lit.int .i64 a1).wf = true) (w : World) (h0 : Reads limSaid w (.row 8 (.int .i64)) [s0] d0) :
    Calls Try.prog 6 #[s0, .int .i64 a1] w fun e w' => e = .returned (.bool true) ∧ Below w.heap.size w w' := by
  obtain ⟨zs, hz⟩ := zrow_of_reads h0
  exact wrounds_any s0 zs a1 w hz
end Go.Proofs.Ytdpoiieblbmofaa
