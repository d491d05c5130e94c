/- The walk of the law WalRoom. -/
import Derived.Test.YtdpoiieblbmofaaG30
import Derived.Test.YtdpoiieblbmofaaG31
import Derived.StillTailTactics
import Derived.BigQuiet
namespace Go.Proofs.Ytdpoiieblbmofaa
open Go.RowKit

/-- 'make' of zero bytes. -/
theorem make_bytes (w : World) (m : Nat) (hm : m ≤ 100000) : ∃ w8 x, (Instr.makeSlice 27 (.int .i64 (m : Int)) (.int .i64 (m : Int))).run Try.prog w = .ok (.slice (some ⟨w.heap.size, 0, none⟩) m m) w8 ∧ Row w8 (.slice (some ⟨w.heap.size, 0, none⟩) m m) x ∧ x.length = m ∧ Below w.heap.size w w8 := by
  obtain ⟨i0, hi, hz0, hz1, hz2⟩ := info_parts Try.info5
  obtain ⟨w8, hrun, r1, r2⟩ := run_make_full (P := Try.prog) w w.heap.size 27 5 i0 (.int .u8 0) 1 Try.underlying27 hi hz0 hz1 .i64 .i64 m (by rw [hz2]; omega) (by unfold maxLen; omega) (Nat.le_refl _)
  have b8 : Below w.heap.size w w8 := (Below.refl _ _).grown r2 (Nat.le_refl _) (fun k hk => by cases hk)
  rw [Nat.mul_one] at r1
  have hblk8 := made_block (m := m) r1
  refine ⟨w8, List.replicate m (0 : UInt8), hrun, ?_, List.length_replicate, b8⟩
  have h := row_of_block hblk8 0 m m (by rw [List.length_replicate]; omega) (Nat.le_refl _) (by unfold maxLen; omega)
  rw [List.drop_zero, List.take_of_length_le (by rw [List.length_replicate]; omega)] at h
  exact h

/-- A call of a Go function of two arguments, or of one that is guarded, as one step of a region that draws its order. -/
theorem step_call2 {P : Program} {ops : Array Oper} {o : Oper} {a : Act} {w : World} {K : Act → World → Prop} {Q : Exit → Act → World → Prop} {E : Prop} (hgd : o.guard = none) (f : FuncId) (x y : Operand) (t u : TypeId)
    (ho : o.op = .call { callee := .value (.func f), args := #[x, y], argTypes := #[t, u] }) (v v2 : Value) (hx : a.eval x = v) (hy : a.eval y = v2) (hent : ∀ args w, (callFunc f args).run P w = .ok (.enter f args) w) {Post : Value → World → Prop}
    (hc : Calls P f #[v, v2] w fun e w' => ∃ t, e = .returned t ∧ Post t w') (h : ∀ t w', Post t w' → K (a.put o.dst t) w') :
    if Region.wanted o (yielded ops a.tmps) = true then Oper.wp P o a w K Q else E := by
  have hw : Region.wanted o (yielded ops a.tmps) = true := by simp [Region.wanted, hgd]
  rw [if_pos hw]
  unfold Oper.wp execOp
  have hfe : a.eval (.func f) = .func (.func f) #[] #[] := rfl
  simp only [ho, resolve, invoke, Deferred.ofValue, Sem.run_bind, Sem.run_pure, Result.andThen_ok, List.map_toArray, List.map_cons, List.map_nil, hx, hy, hfe]
  simp only [List.append_toArray, List.append_nil, List.nil_append, hent, Oper.upon_enter]
  refine hc.mono ?_
  rintro e w' ⟨t, rfl, hp⟩
  exact h t w' hp
theorem step_call1g {P : Program} {ops : Array Oper} {o : Oper} {a : Act} {w : World} {K : Act → World → Prop} {Q : Exit → Act → World → Prop} {E : Prop} (hw : Region.wanted o (yielded ops a.tmps) = true) (f : FuncId) (x : Operand) (t : TypeId)
    (ho : o.op = .call { callee := .value (.func f), args := #[x], argTypes := #[t] }) (v : Value) (hx : a.eval x = v) (hent : ∀ args w, (callFunc f args).run P w = .ok (.enter f args) w) {Post : Value → World → Prop}
    (hc : Calls P f #[v] w fun e w' => ∃ t, e = .returned t ∧ Post t w') (h : ∀ t w', Post t w' → K (a.put o.dst t) w') :
    if Region.wanted o (yielded ops a.tmps) = true then Oper.wp P o a w K Q else E := by
  rw [if_pos hw]
  unfold Oper.wp execOp
  have hfe : a.eval (.func f) = .func (.func f) #[] #[] := rfl
  simp only [ho, resolve, invoke, Deferred.ofValue, Sem.run_bind, Sem.run_pure, Result.andThen_ok, List.map_toArray, List.map_cons, List.map_nil, hx, hfe]
  simp only [List.append_toArray, List.append_nil, List.nil_append, hent, Oper.upon_enter]
  refine hc.mono ?_
  rintro e w' ⟨t, rfl, hp⟩
  exact h t w' hp
theorem ent_bfree (args : Array Value) (w : World) : (callFunc 10 args).run Try.prog w = .ok (.enter 10 args) w := by
  first | kernel_rfl | rfl | simp [callFunc, Try.func10]
theorem ent_left (args : Array Value) (w : World) : (callFunc 11 args).run Try.prog w = .ok (.enter 11 args) w := by
  first | kernel_rfl | rfl | simp [callFunc, Try.func11]

/-- What is so at the head of each round. -/
def RoomI (w : World) (g k : Nat) (wr : World) : Prop :=
  ∃ F G K lp dp s L b rv tv av, Book F G K wr g lp dp s L b rv tv av ∧ Calm s ∧ L.fallen = false ∧ s.waits.length ≤ 19 * k ∧ s.ticks ≤ 19 * k ∧ L.next ≤ 19 * k ∧ b.recs.length ≤ k ∧ b.safe = 0 ∧ (∀ j, all3 F G K j → w.heap.size ≤ j) ∧ Below w.heap.size w wr

set_option maxRecDepth 20000 in
set_option maxHeartbeats 8000000 in
theorem wroom_any (s0 s1 : Value) (zs fs : List Int) (w : World) (h0 : ZRow w s0 zs) (h1 : ZRow w s1 fs) :
    Calls Try.prog 3 #[s0, s1] w fun e w' => e = .returned (.bool true) ∧ Below w.heap.size w w' := by
  obtain ⟨a0, c0, rfl, n0, m0, z0, p0⟩ := h0
  obtain ⟨a1, c1, rfl, n1, m1, z1, p1⟩ := h1
  have HZ0 := hide z0
  have HZ1 := hide z1
  have HP0 := hide p0
  have HP1 := hide p1
  have HBG := hide (begin_any w)
  have HAW := hide (fun w' => wawake_any w')
  clear z0 z1 p0 p1 n0 n1 m0 m1
  go_enter Try.func3, Try.ntmps3
  go_wp2_with fail
  refine Calls.mono (unhide HBG) ?_
  rintro e w1 ⟨g, rfl, lp, dp, F, G, K, hBk, hnew, b1⟩
  have HBK := hide hBk
  have HN := hide hnew
  have HB1 := hide b1
  clear hBk hnew b1 HBG
  go_wp2_with fail
  refine Calls.mono (unhide HAW _) ?_
  rintro e w2 ⟨rfl, b2⟩
  have hI : RoomI w g 0 w2 := by
    have hb := unhide HBK
    exact ⟨F, G, K, lp, dp, DK.new 256, lg0 0 1, bk0, _, _, _, ⟨hb.both.below b2, hb.at_.below b2, hb.apF, hb.apG, hb.first, hb.next, hb.age, hb.starts, hb.tl, hb.al⟩, calm_new, rfl, Nat.le_refl _, Nat.le_refl _, Nat.le_refl _, Nat.le_refl _, rfl, unhide HN, (unhide HB1).trans (b2.mono (unhide HB1).size)⟩
  clear b2 HAW HBK HN HB1
  go_wp2_with fail
  go_loopw [6] (fun i wr => ∃ k : Nat, k ≤ zs.length ∧ k ≤ 100 ∧ i = .int .i64 k ∧ RoomI w g k wr) (fun i _ => 100 - (intOf i).toNat)
  case atStart => exact ⟨0, Nat.zero_le _, Nat.zero_le _, rfl, hI⟩
  case round =>
    clear hI
    obtain ⟨k, hk, hk100, rfl, hI⟩ := hrel
    have HI := hide hI
    clear hI
    by_cases hlt : k < zs.length ∧ k < 100
    · obtain ⟨l1, l2⟩ := hlt
      obtain ⟨b0, o0, rfl, hc0⟩ : ∃ b off, a0 = some ⟨b, off, none⟩ ∧ ∀ j (h : j < zs.length), w.cell? ⟨b, off + j, none⟩ = some (.int .i64 zs[j]) := by
        rcases unhide HP0 with h | h
        · rw [h] at l1; simp at l1
        · exact h
      have hbw : Below w.heap.size w wr := by obtain ⟨_, _, _, _, _, _, _, _, _, _, _, _, _, _, _, _, _, _, _, _, h⟩ := unhide HI; exact h
      have hcell := (hbw.cell (World.block_lt_of_cell? w _ (hc0 k l1))).trans (hc0 k l1)
      have hzb := unhide HZ0 zs[k] (List.getElem_mem l1)
      have l1' : (k : Int) < (zs.length : Int) := by omega
      have l2' : (k : Int) < 100 := by omega
      have hk0 : (0 : Int) ≤ (k : Int) := by omega
      clear hc0
      generalize zs[k] = z at *
      obtain ⟨m, hm1, hm2⟩ : ∃ m : Nat, (IntKind.u64.wrap z).tmod 8195 = (m : Int) ∧ m ≤ 8194 := by
        rw [IntKind.wrap_u64]
        refine ⟨((z % 18446744073709551616) % 8195).toNat, ?_, ?_⟩
        · rw [Int.tmod_eq_emod_of_nonneg (by omega)]; omega
        · omega
      have hm3 : (m : Int) ≤ 8194 := by omega
      obtain ⟨w8, x, hrun, hrow8, hxl, b8⟩ := make_bytes wr m (by omega)
      obtain ⟨F, G, K, lp, dp, s, L, b, rv, tv, av, hB, hC, hf, q1, q2, q3, q4, q5, q6, q7⟩ := unhide HI
      have hlt8 : ∀ j, all3 F G K j → j < wr.heap.size := fun j hj => by
        rcases hj with h | h | h
        · exact hB.both.dev.lt j h
        · exact hB.both.log.lt j h
        · exact hB.at_.lt j h
      have hB8 : Book F G K w8 g lp dp s L b rv tv av := ⟨hB.both.below b8, hB.at_.below b8, hB.apF, hB.apG, hB.first, hB.next, hB.age, hB.starts, hB.tl, hB.al⟩
      have HAP := hide (bappend_calm F G K g lp dp s L b rv tv av _ x w8 hB8 hC hf hrow8 (by omega) (fun j off n c e hne => by
        simp only [Value.slice.injEq, Option.some.injEq, Addr.mk.injEq, and_true] at e
        obtain ⟨⟨rfl, _⟩, _⟩ := e
        exact ⟨fun h => Nat.lt_irrefl _ (hlt8 _ (Or.inl h)), fun h => Nat.lt_irrefl _ (hlt8 _ (Or.inr (Or.inl h))), fun h => Nat.lt_irrefl _ (hlt8 _ (Or.inr (Or.inr h)))⟩) (by omega) (by omega) (by omega) (by omega))
      obtain ⟨v1, v2, v3, v4, v5, v6, v7⟩ := app_calm (n := 256) (s := s) (L := L) (r := x) fits256 hB.both.size hC hf
      have hAL : (appL 256 s L x).next ≤ 19 * (k + 1) ∧ (b.app (appE 256 s L x) x).recs.length ≤ k + 1 ∧ (b.app (appE 256 s L x) x).safe = 0 := by
        have hcn := count_le (n := (x.length : Int))
        refine ⟨?_, ?_, ?_⟩
        · rw [v6]
          split
          · rename_i h0
            rw [v1] at h0
            have h8 : ¬ 8192 < x.length := by intro h; rw [if_pos h] at h0; simp at h0
            have := hcn (by omega)
            show L.next + _ ≤ _
            omega
          · omega
        · unfold BK.app
          split
          · simp; omega
          · omega
        · unfold BK.app
          split
          · exact q5
          · exact q5
      have HNX : Hid (∀ w9, (∃ F' G' K' rv' tv' av', Book F' G' K' w9 g lp dp (appS 256 s L x) (appL 256 s L x) (b.app (appE 256 s L x) x) rv' tv' av' ∧ Moves (all3 F G K) (all3 F' G' K') w8 w9) → RoomI w g (k + 1) w9) := by
        rintro w9 ⟨F', G', K', rv', tv', av', hB9, hM9⟩
        refine ⟨F', G', K', lp, dp, _, _, _, rv', tv', av', hB9, v2, v5, by omega, by omega, hAL.1, hAL.2.1, hAL.2.2, fun j hj => ?_, ?_⟩
        · rcases hM9.sub j hj with h | h
          · exact q6 j h
          · exact Nat.le_trans (Nat.le_trans q7.size b8.size) h
        · exact (q7.trans (b8.mono q7.size)).trans (hM9.keep.below (Nat.le_trans q7.size b8.size) q6)
      clear hbw hzb hm2 hrow8 hxl b8 hB hC hf q1 q2 q3 q4 q5 q6 q7 hlt8 hB8 v1 v2 v3 v4 v5 v6 v7 hAL HI
      go_wp2_with fail
      refine Calls.mono (unhide HAP) ?_
      rintro e w9 ⟨rfl, hE⟩
      have HI9 := hide (unhide HNX w9 hE)
      clear hE HNX HAP hm1 hm3 hcell hrun
      by_cases hfl : k < fs.length
      · obtain ⟨b1, o1, rfl, hc1⟩ : ∃ b off, a1 = some ⟨b, off, none⟩ ∧ ∀ j (h : j < fs.length), w.cell? ⟨b, off + j, none⟩ = some (.int .i64 fs[j]) := by
          rcases unhide HP1 with h | h
          · rw [h] at hfl; simp at hfl
          · exact h
        obtain ⟨F, G, K, lp, dp, s, L, b, rv, tv, av, hB, hC, hf, q1, q2, q3, q4, q5, q6, q7⟩ := unhide HI9
        have hbl := World.block_lt_of_cell? w _ (hc1 k hfl)
        have hcell := (q7.cell hbl).trans (hc1 k hfl)
        have hzb := unhide HZ1 fs[k] (List.getElem_mem hfl)
        have lf : (k : Int) < (fs.length : Int) := by omega
        clear hc1
        generalize fs[k] = z2 at *
        by_cases hz2 : 0 ≤ z2
        · obtain ⟨vs, hvl, hvr⟩ := hB.at_.recs.row
          obtain ⟨rq, rc, hrv, _⟩ := hvr.shape
          subst hrv
          have hc12 := (nineteen_cells hB.at_.blk).2.1.1
          obtain ⟨N, hN, hNp⟩ : ∃ N : Int, IntKind.i64.wrap ((vs.length : Int) + 1) = N ∧ N = (vs.length : Int) + 1 := ⟨_, rfl, by rw [IntKind.wrap_i64]; omega⟩
          obtain ⟨i, hi1, hi2⟩ : ∃ i : Nat, z2.tmod N = (i : Int) ∧ i ≤ b.recs.length := by
            rw [Int.tmod_eq_emod_of_nonneg hz2]
            have h1 := Int.emod_nonneg z2 (b := N) (by omega)
            have h2 := Int.emod_lt_of_pos z2 (b := N) (by omega)
            exact ⟨(z2 % N).toNat, by omega, by omega⟩
          have hnz : ¬ N = 0 := by omega
          have hnz1 : 0 < N := by omega
          have hwi : IntKind.i64.wrap (i : Int) = (i : Int) := by rw [IntKind.wrap_i64]; omega
          clear hNp
          have hdr : Below w9.heap.size w9 w9.drew := (Below.refl _ _).drew
          have hBd : Book F G K w9.drew g lp dp s L b (.slice rq vs.length rc) tv av := ⟨hB.both.below hdr, hB.at_.below hdr, hB.apF, hB.apG, hB.first, hB.next, hB.age, hB.starts, hB.tl, hB.al⟩
          have HFR := hide (bfree_any F G K g lp dp s L b _ tv av i w9.drew hBd hi2 (by omega) (by omega))
          have kd : w9.drew.cell? ⟨b1, o1 + k, none⟩ = some (.int .i64 z2) ∧ w9.drew.cell? ⟨g, 12, none⟩ = some (.slice rq vs.length rc) := ⟨hcell, hc12⟩
          have HNX : Hid (∀ w10, (∃ rv' tv' av', Book F G K w10 g lp dp s (L.free (b.turn i)) (b.dropB i (b.turn i)) rv' tv' av' ∧ Keep (all3 F G K) w9.drew w10) → RoomI w g (k + 1) w10) := by
            rintro w10 ⟨rv', tv', av', hB9, hK9⟩
            refine ⟨F, G, K, lp, dp, s, _, _, rv', tv', av', hB9, hC, hf, q1, q2, q3, ?_, ?_, q6, (q7.trans (hdr.mono q7.size)).trans (hK9.below (Nat.le_trans q7.size hdr.size) q6)⟩
            · show (b.recs.drop i).length ≤ _
              simp
              omega
            · show b.safe - i = 0
              omega
          clear hB hC hf q1 q2 q3 q4 q5 q6 q7 hzb HI9 hvr hvl hi2 hfl hBd hdr
          go_wp2_with fail
          go_still_tail 24, (by kernel_rfl)
          go_wp2_with fail
          refine Calls.mono (unhide HFR) ?_
          rintro e w10 ⟨rfl, hE⟩
          have HI10 := hide (unhide HNX w10 hE)
          clear hE HNX HFR kd hcell hc12 hN hi1 hnz hnz1 hwi lf
          go_wp2_with fail
          go_roundw
          case rel => exact ⟨k + 1, by omega, by omega, by go_num, unhide HI10⟩
          case measure => simp [intOf]; omega
        · have hz3 : z2 < 0 := by omega
          have hz4 : decide (0 ≤ z2) = false := decide_eq_false hz2
          have HID : Hid (∀ nq, RoomI w g (k + 1) (w9.drewN nq)) := by
            intro nq
            have hdr : Below w9.heap.size w9 (w9.drewN nq) := ⟨rfl, rfl, rfl, Nat.le_refl _, fun _ _ => rfl⟩
            exact ⟨F, G, K, lp, dp, s, L, b, rv, tv, av, ⟨hB.both.below hdr, hB.at_.below hdr, hB.apF, hB.apG, hB.first, hB.next, hB.age, hB.starts, hB.tl, hB.al⟩, hC, hf, q1, q2, q3, q4, q5, q6, q7.trans (hdr.mono q7.size)⟩
          clear hB hC hf q1 q2 q3 q4 q5 q6 q7 hzb HI9 hfl
          go_wp2_with fail
          go_quiet (fail)
          go_wp2_with fail
          go_roundw
          case rel => exact ⟨k + 1, by omega, by omega, by go_num, unhide HID _⟩
          case measure => simp [intOf]; omega
      · have lf : ¬ (k : Int) < (fs.length : Int) := by omega
        have lf2 : decide ((k : Int) < (fs.length : Int)) = false := decide_eq_false lf
        have lf3 : decide (k < fs.length) = false := decide_eq_false hfl
        have HID : Hid (∀ nq, RoomI w g (k + 1) (w9.drewN nq)) := by
          intro nq
          obtain ⟨F, G, K, lp, dp, s, L, b, rv, tv, av, hB, hC, hf, q1, q2, q3, q4, q5, q6, q7⟩ := unhide HI9
          have hdr : Below w9.heap.size w9 (w9.drewN nq) := ⟨rfl, rfl, rfl, Nat.le_refl _, fun _ _ => rfl⟩
          exact ⟨F, G, K, lp, dp, s, L, b, rv, tv, av, ⟨hB.both.below hdr, hB.at_.below hdr, hB.apF, hB.apG, hB.first, hB.next, hB.age, hB.starts, hB.tl, hB.al⟩, hC, hf, q1, q2, q3, q4, q5, q6, q7.trans (hdr.mono q7.size)⟩
        clear hfl HI9
        go_wp2_with fail
        go_quiet (fail)
        go_wp2_with fail
        go_roundw
        case rel => exact ⟨k + 1, by omega, by omega, by go_num, unhide HID _⟩
        case measure => simp [intOf]; omega
    · obtain ⟨F, G, K, lp, dp, s, L, b, rv, tv, av, hB, hC, hf, q1, q2, q3, q4, q5, q6, q7⟩ := unhide HI
      obtain ⟨vs, hvl, hvr⟩ := hB.at_.recs.row
      obtain ⟨rq, rc, hrv, _⟩ := hvr.shape
      subst hrv
      have hc12 := (nineteen_cells hB.at_.blk).2.1.1
      have hdr : Below wr.heap.size wr wr.drew := (Below.refl _ _).drew
      have hBd : Book F G K wr.drew g lp dp s L b (.slice rq vs.length rc) tv av := ⟨hB.both.below hdr, hB.at_.below hdr, hB.apF, hB.apG, hB.first, hB.next, hB.age, hB.starts, hB.tl, hB.al⟩
      have hfr := bfree_any F G K g lp dp s L b _ tv av b.recs.length wr.drew hBd (Nat.le_refl _) (by omega) (by omega)
      rw [← hvl] at hfr
      obtain ⟨lg, hlg⟩ : ∃ lg, lp = .pointer (some lg) := by obtain ⟨g, sv, e, _⟩ := hB.both.log; exact ⟨_, e⟩
      subst hlg
      have htu : b.turn vs.length = b.next := by
        unfold BK.turn
        rw [List.getD_eq_getElem?_getD, List.getElem?_eq_none (by rw [hB.tl]; omega)]
        rfl
      rw [htu] at hfr
      have HFR : Hid (Calls Try.prog 10 #[.pointer (some ⟨g, 0, none⟩), .int .i64 (vs.length : Int)] wr.drew fun e w' => ∃ t, e = .returned t ∧ (t = .bool true ∧ w'.cell? ⟨g, 10, none⟩ = some (.pointer (some lg)) ∧ w'.cell? ⟨g, 4, none⟩ = some (.int .i64 30) ∧ LRep G w' (.pointer (some lg)) dp 256 (L.free b.next) ∧ Below w.heap.size w w')) := by
        refine hfr.mono ?_
        rintro e w' ⟨rfl, rv', tv', av', hb', hk'⟩
        obtain ⟨⟨_, h4, h10, _⟩, _⟩ := nineteen_cells hb'.at_.blk
        exact ⟨_, rfl, rfl, h10, h4, hb'.both.log, (q7.trans (hdr.mono q7.size)).trans (hk'.below (Nat.le_trans q7.size hdr.size) q6)⟩
      have HLF : Hid (∀ w', LRep G w' (.pointer (some lg)) dp 256 (L.free b.next) → Calls Try.prog 11 #[.pointer (some lg)] w' fun e w'' => ∃ t, e = .returned t ∧ (t = .int .i64 30 ∧ Below w'.heap.size w' w'')) := by
        intro w' h'
        refine (wleft_any G _ dp 256 _ w' h').mono ?_
        rintro e w'' ⟨rfl, hb⟩
        refine ⟨_, rfl, ?_, hb⟩
        rw [lz256]
        show Value.int .i64 (30 - ((L.next - b.next : Nat) : Int)) = _
        rw [hB.next, Nat.sub_self]
        rfl
      have hcd : wr.drew.cell? ⟨g, 12, none⟩ = some (.slice rq vs.length rc) := hc12
      have hd10 : wr.drew.cell? ⟨g, 10, none⟩ = some (.pointer (some lg)) := (nineteen_cells hB.at_.blk).1.2.2.1
      have hd4 : wr.drew.cell? ⟨g, 4, none⟩ = some (.int .i64 30) := (nineteen_cells hB.at_.blk).1.2.1
      have hex : ¬ ((k : Int) < (zs.length : Int)) ∨ ((k : Int) < (zs.length : Int) ∧ ¬ (k : Int) < 100) := by omega
      have hex3 : ¬ k < zs.length ∨ ¬ k < 100 := by omega
      clear hB hC hf q1 q2 q3 q4 q5 q6 q7 hvr hlt hfr hBd hdr htu hvl
      rcases hex with hex | ⟨hex1, hex2⟩
      · go_wp2_with fail
        refine wp_region_held_drew (S := fun w' => w'.cell? ⟨g, 10, none⟩ = some (.pointer (some lg)) ∧ w'.cell? ⟨g, 4, none⟩ = some (.int .i64 30)) (by kernel_rfl) ⟨hd10, hd4⟩ (fun hHeld => ?_)
        refine wpAnyH_take (i := 0) (oi := { dst := some 62, op := Op.move (Operand.tmp 5), type := 23, pos := "law.go:257", after := #[], guard := none }) (v := ?_) rfl (by kernel_rfl) (by kernel_rfl) (by kernel_rfl) (fun _ _ _ h => h) (Or.inl ⟨by rfl, ?_⟩) (by assumption) ?_
        rotate_left
        · intro w' hSw
          first | (go_simp; done) | (go_simp; with_reducible rfl)
        simp only [Act.put, List.setIfInBounds_toArray, List.set_cons_zero, List.set_cons_succ]
        refine wpAnyH_take (i := 1) (oi := { dst := some 63, op := Op.move (Operand.tmp 5), type := 23, pos := "law.go:257", after := #[], guard := none }) (v := ?_) rfl (by kernel_rfl) (by kernel_rfl) (by kernel_rfl) (fun _ _ _ h => h) (Or.inl ⟨by rfl, ?_⟩) (by assumption) ?_
        rotate_left
        · intro w' hSw
          first | (go_simp; done) | (go_simp; with_reducible rfl)
        simp only [Act.put, List.setIfInBounds_toArray, List.set_cons_zero, List.set_cons_succ]
        refine wpAnyH_take (i := 2) (oi := { dst := some 64, op := Op.nilCheck (Operand.tmp 63), type := 0, pos := "law.go:257", after := #[{ on := 1, ground := Ground.data }], guard := none }) (v := ?_) rfl (by kernel_rfl) (by kernel_rfl) (by kernel_rfl) (fun _ _ _ h => h) (Or.inl ⟨by rfl, ?_⟩) (by assumption) ?_
        rotate_left
        · intro w' hSw
          first | (go_simp; done) | (go_simp; with_reducible rfl)
        simp only [Act.put, List.setIfInBounds_toArray, List.set_cons_zero, List.set_cons_succ]
        refine wpAnyH_take (i := 3) (oi := { dst := some 65, op := Op.fieldAddr 39 (Operand.tmp 64) 4, type := 0, pos := "law.go:257", after := #[{ on := 2, ground := Ground.data }], guard := none }) (v := ?_) rfl (by kernel_rfl) (by kernel_rfl) (by kernel_rfl) (fun _ _ _ h => h) (Or.inl ⟨by rfl, ?_⟩) (by assumption) ?_
        rotate_left
        · intro w' hSw
          first | (go_simp; done) | (go_simp; with_reducible rfl)
        simp only [Act.put, List.setIfInBounds_toArray, List.set_cons_zero, List.set_cons_succ]
        refine wpAnyH_ready (rs := [4]) (by kernel_rfl) (by simp) ?_
        refine AllReadyH.cons rfl (fun K hK => ?_) AllReadyH.nil
        go_simp
        refine hK.out _ _ ?_ (fun hHeld => ?_)
        · exact ⟨hd10, hd4⟩
        clear hK K
        refine wpAnyH_take (i := 5) (oi := { dst := some 67, op := Op.call { callee := Callee.builtin Builtin.len, args := #[Operand.tmp 66], argTypes := #[36] }, type := 3, pos := "law.go:257", after := #[{ on := 4, ground := Ground.data }], guard := none }) (v := ?_) rfl (by kernel_rfl) (by kernel_rfl) (by kernel_rfl) (fun _ _ _ h => h) (Or.inl ⟨by rfl, ?_⟩) (by assumption) ?_
        rotate_left
        · intro w' hSw
          first | (go_simp; done) | (go_simp; with_reducible rfl)
        simp only [Act.put, List.setIfInBounds_toArray, List.set_cons_zero, List.set_cons_succ]
        refine wpAnyH_ready (rs := [6]) (by kernel_rfl) (by simp) ?_
        refine AllReadyH.cons rfl (fun K hK => ?_) AllReadyH.nil
        go_simp
        refine Calls.mono (unhide HFR) ?_
        rintro e w7 ⟨t, rfl, rfl, h10, h4, hlr, hb7⟩
        have HLR := hide hlr
        have HB7 := hide hb7
        clear hlr hb7
        go_wp2_with fail
        refine hK.out _ _ ?_ (fun hHeld => ?_)
        · exact ⟨h10, h4⟩
        clear hK K
        refine wpAnyH_take (i := 7) (oi := { dst := some 69, op := Op.move (Operand.tmp 68), type := 4, pos := "law.go:257", after := #[{ on := 6, ground := Ground.data }, { on := 6, ground := Ground.chain }], guard := none }) (v := ?_) rfl (by kernel_rfl) (by kernel_rfl) (by kernel_rfl) (fun _ _ _ h => h) (Or.inl ⟨by rfl, ?_⟩) (by assumption) ?_
        rotate_left
        · intro w' hSw
          first | (go_simp; done) | (go_simp; with_reducible rfl)
        simp only [Act.put, List.setIfInBounds_toArray, List.set_cons_zero, List.set_cons_succ]
        refine wpAnyH_take (i := 8) (oi := { dst := some 70, op := Op.move (Operand.tmp 5), type := 23, pos := "law.go:257", after := #[{ on := 7, ground := Ground.guard }], guard := some (7, true) }) (v := ?_) rfl (by kernel_rfl) (by kernel_rfl) (by kernel_rfl) (fun _ _ _ h => h) (Or.inl ⟨by rfl, ?_⟩) (by assumption) ?_
        rotate_left
        · intro w' hSw
          first | (go_simp; done) | (go_simp; with_reducible rfl)
        simp only [Act.put, List.setIfInBounds_toArray, List.set_cons_zero, List.set_cons_succ]
        refine wpAnyH_take (i := 9) (oi := { dst := some 71, op := Op.nilCheck (Operand.tmp 70), type := 0, pos := "law.go:257", after := #[{ on := 8, ground := Ground.data }, { on := 7, ground := Ground.guard }], guard := some (7, true) }) (v := ?_) rfl (by kernel_rfl) (by kernel_rfl) (by kernel_rfl) (fun _ _ _ h => h) (Or.inl ⟨by rfl, ?_⟩) (by assumption) ?_
        rotate_left
        · intro w' hSw
          first | (go_simp; done) | (go_simp; with_reducible rfl)
        simp only [Act.put, List.setIfInBounds_toArray, List.set_cons_zero, List.set_cons_succ]
        refine wpAnyH_take (i := 10) (oi := { dst := some 72, op := Op.fieldAddr 39 (Operand.tmp 71) 2, type := 0, pos := "law.go:257", after := #[{ on := 9, ground := Ground.data }, { on := 7, ground := Ground.guard }], guard := some (7, true) }) (v := ?_) rfl (by kernel_rfl) (by kernel_rfl) (by kernel_rfl) (fun _ _ _ h => h) (Or.inl ⟨by rfl, ?_⟩) (by assumption) ?_
        rotate_left
        · intro w' hSw
          first | (go_simp; done) | (go_simp; with_reducible rfl)
        simp only [Act.put, List.setIfInBounds_toArray, List.set_cons_zero, List.set_cons_succ]
        refine wpAnyH_take (i := 11) (oi := { dst := some 73, op := Op.load 34 (Operand.tmp 72), type := 34, pos := "law.go:257", after := #[{ on := 10, ground := Ground.data }, { on := 7, ground := Ground.guard }], guard := some (7, true) }) (v := ?_) rfl (by kernel_rfl) (by kernel_rfl) (by kernel_rfl) (fun _ _ _ h => h) (Or.inl ⟨by rfl, ?_⟩) (by assumption) ?_
        rotate_left
        · intro w' hSw
          obtain ⟨hS1, hS2⟩ := hSw
          first | (go_simp; done) | (go_simp; with_reducible rfl)
        simp only [Act.put, List.setIfInBounds_toArray, List.set_cons_zero, List.set_cons_succ]
        refine wpAnyH_take (i := 13) (oi := { dst := some 75, op := Op.move (Operand.tmp 5), type := 23, pos := "law.go:257", after := #[{ on := 7, ground := Ground.guard }], guard := some (7, true) }) (v := ?_) rfl (by kernel_rfl) (by kernel_rfl) (by kernel_rfl) (fun _ _ _ h => h) (Or.inl ⟨by rfl, ?_⟩) (by assumption) ?_
        rotate_left
        · intro w' hSw
          obtain ⟨hS1, hS2⟩ := hSw
          first | (go_simp; done) | (go_simp; with_reducible rfl)
        simp only [Act.put, List.setIfInBounds_toArray, List.set_cons_zero, List.set_cons_succ]
        refine wpAnyH_take (i := 14) (oi := { dst := some 76, op := Op.nilCheck (Operand.tmp 75), type := 0, pos := "law.go:257", after := #[{ on := 13, ground := Ground.data }, { on := 7, ground := Ground.guard }], guard := some (7, true) }) (v := ?_) rfl (by kernel_rfl) (by kernel_rfl) (by kernel_rfl) (fun _ _ _ h => h) (Or.inl ⟨by rfl, ?_⟩) (by assumption) ?_
        rotate_left
        · intro w' hSw
          obtain ⟨hS1, hS2⟩ := hSw
          first | (go_simp; done) | (go_simp; with_reducible rfl)
        simp only [Act.put, List.setIfInBounds_toArray, List.set_cons_zero, List.set_cons_succ]
        refine wpAnyH_take (i := 15) (oi := { dst := some 77, op := Op.fieldAddr 39 (Operand.tmp 76) 1, type := 0, pos := "law.go:257", after := #[{ on := 14, ground := Ground.data }, { on := 7, ground := Ground.guard }], guard := some (7, true) }) (v := ?_) rfl (by kernel_rfl) (by kernel_rfl) (by kernel_rfl) (fun _ _ _ h => h) (Or.inl ⟨by rfl, ?_⟩) (by assumption) ?_
        rotate_left
        · intro w' hSw
          obtain ⟨hS1, hS2⟩ := hSw
          first | (go_simp; done) | (go_simp; with_reducible rfl)
        simp only [Act.put, List.setIfInBounds_toArray, List.set_cons_zero, List.set_cons_succ]
        refine wpAnyH_take (i := 16) (oi := { dst := some 78, op := Op.fieldAddr 33 (Operand.tmp 77) 3, type := 0, pos := "law.go:257", after := #[{ on := 15, ground := Ground.data }, { on := 7, ground := Ground.guard }], guard := some (7, true) }) (v := ?_) rfl (by kernel_rfl) (by kernel_rfl) (by kernel_rfl) (fun _ _ _ h => h) (Or.inl ⟨by rfl, ?_⟩) (by assumption) ?_
        rotate_left
        · intro w' hSw
          obtain ⟨hS1, hS2⟩ := hSw
          first | (go_simp; done) | (go_simp; with_reducible rfl)
        simp only [Act.put, List.setIfInBounds_toArray, List.set_cons_zero, List.set_cons_succ]
        refine wpAnyH_take (i := 17) (oi := { dst := some 79, op := Op.load 3 (Operand.tmp 78), type := 3, pos := "law.go:257", after := #[{ on := 16, ground := Ground.data }, { on := 7, ground := Ground.guard }], guard := some (7, true) }) (v := ?_) rfl (by kernel_rfl) (by kernel_rfl) (by kernel_rfl) (fun _ _ _ h => h) (Or.inl ⟨by rfl, ?_⟩) (by assumption) ?_
        rotate_left
        · intro w' hSw
          obtain ⟨hS1, hS2⟩ := hSw
          first | (go_simp; done) | (go_simp; with_reducible rfl)
        simp only [Act.put, List.setIfInBounds_toArray, List.set_cons_zero, List.set_cons_succ]
        refine wpAnyH_ready (rs := [12]) (by kernel_rfl) (by simp) ?_
        refine AllReadyH.cons rfl (fun K hK => ?_) AllReadyH.nil
        go_simp
        refine Calls.mono (unhide HLF w7 (unhide HLR)) ?_
        rintro e w8 ⟨t, rfl, rfl, b8⟩
        have h10' := (b8.cell (World.block_lt_of_cell? _ _ h10)).trans h10
        have h4' := (b8.cell (World.block_lt_of_cell? _ _ h4)).trans h4
        have HB8 := hide ((unhide HB7).trans (b8.mono (unhide HB7).size))
        clear b8
        go_wp2_with fail
        refine hK.out _ _ ?_ (fun hHeld => ?_)
        · exact ⟨h10', h4'⟩
        clear hK K
        refine wpAnyH_take (i := 18) (oi := { dst := some 80, op := Op.binOp BinOp.eql 3 (Operand.tmp 74) (Operand.tmp 79) 3, type := 4, pos := "law.go:257", after := #[{ on := 12, ground := Ground.data }, { on := 17, ground := Ground.data }, { on := 7, ground := Ground.guard }], guard := some (7, true) }) (v := ?_) rfl (by kernel_rfl) (by kernel_rfl) (by kernel_rfl) (fun _ _ _ h => h) (Or.inl ⟨by rfl, ?_⟩) (by assumption) ?_
        rotate_left
        · intro w' hSw
          first | (go_simp; done) | (go_simp; with_reducible rfl)
        simp only [Act.put, List.setIfInBounds_toArray, List.set_cons_zero, List.set_cons_succ]
        refine wpAnyH_take (i := 19) (oi := { dst := some 81, op := Op.pick (Operand.tmp 69) (Operand.tmp 80) (Operand.const (Value.bool false)), type := 4, pos := "law.go:257", after := #[{ on := 7, ground := Ground.data }, { on := 18, ground := Ground.data }], guard := none }) (v := ?_) rfl (by kernel_rfl) (by kernel_rfl) (by kernel_rfl) (fun _ _ _ h => h) (Or.inl ⟨by rfl, ?_⟩) (by assumption) ?_
        rotate_left
        · intro w' hSw
          first | (go_simp; done) | (go_simp; with_reducible rfl)
        simp only [Act.put, List.setIfInBounds_toArray, List.set_cons_zero, List.set_cons_succ]
        refine wpAnyH_take (i := 20) (oi := { dst := some 4, op := Op.assign (Operand.tmp 81), type := 4, pos := "law.go:257", after := #[{ on := 19, ground := Ground.data }, { on := 12, ground := Ground.chain }, { on := 0, ground := Ground.phase }, { on := 1, ground := Ground.phase }, { on := 2, ground := Ground.phase }, { on := 3, ground := Ground.phase }, { on := 4, ground := Ground.phase }, { on := 5, ground := Ground.phase }, { on := 6, ground := Ground.phase }, { on := 7, ground := Ground.phase }, { on := 8, ground := Ground.phase }, { on := 9, ground := Ground.phase }, { on := 10, ground := Ground.phase }, { on := 11, ground := Ground.phase }, { on := 12, ground := Ground.phase }, { on := 13, ground := Ground.phase }, { on := 14, ground := Ground.phase }, { on := 15, ground := Ground.phase }, { on := 16, ground := Ground.phase }, { on := 17, ground := Ground.phase }, { on := 18, ground := Ground.phase }, { on := 19, ground := Ground.phase }], guard := none }) (v := ?_) rfl (by kernel_rfl) (by kernel_rfl) (by kernel_rfl) (fun _ _ _ h => h) (Or.inl ⟨by rfl, ?_⟩) (by assumption) ?_
        rotate_left
        · intro w' hSw
          first | (go_simp; done) | (go_simp; with_reducible rfl)
        simp only [Act.put, List.setIfInBounds_toArray, List.set_cons_zero, List.set_cons_succ]
        refine wpAnyH_done (by kernel_rfl) ?_ _
        go_wp2_with fail
        go_ret
        exact ⟨rfl, unhide HB8⟩
      · go_wp2_with fail
        refine wp_region_held_drew (S := fun w' => w'.cell? ⟨g, 10, none⟩ = some (.pointer (some lg)) ∧ w'.cell? ⟨g, 4, none⟩ = some (.int .i64 30)) (by kernel_rfl) ⟨hd10, hd4⟩ (fun hHeld => ?_)
        refine wpAnyH_take (i := 0) (oi := { dst := some 62, op := Op.move (Operand.tmp 5), type := 23, pos := "law.go:257", after := #[], guard := none }) (v := ?_) rfl (by kernel_rfl) (by kernel_rfl) (by kernel_rfl) (fun _ _ _ h => h) (Or.inl ⟨by rfl, ?_⟩) (by assumption) ?_
        rotate_left
        · intro w' hSw
          first | (go_simp; done) | (go_simp; with_reducible rfl)
        simp only [Act.put, List.setIfInBounds_toArray, List.set_cons_zero, List.set_cons_succ]
        refine wpAnyH_take (i := 1) (oi := { dst := some 63, op := Op.move (Operand.tmp 5), type := 23, pos := "law.go:257", after := #[], guard := none }) (v := ?_) rfl (by kernel_rfl) (by kernel_rfl) (by kernel_rfl) (fun _ _ _ h => h) (Or.inl ⟨by rfl, ?_⟩) (by assumption) ?_
        rotate_left
        · intro w' hSw
          first | (go_simp; done) | (go_simp; with_reducible rfl)
        simp only [Act.put, List.setIfInBounds_toArray, List.set_cons_zero, List.set_cons_succ]
        refine wpAnyH_take (i := 2) (oi := { dst := some 64, op := Op.nilCheck (Operand.tmp 63), type := 0, pos := "law.go:257", after := #[{ on := 1, ground := Ground.data }], guard := none }) (v := ?_) rfl (by kernel_rfl) (by kernel_rfl) (by kernel_rfl) (fun _ _ _ h => h) (Or.inl ⟨by rfl, ?_⟩) (by assumption) ?_
        rotate_left
        · intro w' hSw
          first | (go_simp; done) | (go_simp; with_reducible rfl)
        simp only [Act.put, List.setIfInBounds_toArray, List.set_cons_zero, List.set_cons_succ]
        refine wpAnyH_take (i := 3) (oi := { dst := some 65, op := Op.fieldAddr 39 (Operand.tmp 64) 4, type := 0, pos := "law.go:257", after := #[{ on := 2, ground := Ground.data }], guard := none }) (v := ?_) rfl (by kernel_rfl) (by kernel_rfl) (by kernel_rfl) (fun _ _ _ h => h) (Or.inl ⟨by rfl, ?_⟩) (by assumption) ?_
        rotate_left
        · intro w' hSw
          first | (go_simp; done) | (go_simp; with_reducible rfl)
        simp only [Act.put, List.setIfInBounds_toArray, List.set_cons_zero, List.set_cons_succ]
        refine wpAnyH_ready (rs := [4]) (by kernel_rfl) (by simp) ?_
        refine AllReadyH.cons rfl (fun K hK => ?_) AllReadyH.nil
        go_simp
        refine hK.out _ _ ?_ (fun hHeld => ?_)
        · exact ⟨hd10, hd4⟩
        clear hK K
        refine wpAnyH_take (i := 5) (oi := { dst := some 67, op := Op.call { callee := Callee.builtin Builtin.len, args := #[Operand.tmp 66], argTypes := #[36] }, type := 3, pos := "law.go:257", after := #[{ on := 4, ground := Ground.data }], guard := none }) (v := ?_) rfl (by kernel_rfl) (by kernel_rfl) (by kernel_rfl) (fun _ _ _ h => h) (Or.inl ⟨by rfl, ?_⟩) (by assumption) ?_
        rotate_left
        · intro w' hSw
          first | (go_simp; done) | (go_simp; with_reducible rfl)
        simp only [Act.put, List.setIfInBounds_toArray, List.set_cons_zero, List.set_cons_succ]
        refine wpAnyH_ready (rs := [6]) (by kernel_rfl) (by simp) ?_
        refine AllReadyH.cons rfl (fun K hK => ?_) AllReadyH.nil
        go_simp
        refine Calls.mono (unhide HFR) ?_
        rintro e w7 ⟨t, rfl, rfl, h10, h4, hlr, hb7⟩
        have HLR := hide hlr
        have HB7 := hide hb7
        clear hlr hb7
        go_wp2_with fail
        refine hK.out _ _ ?_ (fun hHeld => ?_)
        · exact ⟨h10, h4⟩
        clear hK K
        refine wpAnyH_take (i := 7) (oi := { dst := some 69, op := Op.move (Operand.tmp 68), type := 4, pos := "law.go:257", after := #[{ on := 6, ground := Ground.data }, { on := 6, ground := Ground.chain }], guard := none }) (v := ?_) rfl (by kernel_rfl) (by kernel_rfl) (by kernel_rfl) (fun _ _ _ h => h) (Or.inl ⟨by rfl, ?_⟩) (by assumption) ?_
        rotate_left
        · intro w' hSw
          first | (go_simp; done) | (go_simp; with_reducible rfl)
        simp only [Act.put, List.setIfInBounds_toArray, List.set_cons_zero, List.set_cons_succ]
        refine wpAnyH_take (i := 8) (oi := { dst := some 70, op := Op.move (Operand.tmp 5), type := 23, pos := "law.go:257", after := #[{ on := 7, ground := Ground.guard }], guard := some (7, true) }) (v := ?_) rfl (by kernel_rfl) (by kernel_rfl) (by kernel_rfl) (fun _ _ _ h => h) (Or.inl ⟨by rfl, ?_⟩) (by assumption) ?_
        rotate_left
        · intro w' hSw
          first | (go_simp; done) | (go_simp; with_reducible rfl)
        simp only [Act.put, List.setIfInBounds_toArray, List.set_cons_zero, List.set_cons_succ]
        refine wpAnyH_take (i := 9) (oi := { dst := some 71, op := Op.nilCheck (Operand.tmp 70), type := 0, pos := "law.go:257", after := #[{ on := 8, ground := Ground.data }, { on := 7, ground := Ground.guard }], guard := some (7, true) }) (v := ?_) rfl (by kernel_rfl) (by kernel_rfl) (by kernel_rfl) (fun _ _ _ h => h) (Or.inl ⟨by rfl, ?_⟩) (by assumption) ?_
        rotate_left
        · intro w' hSw
          first | (go_simp; done) | (go_simp; with_reducible rfl)
        simp only [Act.put, List.setIfInBounds_toArray, List.set_cons_zero, List.set_cons_succ]
        refine wpAnyH_take (i := 10) (oi := { dst := some 72, op := Op.fieldAddr 39 (Operand.tmp 71) 2, type := 0, pos := "law.go:257", after := #[{ on := 9, ground := Ground.data }, { on := 7, ground := Ground.guard }], guard := some (7, true) }) (v := ?_) rfl (by kernel_rfl) (by kernel_rfl) (by kernel_rfl) (fun _ _ _ h => h) (Or.inl ⟨by rfl, ?_⟩) (by assumption) ?_
        rotate_left
        · intro w' hSw
          first | (go_simp; done) | (go_simp; with_reducible rfl)
        simp only [Act.put, List.setIfInBounds_toArray, List.set_cons_zero, List.set_cons_succ]
        refine wpAnyH_take (i := 11) (oi := { dst := some 73, op := Op.load 34 (Operand.tmp 72), type := 34, pos := "law.go:257", after := #[{ on := 10, ground := Ground.data }, { on := 7, ground := Ground.guard }], guard := some (7, true) }) (v := ?_) rfl (by kernel_rfl) (by kernel_rfl) (by kernel_rfl) (fun _ _ _ h => h) (Or.inl ⟨by rfl, ?_⟩) (by assumption) ?_
        rotate_left
        · intro w' hSw
          obtain ⟨hS1, hS2⟩ := hSw
          first | (go_simp; done) | (go_simp; with_reducible rfl)
        simp only [Act.put, List.setIfInBounds_toArray, List.set_cons_zero, List.set_cons_succ]
        refine wpAnyH_take (i := 13) (oi := { dst := some 75, op := Op.move (Operand.tmp 5), type := 23, pos := "law.go:257", after := #[{ on := 7, ground := Ground.guard }], guard := some (7, true) }) (v := ?_) rfl (by kernel_rfl) (by kernel_rfl) (by kernel_rfl) (fun _ _ _ h => h) (Or.inl ⟨by rfl, ?_⟩) (by assumption) ?_
        rotate_left
        · intro w' hSw
          obtain ⟨hS1, hS2⟩ := hSw
          first | (go_simp; done) | (go_simp; with_reducible rfl)
        simp only [Act.put, List.setIfInBounds_toArray, List.set_cons_zero, List.set_cons_succ]
        refine wpAnyH_take (i := 14) (oi := { dst := some 76, op := Op.nilCheck (Operand.tmp 75), type := 0, pos := "law.go:257", after := #[{ on := 13, ground := Ground.data }, { on := 7, ground := Ground.guard }], guard := some (7, true) }) (v := ?_) rfl (by kernel_rfl) (by kernel_rfl) (by kernel_rfl) (fun _ _ _ h => h) (Or.inl ⟨by rfl, ?_⟩) (by assumption) ?_
        rotate_left
        · intro w' hSw
          obtain ⟨hS1, hS2⟩ := hSw
          first | (go_simp; done) | (go_simp; with_reducible rfl)
        simp only [Act.put, List.setIfInBounds_toArray, List.set_cons_zero, List.set_cons_succ]
        refine wpAnyH_take (i := 15) (oi := { dst := some 77, op := Op.fieldAddr 39 (Operand.tmp 76) 1, type := 0, pos := "law.go:257", after := #[{ on := 14, ground := Ground.data }, { on := 7, ground := Ground.guard }], guard := some (7, true) }) (v := ?_) rfl (by kernel_rfl) (by kernel_rfl) (by kernel_rfl) (fun _ _ _ h => h) (Or.inl ⟨by rfl, ?_⟩) (by assumption) ?_
        rotate_left
        · intro w' hSw
          obtain ⟨hS1, hS2⟩ := hSw
          first | (go_simp; done) | (go_simp; with_reducible rfl)
        simp only [Act.put, List.setIfInBounds_toArray, List.set_cons_zero, List.set_cons_succ]
        refine wpAnyH_take (i := 16) (oi := { dst := some 78, op := Op.fieldAddr 33 (Operand.tmp 77) 3, type := 0, pos := "law.go:257", after := #[{ on := 15, ground := Ground.data }, { on := 7, ground := Ground.guard }], guard := some (7, true) }) (v := ?_) rfl (by kernel_rfl) (by kernel_rfl) (by kernel_rfl) (fun _ _ _ h => h) (Or.inl ⟨by rfl, ?_⟩) (by assumption) ?_
        rotate_left
        · intro w' hSw
          obtain ⟨hS1, hS2⟩ := hSw
          first | (go_simp; done) | (go_simp; with_reducible rfl)
        simp only [Act.put, List.setIfInBounds_toArray, List.set_cons_zero, List.set_cons_succ]
        refine wpAnyH_take (i := 17) (oi := { dst := some 79, op := Op.load 3 (Operand.tmp 78), type := 3, pos := "law.go:257", after := #[{ on := 16, ground := Ground.data }, { on := 7, ground := Ground.guard }], guard := some (7, true) }) (v := ?_) rfl (by kernel_rfl) (by kernel_rfl) (by kernel_rfl) (fun _ _ _ h => h) (Or.inl ⟨by rfl, ?_⟩) (by assumption) ?_
        rotate_left
        · intro w' hSw
          obtain ⟨hS1, hS2⟩ := hSw
          first | (go_simp; done) | (go_simp; with_reducible rfl)
        simp only [Act.put, List.setIfInBounds_toArray, List.set_cons_zero, List.set_cons_succ]
        refine wpAnyH_ready (rs := [12]) (by kernel_rfl) (by simp) ?_
        refine AllReadyH.cons rfl (fun K hK => ?_) AllReadyH.nil
        go_simp
        refine Calls.mono (unhide HLF w7 (unhide HLR)) ?_
        rintro e w8 ⟨t, rfl, rfl, b8⟩
        have h10' := (b8.cell (World.block_lt_of_cell? _ _ h10)).trans h10
        have h4' := (b8.cell (World.block_lt_of_cell? _ _ h4)).trans h4
        have HB8 := hide ((unhide HB7).trans (b8.mono (unhide HB7).size))
        clear b8
        go_wp2_with fail
        refine hK.out _ _ ?_ (fun hHeld => ?_)
        · exact ⟨h10', h4'⟩
        clear hK K
        refine wpAnyH_take (i := 18) (oi := { dst := some 80, op := Op.binOp BinOp.eql 3 (Operand.tmp 74) (Operand.tmp 79) 3, type := 4, pos := "law.go:257", after := #[{ on := 12, ground := Ground.data }, { on := 17, ground := Ground.data }, { on := 7, ground := Ground.guard }], guard := some (7, true) }) (v := ?_) rfl (by kernel_rfl) (by kernel_rfl) (by kernel_rfl) (fun _ _ _ h => h) (Or.inl ⟨by rfl, ?_⟩) (by assumption) ?_
        rotate_left
        · intro w' hSw
          first | (go_simp; done) | (go_simp; with_reducible rfl)
        simp only [Act.put, List.setIfInBounds_toArray, List.set_cons_zero, List.set_cons_succ]
        refine wpAnyH_take (i := 19) (oi := { dst := some 81, op := Op.pick (Operand.tmp 69) (Operand.tmp 80) (Operand.const (Value.bool false)), type := 4, pos := "law.go:257", after := #[{ on := 7, ground := Ground.data }, { on := 18, ground := Ground.data }], guard := none }) (v := ?_) rfl (by kernel_rfl) (by kernel_rfl) (by kernel_rfl) (fun _ _ _ h => h) (Or.inl ⟨by rfl, ?_⟩) (by assumption) ?_
        rotate_left
        · intro w' hSw
          first | (go_simp; done) | (go_simp; with_reducible rfl)
        simp only [Act.put, List.setIfInBounds_toArray, List.set_cons_zero, List.set_cons_succ]
        refine wpAnyH_take (i := 20) (oi := { dst := some 4, op := Op.assign (Operand.tmp 81), type := 4, pos := "law.go:257", after := #[{ on := 19, ground := Ground.data }, { on := 12, ground := Ground.chain }, { on := 0, ground := Ground.phase }, { on := 1, ground := Ground.phase }, { on := 2, ground := Ground.phase }, { on := 3, ground := Ground.phase }, { on := 4, ground := Ground.phase }, { on := 5, ground := Ground.phase }, { on := 6, ground := Ground.phase }, { on := 7, ground := Ground.phase }, { on := 8, ground := Ground.phase }, { on := 9, ground := Ground.phase }, { on := 10, ground := Ground.phase }, { on := 11, ground := Ground.phase }, { on := 12, ground := Ground.phase }, { on := 13, ground := Ground.phase }, { on := 14, ground := Ground.phase }, { on := 15, ground := Ground.phase }, { on := 16, ground := Ground.phase }, { on := 17, ground := Ground.phase }, { on := 18, ground := Ground.phase }, { on := 19, ground := Ground.phase }], guard := none }) (v := ?_) rfl (by kernel_rfl) (by kernel_rfl) (by kernel_rfl) (fun _ _ _ h => h) (Or.inl ⟨by rfl, ?_⟩) (by assumption) ?_
        rotate_left
        · intro w' hSw
          first | (go_simp; done) | (go_simp; with_reducible rfl)
        simp only [Act.put, List.setIfInBounds_toArray, List.set_cons_zero, List.set_cons_succ]
        refine wpAnyH_done (by kernel_rfl) ?_ _
        go_wp2_with fail
        go_ret
        exact ⟨rfl, unhide HB8⟩

theorem walk_WalRoom (s0 : Value) (d0 : Dt) (s1 : Value) (d1 : Dt) (w : World) (h0 : Reads limSaid w (.row 8 (.int .i64)) [s0] d0) (h1 : Reads limSaid w (.row 8 (.int .i64)) [s1] d1) :
    Calls Try.prog 3 #[s0, s1] w fun e w' => e = .returned (.bool true) ∧ Below w.heap.size w w' := by
  obtain ⟨zs, hz⟩ := zrow_of_reads h0
  obtain ⟨fs, hf⟩ := zrow_of_reads h1
  exact wroom_any s0 s1 zs fs w hz hf
end Go.Proofs.Ytdpoiieblbmofaa
