/- The walk of the law WalTurned. -/
import Derived.Test.YtpkpjmebkikgdaaGreatG35
import Derived.Deep.CutBlock
import Derived.StillTailTactics
import Derived.BigQuiet
import Derived.BigRegion
namespace Go.Proofs.YtpkpjmebkikgdaaGreat
open Go.RowKit

/-- A number below 4096 out of any. -/
theorem mod4096 (z : Int) : ∃ p : Nat, (IntKind.u64.wrap z).tmod 4096 = (p : Int) ∧ p < 4096 ∧ wrap64 (p : Int) = (p : Int) := by
  have h0 : 0 ≤ IntKind.u64.wrap z := by rw [IntKind.wrap_u64]; omega
  refine ⟨((IntKind.u64.wrap z).tmod 4096).toNat, ?_, ?_, ?_⟩
  · rw [Int.tmod_eq_emod_of_nonneg h0]; omega
  · rw [Int.tmod_eq_emod_of_nonneg h0]; omega
  · rw [Int.tmod_eq_emod_of_nonneg h0]; simp only [wrap64]; omega

set_option maxRecDepth 20000 in
set_option maxHeartbeats 8000000 in
theorem wturned_any (s0 : Value) (l : List OpW) (s1 : Value) (zs : List Int) (z1 z2 z3 : Int) (w : World) (h0 : OpsW w s0 l) (h1 : ZRow w s1 zs) :
    Calls Tryz.prog 4 #[s0, s1, .int .i64 z1, .int .i64 z2, .int .i64 z3] w fun e w' => e = .returned (.bool true) ∧ Below w.heap.size w w' := by
  obtain ⟨a0, c0, rfl, n0, m0, p0⟩ := h0
  obtain ⟨a1, c1, rfl, n1, m1, q1, p1⟩ := h1
  have HP0 := hide p0
  have HP1 := hide p1
  have HBG := hide (begin_any w)
  have HAW := hide (fun w' => wawake_any w')
  clear p0 n0 m0 p1 n1 m1 q1
  go_enter Tryz.func4, Tryz.ntmps4
  go_wp2_with fail
  refine Calls.mono (unhide HBG) ?_
  rintro e w1 ⟨g, rfl, lp, dp, F, G, K, hBk, hnew, b1⟩
  have HBK := hide hBk
  have HN := hide hnew
  have HB1 := hide b1
  clear hBk hnew b1 HBG
  go_wp2_with fail
  refine Calls.mono (unhide HAW _) ?_
  rintro e w2 ⟨rfl, b2⟩
  have hI : Calmly w g 0 w2 := ⟨F, G, K, lp, dp, DK.new 256, lg0 0 1, bk0, _, _, _, (fun _ => False), [], ⟨(unhide HBK).below b2, calm_new, rfl, rfl, ⟨rfl, rfl, rfl⟩, inv_new 1, (fun y hy => by cases hy), Nat.le_refl _, Nat.le_refl _, Nat.le_refl _, Nat.le_refl _, Nat.zero_le _, rfl⟩, unhide HN, (unhide HB1).trans (b2.mono (unhide HB1).size)⟩
  have HI0 := hide hI
  clear b2 HAW HBK HN HB1 hI
  go_upto_block 0 with fail
  go_cut [12] from 31 to 55 (fun _ wc => ∃ m, m ≤ 60 ∧ Calmly w g m wc)
  case first =>
    go_wp2_with fail
    go_loopw [12] (fun i wr => ∃ k : Nat, k ≤ l.length ∧ k ≤ 60 ∧ i = .int .i64 k ∧ Calmly w g k wr) (fun i _ => 60 - (intOf i).toNat)
    case atStart => exact ⟨0, Nat.zero_le _, Nat.zero_le _, rfl, unhide HI0⟩
    case round =>
      clear HI0
      obtain ⟨k, hk, hk60, rfl, hI⟩ := hrel
      have HI := hide hI
      clear hI
      by_cases l1 : k < l.length
      · have l1' : (k : Int) < (l.length : Int) := by omega
        by_cases l2 : k < 60
        · have l2' : (k : Int) < 60 := by omega
          obtain ⟨b0, o0, rfl, hc0⟩ : ∃ b off, a0 = some ⟨b, off, none⟩ ∧ ∀ j (h : j < l.length), ∃ bv kv, w.cell? ⟨b, off + j * 4, none⟩ = some (.int .i64 l[j].kind) ∧ w.cell? ⟨b, off + j * 4 + 1, none⟩ = some (.int .i64 l[j].n) ∧ w.cell? ⟨b, off + j * 4 + 2, none⟩ = some bv ∧ w.cell? ⟨b, off + j * 4 + 3, none⟩ = some kv ∧
              Row w bv l[j].b ∧ l[j].b.length ≤ 140737488351232 ∧ BRow w kv l[j].keep ∧ -9223372036854775808 ≤ l[j].n ∧ l[j].n ≤ 9223372036854775807 := by
            rcases unhide HP0 with h | h
            · rw [h] at l1; simp at l1
            · exact h
          have hbw : Below w.heap.size w wr := by obtain ⟨_, _, _, _, _, _, _, _, _, _, _, _, _, _, _, h⟩ := unhide HI; exact h
          obtain ⟨bv, kv, e0, e1, e2, e3, hrow, hrl, hbr, hn1, hn2⟩ := hc0 k l1
          have k0 := (hbw.cell (World.block_lt_of_cell? w _ e0)).trans e0
          have k1 := (hbw.cell (World.block_lt_of_cell? w _ e1)).trans e1
          have k2 := (hbw.cell (World.block_lt_of_cell? w _ e2)).trans e2
          have k3 := (hbw.cell (World.block_lt_of_cell? w _ e3)).trans e3
          have hk0 : (0 : Int) ≤ (k : Int) := by omega
          clear hc0 e0 e1 e2 e3
          obtain ⟨o, ho⟩ : ∃ o, o = l[k] := ⟨_, rfl⟩
          rw [← ho] at k0 k1 hrow hrl hbr hn1 hn2
          obtain ⟨bp, bc, bl, rfl, hbe⟩ := hrow.shape
          obtain ⟨kp, kc, rfl, _, _⟩ := hbr.shape
          by_cases hk4 : o.kind = 4
          · rw [hk4] at k0
            have HID : Hid (Calmly w g (k + 1) wr) := by
              obtain ⟨F2, G2, K2, lp2, dp2, s2, L2, b2, rv2, tv2, av2, S2, ids2, hR, hal, hB⟩ := unhide HI
              exact ⟨F2, G2, K2, lp2, dp2, s2, L2, b2, rv2, tv2, av2, S2, ids2, hR.mono (by omega) (by omega), hal, hB⟩
            clear hbw hrow hrl hbr hn1 hn2 ho hk4 hbe HI k1 k2 k3
            go_wp2_with fail
            exact ⟨⟨k + 1, by omega, by omega, by go_num, unhide HID⟩, by simp [intOf]; omega⟩
          · have HST := hide (fun wz (h : Calmly w g k wz) => step_calm w g k o _ _ wz h (by omega) hrow hrl hbr hk4 ⟨hn1, hn2⟩)
            unfold opC at HST
            clear hbw hrow hrl hbr hn1 hn2 ho hbe
            go_wp2_with fail
            refine Calls.mono (unhide HST wr (unhide HI)) ?_
            rintro e w3 ⟨rfl, hC⟩
            have HC := hide hC
            clear hC HST k0 k1 k2 k3
            go_wp2_with fail
            exact ⟨⟨k + 1, by omega, by omega, by go_num, unhide HC⟩, by simp [intOf]; omega⟩
        · have l2' : ¬ (k : Int) < 60 := by omega
          go_wp2_with fail
          go_meet
          exact ⟨k, hk60, unhide HI⟩
      · have l1' : ¬ (k : Int) < (l.length : Int) := by omega
        go_wp2_with fail
        go_meet
        exact ⟨k, hk60, unhide HI⟩
  case rest =>
    obtain ⟨m, hm, F2, G2, K2, lp2, dp2, s2, L2, b2, rv2, tv2, av2, S2, ids2, hR, hal, hB⟩ := hcut
    obtain ⟨lg, hlg⟩ := hR.book.both.log.ptr
    subst hlg
    obtain ⟨dg, hdg⟩ := hR.book.both.dev.ptr
    subst hdg
    have c10 := (nineteen_cells hR.book.at_.blk).1.2.2.1
    have HSY := hide (run_sync hR (by omega))
    have HAL := hide hal
    have HB := hide hB
    clear hR hal hB HI0 HP0
    go_wp2_with fail
    refine Calls.mono (unhide HSY) ?_
    rintro e w3 ⟨rfl, F3, s3, hR3, hw3, hM3⟩
    have HAL3 : Hid (∀ j, all3 F3 G2 K2 j → w.heap.size ≤ j) := fun j hj => (hM3.sub j hj).elim (unhide HAL j) (Nat.le_trans (unhide HB).size)
    have HB3 : Hid (Below w.heap.size w w3) := (unhide HB).trans (hM3.keep.below (unhide HB).size (unhide HAL))
    have HR3 := hide hR3
    have HW3 := hide hw3
    obtain ⟨p1, e1, r1, x1⟩ := mod4096 z1
    obtain ⟨p2, e2, r2, x2⟩ := mod4096 z2
    obtain ⟨p3, e3, r3, x3⟩ := mod4096 z3
    have HR1 := hide r1
    have HR2 := hide r2
    have HRR3 := hide r3
    clear hR3 hw3 hM3 HSY c10 HAL HB r1 r2 r3
    go_wp2_with fail
    go_region
    obtain ⟨gb, hgb⟩ : ∃ gb, gb = w3.heap.size := ⟨_, rfl⟩
    obtain ⟨w4, hw4⟩ : ∃ w4, w4 = (w3.alloc (.cells #[.int .i64 (p1 : Int), .int .i64 (p2 : Int), .int .i64 (p3 : Int)] 3)).drew := ⟨_, rfl⟩
    have hb4 : Below w3.heap.size w3 w4 := by rw [hw4]; exact ((Below.refl _ _).alloc (Nat.le_refl _) _).drew
    have hx4 : w4.heap[gb]? = some (.cells #[.int .i64 (p1 : Int), .int .i64 (p2 : Int), .int .i64 (p3 : Int)] 3 (0, 0)) := by rw [hw4, hgb]; exact heap_alloc_new w3 _
    have d0 : w4.cell? ⟨gb, 0, none⟩ = some (.int .i64 (p1 : Int)) := by rw [cell_of_row w4 gb _ _ _ (0, 0) hx4]; rfl
    have d1 : w4.cell? ⟨gb, 1, none⟩ = some (.int .i64 (p2 : Int)) := by rw [cell_of_row w4 gb _ _ _ (0, 0) hx4]; rfl
    have d2 : w4.cell? ⟨gb, 2, none⟩ = some (.int .i64 (p3 : Int)) := by rw [cell_of_row w4 gb _ _ _ (0, 0) hx4]; rfl
    have HR4 := hide ((unhide HR3).below hb4)
    have HB4 := hide ((unhide HB3).trans (hb4.mono (unhide HB3).size))
    have HX4 := hide hx4
    have HGB : Hid (w.heap.size ≤ gb ∧ ∀ k, all3 F3 G2 K2 k → k < gb) := ⟨by rw [hgb]; exact (unhide HB3).size, fun k hk => by rw [hgb]; exact (unhide HR3).lt k hk⟩
    rw [← hgb, ← hw4]
    clear hb4 hx4 hgb hw4 HR3 HB3 e1 e2 e3 x1 x2 x3
    go_upto_region 13 with fail
    go_cut [105] from 81 to 105 (fun c wc => c = .bool (decide (p1 = p2 ∨ p2 = p3 ∨ p1 = p3)) ∧ ∃ n, wc = w4.drewN n)
    case first =>
      by_cases h12 : p1 = p2
      · subst h12
        go_quiet (fail)
        go_wp2_with fail
        go_meet
        exact ⟨by simp, nq, rfl⟩
      · by_cases h23 : p2 = p3
        · subst h23
          have k1 : ((p1 : Int) == (p2 : Int)) = false := by simp; omega
          have k1n : (p1 == p2) = false := by simp; omega
          have k1d : decide (p1 = p2) = false := decide_eq_false (by omega)
          go_quiet (fail)
          go_wp2_with fail
          go_meet
          exact ⟨by simp, nq, rfl⟩
        · by_cases h13 : p1 = p3
          · subst h13
            have k1 : ((p1 : Int) == (p2 : Int)) = false := by simp; omega
            have k1n : (p1 == p2) = false := by simp; omega
            have k1d : decide (p1 = p2) = false := decide_eq_false (by omega)
            have k2 : ((p2 : Int) == (p1 : Int)) = false := by simp; omega
            have k2n : (p2 == p1) = false := by simp; omega
            have k2d : decide (p2 = p1) = false := decide_eq_false (by omega)
            go_quiet (fail)
            go_wp2_with fail
            go_meet
            exact ⟨by simp, nq, rfl⟩
          · skip
            have k1 : ((p1 : Int) == (p2 : Int)) = false := by simp; omega
            have k1n : (p1 == p2) = false := by simp; omega
            have k1d : decide (p1 = p2) = false := decide_eq_false (by omega)
            have k2 : ((p2 : Int) == (p3 : Int)) = false := by simp; omega
            have k2n : (p2 == p3) = false := by simp; omega
            have k2d : decide (p2 = p3) = false := decide_eq_false (by omega)
            have k3 : ((p1 : Int) == (p3 : Int)) = false := by simp; omega
            have k3n : (p1 == p3) = false := by simp; omega
            have k3d : decide (p1 = p3) = false := decide_eq_false (by omega)
            go_quiet (fail)
            go_wp2_with fail
            go_meet
            exact ⟨by rw [decide_eq_false (by omega)], nq, rfl⟩
    case rest =>
      obtain ⟨rfl, n5, hw5⟩ := hcut
      have hb5 : Below w4.heap.size w4 wc := by rw [hw5]; exact tbelow_drewN (Below.refl _ _) _
      have HR5 := hide ((unhide HR4).below hb5)
      have HB5 := hide ((unhide HB4).trans (hb5.mono (unhide HB4).size))
      have HX5 : Hid (wc.heap[gb]? = some (.cells #[.int .i64 (p1 : Int), .int .i64 (p2 : Int), .int .i64 (p3 : Int)] 3 (0, 0))) := (hb5.block gb (Array.getElem?_eq_some_iff.1 (unhide HX4)).1).trans (unhide HX4)
      clear hw5 hb5 d0 d1 d2 HR4 HB4 HX4
      have hpw : ∃ w5, w5 = wc := ⟨_, rfl⟩
      obtain ⟨w5, hw5⟩ := hpw
      rw [← hw5] at HR5 HB5 HX5 ⊢
      clear hw5
      go_upto_if 105 with fail
      go_cut [14] from 105 to 107 (fun s14 wc => wc = w5 ∧ ∃ ps : List Nat, s14 = .slice (some ⟨gb, 0, none⟩) ps.length 3 ∧ Places 4096 ps ∧ ∀ y (h : y < ps.length), (#[Value.int .i64 (p1 : Int), .int .i64 (p2 : Int), .int .i64 (p3 : Int)] : Array Value)[y]? = some (.int .i64 (ps[y] : Int)))
      case first =>
        by_cases hd : p1 = p2 ∨ p2 = p3 ∨ p1 = p3
        · rw [decide_eq_true hd]
          clear hd
          go_wp2_with fail
          go_meet
          refine ⟨rfl, [p1], rfl, Or.inl ⟨p1, rfl, unhide HR1⟩, fun y hy => ?_⟩
          simp only [List.length_singleton] at hy
          obtain rfl : y = 0 := by omega
          rfl
        · rw [decide_eq_false hd]
          have HD := hide hd
          clear hd
          go_wp2_with fail
          go_meet
          have hd := unhide HD
          refine ⟨rfl, [p1, p2, p3], rfl, Or.inr ⟨p1, p2, p3, rfl, by omega, by omega, by omega, unhide HR1, unhide HR2, unhide HRR3⟩, fun y hy => ?_⟩
          match y, hy with
          | 0, _ => rfl
          | 1, _ => rfl
          | 2, _ => rfl
      case rest =>
        obtain ⟨rfl, ps, rfl, hpl, hpc⟩ := hcut
        have HPL := hide hpl
        have HPC := hide hpc
        obtain ⟨bits, hbits⟩ : ∃ bits : Array Value, bits = #[.int .i64 (p1 : Int), .int .i64 (p2 : Int), .int .i64 (p3 : Int)] := ⟨_, rfl⟩
        rw [← hbits] at HPC HX5
        clear hpl hpc hbits HR1 HR2 HRR3
        obtain ⟨w6, hmk, hx6, b6⟩ := make_hits wc
        have c4 := (nineteen_cells (unhide HR5).book.at_.blk).1.2.1
        have hml : (unhide HR5).lt = (unhide HR5).lt := rfl
        clear hml
        obtain ⟨gh, hgh⟩ : ∃ gh, gh = wc.heap.size := ⟨_, rfl⟩
        rw [← hgh] at hmk hx6
        have HT0 : Hid (TurnL w w6 K2 g gh gb (.pointer (some lg)) (.pointer (some dg)) b2 rv2 tv2 av2 bits s3 ps 0) := by
          have hR6 := (unhide HR5).below b6
          have hgb := unhide HGB
          have hlt5 : gb < wc.heap.size := (Array.getElem?_eq_some_iff.1 (unhide HX5)).1
          refine ⟨fun _ => false, s3, ⟨⟨F3, hR6.book.both.dev, hR6.book.apF, fun h => ?_, fun h => ?_, fun k hk => unhide HAL3 k (Or.inl hk)⟩, hR6.book.at_, hx6, (b6.block gb hlt5).trans (unhide HX5), ⟨fun h => ?_, fun h => ?_⟩, by omega, by rw [hgh]; exact (unhide HB5).size, (unhide HB5).trans (b6.mono (unhide HB5).size)⟩, TurnI.start s3 ps (unhide HW3), by rw [hR6.turns]; omega, fun _ _ => rfl⟩
          · have := hgb.2 gh (Or.inl h); omega
          · have := hgb.2 gb (Or.inl h); omega
          · have := hgb.2 gh (Or.inr (Or.inr h)); omega
          · have := hgb.2 gb (Or.inr (Or.inr h)); omega
        go_upto_block 2 with fail
        rw [← hgh]
        have HPN : Hid (ps.length ≤ 3 ∧ ∀ y (h : y < ps.length), ps[y] < 4096) := by
          rcases unhide HPL with ⟨i, rfl, hi⟩ | ⟨i, j, k, rfl, _, _, _, hi, hj, hk⟩
          · exact ⟨by simp, fun y hy => by
            simp only [List.length_singleton] at hy
            obtain rfl : y = 0 := by omega
            exact hi⟩
          · exact ⟨by simp, fun y hy => by match y, hy with | 0, _ => exact hi | 1, _ => exact hj | 2, _ => exact hk⟩
        have HK3 : Hid (∀ k, (s3.kept k).length = 512) := fun k => (unhide HR5).book.both.dev.ok.kept k
        have HN3 : Hid (s3.n = 256) := (unhide HR5).sn
        have HWW := HW3
        clear hmk hx6 b6 c4 hgh HX5 HB5 HW3 HAL3 HGB
        go_cut [16, 17, 18] from 114 to 168 (fun _ _ _ wc => ∃ k, k ≤ zs.length ∧ k ≤ 8 ∧ TurnL w wc K2 g gh gb (.pointer (some lg)) (.pointer (some dg)) b2 rv2 tv2 av2 bits s3 ps k)
        case first =>
          go_wp2_with fail
          go_loopw [16, 17, 18] (fun i _ _ wr => ∃ k : Nat, k ≤ zs.length ∧ k ≤ 8 ∧ i = .int .i64 k ∧ TurnL w wr K2 g gh gb (.pointer (some lg)) (.pointer (some dg)) b2 rv2 tv2 av2 bits s3 ps k) (fun i _ _ _ => 8 - (intOf i).toNat)
          case atStart => exact ⟨0, Nat.zero_le _, Nat.zero_le _, rfl, unhide HT0⟩
          case round =>
            clear HT0
            obtain ⟨k, hk, hk8, rfl, hT⟩ := hrel
            have HT := hide hT
            clear hT
            by_cases l1 : k < zs.length
            · have l1' : (k : Int) < (zs.length : Int) := by omega
              by_cases l2 : k < 8
              · have l2' : (k : Int) < 8 := by omega
                obtain ⟨b1, o1, rfl, hc1⟩ : ∃ b off, a1 = some ⟨b, off, none⟩ ∧ ∀ j (h : j < zs.length), w.cell? ⟨b, off + j, none⟩ = some (.int .i64 zs[j]) := by
                  rcases unhide HP1 with h | h
                  · rw [h] at l1; simp at l1
                  · exact h
                obtain ⟨H, s, hTM, hTI, htn, _⟩ := unhide HT
                have d4 := (nineteen_cells hTM.book.blk).1.2.1
                have e0 := hc1 k l1
                have k0 := (hTM.bel.cell (World.block_lt_of_cell? w _ e0)).trans e0
                obtain ⟨a, ea, ra, xa⟩ : ∃ a : Nat, (IntKind.u64.wrap zs[k]).tmod 30 = (a : Int) ∧ a < 30 ∧ wrap64 (a : Int) = (a : Int) := by
                  have h0 : 0 ≤ IntKind.u64.wrap zs[k] := by rw [IntKind.wrap_u64]; omega
                  refine ⟨((IntKind.u64.wrap zs[k]).tmod 30).toNat, ?_, ?_, ?_⟩
                  · rw [Int.tmod_eq_emod_of_nonneg h0]; omega
                  · rw [Int.tmod_eq_emod_of_nonneg h0]; omega
                  · rw [Int.tmod_eq_emod_of_nonneg h0]; simp only [wrap64]; omega
                have hk0 : (0 : Int) ≤ (k : Int) := by omega
                generalize zs[k] = zk at *
                have HTN : Hid (∀ W, Below wr.heap.size wr W → TurnN w W K2 g gh gb (.pointer (some lg)) (.pointer (some dg)) b2 rv2 tv2 av2 bits s3 ps k a 0 H) := fun W hb => by
                  refine ⟨s, hTM.below hb, by omega, ?_⟩
                  cases hH : H a with
                  | true => exact Or.inl ⟨rfl, rfl, hTI⟩
                  | false => exact Or.inr ⟨rfl, hTI.begin a ra hH⟩
                have HRA := hide ra
                clear hc1 e0 hTM hTI htn HT ra
                go_upto_region 19 with fail
                go_region
                rw [xa]
                have HN0 := hide (unhide HTN wr.drew ((Below.refl _ _).drew))
                clear HTN ea xa k0 d4
                generalize wr.drew = wd at *
                go_upto_block 4 with fail
                go_cut [18] from 137 to 165 (fun _ wc => ∃ y, (H a = true ∨ y = ps.length) ∧ TurnN w wc K2 g gh gb (.pointer (some lg)) (.pointer (some dg)) b2 rv2 tv2 av2 bits s3 ps k a y H)
                case first =>
                  go_wp2_with fail
                  go_loopw [18] (fun i wq => ∃ y : Nat, y ≤ ps.length ∧ i = .int .i64 y ∧ TurnN w wq K2 g gh gb (.pointer (some lg)) (.pointer (some dg)) b2 rv2 tv2 av2 bits s3 ps k a y H) (fun i _ => ps.length - (intOf i).toNat)
                  case atStart => exact ⟨0, Nat.zero_le _, rfl, unhide HN0⟩
                  case round =>
                    clear HN0
                    obtain ⟨y, hy, rfl, hN⟩ := hrel
                    have HN := hide hN
                    have hra : (a : Int) < 30 := by have := unhide HRA; omega
                    have ha0 : (0 : Int) ≤ (a : Int) := by omega
                    clear hN
                    by_cases l3 : y < ps.length
                    · have l3' : (y : Int) < (ps.length : Int) := by omega
                      obtain ⟨s, hTM, htn, hor⟩ := unhide HN
                      obtain ⟨x0, _⟩ := hTM.hit a (unhide HRA)
                      cases hH : H a with
                      | true =>
                        rw [hH] at x0
                        clear hTM htn hor
                        go_wp2_with fail
                        go_meet
                        exact ⟨y, Or.inl hH, unhide HN⟩
                      | false =>
                        rw [hH] at x0
                        have hblk := hTM.book.blk
                        unfold bookC at hblk
                        have d0 := (nineteen_cells hblk).1.1
                        have d3 := (book_cells hblk).2.2.1
                        have x1 := hTM.bit y _ (unhide HPC y l3)
                        have hYY : TurnY s3 s ps H a y := by
                          rcases hor with ⟨e, _, _⟩ | ⟨_, e⟩
                          · rw [hH] at e; cases e
                          · exact e
                        have HFL := hide (fun W (h : TM w W K2 g gh gb (.pointer (some lg)) (.pointer (some dg)) b2 rv2 tv2 av2 bits H s) => tm_flip h ((13 : Int) + (a : Int)) (ps[y] : Int) (by have := (unhide HPN).1; have := hk8; omega))
                        have HNX : Hid (TurnY s3 (s.flip ((13 : Int) + (a : Int)) (ps[y] : Int)) ps H a (y + 1)) := by
                          have h := hYY.flip l3 ((unhide HPN).2 y l3) (unhide HK3 _) (by rw [hYY.n, unhide HN3]; have := unhide HRA; omega)
                          rw [show ((13 + a : Nat) : Int) = (13 : Int) + (a : Int) by omega] at h
                          exact h
                        have HTM := hide hTM
                        have HHH := hide hH
                        have HL3 := hide l3
                        have HTT : Hid ((s.flip ((13 : Int) + (a : Int)) (ps[y] : Int)).turns ≤ 3 * k + (y + 1)) := by
                          have := flip_turns s ((13 : Int) + (a : Int)) (ps[y] : Int)
                          unfold Hid
                          omega
                        have hy3 : (y : Int) < 3 := by have := (unhide HPN).1; omega
                        generalize ps[y] = pb at *
                        clear hTM htn hor hYY hH hblk l3 hy
                        go_upto_region 23 with fail
                        go_still_tail 15, (by kernel_rfl)
                        go_wp2_with fail
                        refine Calls.mono (unhide HFL _ ((unhide HTM).below ((Below.refl _ _).drew))) ?_
                        rintro e wf ⟨rfl, hTM2⟩
                        have HNN : Hid (TurnN w wf K2 g gh gb (.pointer (some lg)) (.pointer (some dg)) b2 rv2 tv2 av2 bits s3 ps k a (y + 1) H) := ⟨_, hTM2, unhide HTT, Or.inr ⟨unhide HHH, unhide HNX⟩⟩
                        clear hTM2 HFL HTM HTT HNX d0 d3 x0 x1
                        go_wp2_with fail
                        go_roundw
                        case rel => exact ⟨y + 1, unhide HL3, by go_num, unhide HNN⟩
                        case measure => (have := unhide HL3; simp [intOf]; omega)
                    · have l3' : ¬ (y : Int) < (ps.length : Int) := by omega
                      have hye : y = ps.length := by omega
                      go_wp2_with fail
                      go_meet
                      exact ⟨y, Or.inr hye, unhide HN⟩
                case rest =>
                  obtain ⟨y, hy, hN⟩ := hcut
                  have hra : (a : Int) < 30 := by have := unhide HRA; omega
                  have ha0 : (0 : Int) ≤ (a : Int) := by omega
                  have HDN := hide (hN.done (unhide HRA) hy (unhide HPN).1)
                  obtain ⟨s, hTM, _, _⟩ := hN
                  obtain ⟨x0, x1⟩ := hTM.hit a (unhide HRA)
                  clear hTM hy HN0
                  go_wp2_with fail
                  go_roundw
                  case rel => exact ⟨k + 1, by omega, by omega, by go_num, unhide HDN⟩
                  case measure => (simp [intOf]; omega)
              · have l2' : ¬ (k : Int) < 8 := by omega
                go_wp2_with fail
                go_meet
                exact ⟨k, hk, hk8, unhide HT⟩
            · have l1' : ¬ (k : Int) < (zs.length : Int) := by omega
              go_wp2_with fail
              go_meet
              exact ⟨k, hk, hk8, unhide HT⟩
        case rest =>
          obtain ⟨k, hk, hk8, H, s, hTM, hTI, htn, hz⟩ := hcut
          have hinv := (unhide HR5).inv
          have hnx := (unhide HR5).next
          have hag := (unhide HR5).age
          have hle := chain_le _ _ _ hinv.links
          have hlB : b2.least ≤ b2.age := by
            rw [BK.least_of (unhide HR5).lst]
            cases hx : ids2 with
            | nil => exact Nat.le_refl _
            | cons x l => exact (hinv.ok x (hinv.mem x (by rw [hx]; simp))).2
          have HTO := hide (turned_open hinv (unhide HR5).right (unhide HWW) hTI (unhide HPL) (b2.age + 1) (by omega))
          rw [← BK.least_of (unhide HR5).lst] at HTO
          have HZ : Hid ((∃ a, H a = true) → 0 < zs.length) := fun ⟨a, ha⟩ => by
            by_cases h0 : zs.length = 0
            · have := hz (by omega) a; rw [this] at ha; cases ha
            · omega
          have HRS : Hid (b2.recs = ids2.map Id.r) := (unhide HR5).lst.recs
          have HCALM : Hid (s.fell = false ∧ (s.n : Int) = 256) := ⟨by rw [hTI.calm.1]; exact (unhide HR5).calm.1, by rw [hTI.n, unhide HN3]; rfl⟩
          have HTM := hide hTM
          have HAGE := hide (show b2.age ≤ 62 by omega)
          have HLEA := hide hlB
          have hfi : (b2.first : Int) ≤ 4096 := by omega
          have hni : (b2.next : Int) ≤ 4096 := by omega
          have hfn : (b2.first : Int) ≤ (b2.next : Int) := by omega
          have HFN := hide hle
          have HFI := hide (show b2.first ≤ 4096 by omega)
          have hblk := hTM.book.blk
          unfold bookC at hblk
          obtain ⟨⟨_, d4, _, _⟩, _, ⟨d15, d16, _, _⟩, _⟩ := nineteen_cells hblk
          clear hinv hnx hag hle hlB hTM hTI htn hz hk hk8 HR5 HT0 HPL HPC HPN HK3 HN3 hblk
          go_upto_block 6 with fail
          go_cut [19, 20] from 173 to 195 (fun s19 _ wx => wx = wc ∧ ∃ B : Bool, s19 = .bool B ∧ (B = true → ∃ t, b2.first ≤ t ∧ t < b2.next ∧ H (t % 30) = true))
          case first =>
            go_wp2_with fail
            go_loop [19, 20] (fun s19 s20 => ∃ (B : Bool) (t : Nat), s19 = .bool B ∧ s20 = .int .u64 (t : Int) ∧ b2.first ≤ t ∧ t ≤ b2.next ∧ (B = true → ∃ t', b2.first ≤ t' ∧ t' < t ∧ H (t' % 30) = true)) (fun _ s20 => b2.next - (intOf s20).toNat)
            case atStart => exact ⟨false, b2.first, rfl, rfl, Nat.le_refl _, by have := unhide HFN; omega, fun h => by cases h⟩
            case round =>
              obtain ⟨B, t, rfl, rfl, ht1, ht2, hBt⟩ := hrel
              have HBT := hide hBt
              clear hBt
              by_cases hlt : t < b2.next
              · have hltI : (t : Int) < (b2.next : Int) := by omega
                have htI : (t : Int) ≤ 4096 := by omega
                cases B with
                | true =>
                  go_wp2_with fail
                  go_round
                  case rel => exact ⟨true, t + 1, rfl, by go_num, by omega, by omega, fun _ => by obtain ⟨t', e1, e2, e3⟩ := unhide HBT rfl; exact ⟨t', e1, by omega, e3⟩⟩
                  case measure => (simp [intOf]; omega)
                | false =>
                  obtain ⟨q, hq⟩ : ∃ q, q = t % 30 := ⟨_, rfl⟩
                  have hq30 : q < 30 := by omega
                  have hmod : (t : Int).tmod 30 = (q : Int) := by rw [Int.tmod_eq_emod_of_nonneg (by omega)]; omega
                  have hmod2 : (t : Int) % 30 = (q : Int) := by omega
                  have hqw : wrap64 (q : Int) = (q : Int) := by simp only [wrap64]; omega
                  have hqI : (q : Int) < 30 := by omega
                  have x0 := ((unhide HTM).hit q hq30).1
                  have HQ := hide hq
                  have HHQ : Hid (H q = true → H (t % 30) = true) := fun h => by rw [← hq]; exact h
                  generalize H q = hv at *
                  clear hq hq30
                  go_wp2_with fail
                  exact ⟨⟨hv, t + 1, rfl, by go_num, by omega, by omega, fun h => ⟨t, ht1, by omega, unhide HHQ h⟩⟩, by simp [intOf]; omega⟩
              · have hltI : ¬ (t : Int) < (b2.next : Int) := by omega
                have hte : t = b2.next := by omega
                have HTE := hide hte
                clear hte
                go_wp2_with fail
                go_meet
                exact ⟨rfl, B, rfl, fun h => by obtain ⟨t', e1, e2, e3⟩ := unhide HBT h; exact ⟨t', e1, by have := unhide HTE; omega, e3⟩⟩
          case rest =>
            obtain ⟨rfl, B, rfl, hBt⟩ := hcut
            have HBT := hide hBt
            have hwA : IntKind.u64.wrap ((b2.age : Int) + 1) = (b2.age : Int) + 1 := by have := unhide HAGE; rw [IntKind.wrap_u64]; omega
            have hageI : (b2.age : Int) ≤ 62 := by have := unhide HAGE; omega
            clear hBt d4 d15 d16
            rcases unhide HTO with ⟨hop, hno⟩ | ⟨hop, hex⟩
            · have hBf : B = false := by
                cases B with
                | false => rfl
                | true => obtain ⟨t, t1, t2, t3⟩ := unhide HBT rfl; rw [hno t t1 t2] at t3; cases t3
              subst hBf
              obtain ⟨rs, hrs⟩ : ∃ rs, rs = ids2.map Id.r := ⟨_, rfl⟩
              obtain ⟨Lx, hLx⟩ : ∃ Lx, Lx = (lg0 b2.first (b2.age + 1)).addAll ids2 := ⟨_, rfl⟩
              rw [← hrs, ← hLx] at hop
              rw [← hrs] at HRS
              have HOP := hide hop
              clear hop hno HBT hrs hLx HTO HZ
              go_wp2_with fail
              have hblk := (unhide HTM).book.blk
              unfold bookC at hblk
              obtain ⟨⟨d0, _, _, d11⟩, _, ⟨d15, _⟩, _⟩ := nineteen_cells hblk
              obtain ⟨d1, d2, d3, d4, d5, d6, d7, d8, d9⟩ := book_cells hblk
              have hdr3 : Below wc.heap.size wc wc.drew := (Below.refl _ _).drew
              have k3 := twelve_same ⟨d0, d1, d2, d3, d4, d5, d6, d7, d8, d9, d11, d15⟩ hdr3
              have K3 := hide k3
              clear d0 d1 d2 d3 d4 d5 d6 d7 d8 d9 d11 d15
              obtain ⟨d0, d1, d2, d3, d4, d5, d6, d7, d8, d9, d11, d15⟩ := k3
              have HLE3 := hide (bleast_any K2 g _ _ b2 rv2 tv2 av2 wc.drew ((unhide HTM).book.below hdr3))
              have HDR3 := hide hdr3
              have HOP3 : Hid (∀ w', Below wc.drew.heap.size wc.drew w' → Calls Tryz.prog 15 #[.pointer (some dg), .agg #[.int .i64 256, .int .i64 3, .int .i64 13, .int .i64 30, .int .i64 43, .int .i64 73, .int .i64 30, .int .i64 103, .int .i64 4], .int .u64 (b2.first : Int), .int .u64 (b2.least : Int), .int .u64 ((b2.age : Int) + 1)] w' fun e w'' => ∃ v, e = .returned v ∧ ToldPost w' w'' (.pointer (some dg)) rs Lx v) := fun w' hb => by
                obtain ⟨Fd, hD, _⟩ := (((unhide HTM).below hdr3).below hb).dev
                exact open_told (A := b2.age + 1) (p := b2.least) (o := b2.first) (rs := rs) (Lx := Lx) hD (unhide HCALM).2 (unhide HCALM).1 (unhide HOP) (by omega) (by have := unhide HAGE; omega) (by have := unhide HLEA; omega) (by have := unhide HFI; omega)
              clear hblk hdr3
              go_region_held3 (fun w' => w'.cell? ⟨g, 0, none⟩ = some (.pointer (some dg)) ∧ w'.cell? ⟨g, 1, none⟩ = some (.int .i64 256) ∧ w'.cell? ⟨g, 2, none⟩ = some (.int .i64 3) ∧ w'.cell? ⟨g, 3, none⟩ = some (.int .i64 13) ∧ w'.cell? ⟨g, 4, none⟩ = some (.int .i64 30) ∧ w'.cell? ⟨g, 5, none⟩ = some (.int .i64 43) ∧ w'.cell? ⟨g, 6, none⟩ = some (.int .i64 73) ∧ w'.cell? ⟨g, 7, none⟩ = some (.int .i64 30) ∧ w'.cell? ⟨g, 8, none⟩ = some (.int .i64 103) ∧ w'.cell? ⟨g, 9, none⟩ = some (.int .i64 4) ∧ w'.cell? ⟨g, 11, none⟩ = some (.int .u64 (b2.age : Int)) ∧ w'.cell? ⟨g, 15, none⟩ = some (.int .u64 (b2.first : Int))) (first | assumption | go_keep)
                (first
                  | (go_at_call 16; refine Calls.mono (unhide HLE3) ?_; rintro e wl3 ⟨rfl, bl3⟩; have kl3 := twelve_same (unhide K3) bl3; have Hbl3 := hide bl3; clear bl3)
                  | (go_at_call 15; refine Calls.mono (unhide HOP3 wl3 (unhide Hbl3)) ?_; rintro e w9 ⟨v, rfl, lg9, q9, c9, G9, H9, rfl, hr9, hl9, b9⟩; have kn9 := twelve_same kl3 b9; have HB9 := hide ((unhide HDR3).trans (((unhide Hbl3).trans (b9.mono (unhide Hbl3).size)).mono (unhide HDR3).size)); have Hr9 := hide hr9; clear b9 hr9 hl9))
              clear d0 d1 d2 d3 d4 d5 d6 d7 d8 d9 d11 d15 kl3 kn9 K3 HLE3 HOP3 Hbl3 HDR3
              have hTM9 := (unhide HTM).below (unhide HB9)
              obtain ⟨vs, hvl, hvr⟩ := hTM9.book.recs.row
              obtain ⟨rq, rc, hrv, _⟩ := hvr.shape
              subst hrv
              have hblk9 := hTM9.book.blk
              have c12 := (nineteen_cells hblk9).2.1.1
              have hrr : Rows2 w9 (.slice rq vs.length rc) rs := by have h := hTM9.book.recs.rows; rw [unhide HRS] at h; exact h
              have HLI := hide (lists_any _ _ rs w9 (unhide Hr9).rows hrr)
              have HBZ := hide hTM9.bel
              clear hTM9 hvl hvr hblk9 hrr
              go_wp2_with fail
              refine Calls.mono (unhide HLI) ?_
              rintro e w10 ⟨rfl, b10⟩
              have HBY := hide ((unhide HBZ).trans (b10.mono (unhide HBZ).size))
              clear b10
              go_wp2_with fail
              go_ret
              exact ⟨rfl, unhide HBY⟩
            · have hzn : 0 < zs.length := unhide HZ hex
              have hzd : decide (0 < zs.length) = true := decide_eq_true hzn
              have hzl : (0 : Int) < (zs.length : Int) := by omega
              have HOP := hide hop
              clear hop hex HBT HTO HZ
              go_wp2_with fail
              have hblk := (unhide HTM).book.blk
              unfold bookC at hblk
              obtain ⟨⟨d0, _, _, d11⟩, _, ⟨d15, _⟩, _⟩ := nineteen_cells hblk
              obtain ⟨d1, d2, d3, d4, d5, d6, d7, d8, d9⟩ := book_cells hblk
              have hdr3 : Below wc.heap.size wc wc.drew := (Below.refl _ _).drew
              have k3 := twelve_same ⟨d0, d1, d2, d3, d4, d5, d6, d7, d8, d9, d11, d15⟩ hdr3
              have K3 := hide k3
              clear d0 d1 d2 d3 d4 d5 d6 d7 d8 d9 d11 d15
              obtain ⟨d0, d1, d2, d3, d4, d5, d6, d7, d8, d9, d11, d15⟩ := k3
              have HLE3 := hide (bleast_any K2 g _ _ b2 rv2 tv2 av2 wc.drew ((unhide HTM).book.below hdr3))
              have HDR3 := hide hdr3
              have HOP3 : Hid (∀ w', Below wc.drew.heap.size wc.drew w' → Calls Tryz.prog 15 #[.pointer (some dg), .agg #[.int .i64 256, .int .i64 3, .int .i64 13, .int .i64 30, .int .i64 43, .int .i64 73, .int .i64 30, .int .i64 103, .int .i64 4], .int .u64 (b2.first : Int), .int .u64 (b2.least : Int), .int .u64 ((b2.age : Int) + 1)] w' fun e w'' => e = .returned (.tuple #[.pointer none, .slice none 0 0, .int .i64 5]) ∧ Below w'.heap.size w' w'') := fun w' hb => by
                obtain ⟨Fd, hD, _⟩ := (((unhide HTM).below hdr3).below hb).dev
                exact open_bad (A := b2.age + 1) (p := b2.least) (o := b2.first) hD (unhide HCALM).2 (unhide HCALM).1 (unhide HOP) (by omega) (by have := unhide HAGE; omega) (by have := unhide HLEA; omega) (by have := unhide HFI; omega)
              clear hblk hdr3
              go_region_held3 (fun w' => w'.cell? ⟨g, 0, none⟩ = some (.pointer (some dg)) ∧ w'.cell? ⟨g, 1, none⟩ = some (.int .i64 256) ∧ w'.cell? ⟨g, 2, none⟩ = some (.int .i64 3) ∧ w'.cell? ⟨g, 3, none⟩ = some (.int .i64 13) ∧ w'.cell? ⟨g, 4, none⟩ = some (.int .i64 30) ∧ w'.cell? ⟨g, 5, none⟩ = some (.int .i64 43) ∧ w'.cell? ⟨g, 6, none⟩ = some (.int .i64 73) ∧ w'.cell? ⟨g, 7, none⟩ = some (.int .i64 30) ∧ w'.cell? ⟨g, 8, none⟩ = some (.int .i64 103) ∧ w'.cell? ⟨g, 9, none⟩ = some (.int .i64 4) ∧ w'.cell? ⟨g, 11, none⟩ = some (.int .u64 (b2.age : Int)) ∧ w'.cell? ⟨g, 15, none⟩ = some (.int .u64 (b2.first : Int))) (first | assumption | go_keep)
                (first
                  | (go_at_call 16; refine Calls.mono (unhide HLE3) ?_; rintro e wl3 ⟨rfl, bl3⟩; have kl3 := twelve_same (unhide K3) bl3; have Hbl3 := hide bl3; clear bl3)
                  | (go_at_call 15; refine Calls.mono (unhide HOP3 wl3 (unhide Hbl3)) ?_; rintro e w9 ⟨rfl, b9⟩; have kn9 := twelve_same kl3 b9; have HB9 := hide ((unhide HDR3).trans (((unhide Hbl3).trans (b9.mono (unhide Hbl3).size)).mono (unhide HDR3).size)); clear b9))
              clear d0 d1 d2 d3 d4 d5 d6 d7 d8 d9 d11 d15 kl3 kn9 K3 HLE3 HOP3 Hbl3 HDR3
              have HBZ := hide ((unhide HTM).below (unhide HB9)).bel
              go_wp2_with fail
              go_ret
              exact ⟨rfl, unhide HBZ⟩

theorem walk_WalTurned (v0 : Value) (d0 : Dt) (v1 : Value) (d1 : Dt) (a2 : Int) (_w2 : (Lit.int .i64 a2).wf = true) (a3 : Int) (_w3 : (Lit.int .i64 a3).wf = true) (a4 : Int) (_w4 : (Lit.int .i64 a4).wf = true) (w : World) (h0 : Reads limSaid w opwsSh [v0] d0) (h1 : Reads limSaid w (.row 8 (.int .i64)) [v1] d1) :
    Calls Tryz.prog 4 #[v0, v1, .int .i64 a2, .int .i64 a3, .int .i64 a4] w fun e w' => e = .returned (.bool true) ∧ Below w.heap.size w w' := by
  obtain ⟨l, hl⟩ := opsw_of_reads h0
  obtain ⟨zs, hz⟩ := zrow_of_reads h1
  exact wturned_any v0 l v1 zs a2 a3 a4 w hl hz
end Go.Proofs.YtpkpjmebkikgdaaGreat
