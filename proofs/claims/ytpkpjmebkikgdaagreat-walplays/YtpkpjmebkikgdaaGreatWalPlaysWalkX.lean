/- The walk of the law WalPlays. -/
import Derived.Test.YtpkpjmebkikgdaaGreatG35
import Derived.Test.YtpkpjmebkikgdaaGreatG39
import Derived.Deep.CutBlock
import Derived.StillTailTactics
import Derived.BigQuiet
namespace Go.Proofs.YtpkpjmebkikgdaaGreat
open Go.RowKit

set_option maxRecDepth 20000 in
set_option maxHeartbeats 8000000 in
theorem wplays_any (s0 : Value) (l : List OpW) (w : World) (h0 : OpsW w s0 l) :
    Calls Tryz.prog 3 #[s0] w fun e w' => e = .returned (.bool true) ∧ Below w.heap.size w w' := by
  obtain ⟨a0, c0, rfl, n0, m0, p0⟩ := h0
  have HP0 := hide p0
  have HBG := hide (begin_any w)
  have HAW := hide (fun w' => wawake_any w')
  clear p0 n0 m0
  go_enter Tryz.func3, Tryz.ntmps3
  go_wp2_with fail
  refine Calls.mono (unhide HBG) ?_
  rintro e w1 ⟨g, rfl, lp, dp, F, G, K, hBk, hnew, b1⟩
  have HBK := hide hBk
  have HN := hide hnew
  have HB1 := hide b1
  clear hBk hnew b1 HBG
  go_wp2_with fail
  refine Calls.mono (unhide HAW _) ?_
  rintro e w2 ⟨rfl, b2⟩
  have hI : Playing w g 0 w2 := ⟨F, G, K, lp, dp, DK.new 256, lg0 0 1, bk0, _, _, _, (fun _ => False), [], Or.inl ⟨(unhide HBK).below b2, rfl, rfl, rfl, ⟨rfl, rfl, rfl⟩, inv_new 1, (fun y hy => by cases hy), Nat.le_refl _, Nat.le_refl _, Nat.le_refl _, Nat.le_refl _, Nat.zero_le _⟩, unhide HN, (unhide HB1).trans (b2.mono (unhide HB1).size)⟩
  have HI0 := hide hI
  clear b2 HAW HBK HN HB1 hI
  go_upto_block 0 with fail
  go_cut [4] from 12 to 28 (fun _ wc => ∃ m, m ≤ 200 ∧ Playing w g m wc)
  case first =>
    go_wp2_with fail
    go_loopw [4] (fun i wr => ∃ k : Nat, k ≤ l.length ∧ k ≤ 200 ∧ i = .int .i64 k ∧ Playing w g k wr) (fun i _ => 200 - (intOf i).toNat)
    case atStart => exact ⟨0, Nat.zero_le _, Nat.zero_le _, rfl, unhide HI0⟩
    case round =>
      clear HI0
      obtain ⟨k, hk, hk200, rfl, hI⟩ := hrel
      have HI := hide hI
      clear hI
      by_cases l1 : k < l.length
      · have l1' : (k : Int) < (l.length : Int) := by omega
        by_cases l2 : k < 200
        · have l2' : (k : Int) < 200 := by omega
          obtain ⟨b0, o0, rfl, hc0⟩ : ∃ b off, a0 = some ⟨b, off, none⟩ ∧ ∀ j (h : j < l.length), ∃ bv kv, w.cell? ⟨b, off + j * 4, none⟩ = some (.int .i64 l[j].kind) ∧ w.cell? ⟨b, off + j * 4 + 1, none⟩ = some (.int .i64 l[j].n) ∧ w.cell? ⟨b, off + j * 4 + 2, none⟩ = some bv ∧ w.cell? ⟨b, off + j * 4 + 3, none⟩ = some kv ∧
              Row w bv l[j].b ∧ l[j].b.length ≤ 140737488351232 ∧ BRow w kv l[j].keep ∧ -9223372036854775808 ≤ l[j].n ∧ l[j].n ≤ 9223372036854775807 := by
            rcases unhide HP0 with h | h
            · rw [h] at l1; simp at l1
            · exact h
          have hbw : Below w.heap.size w wr := by obtain ⟨_, _, _, _, _, _, _, _, _, _, _, _, _, _, _, h⟩ := unhide HI; exact h
          obtain ⟨bv, kv, e0, e1, e2, e3, hrow, hrl, hbr, hn1, hn2⟩ := hc0 k l1
          have k0 := (hbw.cell (World.block_lt_of_cell? w _ e0)).trans e0
          have k1 := (hbw.cell (World.block_lt_of_cell? w _ e1)).trans e1
          have k2 := (hbw.cell (World.block_lt_of_cell? w _ e2)).trans e2
          have k3 := (hbw.cell (World.block_lt_of_cell? w _ e3)).trans e3
          have hk0 : (0 : Int) ≤ (k : Int) := by omega
          clear hc0 e0 e1 e2 e3
          obtain ⟨o, ho⟩ : ∃ o, o = l[k] := ⟨_, rfl⟩
          rw [← ho] at k0 k1 hrow hrl hbr hn1 hn2
          obtain ⟨bp, bc, bl, rfl, hbe⟩ := hrow.shape
          obtain ⟨kp, kc, rfl, _, _⟩ := hbr.shape
          have HST := hide (fun wz (h : Playing w g k wz) => step_any w g k o _ _ wz h (by omega) hrow hrl hbr ⟨hn1, hn2⟩)
          unfold opC at HST
          clear hbw hrow hrl hbr hn1 hn2 ho hbe
          go_wp2_with fail
          refine Calls.mono (unhide HST wr (unhide HI)) ?_
          rintro e w3 ⟨rfl, hC⟩
          have HC := hide hC
          clear hC HST k0 k1 k2 k3
          go_wp2_with fail
          exact ⟨⟨k + 1, by omega, by omega, by go_num, unhide HC⟩, by simp [intOf]; omega⟩
        · have l2' : ¬ (k : Int) < 200 := by omega
          go_wp2_with fail
          go_meet
          exact ⟨k, hk200, unhide HI⟩
      · have l1' : ¬ (k : Int) < (l.length : Int) := by omega
        go_wp2_with fail
        go_meet
        exact ⟨k, hk200, unhide HI⟩
  case rest =>
    obtain ⟨m, hm, F2, G2, K2, lp2, dp2, s2, L2, b2, rv2, tv2, av2, S2, ids2, hR | hR, hal, hB⟩ := hcut
    · obtain ⟨dg, hdg⟩ := hR.book.both.dev.ptr
      subst hdg
      have c0 := (nineteen_cells hR.book.at_.blk).1.1
      have HDN := hide (odown_any F2 _ s2 wc hR.book.both.dev)
      rw [hR.up] at HDN
      have HR := hide hR
      have HB := hide hB
      clear hR hal hB HI0 HP0
      go_wp2_with fail
      refine Calls.mono (unhide HDN) ?_
      rintro e w3 ⟨rfl, b3⟩
      have hR3 := (unhide HR).below b3
      have HAG := hide (agree_any G2 K2 g _ _ _ _ _ _ _ w3 hR3.book.at_ hR3.book.both.log hR3.book.first hR3.book.next hR3.book.least)
      have HB3 := hide ((unhide HB).trans (b3.mono (unhide HB).size))
      clear b3 hR3 HDN c0
      go_wp2_with fail
      refine Calls.mono (unhide HAG) ?_
      rintro e w4 ⟨rfl, b4⟩
      have HB4 := hide ((unhide HB3).trans (b4.mono (unhide HB3).size))
      clear b4
      go_wp2_with fail
      go_ret
      exact ⟨rfl, unhide HB4⟩
    · obtain ⟨dg, hdg⟩ := hR.held.both.dev.ptr
      subst hdg
      have c0 := (nineteen_cells hR.held.at_.blk).1.1
      have HDN := hide (odown_any F2 _ s2 wc hR.held.both.dev)
      rw [hR.down] at HDN
      have HR := hide hR
      have HB := hide hB
      have HALL := hide hal
      clear hR hal hB HI0 HP0
      go_wp2_with fail
      refine Calls.mono (unhide HDN) ?_
      rintro e w3 ⟨rfl, b3⟩
      have hR3 := (unhide HR).below b3
      have HCR := hide (held_crash (kv := .slice none 0 0) (ks := []) hR3.held (show BRow w3 (.slice none 0 0) [] from VRow.nil w3) (fun b' off n' c' e _ => by cases e) (by have := hR3.waits; omega))
      have k0 := (nineteen_cells hR3.held.at_.blk).1.1
      have HB3 := hide ((unhide HB).trans (b3.mono (unhide HB).size))
      clear b3 hR3 HDN c0
      go_wp2_with fail
      refine Calls.mono (unhide HCR) ?_
      rintro e w4 ⟨rfl, F4, hH4, hM4⟩
      have d0 := (nineteen_cells hH4.at_.blk).1.1
      have HST := hide (held_start hH4)
      have HB4 := hide ((unhide HB3).trans (hM4.keep.below (unhide HB3).size (fun j hj => unhide HALL j (Or.inl hj))))
      have HN4 : Hid (∀ j, F4 j → w.heap.size ≤ j) := fun j hj => by
        rcases hM4.sub j hj with h | h
        · exact unhide HALL j (Or.inl h)
        · exact Nat.le_trans (unhide HB3).size h
      clear hH4 hM4 k0 HCR
      go_wp2_with fail
      refine Calls.mono (unhide HST) ?_
      rintro e w5 ⟨rfl, F5, hH5, hM5⟩
      have hR := unhide HR
      have hmay : ∀ j c, May ((s2.crash []).start) j c → May s2 j c := fun j c h => may_crash (start_may h)
      obtain ⟨l1, l2, hids, hr1, hr2⟩ := split_right ((s2.crash []).start) ids2
      have HOPN := hide (reopen (l1 := l1) (l2 := l2) (m := m) hH5 (fun _ => ⟨hR.fallen, rfl⟩) (by rw [← hids]; exact hR.lst) (by rw [← hids]; exact hR.inv.less hmay) rfl hr1 hr2 (Or.inl rfl) true (fun _ => rfl) (by show 0 ≤ _; omega) (by show 0 ≤ _; omega) hR.next hR.age (by omega) hR.lnext)
      have HB5 := hide ((unhide HB4).trans (hM5.keep.below (unhide HB4).size (unhide HN4)))
      have HN5 : Hid (∀ j, F5 j → w.heap.size ≤ j) := fun j hj => by
        rcases hM5.sub j hj with h | h
        · exact unhide HN4 j h
        · exact Nat.le_trans (unhide HB4).size h
      clear hH5 hM5 hmay hids hr1 hr2 hR HST d0
      go_wp2_with fail
      refine Calls.mono (unhide HOPN) ?_
      rintro e w6 ⟨rfl, hG6⟩
      have HE : Hid (Playing w g (m + 1) w6) := hG6.playing (fun j hj => by
        rcases hj with h | h | h
        · exact unhide HN5 j h
        · exact unhide HALL j (Or.inr (Or.inl h))
        · exact unhide HALL j (Or.inr (Or.inr h))) (unhide HB5)
      have HB6 : Hid (Below w.heap.size w w6) := by obtain ⟨_, _, _, _, _, _, _, _, _, _, _, _, _, _, _, h⟩ := unhide HE; exact h
      clear hG6 HOPN HE
      go_wp2_with fail
      go_ret
      exact ⟨rfl, unhide HB6⟩

theorem walk_WalPlays (v0 : Value) (d0 : Dt) (w : World) (h0 : Reads limSaid w opwsSh [v0] d0) :
    Calls Tryz.prog 3 #[v0] w fun e w' => e = .returned (.bool true) ∧ Below w.heap.size w w' := by
  obtain ⟨l, hl⟩ := opsw_of_reads h0
  exact wplays_any v0 l w hl
end Go.Proofs.YtpkpjmebkikgdaaGreat
