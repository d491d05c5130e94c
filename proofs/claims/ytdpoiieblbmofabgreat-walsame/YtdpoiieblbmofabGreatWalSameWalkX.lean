/- The walk of the law WalSame. -/
import Derived.Test.YtdpoiieblbmofabGreatG35
import Derived.Test.YtdpoiieblbmofabGreatG37
import Derived.StillTailTactics
import Derived.BigQuiet
namespace Go.Proofs.YtdpoiieblbmofabGreat
open Go.RowKit

/-- An opening that is told. -/
def SamePost (w w' : World) (dp : Value) (rs : List (List UInt8)) (Lx : LG) (v : Value) : Prop :=
  ∃ lg q c G H, v = .tuple #[.pointer (some lg), .slice q rs.length c, .int .i64 0] ∧ RecsAt H w' (.slice q rs.length c) rs ∧ LRep G w' (.pointer (some lg)) dp 256 Lx ∧ Below w.heap.size w w'
theorem open_same {F : Nat → Prop} {w : World} {dp : Value} {s : DK} {o p A : Nat} {rs : List (List UInt8)} {Lx : LG} (hD : DRep F w dp s) (hn : (s.n : Int) = 256) (hup : s.fell = false) (hop : opened s 256 o p A = (rs, Lx, 0)) (hA1 : 1 ≤ A) (hA : A ≤ 1000000) (hp : p ≤ A) (ho : o ≤ 1000000) :
    Calls Tryz.prog 8 #[dp, .agg #[.int .i64 256, .int .i64 3, .int .i64 13, .int .i64 30, .int .i64 43, .int .i64 73, .int .i64 30, .int .i64 103, .int .i64 4], .int .u64 (o : Int), .int .u64 (p : Int), .int .u64 (A : Int)] w fun e w' => ∃ v, e = .returned v ∧ SamePost w w' dp rs Lx v := by
  have h := wopen_any F dp s 256 o p A w hD hn fits256 hA1 (by omega) hp (by omega)
  rw [lay256] at h
  refine h.mono ?_
  rintro e w' ⟨hO, b4⟩
  unfold OpenR at hO
  rw [if_neg (by rw [hup]; decide), hop, if_neg (by simp)] at hO
  obtain ⟨lp', v, G', H, rfl, hr, hlog, hH, hG, hHG⟩ := hO
  obtain ⟨vs5, hvs5⟩ := hr.owns
  obtain ⟨q5, c5, hv5⟩ := owns_shape hvs5
  subst hv5
  obtain ⟨lg', hlg'⟩ := hlog.ptr
  subst hlg'
  exact ⟨_, rfl, lg', q5, c5, G', H, rfl, hr, hlog, b4⟩

set_option maxRecDepth 20000 in
set_option maxHeartbeats 8000000 in
theorem wsame_any (s0 : Value) (l : List OpW) (w : World) (h0 : OpsW w s0 l) :
    Calls Tryz.prog 3 #[s0] w fun e w' => e = .returned (.bool true) ∧ Below w.heap.size w w' := by
  obtain ⟨a0, c0, rfl, n0, m0, p0⟩ := h0
  have HP0 := hide p0
  have HBG := hide (begin_any w)
  have HAW := hide (fun w' => wawake_any w')
  clear p0 n0 m0
  go_enter Tryz.func3, Tryz.ntmps3
  go_wp2_with fail
  refine Calls.mono (unhide HBG) ?_
  rintro e w1 ⟨g, rfl, lp, dp, F, G, K, hBk, hnew, b1⟩
  have HBK := hide hBk
  have HN := hide hnew
  have HB1 := hide b1
  clear hBk hnew b1 HBG
  go_wp2_with fail
  refine Calls.mono (unhide HAW _) ?_
  rintro e w2 ⟨rfl, b2⟩
  have hI : Calmly w g 0 w2 := ⟨F, G, K, lp, dp, DK.new 256, lg0 0 1, bk0, _, _, _, (fun _ => False), [], ⟨(unhide HBK).below b2, calm_new, rfl, rfl, ⟨rfl, rfl, rfl⟩, inv_new 1, (fun y hy => by cases hy), Nat.le_refl _, Nat.le_refl _, Nat.le_refl _, Nat.le_refl _, Nat.zero_le _⟩, unhide HN, (unhide HB1).trans (b2.mono (unhide HB1).size)⟩
  clear b2 HAW HBK HN HB1
  go_wp2_with fail
  go_loopw [4] (fun i wr => ∃ k : Nat, k ≤ l.length ∧ k ≤ 60 ∧ i = .int .i64 k ∧ Calmly w g k wr) (fun i _ => 60 - (intOf i).toNat)
  case atStart => exact ⟨0, Nat.zero_le _, Nat.zero_le _, rfl, hI⟩
  case round =>
    clear hI
    obtain ⟨k, hk, hk60, rfl, hI⟩ := hrel
    have HI := hide hI
    clear hI
    by_cases hlt : k < l.length ∧ k < 60
    · obtain ⟨l1, l2⟩ := hlt
      obtain ⟨b0, o0, rfl, hc0⟩ : ∃ b off, a0 = some ⟨b, off, none⟩ ∧ ∀ j (h : j < l.length), ∃ bv kv, w.cell? ⟨b, off + j * 4, none⟩ = some (.int .i64 l[j].kind) ∧ w.cell? ⟨b, off + j * 4 + 1, none⟩ = some (.int .i64 l[j].n) ∧ w.cell? ⟨b, off + j * 4 + 2, none⟩ = some bv ∧ w.cell? ⟨b, off + j * 4 + 3, none⟩ = some kv ∧
          Row w bv l[j].b ∧ l[j].b.length ≤ 140737488351232 ∧ BRow w kv l[j].keep ∧ -9223372036854775808 ≤ l[j].n ∧ l[j].n ≤ 9223372036854775807 := by
        rcases unhide HP0 with h | h
        · rw [h] at l1; simp at l1
        · exact h
      have hbw : Below w.heap.size w wr := by obtain ⟨_, _, _, _, _, _, _, _, _, _, _, _, _, _, _, h⟩ := unhide HI; exact h
      obtain ⟨bv, kv, e0, e1, e2, e3, hrow, hrl, hbr, hn1, hn2⟩ := hc0 k l1
      have k0 := (hbw.cell (World.block_lt_of_cell? w _ e0)).trans e0
      have k1 := (hbw.cell (World.block_lt_of_cell? w _ e1)).trans e1
      have k2 := (hbw.cell (World.block_lt_of_cell? w _ e2)).trans e2
      have k3 := (hbw.cell (World.block_lt_of_cell? w _ e3)).trans e3
      have l1' : (k : Int) < (l.length : Int) := by omega
      have l2' : (k : Int) < 60 := by omega
      have hk0 : (0 : Int) ≤ (k : Int) := by omega
      clear hc0 e0 e1 e2 e3
      obtain ⟨o, ho⟩ : ∃ o, o = l[k] := ⟨_, rfl⟩
      rw [← ho] at k0 k1 hrow hrl hbr hn1 hn2
      obtain ⟨bp, bc, bl, rfl, hbe⟩ := hrow.shape
      obtain ⟨kp, kc, rfl, _, _⟩ := hbr.shape
      by_cases hk4 : o.kind = 4
      · rw [hk4] at k0
        have HID : Hid (Calmly w g (k + 1) wr) := by
          obtain ⟨F2, G2, K2, lp2, dp2, s2, L2, b2, rv2, tv2, av2, S2, ids2, hR, hal, hB⟩ := unhide HI
          exact ⟨F2, G2, K2, lp2, dp2, s2, L2, b2, rv2, tv2, av2, S2, ids2, hR.mono (by omega) (by omega), hal, hB⟩
        clear hbw hrow hrl hbr hn1 hn2 ho hk4 hbe HI k1 k2 k3
        go_wp2_with fail
        exact ⟨⟨k + 1, by omega, by omega, by go_num, unhide HID⟩, by simp [intOf]; omega⟩
      · have HST := hide (fun wz (h : Calmly w g k wz) => step_calm w g k o _ _ wz h (by omega) hrow hrl hbr hk4 ⟨hn1, hn2⟩)
        unfold opC at HST
        clear hbw hrow hrl hbr hn1 hn2 ho hbe
        go_wp2_with fail
        refine Calls.mono (unhide HST wr (unhide HI)) ?_
        rintro e w3 ⟨rfl, hC⟩
        have HC := hide hC
        clear hC HST k0 k1 k2 k3
        go_wp2_with fail
        exact ⟨⟨k + 1, by omega, by omega, by go_num, unhide HC⟩, by simp [intOf]; omega⟩
    · obtain ⟨F2, G2, K2, lp2, dp2, s2, L2, b2, rv2, tv2, av2, S2, ids2, hR, hal, hB⟩ := unhide HI
      obtain ⟨dg, hdg⟩ := hR.book.both.dev.ptr
      subst hdg
      obtain ⟨e8, c1, c2, c3, c4, c5⟩ := (show RInv S2 s2 (ids2 ++ []) b2.first b2.next b2.age b2.safe by rw [List.append_nil]; exact hR.inv).opens hR.right (fun z l3 h => by cases h) (b2.age + 1) (by omega)
      rw [List.append_nil, ← BK.least_of hR.lst] at c2
      have hage := hR.age
      have hfn := hR.inv.ring
      have hnx := hR.next
      have hfl := chain_le _ _ _ hR.inv.links
      have hlB : b2.least ≤ b2.age := by
        rw [BK.least_of hR.lst]
        cases hx : ids2 with
        | nil => exact Nat.le_refl _
        | cons x l => exact (hR.inv.ok x (hR.inv.mem x (by rw [hx]; simp))).2
      obtain ⟨Lx, hLx⟩ : ∃ Lx, Lx = LG.mk (b2.age + 1) b2.first e8 (ids2.map (fun x => (x.first, x.age))) false := ⟨_, rfl⟩
      rw [← hLx] at c2
      obtain ⟨rs, hrs⟩ : ∃ rs, rs = ids2.map Id.r := ⟨_, rfl⟩
      rw [← hrs] at c2
      have HRS : Hid (b2.recs = rs) := by unfold Hid; rw [hrs]; exact hR.lst.recs
      have HOP := hide (fun F' dp' w' (h : DRep F' w' dp' s2) => open_same (A := b2.age + 1) (p := b2.least) (o := b2.first) (rs := rs) (Lx := Lx) h hR.book.both.size hR.calm.1 c2 (by omega) (by omega) (by omega) (by omega))
      rw [show ((b2.age + 1 : Nat) : Int) = (b2.age : Int) + 1 from rfl] at HOP
      have HFK := hide (ofork_any F2 _ s2 wr hR.book.both.dev (by have := hR.waits; omega))
      have d0 := (nineteen_cells hR.book.at_.blk).1.1
      have HR := hide hR
      have HB := hide hB
      have hageI : (b2.age : Int) ≤ 61 := by omega
      have hwA : IntKind.u64.wrap ((b2.age : Int) + 1) = (b2.age : Int) + 1 := by rw [IntKind.wrap_u64]; omega
      have hex : ¬ ((k : Int) < (l.length : Int)) ∨ ((k : Int) < (l.length : Int) ∧ ¬ (k : Int) < 60) := by omega
      clear hR hal hB c1 c2 c3 c4 c5 hrs hLx hage hfn hnx hfl hlB HI hlt
      rcases hex with hex | ⟨hex1, hex2⟩
      · go_wp2_with fail
        refine Calls.mono (unhide HFK) ?_
        rintro e w3 ⟨fq, rfl, ⟨G3, hD3, hG3⟩, b3⟩
        obtain ⟨fg, hfg⟩ := hD3.ptr
        subst hfg
        have hR3 := (unhide HR).below b3
        have HD3 := hide hD3
        have HR3 := hide hR3
        have HB3 := hide ((unhide HB).trans (b3.mono (unhide HB).size))
        clear hD3 hG3 b3 hR3 HFK d0
        have HT3 := HB3
        go_wp2_with fail
        have hblk3 := (unhide HR3).book.at_.blk
        unfold bookC at hblk3
        obtain ⟨⟨d0, _, _, d11⟩, _, ⟨d15, _⟩, _⟩ := nineteen_cells hblk3
        obtain ⟨d1, d2, d3, d4, d5, d6, d7, d8, d9⟩ := book_cells hblk3
        have hdr3 : Below w3.heap.size w3 w3.drew := (Below.refl _ _).drew
        have k3 := twelve_same ⟨d0, d1, d2, d3, d4, d5, d6, d7, d8, d9, d11, d15⟩ hdr3
        have K3 := hide k3
        clear d0 d1 d2 d3 d4 d5 d6 d7 d8 d9 d11 d15
        obtain ⟨d0, d1, d2, d3, d4, d5, d6, d7, d8, d9, d11, d15⟩ := k3
        have HLE3 := hide (bleast_any K2 g _ _ b2 rv2 tv2 av2 w3.drew ((unhide HR3).book.at_.below hdr3))
        have HDR3 := hide hdr3
        have HOP3 : Hid (∀ w', Below w3.drew.heap.size w3.drew w' → Calls Tryz.prog 8 #[.pointer (some dg), .agg #[.int .i64 256, .int .i64 3, .int .i64 13, .int .i64 30, .int .i64 43, .int .i64 73, .int .i64 30, .int .i64 103, .int .i64 4], .int .u64 (b2.first : Int), .int .u64 (b2.least : Int), .int .u64 ((b2.age : Int) + 1)] w' fun e w'' => ∃ v, e = .returned v ∧ SamePost w' w'' (.pointer (some dg)) rs Lx v) := fun w' hb => unhide HOP _ _ w' ((unhide HR3).book.both.dev.stays (Nat.le_trans hdr3.size hb.size) (fun j hj => (hb.block j (Nat.lt_of_lt_of_le ((unhide HR3).book.both.dev.lt j hj) hdr3.size)).trans (hdr3.block j ((unhide HR3).book.both.dev.lt j hj))))
        clear hblk3 hdr3
        go_region_held3 (fun w' => w'.cell? ⟨g, 0, none⟩ = some (.pointer (some dg)) ∧ w'.cell? ⟨g, 1, none⟩ = some (.int .i64 256) ∧ w'.cell? ⟨g, 2, none⟩ = some (.int .i64 3) ∧ w'.cell? ⟨g, 3, none⟩ = some (.int .i64 13) ∧ w'.cell? ⟨g, 4, none⟩ = some (.int .i64 30) ∧ w'.cell? ⟨g, 5, none⟩ = some (.int .i64 43) ∧ w'.cell? ⟨g, 6, none⟩ = some (.int .i64 73) ∧ w'.cell? ⟨g, 7, none⟩ = some (.int .i64 30) ∧ w'.cell? ⟨g, 8, none⟩ = some (.int .i64 103) ∧ w'.cell? ⟨g, 9, none⟩ = some (.int .i64 4) ∧ w'.cell? ⟨g, 11, none⟩ = some (.int .u64 (b2.age : Int)) ∧ w'.cell? ⟨g, 15, none⟩ = some (.int .u64 (b2.first : Int))) (first | assumption | go_keep)
          (first
            | (go_at_call 9; refine Calls.mono (unhide HLE3) ?_; rintro e wl3 ⟨rfl, bl3⟩; have kl3 := twelve_same (unhide K3) bl3; have Hbl3 := hide bl3; clear bl3)
            | (go_at_call 8; refine Calls.mono (unhide HOP3 wl3 (unhide Hbl3)) ?_; rintro e w4 ⟨v, rfl, lg4, q4, c4, G4, H4, rfl, hr4, hl4, b4⟩; have kn4 := twelve_same kl3 b4; have HB4 := hide ((unhide HDR3).trans (((unhide Hbl3).trans (b4.mono (unhide Hbl3).size)).mono (unhide HDR3).size)); have Hr4 := hide hr4; have Hl4 := hide hl4; clear b4 hr4 hl4))
        clear d0 d1 d2 d3 d4 d5 d6 d7 d8 d9 d11 d15 kl3 kn4 K3 HLE3 HOP3 Hbl3 HDR3
        have HR4 := hide ((unhide HR3).below (unhide HB4))
        have HT4 := hide ((unhide HT3).trans ((unhide HB4).mono (unhide HT3).size))
        have HD4 : Hid (DRep G3 w4 (.pointer (some fg)) s2) := (unhide HD3).stays (unhide HB4).size (fun j hj => (unhide HB4).block j ((unhide HD3).lt j hj))
        go_wp2_with fail
        have hblk4 := (unhide HR4).book.at_.blk
        unfold bookC at hblk4
        obtain ⟨⟨d0, _, _, d11⟩, _, ⟨d15, _⟩, _⟩ := nineteen_cells hblk4
        obtain ⟨d1, d2, d3, d4, d5, d6, d7, d8, d9⟩ := book_cells hblk4
        have hdr4 : Below w4.heap.size w4 w4.drew := (Below.refl _ _).drew
        have k4 := twelve_same ⟨d0, d1, d2, d3, d4, d5, d6, d7, d8, d9, d11, d15⟩ hdr4
        have K4 := hide k4
        clear d0 d1 d2 d3 d4 d5 d6 d7 d8 d9 d11 d15
        obtain ⟨d0, d1, d2, d3, d4, d5, d6, d7, d8, d9, d11, d15⟩ := k4
        have HLE4 := hide (bleast_any K2 g _ _ b2 rv2 tv2 av2 w4.drew ((unhide HR4).book.at_.below hdr4))
        have HDR4 := hide hdr4
        have HOP4 : Hid (∀ w', Below w4.drew.heap.size w4.drew w' → Calls Tryz.prog 8 #[.pointer (some dg), .agg #[.int .i64 256, .int .i64 3, .int .i64 13, .int .i64 30, .int .i64 43, .int .i64 73, .int .i64 30, .int .i64 103, .int .i64 4], .int .u64 (b2.first : Int), .int .u64 (b2.least : Int), .int .u64 ((b2.age : Int) + 1)] w' fun e w'' => ∃ v, e = .returned v ∧ SamePost w' w'' (.pointer (some dg)) rs Lx v) := fun w' hb => unhide HOP _ _ w' ((unhide HR4).book.both.dev.stays (Nat.le_trans hdr4.size hb.size) (fun j hj => (hb.block j (Nat.lt_of_lt_of_le ((unhide HR4).book.both.dev.lt j hj) hdr4.size)).trans (hdr4.block j ((unhide HR4).book.both.dev.lt j hj))))
        clear hblk4 hdr4
        go_region_held3 (fun w' => w'.cell? ⟨g, 0, none⟩ = some (.pointer (some dg)) ∧ w'.cell? ⟨g, 1, none⟩ = some (.int .i64 256) ∧ w'.cell? ⟨g, 2, none⟩ = some (.int .i64 3) ∧ w'.cell? ⟨g, 3, none⟩ = some (.int .i64 13) ∧ w'.cell? ⟨g, 4, none⟩ = some (.int .i64 30) ∧ w'.cell? ⟨g, 5, none⟩ = some (.int .i64 43) ∧ w'.cell? ⟨g, 6, none⟩ = some (.int .i64 73) ∧ w'.cell? ⟨g, 7, none⟩ = some (.int .i64 30) ∧ w'.cell? ⟨g, 8, none⟩ = some (.int .i64 103) ∧ w'.cell? ⟨g, 9, none⟩ = some (.int .i64 4) ∧ w'.cell? ⟨g, 11, none⟩ = some (.int .u64 (b2.age : Int)) ∧ w'.cell? ⟨g, 15, none⟩ = some (.int .u64 (b2.first : Int))) (first | assumption | go_keep)
          (first
            | (go_at_call 9; refine Calls.mono (unhide HLE4) ?_; rintro e wl4 ⟨rfl, bl4⟩; have kl4 := twelve_same (unhide K4) bl4; have Hbl4 := hide bl4; clear bl4)
            | (go_at_call 8; refine Calls.mono (unhide HOP4 wl4 (unhide Hbl4)) ?_; rintro e w5 ⟨v, rfl, lg5, q5, c5, G5, H5, rfl, hr5, hl5, b5⟩; have kn5 := twelve_same kl4 b5; have HB5 := hide ((unhide HDR4).trans (((unhide Hbl4).trans (b5.mono (unhide Hbl4).size)).mono (unhide HDR4).size)); have Hr5 := hide hr5; have Hl5 := hide hl5; clear b5 hr5 hl5))
        clear d0 d1 d2 d3 d4 d5 d6 d7 d8 d9 d11 d15 kl4 kn5 K4 HLE4 HOP4 Hbl4 HDR4
        have HR5 := hide ((unhide HR4).below (unhide HB5))
        have HT5 := hide ((unhide HT4).trans ((unhide HB5).mono (unhide HT4).size))
        have HD5 : Hid (DRep G3 w5 (.pointer (some fg)) s2) := (unhide HD4).stays (unhide HB5).size (fun j hj => (unhide HB5).block j ((unhide HD4).lt j hj))
        go_wp2_with fail
        have hblk5 := (unhide HR5).book.at_.blk
        unfold bookC at hblk5
        obtain ⟨⟨d0, _, _, d11⟩, _, ⟨d15, _⟩, _⟩ := nineteen_cells hblk5
        obtain ⟨d1, d2, d3, d4, d5, d6, d7, d8, d9⟩ := book_cells hblk5
        have hdr5 : Below w5.heap.size w5 w5.drew := (Below.refl _ _).drew
        have k5 := twelve_same ⟨d0, d1, d2, d3, d4, d5, d6, d7, d8, d9, d11, d15⟩ hdr5
        have K5 := hide k5
        clear d0 d1 d2 d3 d4 d5 d6 d7 d8 d9 d11 d15
        obtain ⟨d0, d1, d2, d3, d4, d5, d6, d7, d8, d9, d11, d15⟩ := k5
        have HLE5 := hide (bleast_any K2 g _ _ b2 rv2 tv2 av2 w5.drew ((unhide HR5).book.at_.below hdr5))
        have HDR5 := hide hdr5
        have HOP5 : Hid (∀ w', Below w5.drew.heap.size w5.drew w' → Calls Tryz.prog 8 #[.pointer (some fg), .agg #[.int .i64 256, .int .i64 3, .int .i64 13, .int .i64 30, .int .i64 43, .int .i64 73, .int .i64 30, .int .i64 103, .int .i64 4], .int .u64 (b2.first : Int), .int .u64 (b2.least : Int), .int .u64 ((b2.age : Int) + 1)] w' fun e w'' => ∃ v, e = .returned v ∧ SamePost w' w'' (.pointer (some fg)) rs Lx v) := fun w' hb => unhide HOP _ _ w' ((unhide HD5).stays (Nat.le_trans hdr5.size hb.size) (fun j hj => (hb.block j (Nat.lt_of_lt_of_le ((unhide HD5).lt j hj) hdr5.size)).trans (hdr5.block j ((unhide HD5).lt j hj))))
        clear hblk5 hdr5
        go_region_held3 (fun w' => w'.cell? ⟨g, 0, none⟩ = some (.pointer (some dg)) ∧ w'.cell? ⟨g, 1, none⟩ = some (.int .i64 256) ∧ w'.cell? ⟨g, 2, none⟩ = some (.int .i64 3) ∧ w'.cell? ⟨g, 3, none⟩ = some (.int .i64 13) ∧ w'.cell? ⟨g, 4, none⟩ = some (.int .i64 30) ∧ w'.cell? ⟨g, 5, none⟩ = some (.int .i64 43) ∧ w'.cell? ⟨g, 6, none⟩ = some (.int .i64 73) ∧ w'.cell? ⟨g, 7, none⟩ = some (.int .i64 30) ∧ w'.cell? ⟨g, 8, none⟩ = some (.int .i64 103) ∧ w'.cell? ⟨g, 9, none⟩ = some (.int .i64 4) ∧ w'.cell? ⟨g, 11, none⟩ = some (.int .u64 (b2.age : Int)) ∧ w'.cell? ⟨g, 15, none⟩ = some (.int .u64 (b2.first : Int))) (first | assumption | go_keep)
          (first
            | (go_at_call 9; refine Calls.mono (unhide HLE5) ?_; rintro e wl5 ⟨rfl, bl5⟩; have kl5 := twelve_same (unhide K5) bl5; have Hbl5 := hide bl5; clear bl5)
            | (go_at_call 8; refine Calls.mono (unhide HOP5 wl5 (unhide Hbl5)) ?_; rintro e w6 ⟨v, rfl, lg6, q6, c6, G6, H6, rfl, hr6, hl6, b6⟩; have kn6 := twelve_same kl5 b6; have HB6 := hide ((unhide HDR5).trans (((unhide Hbl5).trans (b6.mono (unhide Hbl5).size)).mono (unhide HDR5).size)); have Hr6 := hide hr6; have Hl6 := hide hl6; clear b6 hr6 hl6))
        clear d0 d1 d2 d3 d4 d5 d6 d7 d8 d9 d11 d15 kl5 kn6 K5 HLE5 HOP5 Hbl5 HDR5
        have HR6 := hide ((unhide HR5).below (unhide HB6))
        have HT6 := hide ((unhide HT5).trans ((unhide HB6).mono (unhide HT5).size))
        obtain ⟨vs, hvl, hvr⟩ := (unhide HR6).book.at_.recs.row
        obtain ⟨rq, rc, hrv, _⟩ := hvr.shape
        subst hrv
        have c12 := (nineteen_cells (unhide HR6).book.at_.blk).2.1.1
        have hb46 : Below w4.heap.size w4 w6 := (unhide HB5).trans ((unhide HB6).mono (unhide HB5).size)
        have hrr : Rows2 w6 (.slice rq vs.length rc) rs := by have h := (unhide HR6).book.at_.recs.rows; rw [unhide HRS] at h; exact h
        have HL1 : Hid (∀ w', Below w6.heap.size w6 w' → Calls Tryz.prog 10 #[.slice q4 rs.length c4, .slice q5 rs.length c5] w' fun e w'' => e = .returned (.bool true) ∧ Below w'.heap.size w' w'') := fun w' hb => lists_any _ _ rs w' (((unhide Hr4).rows.below hb46).below hb) (((unhide Hr5).rows.below (unhide HB6)).below hb)
        have HL2 : Hid (∀ w', Below w6.heap.size w6 w' → Calls Tryz.prog 10 #[.slice q4 rs.length c4, .slice q6 rs.length c6] w' fun e w'' => e = .returned (.bool true) ∧ Below w'.heap.size w' w'') := fun w' hb => lists_any _ _ rs w' (((unhide Hr4).rows.below hb46).below hb) ((unhide Hr6).rows.below hb)
        have HL3 : Hid (∀ w', Below w6.heap.size w6 w' → Calls Tryz.prog 10 #[.slice q4 rs.length c4, .slice rq vs.length rc] w' fun e w'' => e = .returned (.bool true) ∧ Below w'.heap.size w' w'') := fun w' hb => lists_any _ _ rs w' (((unhide Hr4).rows.below hb46).below hb) (hrr.below hb)
        have HN4 := hide (fun w' (hb : Below w6.heap.size w6 w') => wnext_any _ _ _ 256 Lx w' (((unhide Hl4).below hb46).below hb))
        have HN5 := hide (fun w' (hb : Below w6.heap.size w6 w') => wnext_any _ _ _ 256 Lx w' (((unhide Hl5).below (unhide HB6)).below hb))
        have HN6 := hide (fun w' (hb : Below w6.heap.size w6 w') => wnext_any _ _ _ 256 Lx w' ((unhide Hl6).below hb))
        have HE4 := hide (fun w' (hb : Below w6.heap.size w6 w') => wleast_any _ _ _ 256 Lx w' (((unhide Hl4).below hb46).below hb))
        have HE5 := hide (fun w' (hb : Below w6.heap.size w6 w') => wleast_any _ _ _ 256 Lx w' (((unhide Hl5).below (unhide HB6)).below hb))
        generalize Lx.next = X at *
        generalize Lx.least = Y at *
        have eX : ((X : Int) == (X : Int)) = true := by simp
        have eY : ((Y : Int) == (Y : Int)) = true := by simp
        have HC12 := hide c12
        clear hvl hvr hb46 hrr c12
        go_wp2_with fail
        refine Calls.mono (unhide HL1 w6 (Below.refl _ _)) ?_
        rintro e w7 ⟨rfl, b7⟩
        have HX7 := hide b7
        clear b7
        go_wp2_with fail
        refine Calls.mono (unhide HL2 w7 (unhide HX7)) ?_
        rintro e w8 ⟨rfl, b8⟩
        have HX8 := hide ((unhide HX7).trans (b8.mono (unhide HX7).size))
        clear b8
        have c12 := ((unhide HX8).cell (World.block_lt_of_cell? _ _ (unhide HC12))).trans (unhide HC12)
        go_wp2_with fail
        refine Calls.mono (unhide HL3 w8 (unhide HX8)) ?_
        rintro e w9 ⟨rfl, b9⟩
        have HX9 := hide ((unhide HX8).trans (b9.mono (unhide HX8).size))
        clear b9 c12
        go_wp2_with fail
        refine Calls.mono (unhide HN4 w9 (unhide HX9)) ?_
        rintro e w10 ⟨rfl, b10⟩
        have HX10 := hide ((unhide HX9).trans (b10.mono (unhide HX9).size))
        clear b10
        go_wp2_with fail
        refine Calls.mono (unhide HN5 w10 (unhide HX10)) ?_
        rintro e w11 ⟨rfl, b11⟩
        have HX11 := hide ((unhide HX10).trans (b11.mono (unhide HX10).size))
        clear b11
        go_wp2_with fail
        refine Calls.mono (unhide HN4 w11 (unhide HX11)) ?_
        rintro e w12 ⟨rfl, b12⟩
        have HX12 := hide ((unhide HX11).trans (b12.mono (unhide HX11).size))
        clear b12
        go_wp2_with fail
        refine Calls.mono (unhide HN6 w12 (unhide HX12)) ?_
        rintro e w13 ⟨rfl, b13⟩
        have HX13 := hide ((unhide HX12).trans (b13.mono (unhide HX12).size))
        clear b13
        go_wp2_with fail
        refine Calls.mono (unhide HE4 w13 (unhide HX13)) ?_
        rintro e w14 ⟨rfl, b14⟩
        have HX14 := hide ((unhide HX13).trans (b14.mono (unhide HX13).size))
        clear b14
        go_wp2_with fail
        refine Calls.mono (unhide HE5 w14 (unhide HX14)) ?_
        rintro e w15 ⟨rfl, b15⟩
        have HX15 := hide ((unhide HX14).trans (b15.mono (unhide HX14).size))
        clear b15
        go_wp2_with fail
        go_ret
        exact ⟨rfl, (unhide HT6).trans ((unhide HX15).mono (unhide HT6).size)⟩
      · go_wp2_with fail
        refine Calls.mono (unhide HFK) ?_
        rintro e w3 ⟨fq, rfl, ⟨G3, hD3, hG3⟩, b3⟩
        obtain ⟨fg, hfg⟩ := hD3.ptr
        subst hfg
        have hR3 := (unhide HR).below b3
        have HD3 := hide hD3
        have HR3 := hide hR3
        have HB3 := hide ((unhide HB).trans (b3.mono (unhide HB).size))
        clear hD3 hG3 b3 hR3 HFK d0
        have HT3 := HB3
        go_wp2_with fail
        have hblk3 := (unhide HR3).book.at_.blk
        unfold bookC at hblk3
        obtain ⟨⟨d0, _, _, d11⟩, _, ⟨d15, _⟩, _⟩ := nineteen_cells hblk3
        obtain ⟨d1, d2, d3, d4, d5, d6, d7, d8, d9⟩ := book_cells hblk3
        have hdr3 : Below w3.heap.size w3 w3.drew := (Below.refl _ _).drew
        have k3 := twelve_same ⟨d0, d1, d2, d3, d4, d5, d6, d7, d8, d9, d11, d15⟩ hdr3
        have K3 := hide k3
        clear d0 d1 d2 d3 d4 d5 d6 d7 d8 d9 d11 d15
        obtain ⟨d0, d1, d2, d3, d4, d5, d6, d7, d8, d9, d11, d15⟩ := k3
        have HLE3 := hide (bleast_any K2 g _ _ b2 rv2 tv2 av2 w3.drew ((unhide HR3).book.at_.below hdr3))
        have HDR3 := hide hdr3
        have HOP3 : Hid (∀ w', Below w3.drew.heap.size w3.drew w' → Calls Tryz.prog 8 #[.pointer (some dg), .agg #[.int .i64 256, .int .i64 3, .int .i64 13, .int .i64 30, .int .i64 43, .int .i64 73, .int .i64 30, .int .i64 103, .int .i64 4], .int .u64 (b2.first : Int), .int .u64 (b2.least : Int), .int .u64 ((b2.age : Int) + 1)] w' fun e w'' => ∃ v, e = .returned v ∧ SamePost w' w'' (.pointer (some dg)) rs Lx v) := fun w' hb => unhide HOP _ _ w' ((unhide HR3).book.both.dev.stays (Nat.le_trans hdr3.size hb.size) (fun j hj => (hb.block j (Nat.lt_of_lt_of_le ((unhide HR3).book.both.dev.lt j hj) hdr3.size)).trans (hdr3.block j ((unhide HR3).book.both.dev.lt j hj))))
        clear hblk3 hdr3
        go_region_held3 (fun w' => w'.cell? ⟨g, 0, none⟩ = some (.pointer (some dg)) ∧ w'.cell? ⟨g, 1, none⟩ = some (.int .i64 256) ∧ w'.cell? ⟨g, 2, none⟩ = some (.int .i64 3) ∧ w'.cell? ⟨g, 3, none⟩ = some (.int .i64 13) ∧ w'.cell? ⟨g, 4, none⟩ = some (.int .i64 30) ∧ w'.cell? ⟨g, 5, none⟩ = some (.int .i64 43) ∧ w'.cell? ⟨g, 6, none⟩ = some (.int .i64 73) ∧ w'.cell? ⟨g, 7, none⟩ = some (.int .i64 30) ∧ w'.cell? ⟨g, 8, none⟩ = some (.int .i64 103) ∧ w'.cell? ⟨g, 9, none⟩ = some (.int .i64 4) ∧ w'.cell? ⟨g, 11, none⟩ = some (.int .u64 (b2.age : Int)) ∧ w'.cell? ⟨g, 15, none⟩ = some (.int .u64 (b2.first : Int))) (first | assumption | go_keep)
          (first
            | (go_at_call 9; refine Calls.mono (unhide HLE3) ?_; rintro e wl3 ⟨rfl, bl3⟩; have kl3 := twelve_same (unhide K3) bl3; have Hbl3 := hide bl3; clear bl3)
            | (go_at_call 8; refine Calls.mono (unhide HOP3 wl3 (unhide Hbl3)) ?_; rintro e w4 ⟨v, rfl, lg4, q4, c4, G4, H4, rfl, hr4, hl4, b4⟩; have kn4 := twelve_same kl3 b4; have HB4 := hide ((unhide HDR3).trans (((unhide Hbl3).trans (b4.mono (unhide Hbl3).size)).mono (unhide HDR3).size)); have Hr4 := hide hr4; have Hl4 := hide hl4; clear b4 hr4 hl4))
        clear d0 d1 d2 d3 d4 d5 d6 d7 d8 d9 d11 d15 kl3 kn4 K3 HLE3 HOP3 Hbl3 HDR3
        have HR4 := hide ((unhide HR3).below (unhide HB4))
        have HT4 := hide ((unhide HT3).trans ((unhide HB4).mono (unhide HT3).size))
        have HD4 : Hid (DRep G3 w4 (.pointer (some fg)) s2) := (unhide HD3).stays (unhide HB4).size (fun j hj => (unhide HB4).block j ((unhide HD3).lt j hj))
        go_wp2_with fail
        have hblk4 := (unhide HR4).book.at_.blk
        unfold bookC at hblk4
        obtain ⟨⟨d0, _, _, d11⟩, _, ⟨d15, _⟩, _⟩ := nineteen_cells hblk4
        obtain ⟨d1, d2, d3, d4, d5, d6, d7, d8, d9⟩ := book_cells hblk4
        have hdr4 : Below w4.heap.size w4 w4.drew := (Below.refl _ _).drew
        have k4 := twelve_same ⟨d0, d1, d2, d3, d4, d5, d6, d7, d8, d9, d11, d15⟩ hdr4
        have K4 := hide k4
        clear d0 d1 d2 d3 d4 d5 d6 d7 d8 d9 d11 d15
        obtain ⟨d0, d1, d2, d3, d4, d5, d6, d7, d8, d9, d11, d15⟩ := k4
        have HLE4 := hide (bleast_any K2 g _ _ b2 rv2 tv2 av2 w4.drew ((unhide HR4).book.at_.below hdr4))
        have HDR4 := hide hdr4
        have HOP4 : Hid (∀ w', Below w4.drew.heap.size w4.drew w' → Calls Tryz.prog 8 #[.pointer (some dg), .agg #[.int .i64 256, .int .i64 3, .int .i64 13, .int .i64 30, .int .i64 43, .int .i64 73, .int .i64 30, .int .i64 103, .int .i64 4], .int .u64 (b2.first : Int), .int .u64 (b2.least : Int), .int .u64 ((b2.age : Int) + 1)] w' fun e w'' => ∃ v, e = .returned v ∧ SamePost w' w'' (.pointer (some dg)) rs Lx v) := fun w' hb => unhide HOP _ _ w' ((unhide HR4).book.both.dev.stays (Nat.le_trans hdr4.size hb.size) (fun j hj => (hb.block j (Nat.lt_of_lt_of_le ((unhide HR4).book.both.dev.lt j hj) hdr4.size)).trans (hdr4.block j ((unhide HR4).book.both.dev.lt j hj))))
        clear hblk4 hdr4
        go_region_held3 (fun w' => w'.cell? ⟨g, 0, none⟩ = some (.pointer (some dg)) ∧ w'.cell? ⟨g, 1, none⟩ = some (.int .i64 256) ∧ w'.cell? ⟨g, 2, none⟩ = some (.int .i64 3) ∧ w'.cell? ⟨g, 3, none⟩ = some (.int .i64 13) ∧ w'.cell? ⟨g, 4, none⟩ = some (.int .i64 30) ∧ w'.cell? ⟨g, 5, none⟩ = some (.int .i64 43) ∧ w'.cell? ⟨g, 6, none⟩ = some (.int .i64 73) ∧ w'.cell? ⟨g, 7, none⟩ = some (.int .i64 30) ∧ w'.cell? ⟨g, 8, none⟩ = some (.int .i64 103) ∧ w'.cell? ⟨g, 9, none⟩ = some (.int .i64 4) ∧ w'.cell? ⟨g, 11, none⟩ = some (.int .u64 (b2.age : Int)) ∧ w'.cell? ⟨g, 15, none⟩ = some (.int .u64 (b2.first : Int))) (first | assumption | go_keep)
          (first
            | (go_at_call 9; refine Calls.mono (unhide HLE4) ?_; rintro e wl4 ⟨rfl, bl4⟩; have kl4 := twelve_same (unhide K4) bl4; have Hbl4 := hide bl4; clear bl4)
            | (go_at_call 8; refine Calls.mono (unhide HOP4 wl4 (unhide Hbl4)) ?_; rintro e w5 ⟨v, rfl, lg5, q5, c5, G5, H5, rfl, hr5, hl5, b5⟩; have kn5 := twelve_same kl4 b5; have HB5 := hide ((unhide HDR4).trans (((unhide Hbl4).trans (b5.mono (unhide Hbl4).size)).mono (unhide HDR4).size)); have Hr5 := hide hr5; have Hl5 := hide hl5; clear b5 hr5 hl5))
        clear d0 d1 d2 d3 d4 d5 d6 d7 d8 d9 d11 d15 kl4 kn5 K4 HLE4 HOP4 Hbl4 HDR4
        have HR5 := hide ((unhide HR4).below (unhide HB5))
        have HT5 := hide ((unhide HT4).trans ((unhide HB5).mono (unhide HT4).size))
        have HD5 : Hid (DRep G3 w5 (.pointer (some fg)) s2) := (unhide HD4).stays (unhide HB5).size (fun j hj => (unhide HB5).block j ((unhide HD4).lt j hj))
        go_wp2_with fail
        have hblk5 := (unhide HR5).book.at_.blk
        unfold bookC at hblk5
        obtain ⟨⟨d0, _, _, d11⟩, _, ⟨d15, _⟩, _⟩ := nineteen_cells hblk5
        obtain ⟨d1, d2, d3, d4, d5, d6, d7, d8, d9⟩ := book_cells hblk5
        have hdr5 : Below w5.heap.size w5 w5.drew := (Below.refl _ _).drew
        have k5 := twelve_same ⟨d0, d1, d2, d3, d4, d5, d6, d7, d8, d9, d11, d15⟩ hdr5
        have K5 := hide k5
        clear d0 d1 d2 d3 d4 d5 d6 d7 d8 d9 d11 d15
        obtain ⟨d0, d1, d2, d3, d4, d5, d6, d7, d8, d9, d11, d15⟩ := k5
        have HLE5 := hide (bleast_any K2 g _ _ b2 rv2 tv2 av2 w5.drew ((unhide HR5).book.at_.below hdr5))
        have HDR5 := hide hdr5
        have HOP5 : Hid (∀ w', Below w5.drew.heap.size w5.drew w' → Calls Tryz.prog 8 #[.pointer (some fg), .agg #[.int .i64 256, .int .i64 3, .int .i64 13, .int .i64 30, .int .i64 43, .int .i64 73, .int .i64 30, .int .i64 103, .int .i64 4], .int .u64 (b2.first : Int), .int .u64 (b2.least : Int), .int .u64 ((b2.age : Int) + 1)] w' fun e w'' => ∃ v, e = .returned v ∧ SamePost w' w'' (.pointer (some fg)) rs Lx v) := fun w' hb => unhide HOP _ _ w' ((unhide HD5).stays (Nat.le_trans hdr5.size hb.size) (fun j hj => (hb.block j (Nat.lt_of_lt_of_le ((unhide HD5).lt j hj) hdr5.size)).trans (hdr5.block j ((unhide HD5).lt j hj))))
        clear hblk5 hdr5
        go_region_held3 (fun w' => w'.cell? ⟨g, 0, none⟩ = some (.pointer (some dg)) ∧ w'.cell? ⟨g, 1, none⟩ = some (.int .i64 256) ∧ w'.cell? ⟨g, 2, none⟩ = some (.int .i64 3) ∧ w'.cell? ⟨g, 3, none⟩ = some (.int .i64 13) ∧ w'.cell? ⟨g, 4, none⟩ = some (.int .i64 30) ∧ w'.cell? ⟨g, 5, none⟩ = some (.int .i64 43) ∧ w'.cell? ⟨g, 6, none⟩ = some (.int .i64 73) ∧ w'.cell? ⟨g, 7, none⟩ = some (.int .i64 30) ∧ w'.cell? ⟨g, 8, none⟩ = some (.int .i64 103) ∧ w'.cell? ⟨g, 9, none⟩ = some (.int .i64 4) ∧ w'.cell? ⟨g, 11, none⟩ = some (.int .u64 (b2.age : Int)) ∧ w'.cell? ⟨g, 15, none⟩ = some (.int .u64 (b2.first : Int))) (first | assumption | go_keep)
          (first
            | (go_at_call 9; refine Calls.mono (unhide HLE5) ?_; rintro e wl5 ⟨rfl, bl5⟩; have kl5 := twelve_same (unhide K5) bl5; have Hbl5 := hide bl5; clear bl5)
            | (go_at_call 8; refine Calls.mono (unhide HOP5 wl5 (unhide Hbl5)) ?_; rintro e w6 ⟨v, rfl, lg6, q6, c6, G6, H6, rfl, hr6, hl6, b6⟩; have kn6 := twelve_same kl5 b6; have HB6 := hide ((unhide HDR5).trans (((unhide Hbl5).trans (b6.mono (unhide Hbl5).size)).mono (unhide HDR5).size)); have Hr6 := hide hr6; have Hl6 := hide hl6; clear b6 hr6 hl6))
        clear d0 d1 d2 d3 d4 d5 d6 d7 d8 d9 d11 d15 kl5 kn6 K5 HLE5 HOP5 Hbl5 HDR5
        have HR6 := hide ((unhide HR5).below (unhide HB6))
        have HT6 := hide ((unhide HT5).trans ((unhide HB6).mono (unhide HT5).size))
        obtain ⟨vs, hvl, hvr⟩ := (unhide HR6).book.at_.recs.row
        obtain ⟨rq, rc, hrv, _⟩ := hvr.shape
        subst hrv
        have c12 := (nineteen_cells (unhide HR6).book.at_.blk).2.1.1
        have hb46 : Below w4.heap.size w4 w6 := (unhide HB5).trans ((unhide HB6).mono (unhide HB5).size)
        have hrr : Rows2 w6 (.slice rq vs.length rc) rs := by have h := (unhide HR6).book.at_.recs.rows; rw [unhide HRS] at h; exact h
        have HL1 : Hid (∀ w', Below w6.heap.size w6 w' → Calls Tryz.prog 10 #[.slice q4 rs.length c4, .slice q5 rs.length c5] w' fun e w'' => e = .returned (.bool true) ∧ Below w'.heap.size w' w'') := fun w' hb => lists_any _ _ rs w' (((unhide Hr4).rows.below hb46).below hb) (((unhide Hr5).rows.below (unhide HB6)).below hb)
        have HL2 : Hid (∀ w', Below w6.heap.size w6 w' → Calls Tryz.prog 10 #[.slice q4 rs.length c4, .slice q6 rs.length c6] w' fun e w'' => e = .returned (.bool true) ∧ Below w'.heap.size w' w'') := fun w' hb => lists_any _ _ rs w' (((unhide Hr4).rows.below hb46).below hb) ((unhide Hr6).rows.below hb)
        have HL3 : Hid (∀ w', Below w6.heap.size w6 w' → Calls Tryz.prog 10 #[.slice q4 rs.length c4, .slice rq vs.length rc] w' fun e w'' => e = .returned (.bool true) ∧ Below w'.heap.size w' w'') := fun w' hb => lists_any _ _ rs w' (((unhide Hr4).rows.below hb46).below hb) (hrr.below hb)
        have HN4 := hide (fun w' (hb : Below w6.heap.size w6 w') => wnext_any _ _ _ 256 Lx w' (((unhide Hl4).below hb46).below hb))
        have HN5 := hide (fun w' (hb : Below w6.heap.size w6 w') => wnext_any _ _ _ 256 Lx w' (((unhide Hl5).below (unhide HB6)).below hb))
        have HN6 := hide (fun w' (hb : Below w6.heap.size w6 w') => wnext_any _ _ _ 256 Lx w' ((unhide Hl6).below hb))
        have HE4 := hide (fun w' (hb : Below w6.heap.size w6 w') => wleast_any _ _ _ 256 Lx w' (((unhide Hl4).below hb46).below hb))
        have HE5 := hide (fun w' (hb : Below w6.heap.size w6 w') => wleast_any _ _ _ 256 Lx w' (((unhide Hl5).below (unhide HB6)).below hb))
        generalize Lx.next = X at *
        generalize Lx.least = Y at *
        have eX : ((X : Int) == (X : Int)) = true := by simp
        have eY : ((Y : Int) == (Y : Int)) = true := by simp
        have HC12 := hide c12
        clear hvl hvr hb46 hrr c12
        go_wp2_with fail
        refine Calls.mono (unhide HL1 w6 (Below.refl _ _)) ?_
        rintro e w7 ⟨rfl, b7⟩
        have HX7 := hide b7
        clear b7
        go_wp2_with fail
        refine Calls.mono (unhide HL2 w7 (unhide HX7)) ?_
        rintro e w8 ⟨rfl, b8⟩
        have HX8 := hide ((unhide HX7).trans (b8.mono (unhide HX7).size))
        clear b8
        have c12 := ((unhide HX8).cell (World.block_lt_of_cell? _ _ (unhide HC12))).trans (unhide HC12)
        go_wp2_with fail
        refine Calls.mono (unhide HL3 w8 (unhide HX8)) ?_
        rintro e w9 ⟨rfl, b9⟩
        have HX9 := hide ((unhide HX8).trans (b9.mono (unhide HX8).size))
        clear b9 c12
        go_wp2_with fail
        refine Calls.mono (unhide HN4 w9 (unhide HX9)) ?_
        rintro e w10 ⟨rfl, b10⟩
        have HX10 := hide ((unhide HX9).trans (b10.mono (unhide HX9).size))
        clear b10
        go_wp2_with fail
        refine Calls.mono (unhide HN5 w10 (unhide HX10)) ?_
        rintro e w11 ⟨rfl, b11⟩
        have HX11 := hide ((unhide HX10).trans (b11.mono (unhide HX10).size))
        clear b11
        go_wp2_with fail
        refine Calls.mono (unhide HN4 w11 (unhide HX11)) ?_
        rintro e w12 ⟨rfl, b12⟩
        have HX12 := hide ((unhide HX11).trans (b12.mono (unhide HX11).size))
        clear b12
        go_wp2_with fail
        refine Calls.mono (unhide HN6 w12 (unhide HX12)) ?_
        rintro e w13 ⟨rfl, b13⟩
        have HX13 := hide ((unhide HX12).trans (b13.mono (unhide HX12).size))
        clear b13
        go_wp2_with fail
        refine Calls.mono (unhide HE4 w13 (unhide HX13)) ?_
        rintro e w14 ⟨rfl, b14⟩
        have HX14 := hide ((unhide HX13).trans (b14.mono (unhide HX13).size))
        clear b14
        go_wp2_with fail
        refine Calls.mono (unhide HE5 w14 (unhide HX14)) ?_
        rintro e w15 ⟨rfl, b15⟩
        have HX15 := hide ((unhide HX14).trans (b15.mono (unhide HX14).size))
        clear b15
        go_wp2_with fail
        go_ret
        exact ⟨rfl, (unhide HT6).trans ((unhide HX15).mono (unhide HT6).size)⟩

theorem walk_WalSame (s0 : Value) (d0 : Dt) (w : World) (h0 : Reads limSaid w opwsSh [s0] d0) :
    Calls Tryz.prog 3 #[s0] w fun e w' => e = .returned (.bool true) ∧ Below w.heap.size w w' := by
  obtain ⟨l, hl⟩ := opsw_of_reads h0
  exact wsame_any s0 l w hl
end Go.Proofs.YtdpoiieblbmofabGreat
