/- Texts of ours, one behind the other: WalUp4, WalUp5. -/
import Derived.Test.YtpkpjmebkikgdaaGreatG32
import Derived.Test.YtpkpjmebkikgdaaGreatG37
import Derived.Deep.CutBlock
/- The statements of layer 7: a book's log is opened anew, the book dead or not. -/
namespace Go.Proofs.YtpkpjmebkikgdaaGreat
open Go.RowKit

/-- What is so behind an opening, from where its log was asked. -/
def AnyPost (F G K : Nat → Prop) (w w' : World) (g : Nat) (dp : Value) (s : DK) (b : BK) (l1 : List Id) (e : Nat) (fell : Bool) : Prop :=
  ∃ F1 G1 wB b0, b0 = { b with dead := false } ∧ Moves (all3 F G K) (all3 F1 G1 K) w wB ∧ OpenPost F1 K wB w' g dp s b0 l1 e (if fell = true then l1.length else b0.safe)

set_option maxRecDepth 20000 in
set_option maxHeartbeats 8000000 in
theorem bopen_any (F G K : Nat → Prop) (g : Nat) (lp dp : Value) (s : DK) (L : LG) (b : BK) (rv tv av : Value) (l1 l2 : List Id) (e : Nat) (fell : Bool) (w : World) (hB : Held F G K w g lp dp s L b rv tv av) (hd : b.dead = true → L.fallen = true ∧ s.waits = []) (hup : s.fell = false)
    (hl : Lst b (l1 ++ l2)) (hop : opened s 256 b.first b.least (b.age + 1) = (l1.map Id.r, ⟨b.age + 1, b.first, e, l1.map (fun x => (x.first, x.age)), false⟩, 0)) (hsf : b.safe ≤ l1.length) (he1 : l2 = [] → e = b.next) (he2 : ∀ z l3, l2 = z :: l3 → z.first = e)
    (hage : b.age ≤ 1000000) (hle : b.least ≤ b.age + 1) (hfi : b.first ≤ 1000000) (hrl : (l1 ++ l2).length ≤ 100) (hwt : s.waits.length + 64 ≤ 1048576) (htk0 : s.ticks + 64 ≤ 1048576) (hln : L.next + 64 < 9223372036854775808) :
    Calls Tryz.prog 11 #[.pointer (some ⟨g, 0, none⟩), .bool fell] w fun x w' => x = .returned (.bool true) ∧ AnyPost F G K w w' g dp s b l1 e fell := by
  obtain ⟨dg, rfl⟩ := hB.both.dev.ptr
  obtain ⟨lg, hlg⟩ : ∃ lg, lp = .pointer (some lg) := by obtain ⟨g, sv, e, _⟩ := hB.both.log; exact ⟨_, e⟩
  subst hlg
  have c18 := (nineteen_cells hB.at_.blk).2.2.1.2.2.2
  have c10 := (nineteen_cells hB.at_.blk).1.2.2.1
  have HH := hide hB
  have HD := hide hd
  have HW := hide hwt
  have HT := hide htk0
  have HL := hide hln
  clear hB hd hwt htk0 hln
  go_enter Tryz.func11, Tryz.ntmps11
  go_upto_region 1 with fail
  go_cut [36] from 9 to 35 (fun c wc => c = .bool false ∧ ∃ F1 G1, Held F1 G1 K wc g (.pointer (some lg)) (.pointer (some dg)) s L b rv tv av ∧ Moves (all3 F G K) (all3 F1 G1 K) w wc)
  case first =>
    cases hdd : b.dead with
    | false =>
      rw [hdd] at c18
      clear hl hop hsf he1 he2 hage hle hfi hrl
      go_wp2_with fail
      go_meet
      exact ⟨rfl, F, G, unhide HH, Moves.refl _ _⟩
    | true =>
      rw [hdd] at c18
      obtain ⟨hLf, hsw⟩ := unhide HD hdd
      have hLd : L.down = L := by cases L; simp only at hLf; subst hLf; rfl
      have eA : appE 256 s L [] = 40 ∧ appS 256 s L [] = s ∧ appL 256 s L [] = L := by
        have e1 : appE 256 s L [] = 40 := by unfold appE; rw [if_neg (by simp), if_pos (Or.inl hLf)]
        refine ⟨e1, ?_, ?_⟩
        · unfold appS; rw [if_neg (by simp), if_pos (Or.inl hLf)]
        · unfold appL; rw [e1]; exact hLd
      have eY : syncE s L = 40 ∧ syncS s L = s ∧ syncL s L = L := ⟨by unfold syncE; rw [if_pos hLf], by unfold syncS; rw [if_pos hLf], by unfold syncL; rw [if_pos hLf]⟩
      have HAX := hide (wappend_any F G (.pointer (some lg)) (.pointer (some dg)) 256 s L (.slice none 0 0) [] w (unhide HH).both (Row.nil w) (by have := unhide HW; omega) (by have := unhide HT; omega) (by have := unhide HL; omega))
      rw [eA.1, eA.2.1, eA.2.2] at HAX
      have HSX := hide (fun F' G' w' (h : Both F' G' w' (.pointer (some lg)) (.pointer (some dg)) 256 s L) => wsync_any F' G' (.pointer (some lg)) (.pointer (some dg)) 256 s L w' h (by have := unhide HW; omega) (by have := unhide HT; omega))
      rw [eY.1, eY.2.1, eY.2.2] at HSX
      have HWA := hide (fun F' w' (h : DRep F' w' (.pointer (some dg)) s) => owaiting_any F' _ s w' h)
      rw [hsw] at HWA
      clear hl hop hsf he1 he2 hage hle hfi hrl hLf hsw hLd eA eY
      go_wp2_with fail
      refine Calls.mono (unhide HAX) ?_
      rintro e1 w1 ⟨rfl, F2, G2, hbo2, hm2⟩
      have HH2 := hide (held_on (unhide HH) (Moves.refl _ _) hbo2 hm2)
      have k10 := (nineteen_cells (unhide HH2).1.at_.blk).1.2.2.1
      have HSY := hide (unhide HSX F2 G2 w1 hbo2)
      clear hbo2 hm2 HAX HSX c10 c18
      go_wp2_with fail
      refine Calls.mono (unhide HSY) ?_
      rintro e2 w2 ⟨rfl, F3, hbo3, hm3⟩
      have HH3 := hide (held_on (unhide HH2).1 (unhide HH2).2 hbo3 hm3)
      have k0 := (nineteen_cells (unhide HH3).1.at_.blk).1.1
      have HWY := hide (unhide HWA F3 w2 hbo3.dev)
      clear hbo3 hm3 HSY k10 HWA
      go_wp2_with fail
      refine Calls.mono (unhide HWY) ?_
      rintro e3 w3 ⟨rfl, b3⟩
      have HH4 := hide (held_on (unhide HH3).1 (unhide HH3).2 ((unhide HH3).1.both.below b3) (Moves.of_below b3))
      clear b3 HWY k0
      go_wp2_with fail
      go_meet
      exact ⟨rfl, F3, G2, (unhide HH4).1, (unhide HH4).2⟩
  case rest =>
    obtain ⟨rfl, F1, G1, hB1, hM1⟩ := hcut
    obtain ⟨b0, hb0⟩ : ∃ b0 : BK, b0 = { b with dead := false } := ⟨_, rfl⟩
    obtain ⟨wB, hwB⟩ : ∃ wB, wB = wc.setCell ⟨g, 18, none⟩ (.bool false) := ⟨_, rfl⟩
    have hkp0 : Keep (fun k => k = g) wc wB := by rw [hwB]; exact sets_keep g [(18, .bool false)] wc
    have hK0 : Keep K wc wB := hkp0.weak (fun k hk => by rw [hk]; exact hB1.at_.fg)
    have hat0 : BAt K wB g (.pointer (some dg)) (.pointer (some lg)) b0 rv tv av := by
      rw [hb0]
      refine hB1.at_.anew ?_ hkp0.size (fun k hk hlt => hkp0.block k hlt hk) hB1.at_.recs hB1.at_.turns hB1.at_.ages hB1.at_.two
      have h := sets_block g _ [(18, Value.bool false)] wc _ hB1.at_.blk
      rw [hwB]
      exact Eq.trans h rfl
    have hB0 : Held F1 G1 K wB g (.pointer (some lg)) (.pointer (some dg)) s L b0 rv tv av := ⟨⟨hB1.both.dev.stays hK0.size (fun k hk => hK0.block k (hB1.both.dev.lt k hk) (hB1.apF k hk)), hB1.both.log.keep hK0 (fun k hk hg => hB1.apG k hg hk), hB1.both.apart, hB1.both.size⟩, hat0, hB1.apF, hB1.apG⟩
    have HM2 : Hid (Moves (all3 F G K) (all3 F1 G1 K) w wB) := hM1.trans ⟨hK0.weak (fun k hk => Or.inr (Or.inr hk)), fun k hk => Or.inl hk⟩
    have z18 := (nineteen_cells hB1.at_.blk).2.2.1.2.2.2
    have zf18 := (nineteen_cells hB1.at_.blk).2.2.2 18
    have HB0E := hide hb0
    have HWB := hide hwB
    have hd : b0.dead = false := by rw [hb0]
    have hl0 : Lst b0 (l1 ++ l2) := by rw [hb0]; exact ⟨hl.recs, hl.turns, hl.ages⟩
    have hop0 : opened s 256 b0.first b0.least (b0.age + 1) = (l1.map Id.r, ⟨b0.age + 1, b0.first, e, l1.map (fun x => (x.first, x.age)), false⟩, 0) := by rw [hb0]; exact hop
    have hsf0 : b0.safe ≤ l1.length := by rw [hb0]; exact hsf
    have he10 : l2 = [] → e = b0.next := by rw [hb0]; exact he1
    have hage0 : b0.age ≤ 1000000 := by rw [hb0]; exact hage
    have hle0 : b0.least ≤ b0.age + 1 := by rw [hb0]; exact hle
    have hfi0 : b0.first ≤ 1000000 := by rw [hb0]; exact hfi
    clear hl hop hsf he1 hage hle hfi hB1 hM1 hb0 hwB hkp0 hK0 hat0 HH HD HW HT HL c18 c10
    have hl := hl0
    have hop := hop0
    have hsf := hsf0
    have he1 := he10
    have hage := hage0
    have hle := hle0
    have hfi := hfi0
    clear hl0 hop0 hsf0 he10 hage0 hle0 hfi0
    obtain ⟨vs, hvl, hvr⟩ := hB0.at_.recs.row
    obtain ⟨rq, rc, hrv, _⟩ := hvr.shape
    subst hrv
    obtain ⟨uq, uc, htv, _⟩ := hB0.at_.turns.shape
    subst htv
    obtain ⟨aq, ac, hav, _⟩ := hB0.at_.ages.shape
    subst hav
    obtain ⟨rk, hrk⟩ : ∃ rk, rk = l1.length := ⟨_, rfl⟩
    have hlr : b0.recs.length = rk + l2.length := by rw [hl.recs, hrk]; simp
    have hlt : b0.turns.length = rk + l2.length := by rw [hl.turns, hrk]; simp
    have hla : b0.ages.length = rk + l2.length := by rw [hl.ages, hrk]; simp
    -- the slices of the book's rows
    obtain ⟨q1, k1, r1, t1, o1⟩ := hvr.taken (P := Tryz.prog) (t := 37) Tryz.underlying37 (by kernel_rfl) rk (by omega)
    obtain ⟨q2, k2, r2, t2, o2⟩ := hB0.at_.turns.taken (P := Tryz.prog) (t := 38) Tryz.underlying38 (by kernel_rfl) rk (by rw [List.length_map]; omega)
    obtain ⟨q3, k3, r3, t3, o3⟩ := hB0.at_.ages.taken (P := Tryz.prog) (t := 38) Tryz.underlying38 (by kernel_rfl) rk (by rw [List.length_map]; omega)
    rw [List.length_map] at r2 r3
    have hrecs : TRecs K wB (.slice q1 rk k1) (b0.recs.take rk) := by
      have := hB0.at_.recs.part hvr (v' := .slice q1 rk k1) 0 rk (by omega) (by rw [List.drop_zero]; exact t1)
      rw [List.drop_zero] at this
      exact this
    have htk : b0.recs.take rk = l1.map Id.r := by rw [hl.recs, List.map_append, hrk, List.take_left' (by simp)]
    have htt : b0.turns.take rk = l1.map Id.first := by rw [hl.turns, List.map_append, hrk, List.take_left' (by simp)]
    have hta : b0.ages.take rk = l1.map Id.age := by rw [hl.ages, List.map_append, hrk, List.take_left' (by simp)]
    have hkp1 : Keep (fun k => k = g) wB wB := Keep.refl _ _
    have hat1 := hB0.at_
    have HBL := hide (bleast_any K g _ _ b0 _ _ _ wB hat1)
    have HOP := hide (fun w' (h : DRep F1 w' (.pointer (some dg)) s) => wopen_any F1 _ s 256 b0.first b0.least (b0.age + 1) w' h hB0.both.size fits256 (by omega) (by omega) hle (by omega))
    rw [lay256, show ((b0.age + 1 : Nat) : Int) = (b0.age : Int) + 1 from rfl] at HOP
    have hageI : (b0.age : Int) ≤ 1000000 := by omega
    have HB := hide hB0
    have HAT1 := hide hat1
    have HKP1 := hide hkp1
    clear hB0 hat1 hkp1
    go_wp2_with fail
    rw [← unhide HWB]
    refine Calls.mono (unhide HBL) ?_
    rintro e5 w2 ⟨rfl, b2⟩
    have hat2 := (unhide HAT1).below b2
    have hblk2 := hat2.blk
    clear z18 zf18
    have c11 := (nineteen_cells hblk2).1.2.2.2
    have f11 := (nineteen_cells hblk2).2.2.2 11
    obtain ⟨W3, hW3⟩ : ∃ W3, W3 = w2.setCell ⟨g, 11, none⟩ (.int .u64 ((b0.age : Int) + 1)) := ⟨_, rfl⟩
    have hkp3 : Keep (fun k => k = g) w2 W3 := by rw [hW3]; exact sets_keep g [(11, .int .u64 ((b0.age : Int) + 1))] w2
    have hat3 : BAt K W3 g (.pointer (some dg)) (.pointer (some lg)) { b0 with age := b0.age + 1 } (.slice rq vs.length rc) (.slice uq (b0.turns.map U64).length uc) (.slice aq (b0.ages.map U64).length ac) := by
      refine hat2.anew ?_ hkp3.size (fun k hk hlt => hkp3.block k hlt hk) hat2.recs hat2.turns hat2.ages hat2.two
      have h := sets_block g _ [(11, Value.int .u64 ((b0.age : Int) + 1))] w2 _ hblk2
      rw [hW3]
      exact Eq.trans h rfl
    have hK3g : Keep (fun k => k = g) wB W3 := ((unhide HKP1).trans (Keep.of_below (F := fun _ => False) b2) (fun _ h => h.elim)).trans hkp3 (fun k hk => Or.inl hk)
    have hK3 : Keep K wB W3 := hK3g.weak (G := K) (fun k hk => by rw [hk]; exact (unhide HB).at_.fg)
    have HK3G := hide hK3g
    have hD3 : DRep F1 W3 (.pointer (some dg)) s := (unhide HB).both.dev.stays hK3.size (fun k hk => hK3.block k ((unhide HB).both.dev.lt k hk) ((unhide HB).apF k hk))
    have hblk3 := hat3.blk
    unfold bookC at hblk3
    obtain ⟨⟨d0, _, _, d11⟩, _, ⟨d15, _⟩, _⟩ := nineteen_cells hblk3
    obtain ⟨d1, d2, d3, d4, d5, d6, d7, d8, d9⟩ := book_cells hblk3
    simp only [show ((b0.age + 1 : Nat) : Int) = (b0.age : Int) + 1 from rfl] at d11
    have HW3 := hide hW3
    have HAT3 := hide hat3
    have HK3 := hide hK3
    have HD3 := hide hD3
    clear b2 hat2 hblk2 hkp3 hat3 hK3 hK3g hD3 hblk3 hW3 HBL HAT1 HKP1 HWB
    go_wp2_with fail
    rw [← unhide HW3]
    have hdr3 : Below W3.heap.size W3 W3.drew := (Below.refl _ _).drew
    have k0 := twelve_same ⟨d0, d1, d2, d3, d4, d5, d6, d7, d8, d9, d11, d15⟩ hdr3
    have K0 := hide k0
    obtain ⟨d0, d1, d2, d3, d4, d5, d6, d7, d8, d9, d11, d15⟩ := k0
    have HO4 := hide (unhide HOP W3.drew ((unhide HD3).stays hdr3.size (fun k hk => hdr3.block k ((unhide HD3).lt k hk))))
    have HOP2 := hide hop
    have HUP := hide hup
    have HRK := hide hrk
    have HDR3 := hide hdr3
    clear hop hup hrk hdr3 HOP
    go_region_held3 (fun w' => w'.cell? ⟨g, 0, none⟩ = some (.pointer (some dg)) ∧ w'.cell? ⟨g, 1, none⟩ = some (.int .i64 256) ∧ w'.cell? ⟨g, 2, none⟩ = some (.int .i64 3) ∧ w'.cell? ⟨g, 3, none⟩ = some (.int .i64 13) ∧ w'.cell? ⟨g, 4, none⟩ = some (.int .i64 30) ∧ w'.cell? ⟨g, 5, none⟩ = some (.int .i64 43) ∧ w'.cell? ⟨g, 6, none⟩ = some (.int .i64 73) ∧ w'.cell? ⟨g, 7, none⟩ = some (.int .i64 30) ∧ w'.cell? ⟨g, 8, none⟩ = some (.int .i64 103) ∧ w'.cell? ⟨g, 9, none⟩ = some (.int .i64 4) ∧ w'.cell? ⟨g, 11, none⟩ = some (.int .u64 ((b0.age : Int) + 1)) ∧ w'.cell? ⟨g, 15, none⟩ = some (.int .u64 (b0.first : Int))) (first | assumption | go_keep)
      (first
        | (go_at_call 15; refine Calls.mono (unhide HO4) ?_; rintro e5 w4 ⟨hO, b4⟩; unfold OpenR at hO; rw [if_neg (by rw [unhide HUP]; decide), unhide HOP2, if_neg (by simp)] at hO; obtain ⟨lp', v, G', H, rfl, hr, hlog, hH, hG, hHG⟩ := hO; obtain ⟨vs5, hvs5⟩ := hr.owns; obtain ⟨q5, c5, hv5⟩ := owns_shape hvs5; rw [List.length_map, ← unhide HRK] at hv5; subst hv5; obtain ⟨lg', hlg'⟩ := hlog.ptr; subst hlg'; have k4 := twelve_same (unhide K0) b4; have HB4 := hide ((unhide HDR3).trans b4); have HR4 := hide hr; have HLOG := hide hlog; have HG4 := hide hG; clear b4 hr hlog hH hG hHG hvs5))
    have hst : ∀ k, k ≠ g → k < wB.heap.size → w4.heap[k]? = wB.heap[k]? := fun k h1 h2 => ((unhide HB4).block k (Nat.lt_of_lt_of_le h2 (unhide HK3G).size)).trans ((unhide HK3G).block k h2 h1)
    have hgb := (unhide HB).at_.blk
    have u1 : TRecs K w4 (.slice q1 rk k1) (l1.map Id.r) := by
      rw [← htk]
      refine hrecs.stays (fun k hK hc => hst k (fun e => ?_) ((unhide HB).at_.lt k hK))
      rcases hc with ⟨cur, hc⟩ | hc
      · rw [e, hgb] at hc; cases hc
      · obtain ⟨cur, hh⟩ := t1.kind k hc
        rw [e, hgb] at hh; cases hh
    have u2 : TRow K w4 36 (.slice q2 rk k2) ((l1.map Id.first).map U64) := by
      rw [← htt, List.map_take]
      refine t2.stays (fun k hk => hst k (fun e => ?_) ((unhide HB).at_.lt k (t2.1 k hk)))
      obtain ⟨cur, hh⟩ := t2.kind k hk
      rw [e, hgb] at hh; cases hh
    have u3 : TRow K w4 36 (.slice q3 rk k3) ((l1.map Id.age).map U64) := by
      rw [← hta, List.map_take]
      refine t3.stays (fun k hk => hst k (fun e => ?_) ((unhide HB).at_.lt k (t3.1 k hk)))
      obtain ⟨cur, hh⟩ := t3.kind k hk
      rw [e, hgb] at hh; cases hh
    have u4 : ∀ k, (Value.slice q2 rk k2).ownBlock = some k → (Value.slice q3 rk k3).ownBlock ≠ some k := fun k h1 h2 => (unhide HB).at_.two k (o2 k h1) (o3 k h2)
    have hat4 := (unhide HAT3).below (unhide HB4)
    have HLI := hide (lists_any (.slice q5 rk c5) (.slice q1 rk k1) (l1.map Id.r) w4 (unhide HR4).rows u1.rows)
    have hs1 : ¬ (rk : Int) < (b0.safe : Int) := by have := unhide HRK; omega
    have hs2 : ¬ (vs.length : Int) < (rk : Int) := by omega
    have HU1 := hide u1
    have HU2 := hide u2
    have HU3 := hide u3
    have HU4 := hide u4
    have HAT4 := hide hat4
    have HD4 := hide ((unhide HD3).stays (unhide HB4).size (fun k hk => (unhide HB4).block k ((unhide HD3).lt k hk)))
    obtain ⟨⟨_, _, c10, _⟩, ⟨c12, c13, c14⟩, ⟨_, c16, c17, _⟩, fz⟩ := nineteen_cells hat4.blk
    rw [List.length_map] at c13 c14
    have HVLN : Hid (vs.length = rk + l2.length) := by unfold Hid; omega
    have HLT := hide hlt
    have HLR := hide hlr
    have HLA := hide hla
    have HHL := hide hl
    have HE1 := hide he1
    have HE2 := hide he2
    have HTK := hide htk
    have HTT := hide htt
    have HTA := hide hta
    have HSF := hide hsf
    have HRL := hide hrl
    clear u1 u2 u3 u4 hat4 hst hgb t1 t2 t3 o1 o2 o3 hrecs htk htt hta hvl hvr hlr hlt hla hl he1 he2 hsf hrl hle k4 d0 d1 d2 d3 d4 d5 d6 d7 d8 d9 d11 d15
    go_wp2_with fail
    refine Calls.mono (unhide HLI) ?_
    rintro e6 w5 ⟨rfl, b5⟩
    have hat5 := (unhide HAT4).below b5
    have HAT5 := hide hat5
    have HU15 : Hid (TRecs K w5 (.slice q1 rk k1) (l1.map Id.r)) := (unhide HU1).stays (fun k hK _ => b5.block k ((unhide HAT4).lt k hK))
    have HU25 : Hid (TRow K w5 36 (.slice q2 rk k2) ((l1.map Id.first).map U64)) := (unhide HU2).stays (fun k hk => b5.block k ((unhide HAT4).lt k ((unhide HU2).1 k hk)))
    have HU35 : Hid (TRow K w5 36 (.slice q3 rk k3) ((l1.map Id.age).map U64)) := (unhide HU3).stays (fun k hk => b5.block k ((unhide HAT4).lt k ((unhide HU3).1 k hk)))
    have HD5 := hide ((unhide HD4).stays b5.size (fun k hk => b5.block k ((unhide HD4).lt k hk)))
    have HLOG5 := hide ((unhide HLOG).below b5)
    have HDEAD := hide hd
    have hGN : ∀ k, G' k → wB.heap.size ≤ k := fun k hk => Nat.le_trans (unhide HK3).size (Nat.le_trans (unhide HDR3).size (unhide HG4 k hk))
    have HGN := hide hGN
    have HAPG : Hid (∀ k, G' k → ¬ K k) := fun k h1 h2 => by have := hGN k h1; have := (unhide HB).at_.lt k h2; omega
    have HAPA : Hid (∀ k, F1 k → ¬ G' k) := fun k h1 h2 => by have := hGN k h2; have := (unhide HB).both.dev.lt k h1; omega
    have HK5 : Hid (Keep K wB w5) := (unhide HK3).trans (Keep.of_below (F := fun _ => False) ((unhide HB4).trans (b5.mono (unhide HB4).size))) (fun _ h => h.elim)
    clear c10 c12 c13 c14 c16 c17 fz
    obtain ⟨⟨_, _, c10, _⟩, ⟨c12, c13, c14⟩, ⟨_, c16, c17, _⟩, fz⟩ := nineteen_cells hat5.blk
    rw [List.length_map] at c13 c14
    have f10 := fz 10
    have f12 := fz 12
    have f13 := fz 13
    have f14 := fz 14
    have f16 := fz 16
    have f17 := fz 17
    have hrk0 : (0 : Int) ≤ (rk : Int) := by omega
    have HKIND : Hid (∀ k, (Value.slice uq (b0.turns.map U64).length uc).ownBlock = some k → k ≠ g) := fun k hk => (fun e => hat5.tg (e ▸ hk))
    clear b5 hat5 hGN fz HLI hs1 hs2 HU1 HU2 HU3 hd
    by_cases hcase : l2 = []
    · have hex : b0.next = e := (unhide HE1 hcase).symm
      subst hex
      have hA : ¬ (rk : Int) < (vs.length : Int) := by rw [unhide HVLN, hcase]; simp
      clear hcase
      cases fell with
      | true =>
        go_wp2_with fail
        go_region
        go_wp2_with fail
        obtain ⟨hbk, hkp⟩ := Book.another (b' := b0.takeB rk b0.next rk) (rv' := .slice q1 rk k1) (tv' := .slice q2 rk k2) (av' := .slice q3 rk k3) (L' := ⟨b0.age + 1, b0.first, b0.next, l1.map (fun x => (x.first, x.age)), false⟩) (unhide HAT5) (unhide HD5) (unhide HLOG5) (unhide HB).both.size (unhide HB).apF (unhide HAPG) (unhide HAPA) [(10, .pointer (some lg')), (12, .slice q1 rk k1), (13, .slice q2 rk k2), (14, .slice q3 rk k3), (17, .int .i64 (rk : Int))] (by simp only [bookC, BK.takeB, unhide HDEAD]; rfl)
          (by show TRecs K w5 _ (b0.recs.take rk); rw [unhide HTK]; exact unhide HU15) (by show TRow K w5 _ _ ((b0.turns.take rk).map U64); rw [unhide HTT]; exact unhide HU25) (by show TRow K w5 _ _ ((b0.ages.take rk).map U64); rw [unhide HTA]; exact unhide HU35) (unhide HU4) rfl rfl rfl (by show _ = (b0.turns.take rk).zip (b0.ages.take rk); rw [unhide HTT, unhide HTA, List.zip_map']) (by show (b0.turns.take rk).length = (b0.recs.take rk).length; rw [unhide HTT, unhide HTK]; simp) (by show (b0.ages.take rk).length = (b0.recs.take rk).length; rw [unhide HTA, unhide HTK]; simp)
        refine Calls.mono (agree_any G' K g _ _ _ _ _ _ _ _ hbk.at_ hbk.both.log hbk.first hbk.next hbk.least) ?_
        rintro e9 w9 ⟨rfl, b9⟩
        have HEND : Hid (Book F1 G' K w9 g (.pointer (some lg')) (.pointer (some dg)) s ⟨b0.age + 1, b0.first, b0.next, l1.map (fun x => (x.first, x.age)), false⟩ (b0.takeB l1.length b0.next (if true = true then l1.length else b0.safe)) (.slice q1 rk k1) (.slice q2 rk k2) (.slice q3 rk k3) ∧ (∀ k, G' k → wB.heap.size ≤ k) ∧ Keep K wB w9) := by
          have e0 : b0.takeB l1.length b0.next (if true = true then l1.length else b0.safe) = b0.takeB rk b0.next rk := by rw [← unhide HRK]; rfl
          rw [e0]
          exact ⟨⟨hbk.both.below b9, hbk.at_.below b9, hbk.apF, hbk.apG, hbk.first, hbk.next, hbk.age, hbk.starts, hbk.tl, hbk.al⟩, unhide HGN, ((unhide HK5).trans hkp (fun k hk => Or.inl hk)).trans (Keep.of_below (F := fun _ => False) b9) (fun _ h => h.elim)⟩
        clear hbk hkp b9 c10 c12 c13 c14 c16 c17 f10 f12 f13 f14 f16 f17 r1 r2 r3
        go_wp2_with fail
        go_ret
        exact ⟨rfl, F1, G1, wB, b0, unhide HB0E, unhide HM2, OpenPost.mk (unhide HEND)⟩
      | false =>
        go_wp2_with fail
        go_region
        go_wp2_with fail
        obtain ⟨hbk, hkp⟩ := Book.another (b' := b0.takeB rk b0.next b0.safe) (rv' := .slice q1 rk k1) (tv' := .slice q2 rk k2) (av' := .slice q3 rk k3) (L' := ⟨b0.age + 1, b0.first, b0.next, l1.map (fun x => (x.first, x.age)), false⟩) (unhide HAT5) (unhide HD5) (unhide HLOG5) (unhide HB).both.size (unhide HB).apF (unhide HAPG) (unhide HAPA) [(10, .pointer (some lg')), (12, .slice q1 rk k1), (13, .slice q2 rk k2), (14, .slice q3 rk k3)] (by simp only [bookC, BK.takeB, unhide HDEAD]; rfl)
          (by show TRecs K w5 _ (b0.recs.take rk); rw [unhide HTK]; exact unhide HU15) (by show TRow K w5 _ _ ((b0.turns.take rk).map U64); rw [unhide HTT]; exact unhide HU25) (by show TRow K w5 _ _ ((b0.ages.take rk).map U64); rw [unhide HTA]; exact unhide HU35) (unhide HU4) rfl rfl rfl (by show _ = (b0.turns.take rk).zip (b0.ages.take rk); rw [unhide HTT, unhide HTA, List.zip_map']) (by show (b0.turns.take rk).length = (b0.recs.take rk).length; rw [unhide HTT, unhide HTK]; simp) (by show (b0.ages.take rk).length = (b0.recs.take rk).length; rw [unhide HTA, unhide HTK]; simp)
        refine Calls.mono (agree_any G' K g _ _ _ _ _ _ _ _ hbk.at_ hbk.both.log hbk.first hbk.next hbk.least) ?_
        rintro e9 w9 ⟨rfl, b9⟩
        have HEND : Hid (Book F1 G' K w9 g (.pointer (some lg')) (.pointer (some dg)) s ⟨b0.age + 1, b0.first, b0.next, l1.map (fun x => (x.first, x.age)), false⟩ (b0.takeB l1.length b0.next (if false = true then l1.length else b0.safe)) (.slice q1 rk k1) (.slice q2 rk k2) (.slice q3 rk k3) ∧ (∀ k, G' k → wB.heap.size ≤ k) ∧ Keep K wB w9) := by
          have e0 : b0.takeB l1.length b0.next (if false = true then l1.length else b0.safe) = b0.takeB rk b0.next b0.safe := by rw [← unhide HRK]; rfl
          rw [e0]
          exact ⟨⟨hbk.both.below b9, hbk.at_.below b9, hbk.apF, hbk.apG, hbk.first, hbk.next, hbk.age, hbk.starts, hbk.tl, hbk.al⟩, unhide HGN, ((unhide HK5).trans hkp (fun k hk => Or.inl hk)).trans (Keep.of_below (F := fun _ => False) b9) (fun _ h => h.elim)⟩
        clear hbk hkp b9 c10 c12 c13 c14 c16 c17 f10 f12 f13 f14 f16 f17 r1 r2 r3
        go_wp2_with fail
        go_ret
        exact ⟨rfl, F1, G1, wB, b0, unhide HB0E, unhide HM2, OpenPost.mk (unhide HEND)⟩
    · obtain ⟨z, l3, hz⟩ := List.exists_cons_of_ne_nil hcase
      have hlen2 : rk < vs.length := by rw [unhide HVLN, hz]; simp
      have hB2 : (rk : Int) < (vs.length : Int) := by omega
      have htl5 : rk < (b0.turns.map U64).length := by rw [List.length_map, unhide HLT, hz]; simp
      obtain ⟨kt, ot, ct, e4, hcell⟩ := (unhide HAT5).turns.cell rk htl5
      simp only [List.length_map, Value.slice.injEq] at e4
      obtain ⟨rfl, _, rfl⟩ := e4
      have hnx : (b0.turns.map U64)[rk] = .int .u64 (e : Int) := by
        have h1 : (b0.turns.map U64)[rk]? = some (.int .u64 (e : Int)) := by
          rw [(unhide HHL).turns, hz, List.map_append, List.map_append, List.getElem?_append_right (by simp [unhide HRK])]
          simp [unhide HRK, U64, unhide HE2 z l3 hz]
        rw [List.getElem?_eq_getElem htl5] at h1
        exact Option.some.inj h1
      have hcell2 : w5.cell? ⟨kt, ot + rk, none⟩ = some (.int .u64 (e : Int)) := hcell.trans (congrArg some hnx)
      have hne1 : ¬ kt = g := unhide HKIND kt rfl
      have hne2 : ¬ g = kt := fun h => hne1 h.symm
      have hti : (rk : Int) < (b0.turns.length : Int) := by rw [List.length_map] at htl5; omega
      clear hcell hnx htl5 hlen2 hz hcase
      cases fell with
      | true =>
        go_wp2_with fail
        go_region
        go_wp2_with fail
        obtain ⟨hbk, hkp⟩ := Book.another (b' := b0.takeB rk e rk) (rv' := .slice q1 rk k1) (tv' := .slice q2 rk k2) (av' := .slice q3 rk k3) (L' := ⟨b0.age + 1, b0.first, e, l1.map (fun x => (x.first, x.age)), false⟩) (unhide HAT5) (unhide HD5) (unhide HLOG5) (unhide HB).both.size (unhide HB).apF (unhide HAPG) (unhide HAPA) [(10, .pointer (some lg')), (16, .int .u64 (e : Int)), (12, .slice q1 rk k1), (13, .slice q2 rk k2), (14, .slice q3 rk k3), (17, .int .i64 (rk : Int))] (by simp only [bookC, BK.takeB, unhide HDEAD]; rfl)
          (by show TRecs K w5 _ (b0.recs.take rk); rw [unhide HTK]; exact unhide HU15) (by show TRow K w5 _ _ ((b0.turns.take rk).map U64); rw [unhide HTT]; exact unhide HU25) (by show TRow K w5 _ _ ((b0.ages.take rk).map U64); rw [unhide HTA]; exact unhide HU35) (unhide HU4) rfl rfl rfl (by show _ = (b0.turns.take rk).zip (b0.ages.take rk); rw [unhide HTT, unhide HTA, List.zip_map']) (by show (b0.turns.take rk).length = (b0.recs.take rk).length; rw [unhide HTT, unhide HTK]; simp) (by show (b0.ages.take rk).length = (b0.recs.take rk).length; rw [unhide HTA, unhide HTK]; simp)
        refine Calls.mono (agree_any G' K g _ _ _ _ _ _ _ _ hbk.at_ hbk.both.log hbk.first hbk.next hbk.least) ?_
        rintro e9 w9 ⟨rfl, b9⟩
        have HEND : Hid (Book F1 G' K w9 g (.pointer (some lg')) (.pointer (some dg)) s ⟨b0.age + 1, b0.first, e, l1.map (fun x => (x.first, x.age)), false⟩ (b0.takeB l1.length e (if true = true then l1.length else b0.safe)) (.slice q1 rk k1) (.slice q2 rk k2) (.slice q3 rk k3) ∧ (∀ k, G' k → wB.heap.size ≤ k) ∧ Keep K wB w9) := by
          have e0 : b0.takeB l1.length e (if true = true then l1.length else b0.safe) = b0.takeB rk e rk := by rw [← unhide HRK]; rfl
          rw [e0]
          exact ⟨⟨hbk.both.below b9, hbk.at_.below b9, hbk.apF, hbk.apG, hbk.first, hbk.next, hbk.age, hbk.starts, hbk.tl, hbk.al⟩, unhide HGN, ((unhide HK5).trans hkp (fun k hk => Or.inl hk)).trans (Keep.of_below (F := fun _ => False) b9) (fun _ h => h.elim)⟩
        clear hbk hkp b9 c10 c12 c13 c14 c16 c17 f10 f12 f13 f14 f16 f17 r1 r2 r3
        go_wp2_with fail
        go_ret
        exact ⟨rfl, F1, G1, wB, b0, unhide HB0E, unhide HM2, OpenPost.mk (unhide HEND)⟩
      | false =>
        go_wp2_with fail
        go_region
        go_wp2_with fail
        obtain ⟨hbk, hkp⟩ := Book.another (b' := b0.takeB rk e b0.safe) (rv' := .slice q1 rk k1) (tv' := .slice q2 rk k2) (av' := .slice q3 rk k3) (L' := ⟨b0.age + 1, b0.first, e, l1.map (fun x => (x.first, x.age)), false⟩) (unhide HAT5) (unhide HD5) (unhide HLOG5) (unhide HB).both.size (unhide HB).apF (unhide HAPG) (unhide HAPA) [(10, .pointer (some lg')), (16, .int .u64 (e : Int)), (12, .slice q1 rk k1), (13, .slice q2 rk k2), (14, .slice q3 rk k3)] (by simp only [bookC, BK.takeB, unhide HDEAD]; rfl)
          (by show TRecs K w5 _ (b0.recs.take rk); rw [unhide HTK]; exact unhide HU15) (by show TRow K w5 _ _ ((b0.turns.take rk).map U64); rw [unhide HTT]; exact unhide HU25) (by show TRow K w5 _ _ ((b0.ages.take rk).map U64); rw [unhide HTA]; exact unhide HU35) (unhide HU4) rfl rfl rfl (by show _ = (b0.turns.take rk).zip (b0.ages.take rk); rw [unhide HTT, unhide HTA, List.zip_map']) (by show (b0.turns.take rk).length = (b0.recs.take rk).length; rw [unhide HTT, unhide HTK]; simp) (by show (b0.ages.take rk).length = (b0.recs.take rk).length; rw [unhide HTA, unhide HTK]; simp)
        refine Calls.mono (agree_any G' K g _ _ _ _ _ _ _ _ hbk.at_ hbk.both.log hbk.first hbk.next hbk.least) ?_
        rintro e9 w9 ⟨rfl, b9⟩
        have HEND : Hid (Book F1 G' K w9 g (.pointer (some lg')) (.pointer (some dg)) s ⟨b0.age + 1, b0.first, e, l1.map (fun x => (x.first, x.age)), false⟩ (b0.takeB l1.length e (if false = true then l1.length else b0.safe)) (.slice q1 rk k1) (.slice q2 rk k2) (.slice q3 rk k3) ∧ (∀ k, G' k → wB.heap.size ≤ k) ∧ Keep K wB w9) := by
          have e0 : b0.takeB l1.length e (if false = true then l1.length else b0.safe) = b0.takeB rk e b0.safe := by rw [← unhide HRK]; rfl
          rw [e0]
          exact ⟨⟨hbk.both.below b9, hbk.at_.below b9, hbk.apF, hbk.apG, hbk.first, hbk.next, hbk.age, hbk.starts, hbk.tl, hbk.al⟩, unhide HGN, ((unhide HK5).trans hkp (fun k hk => Or.inl hk)).trans (Keep.of_below (F := fun _ => False) b9) (fun _ h => h.elim)⟩
        clear hbk hkp b9 c10 c12 c13 c14 c16 c17 f10 f12 f13 f14 f16 f17 r1 r2 r3
        go_wp2_with fail
        go_ret
        exact ⟨rfl, F1, G1, wB, b0, unhide HB0E, unhide HM2, OpenPost.mk (unhide HEND)⟩
end Go.Proofs.YtpkpjmebkikgdaaGreat

/- The statements of layer 7: a book on a device that is up, armed or not; a book that is dead, on a device that is down. -/
namespace Go.Proofs.YtpkpjmebkikgdaaGreat
open Go.RowKit

structure RunU (F G K : Nat → Prop) (w : World) (g : Nat) (lp dp : Value) (s : DK) (L : LG) (b : BK) (rv tv av : Value) (S : Id → Prop) (ids : List Id) (m : Nat) : Prop where
  book : Book F G K w g lp dp s L b rv tv av
  up : s.fell = false
  live : L.fallen = false
  dead : b.dead = false
  lst : Lst b ids
  inv : RInv S s ids b.first b.next b.age b.safe
  right : ∀ y ∈ ids, Right s y
  waits : s.waits.length ≤ 64 * m
  ticks : s.ticks ≤ 64 * m
  next : b.next ≤ 64 * m
  age : b.age ≤ m + 1
  small : m ≤ 1000
structure RunD (F G K : Nat → Prop) (w : World) (g : Nat) (lp dp : Value) (s : DK) (L : LG) (b : BK) (rv tv av : Value) (S : Id → Prop) (ids : List Id) (m : Nat) : Prop where
  held : Held F G K w g lp dp s L b rv tv av
  down : s.fell = true
  fallen : L.fallen = true
  dead : b.dead = true
  lst : Lst b ids
  inv : RInv S s ids b.first b.next b.age b.safe
  waits : s.waits.length ≤ 64 * m
  ticks : s.ticks ≤ 64 * m
  next : b.next ≤ 64 * m
  age : b.age ≤ m + 1
  small : m ≤ 1000
  lnext : L.next ≤ 64 * m
/-- The one or the other, behind something. -/
def Gone (F G K : Nat → Prop) (w w' : World) (g : Nat) (dp : Value) (m : Nat) : Prop :=
  ∃ F' G' K' lp' s' L' b' rv' tv' av' S' ids', (RunU F' G' K' w' g lp' dp s' L' b' rv' tv' av' S' ids' m ∨ RunD F' G' K' w' g lp' dp s' L' b' rv' tv' av' S' ids' m) ∧ Moves (all3 F G K) (all3 F' G' K') w w'
section
variable {F G K : Nat → Prop} {w w' : World} {g : Nat} {lp dp : Value} {s : DK} {L : LG} {b : BK} {rv tv av : Value} {S : Id → Prop} {ids : List Id} {m : Nat}
theorem Held.below (h : Held F G K w g lp dp s L b rv tv av) (hb : Below w.heap.size w w') : Held F G K w' g lp dp s L b rv tv av := ⟨h.both.below hb, h.at_.below hb, h.apF, h.apG⟩
theorem RunU.below (h : RunU F G K w g lp dp s L b rv tv av S ids m) (hb : Below w.heap.size w w') : RunU F G K w' g lp dp s L b rv tv av S ids m := ⟨h.book.below hb, h.up, h.live, h.dead, h.lst, h.inv, h.right, h.waits, h.ticks, h.next, h.age, h.small⟩
theorem RunD.below (h : RunD F G K w g lp dp s L b rv tv av S ids m) (hb : Below w.heap.size w w') : RunD F G K w' g lp dp s L b rv tv av S ids m := ⟨h.held.below hb, h.down, h.fallen, h.dead, h.lst, h.inv, h.waits, h.ticks, h.next, h.age, h.small, h.lnext⟩
theorem RunU.mono {m' : Nat} (h : RunU F G K w g lp dp s L b rv tv av S ids m) (h1 : m ≤ m') (h2 : m' ≤ 1000) : RunU F G K w g lp dp s L b rv tv av S ids m' :=
  ⟨h.book, h.up, h.live, h.dead, h.lst, h.inv, h.right, by have := h.waits; omega, by have := h.ticks; omega, by have := h.next; omega, by have := h.age; omega, h2⟩
theorem RunD.mono {m' : Nat} (h : RunD F G K w g lp dp s L b rv tv av S ids m) (h1 : m ≤ m') (h2 : m' ≤ 1000) : RunD F G K w g lp dp s L b rv tv av S ids m' :=
  ⟨h.held, h.down, h.fallen, h.dead, h.lst, h.inv, by have := h.waits; omega, by have := h.ticks; omega, by have := h.next; omega, by have := h.age; omega, h2, by have := h.lnext; omega⟩
theorem RunU.len (h : RunU F G K w g lp dp s L b rv tv av S ids m) : b.recs.length = ids.length := by rw [h.lst.recs, List.length_map]

theorem runu_append (h : RunU F G K w g lp dp s L b rv tv av S ids m) (hm : m + 1 ≤ 1000) {xv : Value} {x : List UInt8} (hx : Row w xv x) (hroom : x.length ≤ 140737488351232) (hout : ∀ k off n c, xv = .slice (some ⟨k, off, none⟩) n c → x ≠ [] → ¬ F k ∧ ¬ G k ∧ ¬ K k) :
    Calls Tryz.prog 23 #[.pointer (some ⟨g, 0, none⟩), xv] w fun e w' => e = .returned (.bool true) ∧ Gone F G K w w' g dp (m + 1) := by
  have q1 := h.waits
  have q2 := h.ticks
  have q3 := h.next
  have q4 := h.age
  have q5 := h.inv.count
  have q6 := h.len
  have hnx := h.book.next
  have A := app_up (r := x) h.book.both.size h.up h.live
  have w1 := A.waits
  have w2 := A.ticks
  obtain ⟨z, hz⟩ : ∃ z : Id, z = ⟨b.age, b.next, x⟩ := ⟨_, rfl⟩
  have hcnt : (z.cnt : Int) = countN x.length := by rw [hz]; exact Id.cnt_of _
  have hle := h.book.both.log
  obtain ⟨_, _, _, R⟩ := hle
  have r1 := R.ok.le
  have r2 := R.ok.ring
  rw [lz30] at r2
  have hf1 := h.book.first
  by_cases hE4 : appE 256 s L x = 40
  · obtain ⟨f1, f2, f3, f4, f5⟩ := A.falls hE4
    have hzc : z.cnt ≤ 19 := by
      have := count_le (n := (x.length : Int)) (by omega)
      omega
    have hN : (countN (x.length : Int)).toNat = z.cnt := by omega
    have hrm : b.next + z.cnt ≤ b.first + 30 := by omega
    refine (bappend_falls F G K g lp dp s L b rv tv av xv x w h.book hE4 f4 f1 f2 f3 (by omega) (by omega) hx hroom hout (by omega) (by omega) (by omega) (by omega)).mono ?_
    rintro e w' ⟨rfl, F', G', K', rv', tv', av', hH, hM⟩
    rw [hN] at hH
    refine ⟨rfl, F', G', K', lp, _, _, _, rv', tv', av', (fun y => S y ∨ y = z), ids ++ [z], Or.inr ⟨hH, f3, rfl, rfl, ⟨?_, ?_, ?_⟩, ?_, by omega, by omega, ?_, ?_, hm, ?_⟩, hM⟩
    · show b.recs ++ [x] = _; rw [h.lst.recs, List.map_append, hz]; rfl
    · show b.turns ++ [b.next] = _; rw [h.lst.turns, List.map_append, hz]; rfl
    · show b.ages ++ [b.age] = _; rw [h.lst.ages, List.map_append, hz]; rfl
    · rw [hz]
      exact h.inv.appends (L := L) h.book.age h.book.next (by omega) (by rw [← hz]; exact hrm) (by omega) (by omega) f5
    · show b.next + z.cnt ≤ _; omega
    · show b.age ≤ _; omega
    · show L.next ≤ _; omega
  · have a1 := A.which.resolve_left hE4
    obtain ⟨t1, t2, t3, t4⟩ := A.stays hE4
    have t5 : (appL 256 s L x).fallen = false := by rw [t2]; split <;> exact h.live
    refine (bappend_up F G K g lp dp s L b rv tv av xv x w h.book a1 t2 hx hroom hout (by omega) (by omega) (by omega) (by omega)).mono ?_
    rintro e w' ⟨rfl, F', G', K', rv', tv', av', hB, hM⟩
    refine ⟨rfl, F', G', K', lp, appS 256 s L x, appL 256 s L x, b.app (appE 256 s L x) x, rv', tv', av', ?_⟩
    by_cases hE : x.length ≤ 8192 ∧ b.next + z.cnt ≤ b.first + 30
    · have e0 : appE 256 s L x = 0 := by rw [a1, if_neg (by omega), if_neg (by rw [← hcnt]; omega)]
      obtain ⟨eL, eS⟩ := t3 e0
      have ebk : b.app (appE 256 s L x) x = { b with recs := b.recs ++ [x], turns := b.turns ++ [b.next], ages := b.ages ++ [b.age], next := b.next + z.cnt } := by
        unfold BK.app
        rw [if_pos e0, hz]
        rfl
      have hzc : z.cnt ≤ 19 := by
        have := count_le (n := (x.length : Int)) (by omega)
        omega
      refine ⟨(fun y => S y ∨ y = z), ids ++ [z], Or.inl ⟨hB, t1, t5, ?_, ?_, ?_, ?_, by omega, by omega, ?_, ?_, hm⟩, hM⟩
      · rw [ebk]; exact h.dead
      · rw [ebk]
        refine ⟨?_, ?_, ?_⟩
        · show b.recs ++ [x] = _; rw [h.lst.recs, List.map_append, hz]; rfl
        · show b.turns ++ [b.next] = _; rw [h.lst.turns, List.map_append, hz]; rfl
        · show b.ages ++ [b.age] = _; rw [h.lst.ages, List.map_append, hz]; rfl
      · rw [ebk, hz]
        exact h.inv.appends (L := L) h.book.age h.book.next hE.1 (by rw [← hz]; exact hE.2) (by omega) (by omega) eS
      · rw [hz]
        exact h.inv.appended (L := L) h.right h.book.age h.book.next hE.1 (by rw [← hz]; exact hE.2) (by have := h.book.both.size; omega) h.up eS eL
      · rw [ebk]; show b.next + z.cnt ≤ _; omega
      · rw [ebk]; show b.age ≤ _; omega
    · have e0 : appE 256 s L x ≠ 0 := by
        rw [a1]
        split
        · simp
        · rw [if_pos (by rw [← hcnt]; omega)]; simp
      have eS : appS 256 s L x = s := t4 e0
      have ebk : b.app (appE 256 s L x) x = b := by unfold BK.app; rw [if_neg e0]
      exact ⟨S, ids, Or.inl ⟨hB, t1, t5, by rw [ebk]; exact h.dead, by rw [ebk]; exact h.lst, by rw [ebk, eS]; exact h.inv, by rw [eS]; exact h.right, by omega, by omega, by rw [ebk]; omega, by rw [ebk]; omega, hm⟩, hM⟩

theorem runu_free (h : RunU F G K w g lp dp s L b rv tv av S ids m) (i : Nat) (hi : i ≤ ids.length) :
    Calls Tryz.prog 21 #[.pointer (some ⟨g, 0, none⟩), .int .i64 (i : Int)] w fun e w' => e = .returned (.bool true) ∧ Gone F G K w w' g dp m := by
  have q5 := h.inv.count
  have q6 := h.len
  have q7 := h.inv.safeLe
  have q3 := h.next
  refine (bfree_any F G K g lp dp s L b rv tv av i w h.book (by omega) (by omega) (by omega)).mono ?_
  rintro e w' ⟨rfl, rv', tv', av', hB, hK⟩
  have hch : chain b.first (ids.take i) (b.turn i) := by
    unfold BK.turn
    rw [h.lst.turns]
    exact chain_take h.inv.links i
  have hinv : RInv S s (ids.drop i) (b.turn i) b.next b.age (b.safe - i) := by
    have h1 := h.inv
    rw [← List.take_append_drop i ids] at h1
    have h2 := h1.free hch
    rw [List.length_take, Nat.min_eq_left hi] at h2
    exact h2
  refine ⟨rfl, F, G, K, lp, s, _, _, rv', tv', av', S, ids.drop i, Or.inl ⟨hB, h.up, h.live, h.dead, ⟨?_, ?_, ?_⟩, hinv, fun y hy => h.right y (List.mem_of_mem_drop hy), h.waits, h.ticks, h.next, h.age, h.small⟩, hK, fun k hk => Or.inl hk⟩
  · show b.recs.drop i = _; rw [h.lst.recs, List.map_drop]
  · show b.turns.drop i = _; rw [h.lst.turns, List.map_drop]
  · show b.ages.drop i = _; rw [h.lst.ages, List.map_drop]

/-- The device and the log go on: what moves beside the book. -/
theorem all3_of {F' G' : Nat → Prop} (hm : Moves (orF F G) (orF F' G') w w') : Moves (all3 F G K) (all3 F' G' K) w w' := by
  refine ⟨hm.keep.weak (fun k hk => hk.elim Or.inl (fun h => Or.inr (Or.inl h))), fun k hk => ?_⟩
  rcases hk with hk | hk | hk
  · rcases hm.sub k (Or.inl hk) with e | e
    · exact Or.inl (e.elim Or.inl (fun h => Or.inr (Or.inl h)))
    · exact Or.inr e
  · rcases hm.sub k (Or.inr hk) with e | e
    · exact Or.inl (e.elim Or.inl (fun h => Or.inr (Or.inl h)))
    · exact Or.inr e
  · exact Or.inl (Or.inr (Or.inr hk))
def SyncU (F G K : Nat → Prop) (w w' : World) (g : Nat) (lp dp : Value) (L : LG) (b : BK) (rv tv av : Value) (S : Id → Prop) (ids : List Id) (m : Nat) : Prop :=
  ∃ F' s', RunU F' G K w' g lp dp s' L b rv tv av S ids (m + 1) ∧ s'.waits = [] ∧ Moves (all3 F G K) (all3 F' G K) w w'
theorem runu_sync (h : RunU F G K w g lp dp s L b rv tv av S ids m) (hm : m + 1 ≤ 1000) (ha : s.armed ≠ 1) :
    Calls Tryz.prog 13 #[lp] w fun e w' => e = .returned (.int .i64 0) ∧ SyncU F G K w w' g lp dp L b rv tv av S ids m := by
  have q1 := h.waits
  have q2 := h.ticks
  have q3 := h.next
  have q4 := h.age
  refine (wsync_any F G lp dp 256 s L w h.book.both (by omega) (by omega)).mono ?_
  rintro e w' ⟨rfl, F', hB, hM⟩
  have e1 : syncE s L = 0 := by
    unfold syncE DK.flushE
    rw [if_neg (by rw [h.live]; decide), if_neg (by rw [h.up]; decide), if_neg ha]
  have e2 : syncS s L = s.flush := by unfold syncS; rw [if_neg (by rw [h.live]; decide)]
  have e3 : syncL s L = L := by
    unfold syncL DK.flushE
    rw [if_neg (by rw [h.live]; decide), if_neg (by rw [if_neg (by rw [h.up]; decide), if_neg ha]; decide)]
  have e4 : s.flush = { s with kept := keepAll s.kept s.waits, waits := [] }.tick := by
    unfold DK.flush
    rw [if_neg (by rw [h.up]; decide), if_neg ha]
  rw [e1]
  rw [e2, e3] at hB
  obtain ⟨hH, hMM⟩ := held_on h.book.held (Moves.refl _ _) hB hM
  refine ⟨rfl, F', s.flush, ⟨⟨hB, hH.at_, hH.apF, hH.apG, h.book.first, h.book.next, h.book.age, h.book.starts, h.book.tl, h.book.al⟩, ?_, h.live, h.dead, h.lst, h.inv.less (fun k c hc => by rw [flush_may h.up ha hc]; exact may_shown s k), fun y hy i hi => by rw [flush_shown h.up ha]; exact h.right y hy i hi, by rw [e4]; show 0 ≤ _; omega, by rw [e4]; show s.ticks + 1 ≤ _; omega, by omega, by omega, hm⟩, by rw [e4]; rfl, hMM⟩
  rw [e4]
  show (s.armed == 1) = false
  simp [ha]
/-- A Sync by which the device falls. -/
def SyncD (F G K : Nat → Prop) (w w' : World) (g : Nat) (lp dp : Value) (L : LG) (b : BK) (rv tv av : Value) (S : Id → Prop) (ids : List Id) (m : Nat) : Prop :=
  ∃ F' s', Held F' G K w' g lp dp s' L.down b rv tv av ∧ s'.fell = true ∧ RInv S s' ids b.first b.next b.age b.safe ∧ s'.waits.length ≤ 64 * m ∧ s'.ticks ≤ 64 * m + 1 ∧ Moves (all3 F G K) (all3 F' G K) w w'
theorem runu_sync_falls (h : RunU F G K w g lp dp s L b rv tv av S ids m) (hm : m + 1 ≤ 1000) (ha : s.armed = 1) :
    Calls Tryz.prog 13 #[lp] w fun e w' => e = .returned (.int .i64 40) ∧ SyncD F G K w w' g lp dp L b rv tv av S ids m := by
  have q1 := h.waits
  have q2 := h.ticks
  refine (wsync_any F G lp dp 256 s L w h.book.both (by omega) (by omega)).mono ?_
  rintro e w' ⟨rfl, F', hB, hM⟩
  have e0 : s.flushE = 40 := by unfold DK.flushE; rw [if_neg (by rw [h.up]; decide), if_pos ha]
  have e1 : syncE s L = 40 := by unfold syncE; rw [if_neg (by rw [h.live]; decide), e0]
  have e2 : syncS s L = s.tick := by unfold syncS; rw [if_neg (by rw [h.live]; decide)]; unfold DK.flush; rw [if_neg (by rw [h.up]; decide), if_pos ha]
  have e3 : syncL s L = L.down := by unfold syncL; rw [if_neg (by rw [h.live]; decide), if_pos e0]
  rw [e1]
  rw [e2, e3] at hB
  obtain ⟨hH, hMM⟩ := held_on h.book.held (Moves.refl _ _) hB hM
  exact ⟨rfl, F', s.tick, hH, by show (s.armed == 1) = true; rw [ha]; rfl, h.inv.less (fun k c hc => tick_may hc), q1, by show s.ticks + 1 ≤ _; omega, hMM⟩
theorem RunU.allSafe (h : RunU F G K w g lp dp s L b rv tv av S ids m) (hw : s.waits = []) (u : Nat) (hu : u ≤ ids.length) :
    RunU F G K (w.setCell ⟨g, 17, none⟩ (.int .i64 (u : Int))) g lp dp s L { b with safe := u } rv tv av S ids m ∧ Keep (all3 F G K) w (w.setCell ⟨g, 17, none⟩ (.int .i64 (u : Int))) := by
  have hkp : Keep (fun k => k = g) w (w.setCell ⟨g, 17, none⟩ (.int .i64 (u : Int))) := sets_keep g [(17, .int .i64 (u : Int))] w
  have hat : BAt K (w.setCell ⟨g, 17, none⟩ (.int .i64 (u : Int))) g dp lp { b with safe := u } rv tv av := by
    refine h.book.at_.anew ?_ hkp.size (fun k hk hlt => hkp.block k hlt hk) h.book.at_.recs h.book.at_.turns h.book.at_.ages h.book.at_.two
    exact (sets_block g _ [(17, Value.int .i64 (u : Int))] w _ h.book.at_.blk).trans rfl
  have hK : Keep K w (w.setCell ⟨g, 17, none⟩ (.int .i64 (u : Int))) := hkp.weak (fun k hk => by rw [hk]; exact h.book.at_.fg)
  have hi := h.inv
  refine ⟨⟨⟨⟨h.book.both.dev.stays hK.size (fun k hk => hK.block k (h.book.both.dev.lt k hk) (h.book.apF k hk)), h.book.both.log.keep hK (fun k hk hg => h.book.apG k hg hk), h.book.both.apart, h.book.both.size⟩, hat, h.book.apF, h.book.apG, h.book.first, h.book.next, h.book.age, h.book.starts, h.book.tl, h.book.al⟩, h.up, h.live, h.dead, ⟨h.lst.recs, h.lst.turns, h.lst.ages⟩, ?_, h.right, h.waits, h.ticks, h.next, h.age, h.small⟩, hK.weak (fun k hk => Or.inr (Or.inr hk))⟩
  exact ⟨hi.links, hi.ring, hi.rise, hi.ok, hi.uniq, hi.news, hi.same, hi.gap, hi.mem, hi.seen, fun y hy i hi' c hc => by rw [may_nowait hw hc]; exact h.right y (List.mem_of_mem_take hy) i hi', hu⟩

/-- A log is opened anew. -/
theorem reopen {l1 l2 : List Id} (hH : Held F G K w g lp dp s L b rv tv av) (hd : b.dead = true → L.fallen = true ∧ s.waits = []) (hl : Lst b (l1 ++ l2)) (hinv : RInv S s (l1 ++ l2) b.first b.next b.age b.safe) (hup : s.fell = false) (h1 : ∀ y ∈ l1, Right s y) (h2 : ∀ z l3, l2 = z :: l3 → ¬ Right s z) (hw : s.waits = [] ∨ l2 = [])
    (fell : Bool) (hfe : fell = true → s.waits = []) (q1 : s.waits.length ≤ 64 * m) (q2 : s.ticks ≤ 64 * m) (q3 : b.next ≤ 64 * m) (q4 : b.age ≤ m + 1) (hm : m + 1 ≤ 1000) (q5 : L.next ≤ 64 * m) :
    Calls Tryz.prog 11 #[.pointer (some ⟨g, 0, none⟩), .bool fell] w fun x w' => x = .returned (.bool true) ∧ Gone F G K w w' g dp (m + 1) := by
  obtain ⟨e, c1, c2, c3, c4, c5⟩ := hinv.opens h1 h2 (b.age + 1) (by omega)
  have hle := BK.least_of hl
  have hlB : leastOf b.age (l1 ++ l2) ≤ b.age := by
    cases hx : l1 ++ l2 with
    | nil => exact Nat.le_refl _
    | cons x l => exact (hinv.ok x (hinv.mem x (by rw [hx]; simp))).2
  obtain ⟨m0, d1, d2⟩ := (chain_append _ _ _ _).1 hinv.links
  have hme : m0 = e := by rw [← chain_end _ _ _ d1, ← chain_end _ _ _ c1]
  subst hme
  have hle2 := chain_le _ _ _ d2
  have hle1 := chain_le _ _ _ d1
  have hcnt := hinv.count
  refine (bopen_any F G K g lp dp s L b rv tv av l1 l2 m0 fell w hH hd hup hl (by rw [hle]; exact c2) c3 c4 c5 (by omega) (by omega) (by omega) (by omega) (by omega) (by omega) (by omega)).mono ?_
  rintro x w' ⟨rfl, F1, G1, wB, b0, hb0, hM1, G', lp', rv', tv', av', hB, hG, hK⟩
  subst hb0
  refine ⟨rfl, F1, G', K, lp', s, _, _, rv', tv', av', S, l1, Or.inl ⟨hB, hup, rfl, rfl, ⟨?_, ?_, ?_⟩, ?_, h1, by omega, by omega, ?_, ?_, hm⟩, hM1.keep.trans (hK.weak (G := all3 F1 G1 K) (fun k hk => Or.inr (Or.inr hk))) hM1.sub, fun k hk => ?_⟩
  · show b.recs.take l1.length = _; rw [hl.recs, List.map_append, List.take_left' (by simp)]
  · show b.turns.take l1.length = _; rw [hl.turns, List.map_append, List.take_left' (by simp)]
  · show b.ages.take l1.length = _; rw [hl.ages, List.map_append, List.take_left' (by simp)]
  · refine hinv.reopen h1 h2 c1 hw (b.age + 1) (by omega) _ ?_ c3
    split
    · rename_i hf; exact Or.inr ⟨hfe hf, Nat.le_refl _⟩
    · exact Or.inl (Nat.le_refl _)
  · show m0 ≤ _; omega
  · show b.age + 1 ≤ _; omega
  · rcases hk with hk | hk | hk
    · exact hM1.sub k (Or.inl hk)
    · exact Or.inr (Nat.le_trans hM1.keep.size (hG k hk))
    · exact hM1.sub k (Or.inr (Or.inr hk))
end
end Go.Proofs.YtpkpjmebkikgdaaGreat
