/- The landed package wal: the records that an opening reads. -/
import Derived.Test.YtdpoiieblbmofaaWalOwn8
import Derived.Test.YtdpoiieblbmofaaWalOwn2
import Derived.Test.YtdpoiieblbmofaaWalRecs
import Derived.Test.YtdpoiieblbmofaaFrOwn8
import Derived.Deep.LoopGhost
namespace Go.Proofs.Ytdpoiieblbmofaa
open Go.RowKit

theorem Try.infoRow : (Try.prog.info? 27).map (fun i => (i.zero, i.size, i.bytes)) = some (some (.slice none 0 0), 1, 24) := by kernel_rfl

theorem join_ok {l : List Fr} (h : joinE l = 0) : IsRec l := by
  unfold joinE at h
  split at h
  · assumption
  · cases h

theorem thirteen_below {w w' : World} {g gl : Nat} {a0 a1 a2 a3 a4 a5 a6 a7 a8 a9 a10 a11 b : Value} (h : w.cell? ⟨g, 0, none⟩ = some a0 ∧ w.cell? ⟨g, 1, none⟩ = some a1 ∧ w.cell? ⟨g, 2, none⟩ = some a2 ∧ w.cell? ⟨g, 3, none⟩ = some a3 ∧ w.cell? ⟨g, 4, none⟩ = some a4 ∧ w.cell? ⟨g, 5, none⟩ = some a5 ∧ w.cell? ⟨g, 6, none⟩ = some a6 ∧ w.cell? ⟨g, 7, none⟩ = some a7 ∧ w.cell? ⟨g, 8, none⟩ = some a8 ∧ w.cell? ⟨g, 9, none⟩ = some a9 ∧ w.cell? ⟨g, 10, none⟩ = some a10 ∧ w.cell? ⟨g, 11, none⟩ = some a11 ∧ w.cell? ⟨gl, 12, none⟩ = some b) (hb : Below w.heap.size w w') :
    w'.cell? ⟨g, 0, none⟩ = some a0 ∧ w'.cell? ⟨g, 1, none⟩ = some a1 ∧ w'.cell? ⟨g, 2, none⟩ = some a2 ∧ w'.cell? ⟨g, 3, none⟩ = some a3 ∧ w'.cell? ⟨g, 4, none⟩ = some a4 ∧ w'.cell? ⟨g, 5, none⟩ = some a5 ∧ w'.cell? ⟨g, 6, none⟩ = some a6 ∧ w'.cell? ⟨g, 7, none⟩ = some a7 ∧ w'.cell? ⟨g, 8, none⟩ = some a8 ∧ w'.cell? ⟨g, 9, none⟩ = some a9 ∧ w'.cell? ⟨g, 10, none⟩ = some a10 ∧ w'.cell? ⟨g, 11, none⟩ = some a11 ∧ w'.cell? ⟨gl, 12, none⟩ = some b := by
  obtain ⟨h0, h1, h2, h3, h4, h5, h6, h7, h8, h9, h10, h11, h12⟩ := h
  have k : ∀ {p : Addr} {v : Value}, w.cell? p = some v → w'.cell? p = some v := fun hc => (hb.cell (World.block_lt_of_cell? w _ hc)).trans hc
  exact ⟨k h0, k h1, k h2, k h3, k h4, k h5, k h6, k h7, k h8, k h9, k h10, k h11, k h12⟩

/-- The age of the first of some frames, where they lie. -/
theorem first_age {w1 : World} {base : Nat} {vp : Option Addr} {n vc : Nat} {l : List (Fr × Value)} (h : FOwn w1 base (.slice vp n vc) l) (hne : frs l ≠ []) : ∃ g, vp = some ⟨g, 0, none⟩ ∧ base ≤ g ∧ w1.cell? ⟨g, 0, none⟩ = some (.int .u64 (((frs l).headD zeroF).age : Int)) := by
  cases l with
  | nil => exact absurd rfl hne
  | cons q r =>
    rcases h.1.2 with ⟨_, e2⟩ | ⟨g, cap, cur, e1, hb, hh, _⟩
    · simp at e2
    · simp only [Value.slice.injEq] at e1
      obtain ⟨rfl, rfl, rfl⟩ := e1
      have := h.1.cells (g := g) rfl 0 (.int .u64 (q.1.age : Int)) (by simp [cellsL, frC])
      rw [Addr.add_lit] at this
      exact ⟨g, rfl, hb, this⟩

set_option maxRecDepth 20000 in
set_option maxHeartbeats 1000000 in
theorem wrecall_any (F G : Nat → Prop) (lp dp : Value) (s : DK) (n : Int) (o A p : Nat) (L : LG) (w : World) (hD : DRep F w dp s) (hL : LRep G w lp dp n L) (hap : ∀ k, F k → ¬ G k) (hfit : Fits n) (hn : (s.n : Int) = n) (hf : s.fell = false) (hof : o ≤ 4611686018427387904) (hA : A < 18446744073709551616)
    (hfirst : L.first = o) (hnext : o ≤ L.next) (hring : L.next ≤ o + (lz n).toNat) :
    Calls Try.prog 42 #[lp, .agg (rdC dp n o A), .int .u64 (p : Int)] w fun e w' => ∃ v, e = .returned (.tuple #[v, .int .i64 (recallW (frameW (shW s n) (lz n).toNat o) A ((lz n).toNat + 1) p [] L).2.2]) ∧
      ∃ G' H, RecsAt H w' v (recallW (frameW (shW s n) (lz n).toNat o) A ((lz n).toNat + 1) p [] L).1 ∧ LRep G' w' lp dp n (recallW (frameW (shW s n) (lz n).toNat o) A ((lz n).toNat + 1) p [] L).2.1 ∧ (∀ k, H k → w.heap.size ≤ k) ∧ (∀ k, H k → ¬ G' k) ∧ Moves G G' w w' := by
  obtain ⟨i0, hi, hz0, hz1, hz2⟩ := info_parts Try.infoRow
  obtain ⟨z1, z2, _⟩ := lz_le n hfit
  obtain ⟨W0, hW0⟩ : ∃ W0, W0 = w.alloc (.cells (rdC dp n o A) 88) := ⟨_, rfl⟩
  have hB0 : Below w.heap.size w W0 := by rw [hW0]; exact (Below.refl _ _).alloc (Nat.le_refl _) _
  have hX0 : W0.heap[w.heap.size]? = some (.cells (rdC dp n o A) 88 (0, 0)) := by rw [hW0]; exact heap_alloc_new w _
  have hsz0 : W0.heap.size = w.heap.size + 1 := by rw [hW0]; simp
  have hGlt := hL.lt
  have hFlt := hD.lt
  have HPT := hide (fun (t p' : Nat) w' (hk : Keep G W0 w') (h1 : o ≤ t) (h2 : t + 64 < 9223372036854775808) => wparts_any F dp s n o A t p' w' ((hD.stays hB0.size (fun k hF => hB0.block k (hFlt k hF))).stays hk.size (fun k hF => hk.block k (Nat.lt_of_lt_of_le (hFlt k hF) hB0.size) (hap k hF))) hfit hn hf h1 h2)
  have HPL := hide (fun (t p' : Nat) (h : (partsW (frameW (shW s n) (lz n).toNat o) A t p').1 ≠ []) (h2 : o ≤ t) => parts_len (shW s n) (lz n).toNat o A t p' h h2)
  have HPE := hide (fun (t p' : Nat) => parts_err (shW s n) (lz n).toNat o A t p')
  generalize frameW (shW s n) (lz n).toNat o = fr at *
  obtain ⟨R, hR⟩ : ∃ R, R = (lz n).toNat := ⟨_, rfl⟩
  obtain ⟨Res, hRes⟩ : ∃ Res, Res = recallW fr A ((lz n).toNat + 1) p [] L := ⟨_, rfl⟩
  rw [← hRes]
  rw [← hR] at hRes hring HPL
  obtain ⟨g, sv, hlp, RL⟩ := hL
  subst hlp
  have HRES := hide hRes
  have HW0 := hide hW0
  have HX0 := hide hX0
  have HB0 := hide hB0
  have HGL := hide hGlt
  have HL0 : Hid (LRep G W0 (.pointer (some ⟨g, 0, none⟩)) dp n L) := ⟨g, sv, rfl, RL.below hB0⟩
  have HS0 := hide hsz0
  have HOF := hide hof
  have HAA := hide hA
  have HFI := hide hfirst
  have HNX := hide hnext
  have HRG := hide hring
  have HRL : Hid (R = (lz n).toNat) := hR
  have hR8 : R ≤ 8190 := by omega
  have HR8 := hide hR8
  unfold rdC at HW0 HX0 HPT ⊢
  generalize hzz : lz n = z at *
  have HZ := hide hzz
  generalize lseg n = m at *
  clear hzz hW0 hX0 hB0 hRes RL hGlt hFlt hD hap hfit hn hf hof hA hfirst hnext hring hR hsz0 z1 z2 hR8
  go_enter Try.func42, Try.ntmps42
  go_wp2_with fail
  rw [← unhide HW0]
  go_loopg [2, 8] (R + 1) (fun k lv rv wr => ∃ (p' : Nat) (ls : List (List UInt8)) (L' : LG) (G' H : Nat → Prop), lv = .int .u64 (p' : Int) ∧ Hid (RecsAt H wr rv ls ∧ (∀ k, H k → W0.heap.size ≤ k) ∧ ∀ k, H k → ¬ G' k) ∧ Hid (LRep G' wr (.pointer (some ⟨g, 0, none⟩)) dp n L') ∧ Hid (Moves G G' W0 wr) ∧ Hid (R + 1 ≤ k + (L'.next - o) ∧ L'.first = o ∧ o ≤ L'.next ∧ L'.next ≤ o + R ∧ ls.length ≤ L'.next - o) ∧ Hid (Res = recallW fr A k p' ls L'))
  case atStart => exact ⟨p, [], L, G, fun _ => False, rfl, ⟨RecsAt.nil _, fun _ h => h.elim, fun _ h => h.elim⟩, unhide HL0, Moves.refl _ _, ⟨by omega, unhide HFI, unhide HNX, unhide HRG, Nat.zero_le _⟩, unhide HRES⟩
  case round =>
    obtain ⟨p', ls, L', G', H, rfl, hrec, hL', hM', hb, hres⟩ := hrel
    obtain ⟨b1, b2, b3, b4, b5⟩ := unhide hb
    obtain ⟨k', rfl⟩ : ∃ k', gk = k' + 1 := ⟨gk - 1, by omega⟩
    have hrv := unhide hres
    unfold recallW at hrv
    have hXr : wr.heap[w.heap.size]? = _ := ((unhide hM').keep.block w.heap.size (by rw [unhide HS0]; omega) (fun hg => by have := unhide HGL _ hg; omega)).trans (unhide HX0)
    obtain ⟨y0, y1, y2, y3, y4, y5, y6, y7, y8, y9, y10, y11⟩ := twelve_cells hXr
    obtain ⟨g', sv', hg', RL⟩ := unhide hL'
    cases hg'
    have y12 := (fifteen_cells RL.blk).2.2.2.1
    have hdw : Below wr.heap.size wr wr.drew := (Below.refl _ _).drew
    have hkd : Keep G W0 wr.drew := (unhide hM').keep.trans (Keep.of_below (F := fun _ => False) hdw) (fun _ h => h.elim)
    have HC := hide (unhide HPT L'.next p' wr.drew hkd b3 (by have := unhide HOF; have := unhide HR8; omega))
    have hpe := unhide HPE L'.next p'
    have hpl := unhide HPL L'.next p'
    have HK13 := hide (thirteen_below ⟨y0, y1, y2, y3, y4, y5, y6, y7, y8, y9, y10, y11, y12⟩ hdw)
    obtain ⟨v0, v1, v2, v3, v4, v5, v6, v7, v8, v9, v10, v11, v12⟩ := unhide HK13
    generalize hP : partsW fr A L'.next p' = P at *
    obtain ⟨PL, PE⟩ := P
    simp only at HC hpe hpl hrv
    have HRV := hide hrv
    have HPEE := hide hpe
    have HPLL := hide hpl
    clear hrv hpe hpl hP hres RL hdw hkd hXr
    go_wp2_with fail
    go_region_held3 (fun w' => w'.cell? ⟨w.heap.size, 0, none⟩ = some (.func (.func 43) #[dp] #[]) ∧ w'.cell? ⟨w.heap.size, 1, none⟩ = some (.int .i64 n) ∧ w'.cell? ⟨w.heap.size, 2, none⟩ = some (.int .i64 3) ∧ w'.cell? ⟨w.heap.size, 3, none⟩ = some (.int .i64 13) ∧ w'.cell? ⟨w.heap.size, 4, none⟩ = some (.int .i64 z) ∧ w'.cell? ⟨w.heap.size, 5, none⟩ = some (.int .i64 (13 + z)) ∧ w'.cell? ⟨w.heap.size, 6, none⟩ = some (.int .i64 (13 + 2 * z)) ∧ w'.cell? ⟨w.heap.size, 7, none⟩ = some (.int .i64 z) ∧ w'.cell? ⟨w.heap.size, 8, none⟩ = some (.int .i64 (13 + 3 * z)) ∧ w'.cell? ⟨w.heap.size, 9, none⟩ = some (.int .i64 m) ∧ w'.cell? ⟨w.heap.size, 10, none⟩ = some (.int .u64 (o : Int)) ∧ w'.cell? ⟨w.heap.size, 11, none⟩ = some (.int .u64 (A : Int)) ∧ w'.cell? ⟨g, 12, none⟩ = some (.int .u64 (L'.next : Int))) (first | assumption | go_keep)
      (first | (go_at_call 63; refine Calls.mono (unhide HC) ?_; rintro e w1 ⟨vv1, l1, rfl, hF1, hfr1, bb1⟩; have hk1 := thirteen_below (unhide HK13) bb1))
    have hbw1 : Below wr.heap.size wr w1 := ((Below.refl _ _).drew).trans bb1
    have hrec1 := (unhide hrec).1.below hbw1
    have hL1 := (unhide hL').below hbw1
    have hM1 := (unhide hM').trans (Moves.of_below hbw1)
    have HSW : Hid (wr.heap.size ≤ w1.heap.size ∧ ∀ k, G' k → k < wr.heap.size) := ⟨hbw1.size, (unhide hL').lt⟩
    have HREC1 : Hid (RecsAt H w1 u8 ls ∧ (∀ k, H k → W0.heap.size ≤ k) ∧ (∀ k, H k → ¬ G' k) ∧ ∀ k, H k → k < wr.heap.size) := ⟨hrec1, (unhide hrec).2.1, (unhide hrec).2.2, (unhide hrec).1.2.2⟩
    have HL1 := hide hL1
    have HM1 := hide hM1
    have hBe : ∀ w', Moves G G' W0 w' → Moves G G' w w' := fun _ h => ⟨(Keep.of_below (F := G) (unhide HB0)).trans h.keep (fun _ h => Or.inl h), fun k hk => (h.sub k hk).imp_right (fun h => Nat.le_trans (unhide HB0).size h)⟩
    have HBE := hide hBe
    have HSZ : Hid (w.heap.size ≤ W0.heap.size) := (unhide HB0).size
    obtain ⟨vp, vc, hve, hvl, hvm, _⟩ := hF1.fl.shape
    subst hve
    have HF1 := hide hF1
    have HFR1 := hide hfr1
    clear hrec hL' hM' hbw1 hrec1 hL1 hM1 y0 y1 y2 y3 y4 y5 y6 y7 y8 y9 y10 y11 y12 v0 v1 v2 v3 v4 v5 v6 v7 v8 v9 v10 v11 v12 hk1 HK13 HC bb1 hF1 hfr1 hBe hvl hvm
    by_cases hPE : PE = 0
    · subst hPE
      have hrv := unhide HRV
      rw [if_neg (by simp)] at hrv
      have HJN := hide (join_any _ l1 w1 (unhide HF1).fl)
      rw [unhide HFR1] at HJN
      by_cases hJ : joinE PL = 0
      · rw [if_neg (by simpa using hJ)] at hrv
        rw [hJ] at HJN
        have hne : PL ≠ [] := (join_ok hJ).1
        obtain ⟨c1, c2, c3, c4⟩ := unhide HPLL hne b3
        have hl1 : l1.length = PL.length := by rw [← unhide HFR1, length_frs]
        have HLL : Hid (1 ≤ l1.length ∧ l1.length ≤ 32 ∧ L'.next + l1.length ≤ o + R ∧ (PL.headD zeroF).age < A ∧ l1.length = PL.length) := by unfold Hid; omega
        obtain ⟨g5, hg5, hb5, hc5⟩ := first_age (unhide HF1) (by rw [unhide HFR1]; exact hne)
        subst hg5
        rw [unhide HFR1] at hc5
        have HC5 := hide hc5
        have HB5 : Hid (wr.heap.size ≤ g5) := hb5
        have hl0 : (0 : Int) < (l1.length : Int) := by omega
        have hl32 : (l1.length : Int) ≤ 32 := by omega
        have HRV2 := hide hrv
        have HBB : Hid (R + 1 ≤ k' + 1 + (L'.next - o) ∧ L'.first = o ∧ o ≤ L'.next ∧ L'.next ≤ o + R ∧ ls.length ≤ L'.next - o) := ⟨b1, b2, b3, b4, b5⟩
        clear hrv hJ hne hl1 c1 c2 c3 c4 hc5 hb5 b1 b2 b3 b4 b5 HRV HPEE HPLL
        go_wp2_with fail
        refine Calls.mono (unhide HJN) ?_
        rintro e w2 ⟨t2, rfl, m2, bb2⟩
        have hrec2 := (unhide HREC1).1.below bb2
        have hL2 := (unhide HL1).below bb2
        have hM2 := (unhide HM1).trans (Moves.of_below bb2)
        have hc52 := (bb2.cell (World.block_lt_of_cell? _ _ (unhide HC5))).trans (unhide HC5)
        obtain ⟨tp2, tc2, tl2, rfl, htl⟩ := m2.row.shape
        clear htl
        obtain ⟨W3, hW3⟩ : ∃ W3, W3 = w2.alloc (.cells #[.slice tp2 tl2 tc2] 27) := ⟨_, rfl⟩
        have hb23 : Below w2.heap.size w2 W3 := by rw [hW3]; exact (Below.refl _ _).alloc (Nat.le_refl _) _
        have hc3 : W3.cell? ⟨w2.heap.size, 0, none⟩ = some (.slice tp2 tl2 tc2) := by rw [hW3]; exact cell_one (heap_alloc_new w2 _)
        obtain ⟨vs, hvs⟩ := hrec2.owns
        have hvs3 := owns_below4 hvs hb23
        have HMORE := hide (fun v' w4 hown hg hv => hrec2.more (v' := v') (w2 := w4) (bs := joinB PL) hb23 m2 (fun k hk => Nat.lt_of_lt_of_le ((unhide HREC1).2.2.2 k hk) (unhide HSW).1) bb2.size hg hv hown)
        have HVS := hide hvs
        have HVS3 := hide hvs3
        have HW3 := hide hW3
        have HL3 := hide (hL2.below hb23)
        have HM3 := hide (hM2.trans (Moves.of_below hb23))
        have HC53 := hide ((hb23.cell (World.block_lt_of_cell? _ _ hc52)).trans hc52)
        have HLS : Hid (ls.length ≤ 8190) := by have := unhide HR8; have := unhide HBB; unfold Hid; omega
        have HS2 : Hid (w1.heap.size ≤ W3.heap.size) := Nat.le_trans bb2.size hb23.size
        have HOWB : Hid (∀ k, u8.ownBlock = some k → H k) := (unhide HREC1).1.2.1
        have HWN : Hid (∀ k, W3.heap.size = k → ¬ G' k) := fun k hk hg => by have := (unhide HSW).2 k hg; have := (unhide HSW).1; have := bb2.size; have := hb23.size; omega
        clear hrec2 hL2 hM2 hc52 hb23 hvs hvs3 hW3 m2 bb2 HJN
        go_wp2_with (at_builtin; rw [← unhide HW3]; refine wpList_append_gen rfl _ _ 36 rfl 0 27 i0 _ Try.underlying36 hi hz0 1 24 (by omega) hz1 hz2 rfl u8 ls.length vs rfl (unhide HVS3) ⟨w2.heap.size, 0, none⟩ 1 1 [.slice tp2 tl2 tc2] rfl rfl ?c1 ?c2 ?c3 ?c4 (Nat.zero_le _) ?_)
        case c1 =>
          intro j u hj
          match j, hj with
          | 0, hj => simp at hj; subst hj; simpa [Addr.add] using hc3
        case c2 => intro u hu; simp at hu; subst hu; rfl
        case c3 => have := unhide HLS; unfold maxLen; omega
        case c4 => have := unhide HLS; omega
        intro v' w4 hown4 hgrow4 hvb4
        obtain ⟨H', hrec4, hH'⟩ := unhide HMORE v' w4 (fun vs' hvs' => by rw [owns_unique hvs' (unhide HVS)]; exact hown4) hgrow4 hvb4
        have hK4 := grown_keep hgrow4
        have hL4 := (unhide HL3).keep hK4 (fun k hk => (unhide HREC1).2.2.1 k (unhide HOWB k hk))
        have hM4 : Moves G G' W0 w4 := ⟨(unhide HM3).keep.trans hK4 (fun k hk => Or.inr ((unhide HREC1).2.1 k (unhide HOWB k hk))), fun k hk => (unhide HM3).sub k hk⟩
        have hHG : ∀ k, H' k → ¬ G' k := fun k hk hg => by
          rcases hH' k hk with h | h
          · exact (unhide HREC1).2.2.1 k h hg
          · have := (unhide HSW).2 k hg; have := (unhide HSW).1; omega
        have hHW : ∀ k, H' k → W0.heap.size ≤ k := fun k hk => by
          rcases hH' k hk with h | h
          · exact (unhide HREC1).2.1 k h
          · have := (unhide HM1).keep.size; omega
        have hc54 := (hK4.cell (p := ⟨g5, 0, none⟩) (World.block_lt_of_cell? _ _ (unhide HC53)) (fun hx => by have h1 := (unhide HREC1).2.2.2 g5 (unhide HOWB g5 hx); have h2 := unhide HB5; omega)).trans (unhide HC53)
        obtain ⟨vs4, hvs4⟩ := hrec4.owns
        have HREC4 := hide (And.intro hrec4 (And.intro hHW hHG))
        have HM4 := hide hM4
        have HL4 := hide hL4
        have HAD := hide (wadd_any G' _ dp n L' (PL.headD zeroF).age l1.length w4 hL4 (unhide HLL).1 (by rw [(unhide HBB).2.1, unhide HZ, ← unhide HRL]; exact (unhide HLL).2.2.1) (by have := unhide HLL; have := unhide HOF; have := unhide HR8; omega) (by have := unhide HLL; have := unhide HAA; omega))
        have HSP : Hid (∃ q nn cc, v' = .slice q nn cc) := by
          rcases hvs4.2 with ⟨e1, _⟩ | ⟨g6, cap6, cur6, e1, _⟩
          · exact ⟨_, _, _, e1⟩
          · exact ⟨_, _, _, e1⟩
        have hrvv := unhide HRV2
        rw [← (unhide HLL).2.2.2.2] at hrvv
        have HRV3 := hide hrvv
        generalize (PL.headD zeroF).age = AG at *
        clear hrec4 hH' hK4 hL4 hM4 hHG hHW hvs4 hown4 hgrow4 hvb4 hc3 hrvv HRV2 HMORE HVS HVS3 HW3 HL3 HM3 HC53 HC5
        go_wp2_with fail
        refine Calls.mono (unhide HAD) ?_
        rintro e w5 ⟨rfl, G5, hl5, hm5⟩
        have hrec5 := (unhide HREC4).1.keep hm5.keep (unhide HREC4).2.2
        have hHG5 : ∀ k, H' k → ¬ G5 k := fun k hk hg => by
          rcases hm5.sub k hg with h | h
          · exact (unhide HREC4).2.2 k hk h
          · have := (unhide HREC4).1.2.2 k hk; omega
        have HREC5 := hide (And.intro hrec5 (And.intro (unhide HREC4).2.1 hHG5))
        have HL5 := hide hl5
        have HM5 := hide ((unhide HM4).trans hm5)
        clear hrec5 hHG5 hl5 hm5 HAD hc54 hl0 hl32
        go_wp2_with fail
        go_roundg k'
        case measure => omega
        case rel => exact ⟨AG, _, _, G5, H', rfl, unhide HREC5, unhide HL5, unhide HM5, by
          have hb := unhide HBB
          have hl := unhide HLL
          refine ⟨?_, hb.2.1, ?_, ?_, ?_⟩
          · show R + 1 ≤ k' + (L'.next + l1.length - o); omega
          · show o ≤ L'.next + l1.length; omega
          · exact hl.2.2.1
          · rw [List.length_append]; show ls.length + 1 ≤ L'.next + l1.length - o; omega, unhide HRV3⟩
      · rw [if_pos hJ] at hrv
        have hJ' : (joinE PL == 0) = false := by rw [beq_eq_false_iff_ne]; exact hJ
        have HRV2 := hide hrv
        generalize joinE PL = JE at *
        generalize joinB PL = JB at *
        clear hrv hJ HRV
        go_wp2_with fail
        refine Calls.mono (unhide HJN) ?_
        rintro e w2 ⟨t2, rfl, m2, bb2⟩
        have hrec2 := (unhide HREC1).1.below bb2
        have hL2 := (unhide HL1).below bb2
        have hM2 := (unhide HM1).trans (Moves.of_below bb2)
        obtain ⟨tp2, tc2, tl2, rfl, htl⟩ := m2.row.shape
        have HEN := hide (And.intro hrec2 (And.intro hL2 hM2))
        clear htl m2 bb2 hrec2 hL2 hM2 HJN b1 b2 b3 b4 b5
        go_wp2_with fail
        go_ret2
        exact ⟨_, by rw [unhide HRV2]; rfl, G', H, by rw [unhide HRV2]; exact (unhide HEN).1, by rw [unhide HRV2]; exact (unhide HEN).2.1, fun k hk => Nat.le_trans (unhide HSZ) ((unhide HREC1).2.1 k hk), (unhide HREC1).2.2.1, unhide HBE _ (unhide HEN).2.2⟩
    · have hrv := unhide HRV
      rw [if_pos hPE] at hrv
      have HRV2 := hide hrv
      have hPE' : (PE == 0) = false := by rw [beq_eq_false_iff_ne]; exact hPE
      clear hrv HRV hPE b1 b2 b3 b4 b5 HPEE HPLL
      go_wp2_with fail
      go_ret2
      exact ⟨_, by rw [unhide HRV2]; rfl, G', fun _ => False, by rw [unhide HRV2]; exact RecsAt.nil _, by rw [unhide HRV2]; exact unhide HL1, fun _ h => h.elim, fun _ h => h.elim, unhide HBE _ (unhide HM1)⟩
end Go.Proofs.Ytdpoiieblbmofaa
