/- The landed package wal: what the sector of a turn bears. -/
import Derived.Test.YtdpoiieblbmofaaWalOwn3
import Derived.Test.YtdpoiieblbmofaaDiskOwn8
import Derived.Test.YtdpoiieblbmofaaSecOpen2
import Derived.Test.YtdpoiieblbmofaaFrOwn4
namespace Go.Proofs.Ytdpoiieblbmofaa
open Go.RowKit

/-- What an opening reads by, as a value. -/
def rdC (dp : Value) (n : Int) (o A : Nat) : Array Value := #[.func (.func 43) #[dp] #[], .int .i64 n, .int .i64 3, .int .i64 13, .int .i64 (lz n), .int .i64 (13 + lz n), .int .i64 (13 + 2 * lz n), .int .i64 (lz n), .int .i64 (13 + 3 * lz n), .int .i64 (lseg n), .int .u64 (o : Int), .int .u64 (A : Int)]
/-- The bytes of each turn's sector, as a device shows them. -/
def shW (s : DK) (n : Int) (t : Nat) : List UInt8 := s.shown (logN n t).toNat

theorem twelve_cells {w : World} {g e : Nat} {a0 a1 a2 a3 a4 a5 a6 a7 a8 a9 a10 a11 : Value} (h : w.heap[g]? = some (.cells #[a0, a1, a2, a3, a4, a5, a6, a7, a8, a9, a10, a11] e (0, 0))) :
    w.cell? ⟨g, 0, none⟩ = some a0 ∧ w.cell? ⟨g, 1, none⟩ = some a1 ∧ w.cell? ⟨g, 2, none⟩ = some a2 ∧ w.cell? ⟨g, 3, none⟩ = some a3 ∧ w.cell? ⟨g, 4, none⟩ = some a4 ∧ w.cell? ⟨g, 5, none⟩ = some a5 ∧ w.cell? ⟨g, 6, none⟩ = some a6 ∧ w.cell? ⟨g, 7, none⟩ = some a7 ∧ w.cell? ⟨g, 8, none⟩ = some a8 ∧ w.cell? ⟨g, 9, none⟩ = some a9 ∧
    w.cell? ⟨g, 10, none⟩ = some a10 ∧ w.cell? ⟨g, 11, none⟩ = some a11 := by
  refine ⟨?_, ?_, ?_, ?_, ?_, ?_, ?_, ?_, ?_, ?_, ?_, ?_⟩
  all_goals (rw [cell_of_row w g _ _ e (0, 0) h]; rfl)
theorem ten_below {w w' : World} {g : Nat} {a0 a1 a2 a3 a4 a5 a6 a7 a8 a9 : Value} (h : w.cell? ⟨g, 0, none⟩ = some a0 ∧ w.cell? ⟨g, 1, none⟩ = some a1 ∧ w.cell? ⟨g, 2, none⟩ = some a2 ∧ w.cell? ⟨g, 3, none⟩ = some a3 ∧ w.cell? ⟨g, 4, none⟩ = some a4 ∧ w.cell? ⟨g, 5, none⟩ = some a5 ∧ w.cell? ⟨g, 6, none⟩ = some a6 ∧ w.cell? ⟨g, 7, none⟩ = some a7 ∧ w.cell? ⟨g, 8, none⟩ = some a8 ∧ w.cell? ⟨g, 9, none⟩ = some a9) (hb : Below w.heap.size w w') :
    w'.cell? ⟨g, 0, none⟩ = some a0 ∧ w'.cell? ⟨g, 1, none⟩ = some a1 ∧ w'.cell? ⟨g, 2, none⟩ = some a2 ∧ w'.cell? ⟨g, 3, none⟩ = some a3 ∧ w'.cell? ⟨g, 4, none⟩ = some a4 ∧ w'.cell? ⟨g, 5, none⟩ = some a5 ∧ w'.cell? ⟨g, 6, none⟩ = some a6 ∧ w'.cell? ⟨g, 7, none⟩ = some a7 ∧ w'.cell? ⟨g, 8, none⟩ = some a8 ∧ w'.cell? ⟨g, 9, none⟩ = some a9 := by
  obtain ⟨h0, h1, h2, h3, h4, h5, h6, h7, h8, h9⟩ := h
  have k : ∀ {o : Nat} {v : Value}, w.cell? ⟨g, o, none⟩ = some v → w'.cell? ⟨g, o, none⟩ = some v := fun hc => (hb.cell (World.block_lt_of_cell? w _ hc)).trans hc
  exact ⟨k h0, k h1, k h2, k h3, k h4, k h5, k h6, k h7, k h8, k h9⟩
theorem ent_read (args : Array Value) (w : World) : (callFunc 43 args).run Try.prog w = .ok (.enter 43 args) w := by
  first | kernel_rfl | rfl | simp [callFunc, Try.func43]
theorem log_there (s : DK) (n : Int) (t : Nat) (hfit : Fits n) (hn : (s.n : Int) = n) : s.noSuch (logN n t) = false := by
  obtain ⟨z1, z2, z3, _⟩ := lz_le n hfit
  unfold DK.noSuch logN
  rw [decide_eq_false_iff_not]
  have : t % (lz n).toNat < (lz n).toNat := Nat.mod_lt _ (by omega)
  omega
theorem read_log (s : DK) (n : Int) (t : Nat) (hfit : Fits n) (hn : (s.n : Int) = n) (hf : s.fell = false) : s.readE (logN n t) = 0 ∧ s.readB (logN n t) = shW s n t := by
  have h := log_there s n t hfit hn
  unfold DK.readE DK.readB shW
  rw [hf, h]
  exact ⟨rfl, rfl⟩

def fr0 (dp : Value) (n : Int) (o A : Nat) (w : World) : World := (w.alloc (.cells (rdC dp n o A) 88)).alloc (.cells #[.int .u64 0, .int .u64 0, .int .i64 0, .slice none 0 0] 91)
theorem fr0_below (dp : Value) (n : Int) (o A : Nat) (w : World) : Below w.heap.size w (fr0 dp n o A w) := ((Below.refl _ _).alloc (Nat.le_refl _) _).alloc (by simp) _
theorem fr0_res (dp : Value) (n : Int) (o A : Nat) (w : World) : Blk4 (fr0 dp n o A w) (w.heap.size + 1) 91 (.int .u64 0) (.int .u64 0) (.int .i64 0) (.slice none 0 0) := by
  have := heap_alloc_new (w.alloc (.cells (rdC dp n o A) 88)) (.cells #[.int .u64 0, .int .u64 0, .int .i64 0, .slice none 0 0] 91)
  rw [show (w.alloc (.cells (rdC dp n o A) 88)).heap.size = w.heap.size + 1 by simp] at this
  exact this
theorem fr0_box (dp : Value) (n : Int) (o A : Nat) (w : World) : (fr0 dp n o A w).heap[w.heap.size]? = some (.cells (rdC dp n o A) 88 (0, 0)) :=
  (Below.heap_alloc _ _ _ (by simp)).trans (heap_alloc_new w _)

set_option maxRecDepth 20000 in
set_option maxHeartbeats 2000000 in
theorem wframe_far (dp : Value) (n : Int) (o A t : Nat) (w : World) (hfit : Fits n) (ho : o ≤ t) (ht : t < 9223372036854775808) (hR : (lz n).toNat ≤ t - o) :
    Calls Try.prog 84 #[.agg (rdC dp n o A), .int .u64 (t : Int)] w fun e w' => e = .returned (.tuple #[.agg #[.int .u64 0, .int .u64 0, .int .i64 0, .slice none 0 0], .int .i64 0]) ∧ Below w.heap.size w w' := by
  obtain ⟨z1, z2, _⟩ := lz_le n hfit
  have HW0 : Hid ((w.alloc (.cells (rdC dp n o A) 88)).alloc (.cells #[.int .u64 0, .int .u64 0, .int .i64 0, .slice none 0 0] 91) = fr0 dp n o A w) := rfl
  have HB0 := hide (fr0_below dp n o A w)
  have HK0 := hide (fr0_res dp n o A w)
  have HX0 := hide (fr0_box dp n o A w)
  unfold rdC at HW0 HX0 ⊢
  obtain ⟨x0, x1, x2, x3, x4, x5, x6, x7, x8, x9, x10, x11⟩ := twelve_cells (unhide HX0)
  obtain ⟨c0, c1, c2, c3, fz⟩ := (unhide HK0).cells
  have f0 := fz 0
  have f1 := fz 1
  have f2 := fz 2
  have f3 := fz 3
  have hge : lz n ≤ (t : Int) - (o : Int) := by omega
  have h0 : 0 ≤ (t : Int) - (o : Int) := by omega
  have h1 : (t : Int) - (o : Int) < 9223372036854775808 := by omega
  generalize lz n = z at *
  generalize fr0 dp n o A w = W0 at *
  clear fz HX0 HK0 ho ht hR hfit
  go_enter Try.func84, Try.ntmps84
  go_wp2_with fail
  rw [unhide HW0]
  refine bodyPost_ret (v := .tuple #[.agg #[.int .u64 0, .int .u64 0, .int .i64 0, .slice none 0 0], .int .i64 0]) (by simp [results, Try.results84, go_sem, *]) rfl ⟨rfl, ?_⟩
  have := unhide HB0
  repeat' (first
      | assumption
      | exact unhide (by assumption)
      | refine Below.setCell ?_ (by first | exact Nat.le_refl _ | (simp; done) | (simp; omega) | omega) _
      | refine Below.alloc ?_ (by first | exact Nat.le_refl _ | (simp; done) | (simp; omega) | omega) _
      | refine Below.drew ?_)

/-- Where a frame that is built stands still in the result's cells. -/
theorem wend_below {w W : World} {g : Nat} (hb : Below w.heap.size w W) (hg : w.heap.size ≤ g) (a b c d : Value) : Below w.heap.size w ((((W.setCell ⟨g, 0, none⟩ a).setCell ⟨g, 1, none⟩ b).setCell ⟨g, 2, none⟩ c).setCell ⟨g, 3, none⟩ d) :=
  (((hb.setCell (p := ⟨g, 0, none⟩) hg a).setCell (p := ⟨g, 1, none⟩) hg b).setCell (p := ⟨g, 2, none⟩) hg c).setCell (p := ⟨g, 3, none⟩) hg d

set_option maxRecDepth 20000 in
set_option maxHeartbeats 4000000 in
theorem wframe_near (F : Nat → Prop) (dp : Value) (s : DK) (n : Int) (o A t : Nat) (w : World) (hD : DRep F w dp s) (hfit : Fits n) (hn : (s.n : Int) = n) (hf : s.fell = false) (ho : o ≤ t) (ht : t < 9223372036854775808) (hR : ¬ (lz n).toNat ≤ t - o) :
    Calls Try.prog 84 #[.agg (rdC dp n o A), .int .u64 (t : Int)] w fun e w' => ∃ v, e = .returned (.tuple #[fv (bearsW (shW s n t) t).1 v, .int .i64 (bearsW (shW s n t) t).2]) ∧ Mine w' w.heap.size v (bearsW (shW s n t) t).1.data ∧ Below w.heap.size w w' := by
  obtain ⟨z1, z2, _⟩ := lz_le n hfit
  obtain ⟨re, rb⟩ := read_log s n t hfit hn hf
  have HW0 : Hid ((w.alloc (.cells (rdC dp n o A) 88)).alloc (.cells #[.int .u64 0, .int .u64 0, .int .i64 0, .slice none 0 0] 91) = fr0 dp n o A w) := rfl
  have HB0 := hide (fr0_below dp n o A w)
  have HK0 := hide (fr0_res dp n o A w)
  have HX0 := hide (fr0_box dp n o A w)
  have hlen : (shW s n t).length = 512 := hD.ok.shown _
  have hent := ent_read
  have HD := hide hD
  obtain ⟨dg, hdg⟩ : ∃ dg, dp = .pointer (some dg) := hD.ptr
  subst hdg
  have HLA := hide (fun w' => ologat_any n t w' hfit (by omega))
  have HRD := hide (fun w' (hb : Below w.heap.size w w') => oread_any F _ s (logN n t) w' (hD.stays hb.size (fun k hk => hb.block k (hD.lt k hk))))
  rw [re, rb] at HRD
  unfold layV at HLA
  unfold rdC at HW0 HX0 ⊢
  obtain ⟨X, hX⟩ : ∃ X, X = bearsW (shW s n t) t := ⟨_, rfl⟩
  rw [← hX]
  unfold bearsW at hX
  have HX := hide hX
  have HLN := hide hlen
  generalize shW s n t = S at *
  have hlt : ¬ lz n ≤ (t : Int) - (o : Int) := by omega
  have h0 : 0 ≤ (t : Int) - (o : Int) := by omega
  have h1 : (t : Int) - (o : Int) < 9223372036854775808 := by omega
  generalize hfr : fr0 (.pointer (some dg)) n o A w = W0 at *
  have hbd : Below w.heap.size w W0.drew := (unhide HB0).drew
  have hxd : W0.drew.heap[w.heap.size]? = _ := unhide HX0
  obtain ⟨x0, x1, x2, x3, x4, x5, x6, x7, x8, x9, x10, x11⟩ := twelve_cells (unhide HX0)
  obtain ⟨y0, y1, y2, y3, y4, y5, y6, y7, y8, y9, y10, y11⟩ := twelve_cells hxd
  have HBD := hide hbd
  generalize lz n = z at *
  generalize lseg n = m at *
  generalize logN n t = a at *
  clear hxd hbd hX hlen ho ht hR hfit re rb hD hf hn hfr y10 y11
  go_enter Try.func84, Try.ntmps84
  go_wp2_with fail
  rw [unhide HW0]
  clear HW0 h0 h1 hlt x10 x11
  go_region_held3 (fun w' => w'.cell? ⟨w.heap.size, 0, none⟩ = some (.func (.func 43) #[.pointer (some dg)] #[]) ∧ w'.cell? ⟨w.heap.size, 1, none⟩ = some (.int .i64 n) ∧ w'.cell? ⟨w.heap.size, 2, none⟩ = some (.int .i64 3) ∧ w'.cell? ⟨w.heap.size, 3, none⟩ = some (.int .i64 13) ∧ w'.cell? ⟨w.heap.size, 4, none⟩ = some (.int .i64 z) ∧ w'.cell? ⟨w.heap.size, 5, none⟩ = some (.int .i64 (13 + z)) ∧ w'.cell? ⟨w.heap.size, 6, none⟩ = some (.int .i64 (13 + 2 * z)) ∧ w'.cell? ⟨w.heap.size, 7, none⟩ = some (.int .i64 z) ∧ w'.cell? ⟨w.heap.size, 8, none⟩ = some (.int .i64 (13 + 3 * z)) ∧ w'.cell? ⟨w.heap.size, 9, none⟩ = some (.int .i64 m)) (first | assumption | go_keep)
    (first
      | (go_at_call 80; refine Calls.mono (unhide HLA _) ?_; rintro e w1 ⟨rfl, b1⟩; have hk1 := ten_below ⟨y0, y1, y2, y3, y4, y5, y6, y7, y8, y9⟩ b1; have HB1 := hide ((unhide HBD).trans (b1.mono (unhide HBD).size)); have Hb1 := hide b1; clear b1)
      | (go_at_call 43; refine Calls.mono (unhide HRD _ (unhide HB1)) ?_; rintro e w2 ⟨t2, rfl, m2, b2⟩; have hk2 := ten_below hk1 b2))
  have HB2 := hide ((unhide HB1).trans (b2.mono (unhide HB1).size))
  have HK2 := hide (((unhide HK0).below ((Below.refl _ _).drew)).below (((unhide Hb1)).trans (b2.mono (unhide Hb1).size)))
  have HO := hide (openC t2 S w2 (by rw [unhide HLN]; omega) m2.row)
  obtain ⟨p2, q2, l2, rfl, hl2⟩ := m2.row.shape
  have HXX := hide (unhide HX)
  generalize hop : openR S = OP at *
  obtain ⟨K, T, PL, E⟩ := OP
  simp only at HO
  clear hl2 m2 b2 hk1 hk2 Hb1 HB1 HBD HB0 HK0 HX0 HLA HRD HX y0 y1 y2 y3 y4 y5 y6 y7 y8 y9 x0 x1 x2 x3 x4 x5 x6 x7 x8 x9 hent HD z1 z2
  go_wp2_with fail
  refine Calls.mono (unhide HO) ?_
  rintro e w3 ⟨t3, rfl, m3, b3⟩
  have HB3 := hide ((unhide HB2).trans (b3.mono (unhide HB2).size))
  have HK3 := hide ((unhide HK2).below b3)
  have HM3 := hide m3
  have HOP := hide hop
  obtain ⟨p3, q3, l3, rfl, hl3⟩ := m3.row.shape
  obtain ⟨c0, c1, c2, c3, fz⟩ := (unhide HK3).cells
  have f0 := fz 0
  have f1 := fz 1
  have f2 := fz 2
  have f3 := fz 3
  have hlt : w.heap.size + 1 < w3.heap.size := World.block_lt_of_cell? w3 _ c0
  have hne : ¬ w3.heap.size = w.heap.size + 1 := by omega
  have hne' : ¬ w.heap.size + 1 = w3.heap.size := by omega
  clear hl3 m3 b3 fz HB2 HK2 HO hop
  by_cases hE : E = 0
  · subst hE
    by_cases hk : K = 77
    · subst hk
      by_cases hT : T = t
      · subst hT
        have hXV := unhide HXX
        rw [if_neg (by simp), if_neg (by simp)] at hXV
        have HXV := hide hXV
        have hTI : ((T : Int) == (T : Int)) = true := by simp
        have hpl : PL.length ≤ 496 := by
          have h := (sealed_open S (by rw [unhide HOP]) (by rw [unhide HOP]; simp)).2.2
          rw [unhide HOP] at h
          exact h
        have hal : Below w3.heap.size w3 (w3.alloc (.cells #[.int .u8 77, .int .u64 (T : Int), .slice p3 l3 q3] 93)) := (Below.refl _ _).alloc (Nat.le_refl _) _
        have HRF := hide (read_any (.slice p3 l3 q3) PL _ ((unhide HM3).row.below hal) (by omega))
        have HK4 := hide ((unhide HK3).below hal)
        have HB4 := hide ((unhide HB3).trans (hal.mono (unhide HB3).size))
        have hs4 : (w3.alloc (.cells #[.int .u8 77, .int .u64 (T : Int), .slice p3 l3 q3] 93)).heap.size = w3.heap.size + 1 := by simp
        have HS4 := hide hs4
        obtain ⟨RF, hRF⟩ : ∃ RF, RF = readF PL := ⟨_, rfl⟩
        rw [← hRF] at HRF HXV
        obtain ⟨f, E2⟩ := RF
        simp only at HRF HXV
        unfold fv at HRF
        clear hXV HXX hal hs4 hpl HOP HM3 hRF HK3 c0 c1 c2 c3 f0 f1 f2 f3
        go_wp2_with fail
        refine Calls.mono (unhide HRF) ?_
        rintro e w5 ⟨t5, rfl, m5, b5⟩
        have HB5 := hide ((unhide HB4).trans (b5.mono (unhide HB4).size))
        have HK5 := hide ((unhide HK4).below b5)
        have HM5 := hide m5
        obtain ⟨p5, q5, l5, rfl, hl5⟩ := m5.row.shape
        obtain ⟨c0, c1, c2, c3, fz⟩ := (unhide HK5).cells
        have f0 := fz 0
        have f1 := fz 1
        have f2 := fz 2
        have f3 := fz 3
        have hs5 := b5.size
        rw [unhide HS4] at hs5
        have hne5 : ¬ w5.heap.size = w.heap.size + 1 := by omega
        have hne5' : ¬ w.heap.size + 1 = w5.heap.size := by omega
        have hlt5 : w.heap.size + 1 < w5.heap.size := by omega
        rw [unhide HS4] at HM5
        clear hl5 m5 b5 fz HB4 HK4 HRF HS4
        by_cases hE2 : E2 = 0
        · subst hE2
          have hXV := unhide HXV
          rw [if_neg (by simp)] at hXV
          have HXV := hide hXV
          clear hXV
          go_wp2
          refine bodyPost_ret (v := .tuple #[.agg #[.int .u64 (f.age : Int), .int .u64 (f.first : Int), .int .i64 f.of, .slice p5 l5 q5], .int .i64 0]) (by simp [results, Try.results84, go_sem, *]) rfl ⟨.slice p5 l5 q5, ?_, ?_, ?_⟩
          · rw [unhide HXV]; rfl
          · rw [unhide HXV]
            have h := unhide HM5
            refine Mine.below (w := (((w5.setCell ⟨w.heap.size + 1, 0, none⟩ (.int .u64 (f.age : Int))).setCell ⟨w.heap.size + 1, 1, none⟩ (.int .u64 (f.first : Int))).setCell ⟨w.heap.size + 1, 2, none⟩ (.int .i64 f.of)).setCell ⟨w.heap.size + 1, 3, none⟩ (.slice p5 l5 q5)) ?_ ((Below.refl _ _).alloc (Nat.le_refl _) _)
            refine Mine.base (base := w3.heap.size + 1) ?_ (by omega)
            refine Mine.set (Mine.set (Mine.set (Mine.set h ?_ _ _) ?_ _ _) ?_ _ _) ?_ _ _
            all_goals omega
          · have hbb := unhide HB5
            repeat' (first
              | assumption
              | refine Below.setCell ?_ (by first | exact Nat.le_refl _ | (simp; done) | (simp; omega) | omega) _
              | refine Below.alloc ?_ (by first | exact Nat.le_refl _ | (simp; done) | (simp; omega) | omega) _
              | refine Below.drew ?_)
        · have hXV := unhide HXV
          rw [if_pos hE2] at hXV
          have HXV := hide hXV
          have HBX := hide (unhide HB5)
          have hE' : (E2 == 0) = false := by rw [beq_eq_false_iff_ne]; exact hE2
          clear hXV hE2 HM5
          go_wp2
          refine bodyPost_ret (v := .tuple #[.agg #[.int .u64 0, .int .u64 0, .int .i64 0, .slice none 0 0], .int .i64 0]) (by simp [results, Try.results84, go_sem, *]) rfl ⟨.slice none 0 0, ?_, ?_, ?_⟩
          · rw [unhide HXV]; rfl
          · rw [unhide HXV]; exact mine_nil _ _
          · have hbb := unhide HBX
            repeat' (first
              | assumption
              | refine Below.setCell ?_ (by first | exact Nat.le_refl _ | (simp; done) | (simp; omega) | omega) _
              | refine Below.alloc ?_ (by first | exact Nat.le_refl _ | (simp; done) | (simp; omega) | omega) _
              | refine Below.drew ?_)
      · have hXV := unhide HXX
        rw [if_neg (by simp), if_pos (Or.inr hT)] at hXV
        have HXV := hide hXV
        have HBX := hide (unhide HB3)
        have hTI : ((T : Int) == (t : Int)) = false := by rw [beq_eq_false_iff_ne]; omega
        clear hXV HXX hT HM3 HOP

        go_wp2
        refine bodyPost_ret (v := .tuple #[.agg #[.int .u64 0, .int .u64 0, .int .i64 0, .slice none 0 0], .int .i64 0]) (by simp [results, Try.results84, go_sem, *]) rfl ⟨.slice none 0 0, ?_, ?_, ?_⟩
        · rw [unhide HXV]; rfl
        · rw [unhide HXV]; exact mine_nil _ _
        · have hbb := unhide HBX
          repeat' (first
            | assumption
            | refine Below.setCell ?_ (by first | exact Nat.le_refl _ | (simp; done) | (simp; omega) | omega) _
            | refine Below.alloc ?_ (by first | exact Nat.le_refl _ | (simp; done) | (simp; omega) | omega) _
            | refine Below.drew ?_)
    · have hXV := unhide HXX
      rw [if_neg (by simp), if_pos (Or.inl hk)] at hXV
      have HXV := hide hXV
      have HBX := hide (unhide HB3)
      have hKI : ((K.toNat : Int) == 77) = false := by
        rw [beq_eq_false_iff_ne]
        intro e
        exact hk (UInt8.toNat_inj.1 (by simpa using (show K.toNat = 77 by omega)))
      generalize (K.toNat : Int) = KK at *
      clear hXV HXX hk HM3 HOP

      go_wp2
      refine bodyPost_ret (v := .tuple #[.agg #[.int .u64 0, .int .u64 0, .int .i64 0, .slice none 0 0], .int .i64 0]) (by simp [results, Try.results84, go_sem, *]) rfl ⟨.slice none 0 0, ?_, ?_, ?_⟩
      · rw [unhide HXV]; rfl
      · rw [unhide HXV]; exact mine_nil _ _
      · have hbb := unhide HBX
        repeat' (first
          | assumption
          | refine Below.setCell ?_ (by first | exact Nat.le_refl _ | (simp; done) | (simp; omega) | omega) _
          | refine Below.alloc ?_ (by first | exact Nat.le_refl _ | (simp; done) | (simp; omega) | omega) _
          | refine Below.drew ?_)
  · have hXV := unhide HXX
    rw [if_pos hE] at hXV
    have HXV := hide hXV
    have HBX := hide (unhide HB3)
    have hE' : (E == 0) = false := by rw [beq_eq_false_iff_ne]; exact hE
    clear hXV HXX hE HM3 HOP

    go_wp2
    refine bodyPost_ret (v := .tuple #[.agg #[.int .u64 0, .int .u64 0, .int .i64 0, .slice none 0 0], .int .i64 5]) (by simp [results, Try.results84, go_sem, *]) rfl ⟨.slice none 0 0, ?_, ?_, ?_⟩
    · rw [unhide HXV]; rfl
    · rw [unhide HXV]; exact mine_nil _ _
    · have hbb := unhide HBX
      repeat' (first
        | assumption
        | refine Below.setCell ?_ (by first | exact Nat.le_refl _ | (simp; done) | (simp; omega) | omega) _
        | refine Below.alloc ?_ (by first | exact Nat.le_refl _ | (simp; done) | (simp; omega) | omega) _
        | refine Below.drew ?_)

theorem wframe_any (F : Nat → Prop) (dp : Value) (s : DK) (n : Int) (o A t : Nat) (w : World) (hD : DRep F w dp s) (hfit : Fits n) (hn : (s.n : Int) = n) (hf : s.fell = false) (ho : o ≤ t) (ht : t < 9223372036854775808) :
    Calls Try.prog 84 #[.agg (rdC dp n o A), .int .u64 (t : Int)] w fun e w' => ∃ v, e = .returned (.tuple #[fv (frameW (shW s n) (lz n).toNat o t).1 v, .int .i64 (frameW (shW s n) (lz n).toNat o t).2]) ∧ Mine w' w.heap.size v (frameW (shW s n) (lz n).toNat o t).1.data ∧ Below w.heap.size w w' := by
  unfold frameW
  by_cases hR : (lz n).toNat ≤ t - o
  · rw [if_pos hR]
    refine (wframe_far dp n o A t w hfit ho ht hR).mono ?_
    rintro e w1 ⟨rfl, b1⟩
    exact ⟨.slice none 0 0, rfl, mine_nil _ _, b1⟩
  · rw [if_neg hR]
    exact wframe_near F dp s n o A t w hD hfit hn hf ho ht hR
end Go.Proofs.Ytdpoiieblbmofaa
