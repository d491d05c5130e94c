/- Texts of ours, one behind the other: WalOwn7, WalOwn8, WalOwn9, WalOwn10, WalRaw2. -/
import Derived.Test.YtpkpjmebkikgdaaG1
import Derived.Test.YtpkpjmebkikgdaaG4
import Derived.Test.YtpkpjmebkikgdaaG5
import Derived.Test.YtpkpjmebkikgdaaG11
import Derived.Test.YtpkpjmebkikgdaaG13
import Derived.Test.YtpkpjmebkikgdaaG22
import Derived.Test.YtpkpjmebkikgdaaG24
import Derived.Test.YtpkpjmebkikgdaaG27
import Derived.Test.YtpkpjmebkikgdaaG28
import Derived.Test.YtpkpjmebkikgdaaG29
import Derived.Deep.LoopGhost
/- The landed package wal: what the sector of a turn bears. -/
namespace Go.Proofs.Ytpkpjmebkikgdaa
open Go.RowKit

/-- What an opening reads by, as a value. -/
def rdC (dp : Value) (n : Int) (o A : Nat) : Array Value := #[.func (.func 24) #[dp] #[], .int .i64 n, .int .i64 3, .int .i64 13, .int .i64 (lz n), .int .i64 (13 + lz n), .int .i64 (13 + 2 * lz n), .int .i64 (lz n), .int .i64 (13 + 3 * lz n), .int .i64 (lseg n), .int .u64 (o : Int), .int .u64 (A : Int)]
/-- The bytes of each turn's sector, as a device shows them. -/
def shW (s : DK) (n : Int) (t : Nat) : List UInt8 := s.shown (logN n t).toNat

theorem twelve_cells {w : World} {g e : Nat} {a0 a1 a2 a3 a4 a5 a6 a7 a8 a9 a10 a11 : Value} (h : w.heap[g]? = some (.cells #[a0, a1, a2, a3, a4, a5, a6, a7, a8, a9, a10, a11] e (0, 0))) :
    w.cell? ⟨g, 0, none⟩ = some a0 ∧ w.cell? ⟨g, 1, none⟩ = some a1 ∧ w.cell? ⟨g, 2, none⟩ = some a2 ∧ w.cell? ⟨g, 3, none⟩ = some a3 ∧ w.cell? ⟨g, 4, none⟩ = some a4 ∧ w.cell? ⟨g, 5, none⟩ = some a5 ∧ w.cell? ⟨g, 6, none⟩ = some a6 ∧ w.cell? ⟨g, 7, none⟩ = some a7 ∧ w.cell? ⟨g, 8, none⟩ = some a8 ∧ w.cell? ⟨g, 9, none⟩ = some a9 ∧
    w.cell? ⟨g, 10, none⟩ = some a10 ∧ w.cell? ⟨g, 11, none⟩ = some a11 := by
  refine ⟨?_, ?_, ?_, ?_, ?_, ?_, ?_, ?_, ?_, ?_, ?_, ?_⟩
  all_goals (rw [cell_of_row w g _ _ e (0, 0) h]; rfl)
theorem ten_below {w w' : World} {g : Nat} {a0 a1 a2 a3 a4 a5 a6 a7 a8 a9 : Value} (h : w.cell? ⟨g, 0, none⟩ = some a0 ∧ w.cell? ⟨g, 1, none⟩ = some a1 ∧ w.cell? ⟨g, 2, none⟩ = some a2 ∧ w.cell? ⟨g, 3, none⟩ = some a3 ∧ w.cell? ⟨g, 4, none⟩ = some a4 ∧ w.cell? ⟨g, 5, none⟩ = some a5 ∧ w.cell? ⟨g, 6, none⟩ = some a6 ∧ w.cell? ⟨g, 7, none⟩ = some a7 ∧ w.cell? ⟨g, 8, none⟩ = some a8 ∧ w.cell? ⟨g, 9, none⟩ = some a9) (hb : Below w.heap.size w w') :
    w'.cell? ⟨g, 0, none⟩ = some a0 ∧ w'.cell? ⟨g, 1, none⟩ = some a1 ∧ w'.cell? ⟨g, 2, none⟩ = some a2 ∧ w'.cell? ⟨g, 3, none⟩ = some a3 ∧ w'.cell? ⟨g, 4, none⟩ = some a4 ∧ w'.cell? ⟨g, 5, none⟩ = some a5 ∧ w'.cell? ⟨g, 6, none⟩ = some a6 ∧ w'.cell? ⟨g, 7, none⟩ = some a7 ∧ w'.cell? ⟨g, 8, none⟩ = some a8 ∧ w'.cell? ⟨g, 9, none⟩ = some a9 := by
  obtain ⟨h0, h1, h2, h3, h4, h5, h6, h7, h8, h9⟩ := h
  have k : ∀ {o : Nat} {v : Value}, w.cell? ⟨g, o, none⟩ = some v → w'.cell? ⟨g, o, none⟩ = some v := fun hc => (hb.cell (World.block_lt_of_cell? w _ hc)).trans hc
  exact ⟨k h0, k h1, k h2, k h3, k h4, k h5, k h6, k h7, k h8, k h9⟩
theorem ent_read (args : Array Value) (w : World) : (callFunc 24 args).run Try.prog w = .ok (.enter 24 args) w := by
  first | kernel_rfl | rfl | simp [callFunc, Try.func24]
theorem log_there (s : DK) (n : Int) (t : Nat) (hfit : Fits n) (hn : (s.n : Int) = n) : s.noSuch (logN n t) = false := by
  obtain ⟨z1, z2, z3, _⟩ := lz_le n hfit
  unfold DK.noSuch logN
  rw [decide_eq_false_iff_not]
  have : t % (lz n).toNat < (lz n).toNat := Nat.mod_lt _ (by omega)
  omega
theorem read_log (s : DK) (n : Int) (t : Nat) (hfit : Fits n) (hn : (s.n : Int) = n) (hf : s.fell = false) : s.readE (logN n t) = 0 ∧ s.readB (logN n t) = shW s n t := by
  have h := log_there s n t hfit hn
  unfold DK.readE DK.readB shW
  rw [hf, h]
  exact ⟨rfl, rfl⟩

def fr0 (dp : Value) (n : Int) (o A : Nat) (w : World) : World := (w.alloc (.cells (rdC dp n o A) 69)).alloc (.cells #[.int .u64 0, .int .u64 0, .int .i64 0, .slice none 0 0] 72)
theorem fr0_below (dp : Value) (n : Int) (o A : Nat) (w : World) : Below w.heap.size w (fr0 dp n o A w) := ((Below.refl _ _).alloc (Nat.le_refl _) _).alloc (by simp) _
theorem fr0_res (dp : Value) (n : Int) (o A : Nat) (w : World) : Blk4 (fr0 dp n o A w) (w.heap.size + 1) 72 (.int .u64 0) (.int .u64 0) (.int .i64 0) (.slice none 0 0) := by
  have := heap_alloc_new (w.alloc (.cells (rdC dp n o A) 69)) (.cells #[.int .u64 0, .int .u64 0, .int .i64 0, .slice none 0 0] 72)
  rw [show (w.alloc (.cells (rdC dp n o A) 69)).heap.size = w.heap.size + 1 by simp] at this
  exact this
theorem fr0_box (dp : Value) (n : Int) (o A : Nat) (w : World) : (fr0 dp n o A w).heap[w.heap.size]? = some (.cells (rdC dp n o A) 69 (0, 0)) :=
  (Below.heap_alloc _ _ _ (by simp)).trans (heap_alloc_new w _)

set_option maxRecDepth 20000 in
set_option maxHeartbeats 2000000 in
theorem wframe_far (dp : Value) (n : Int) (o A t : Nat) (w : World) (hfit : Fits n) (ho : o ≤ t) (ht : t < 9223372036854775808) (hR : (lz n).toNat ≤ t - o) :
    Calls Try.prog 53 #[.agg (rdC dp n o A), .int .u64 (t : Int)] w fun e w' => e = .returned (.tuple #[.agg #[.int .u64 0, .int .u64 0, .int .i64 0, .slice none 0 0], .int .i64 0]) ∧ Below w.heap.size w w' := by
  obtain ⟨z1, z2, _⟩ := lz_le n hfit
  have HW0 : Hid ((w.alloc (.cells (rdC dp n o A) 69)).alloc (.cells #[.int .u64 0, .int .u64 0, .int .i64 0, .slice none 0 0] 72) = fr0 dp n o A w) := rfl
  have HB0 := hide (fr0_below dp n o A w)
  have HK0 := hide (fr0_res dp n o A w)
  have HX0 := hide (fr0_box dp n o A w)
  unfold rdC at HW0 HX0 ⊢
  obtain ⟨x0, x1, x2, x3, x4, x5, x6, x7, x8, x9, x10, x11⟩ := twelve_cells (unhide HX0)
  obtain ⟨c0, c1, c2, c3, fz⟩ := (unhide HK0).cells
  have f0 := fz 0
  have f1 := fz 1
  have f2 := fz 2
  have f3 := fz 3
  have hge : lz n ≤ (t : Int) - (o : Int) := by omega
  have h0 : 0 ≤ (t : Int) - (o : Int) := by omega
  have h1 : (t : Int) - (o : Int) < 9223372036854775808 := by omega
  generalize lz n = z at *
  generalize fr0 dp n o A w = W0 at *
  clear fz HX0 HK0 ho ht hR hfit
  go_enter Try.func53, Try.ntmps53
  go_wp2_with fail
  rw [unhide HW0]
  refine bodyPost_ret (v := .tuple #[.agg #[.int .u64 0, .int .u64 0, .int .i64 0, .slice none 0 0], .int .i64 0]) (by simp [results, Try.results53, go_sem, *]) rfl ⟨rfl, ?_⟩
  have := unhide HB0
  repeat' (first
      | assumption
      | exact unhide (by assumption)
      | refine Below.setCell ?_ (by first | exact Nat.le_refl _ | (simp; done) | (simp; omega) | omega) _
      | refine Below.alloc ?_ (by first | exact Nat.le_refl _ | (simp; done) | (simp; omega) | omega) _
      | refine Below.drew ?_)

/-- Where a frame that is built stands still in the result's cells. -/
theorem wend_below {w W : World} {g : Nat} (hb : Below w.heap.size w W) (hg : w.heap.size ≤ g) (a b c d : Value) : Below w.heap.size w ((((W.setCell ⟨g, 0, none⟩ a).setCell ⟨g, 1, none⟩ b).setCell ⟨g, 2, none⟩ c).setCell ⟨g, 3, none⟩ d) :=
  (((hb.setCell (p := ⟨g, 0, none⟩) hg a).setCell (p := ⟨g, 1, none⟩) hg b).setCell (p := ⟨g, 2, none⟩) hg c).setCell (p := ⟨g, 3, none⟩) hg d

set_option maxRecDepth 20000 in
set_option maxHeartbeats 4000000 in
theorem wframe_near (F : Nat → Prop) (dp : Value) (s : DK) (n : Int) (o A t : Nat) (w : World) (hD : DRep F w dp s) (hfit : Fits n) (hn : (s.n : Int) = n) (hf : s.fell = false) (ho : o ≤ t) (ht : t < 9223372036854775808) (hR : ¬ (lz n).toNat ≤ t - o) :
    Calls Try.prog 53 #[.agg (rdC dp n o A), .int .u64 (t : Int)] w fun e w' => ∃ v, e = .returned (.tuple #[fv (bearsW (shW s n t) t).1 v, .int .i64 (bearsW (shW s n t) t).2]) ∧ Mine w' w.heap.size v (bearsW (shW s n t) t).1.data ∧ Below w.heap.size w w' := by
  obtain ⟨z1, z2, _⟩ := lz_le n hfit
  obtain ⟨re, rb⟩ := read_log s n t hfit hn hf
  have HW0 : Hid ((w.alloc (.cells (rdC dp n o A) 69)).alloc (.cells #[.int .u64 0, .int .u64 0, .int .i64 0, .slice none 0 0] 72) = fr0 dp n o A w) := rfl
  have HB0 := hide (fr0_below dp n o A w)
  have HK0 := hide (fr0_res dp n o A w)
  have HX0 := hide (fr0_box dp n o A w)
  have hlen : (shW s n t).length = 512 := hD.ok.shown _
  have hent := ent_read
  have HD := hide hD
  obtain ⟨dg, hdg⟩ : ∃ dg, dp = .pointer (some dg) := hD.ptr
  subst hdg
  have HLA := hide (fun w' => ologat_any n t w' hfit (by omega))
  have HRD := hide (fun w' (hb : Below w.heap.size w w') => oread_any F _ s (logN n t) w' (hD.stays hb.size (fun k hk => hb.block k (hD.lt k hk))))
  rw [re, rb] at HRD
  unfold layV at HLA
  unfold rdC at HW0 HX0 ⊢
  obtain ⟨X, hX⟩ : ∃ X, X = bearsW (shW s n t) t := ⟨_, rfl⟩
  rw [← hX]
  unfold bearsW at hX
  have HX := hide hX
  have HLN := hide hlen
  generalize shW s n t = S at *
  have hlt : ¬ lz n ≤ (t : Int) - (o : Int) := by omega
  have h0 : 0 ≤ (t : Int) - (o : Int) := by omega
  have h1 : (t : Int) - (o : Int) < 9223372036854775808 := by omega
  generalize hfr : fr0 (.pointer (some dg)) n o A w = W0 at *
  have hbd : Below w.heap.size w W0.drew := (unhide HB0).drew
  have hxd : W0.drew.heap[w.heap.size]? = _ := unhide HX0
  obtain ⟨x0, x1, x2, x3, x4, x5, x6, x7, x8, x9, x10, x11⟩ := twelve_cells (unhide HX0)
  obtain ⟨y0, y1, y2, y3, y4, y5, y6, y7, y8, y9, y10, y11⟩ := twelve_cells hxd
  have HBD := hide hbd
  generalize lz n = z at *
  generalize lseg n = m at *
  generalize logN n t = a at *
  clear hxd hbd hX hlen ho ht hR hfit re rb hD hf hn hfr y10 y11
  go_enter Try.func53, Try.ntmps53
  go_wp2_with fail
  rw [unhide HW0]
  clear HW0 h0 h1 hlt x10 x11
  go_region_held3 (fun w' => w'.cell? ⟨w.heap.size, 0, none⟩ = some (.func (.func 24) #[.pointer (some dg)] #[]) ∧ w'.cell? ⟨w.heap.size, 1, none⟩ = some (.int .i64 n) ∧ w'.cell? ⟨w.heap.size, 2, none⟩ = some (.int .i64 3) ∧ w'.cell? ⟨w.heap.size, 3, none⟩ = some (.int .i64 13) ∧ w'.cell? ⟨w.heap.size, 4, none⟩ = some (.int .i64 z) ∧ w'.cell? ⟨w.heap.size, 5, none⟩ = some (.int .i64 (13 + z)) ∧ w'.cell? ⟨w.heap.size, 6, none⟩ = some (.int .i64 (13 + 2 * z)) ∧ w'.cell? ⟨w.heap.size, 7, none⟩ = some (.int .i64 z) ∧ w'.cell? ⟨w.heap.size, 8, none⟩ = some (.int .i64 (13 + 3 * z)) ∧ w'.cell? ⟨w.heap.size, 9, none⟩ = some (.int .i64 m)) (first | assumption | go_keep)
    (first
      | (go_at_call 52; refine Calls.mono (unhide HLA _) ?_; rintro e w1 ⟨rfl, b1⟩; have hk1 := ten_below ⟨y0, y1, y2, y3, y4, y5, y6, y7, y8, y9⟩ b1; have HB1 := hide ((unhide HBD).trans (b1.mono (unhide HBD).size)); have Hb1 := hide b1; clear b1)
      | (go_at_call 24; refine Calls.mono (unhide HRD _ (unhide HB1)) ?_; rintro e w2 ⟨t2, rfl, m2, b2⟩; have hk2 := ten_below hk1 b2))
  have HB2 := hide ((unhide HB1).trans (b2.mono (unhide HB1).size))
  have HK2 := hide (((unhide HK0).below ((Below.refl _ _).drew)).below (((unhide Hb1)).trans (b2.mono (unhide Hb1).size)))
  have HO := hide (openC t2 S w2 (by rw [unhide HLN]; omega) m2.row)
  obtain ⟨p2, q2, l2, rfl, hl2⟩ := m2.row.shape
  have HXX := hide (unhide HX)
  generalize hop : openR S = OP at *
  obtain ⟨K, T, PL, E⟩ := OP
  simp only at HO
  clear hl2 m2 b2 hk1 hk2 Hb1 HB1 HBD HB0 HK0 HX0 HLA HRD HX y0 y1 y2 y3 y4 y5 y6 y7 y8 y9 x0 x1 x2 x3 x4 x5 x6 x7 x8 x9 hent HD z1 z2
  go_wp2_with fail
  refine Calls.mono (unhide HO) ?_
  rintro e w3 ⟨t3, rfl, m3, b3⟩
  have HB3 := hide ((unhide HB2).trans (b3.mono (unhide HB2).size))
  have HK3 := hide ((unhide HK2).below b3)
  have HM3 := hide m3
  have HOP := hide hop
  obtain ⟨p3, q3, l3, rfl, hl3⟩ := m3.row.shape
  obtain ⟨c0, c1, c2, c3, fz⟩ := (unhide HK3).cells
  have f0 := fz 0
  have f1 := fz 1
  have f2 := fz 2
  have f3 := fz 3
  have hlt : w.heap.size + 1 < w3.heap.size := World.block_lt_of_cell? w3 _ c0
  have hne : ¬ w3.heap.size = w.heap.size + 1 := by omega
  have hne' : ¬ w.heap.size + 1 = w3.heap.size := by omega
  clear hl3 m3 b3 fz HB2 HK2 HO hop
  by_cases hE : E = 0
  · subst hE
    by_cases hk : K = 77
    · subst hk
      by_cases hT : T = t
      · subst hT
        have hXV := unhide HXX
        rw [if_neg (by simp), if_neg (by simp)] at hXV
        have HXV := hide hXV
        have hTI : ((T : Int) == (T : Int)) = true := by simp
        have hpl : PL.length ≤ 496 := by
          have h := (sealed_open S (by rw [unhide HOP]) (by rw [unhide HOP]; simp)).2.2
          rw [unhide HOP] at h
          exact h
        have hal : Below w3.heap.size w3 (w3.alloc (.cells #[.int .u8 77, .int .u64 (T : Int), .slice p3 l3 q3] 74)) := (Below.refl _ _).alloc (Nat.le_refl _) _
        have HRF := hide (read_any (.slice p3 l3 q3) PL _ ((unhide HM3).row.below hal) (by omega))
        have HK4 := hide ((unhide HK3).below hal)
        have HB4 := hide ((unhide HB3).trans (hal.mono (unhide HB3).size))
        have hs4 : (w3.alloc (.cells #[.int .u8 77, .int .u64 (T : Int), .slice p3 l3 q3] 74)).heap.size = w3.heap.size + 1 := by simp
        have HS4 := hide hs4
        obtain ⟨RF, hRF⟩ : ∃ RF, RF = readF PL := ⟨_, rfl⟩
        rw [← hRF] at HRF HXV
        obtain ⟨f, E2⟩ := RF
        simp only at HRF HXV
        unfold fv at HRF
        clear hXV HXX hal hs4 hpl HOP HM3 hRF HK3 c0 c1 c2 c3 f0 f1 f2 f3
        go_wp2_with fail
        refine Calls.mono (unhide HRF) ?_
        rintro e w5 ⟨t5, rfl, m5, b5⟩
        have HB5 := hide ((unhide HB4).trans (b5.mono (unhide HB4).size))
        have HK5 := hide ((unhide HK4).below b5)
        have HM5 := hide m5
        obtain ⟨p5, q5, l5, rfl, hl5⟩ := m5.row.shape
        obtain ⟨c0, c1, c2, c3, fz⟩ := (unhide HK5).cells
        have f0 := fz 0
        have f1 := fz 1
        have f2 := fz 2
        have f3 := fz 3
        have hs5 := b5.size
        rw [unhide HS4] at hs5
        have hne5 : ¬ w5.heap.size = w.heap.size + 1 := by omega
        have hne5' : ¬ w.heap.size + 1 = w5.heap.size := by omega
        have hlt5 : w.heap.size + 1 < w5.heap.size := by omega
        rw [unhide HS4] at HM5
        clear hl5 m5 b5 fz HB4 HK4 HRF HS4
        by_cases hE2 : E2 = 0
        · subst hE2
          have hXV := unhide HXV
          rw [if_neg (by simp)] at hXV
          have HXV := hide hXV
          clear hXV
          go_wp2
          refine bodyPost_ret (v := .tuple #[.agg #[.int .u64 (f.age : Int), .int .u64 (f.first : Int), .int .i64 f.of, .slice p5 l5 q5], .int .i64 0]) (by simp [results, Try.results53, go_sem, *]) rfl ⟨.slice p5 l5 q5, ?_, ?_, ?_⟩
          · rw [unhide HXV]; rfl
          · rw [unhide HXV]
            have h := unhide HM5
            refine Mine.below (w := (((w5.setCell ⟨w.heap.size + 1, 0, none⟩ (.int .u64 (f.age : Int))).setCell ⟨w.heap.size + 1, 1, none⟩ (.int .u64 (f.first : Int))).setCell ⟨w.heap.size + 1, 2, none⟩ (.int .i64 f.of)).setCell ⟨w.heap.size + 1, 3, none⟩ (.slice p5 l5 q5)) ?_ ((Below.refl _ _).alloc (Nat.le_refl _) _)
            refine Mine.base (base := w3.heap.size + 1) ?_ (by omega)
            refine Mine.set (Mine.set (Mine.set (Mine.set h ?_ _ _) ?_ _ _) ?_ _ _) ?_ _ _
            all_goals omega
          · have hbb := unhide HB5
            repeat' (first
              | assumption
              | refine Below.setCell ?_ (by first | exact Nat.le_refl _ | (simp; done) | (simp; omega) | omega) _
              | refine Below.alloc ?_ (by first | exact Nat.le_refl _ | (simp; done) | (simp; omega) | omega) _
              | refine Below.drew ?_)
        · have hXV := unhide HXV
          rw [if_pos hE2] at hXV
          have HXV := hide hXV
          have HBX := hide (unhide HB5)
          have hE' : (E2 == 0) = false := by rw [beq_eq_false_iff_ne]; exact hE2
          clear hXV hE2 HM5
          go_wp2
          refine bodyPost_ret (v := .tuple #[.agg #[.int .u64 0, .int .u64 0, .int .i64 0, .slice none 0 0], .int .i64 0]) (by simp [results, Try.results53, go_sem, *]) rfl ⟨.slice none 0 0, ?_, ?_, ?_⟩
          · rw [unhide HXV]; rfl
          · rw [unhide HXV]; exact mine_nil _ _
          · have hbb := unhide HBX
            repeat' (first
              | assumption
              | refine Below.setCell ?_ (by first | exact Nat.le_refl _ | (simp; done) | (simp; omega) | omega) _
              | refine Below.alloc ?_ (by first | exact Nat.le_refl _ | (simp; done) | (simp; omega) | omega) _
              | refine Below.drew ?_)
      · have hXV := unhide HXX
        rw [if_neg (by simp), if_pos (Or.inr hT)] at hXV
        have HXV := hide hXV
        have HBX := hide (unhide HB3)
        have hTI : ((T : Int) == (t : Int)) = false := by rw [beq_eq_false_iff_ne]; omega
        clear hXV HXX hT HM3 HOP

        go_wp2
        refine bodyPost_ret (v := .tuple #[.agg #[.int .u64 0, .int .u64 0, .int .i64 0, .slice none 0 0], .int .i64 0]) (by simp [results, Try.results53, go_sem, *]) rfl ⟨.slice none 0 0, ?_, ?_, ?_⟩
        · rw [unhide HXV]; rfl
        · rw [unhide HXV]; exact mine_nil _ _
        · have hbb := unhide HBX
          repeat' (first
            | assumption
            | refine Below.setCell ?_ (by first | exact Nat.le_refl _ | (simp; done) | (simp; omega) | omega) _
            | refine Below.alloc ?_ (by first | exact Nat.le_refl _ | (simp; done) | (simp; omega) | omega) _
            | refine Below.drew ?_)
    · have hXV := unhide HXX
      rw [if_neg (by simp), if_pos (Or.inl hk)] at hXV
      have HXV := hide hXV
      have HBX := hide (unhide HB3)
      have hKI : ((K.toNat : Int) == 77) = false := by
        rw [beq_eq_false_iff_ne]
        intro e
        exact hk (UInt8.toNat_inj.1 (by simpa using (show K.toNat = 77 by omega)))
      generalize (K.toNat : Int) = KK at *
      clear hXV HXX hk HM3 HOP

      go_wp2
      refine bodyPost_ret (v := .tuple #[.agg #[.int .u64 0, .int .u64 0, .int .i64 0, .slice none 0 0], .int .i64 0]) (by simp [results, Try.results53, go_sem, *]) rfl ⟨.slice none 0 0, ?_, ?_, ?_⟩
      · rw [unhide HXV]; rfl
      · rw [unhide HXV]; exact mine_nil _ _
      · have hbb := unhide HBX
        repeat' (first
          | assumption
          | refine Below.setCell ?_ (by first | exact Nat.le_refl _ | (simp; done) | (simp; omega) | omega) _
          | refine Below.alloc ?_ (by first | exact Nat.le_refl _ | (simp; done) | (simp; omega) | omega) _
          | refine Below.drew ?_)
  · have hXV := unhide HXX
    rw [if_pos hE] at hXV
    have HXV := hide hXV
    have HBX := hide (unhide HB3)
    have hE' : (E == 0) = false := by rw [beq_eq_false_iff_ne]; exact hE
    clear hXV HXX hE HM3 HOP

    go_wp2
    refine bodyPost_ret (v := .tuple #[.agg #[.int .u64 0, .int .u64 0, .int .i64 0, .slice none 0 0], .int .i64 5]) (by simp [results, Try.results53, go_sem, *]) rfl ⟨.slice none 0 0, ?_, ?_, ?_⟩
    · rw [unhide HXV]; rfl
    · rw [unhide HXV]; exact mine_nil _ _
    · have hbb := unhide HBX
      repeat' (first
        | assumption
        | refine Below.setCell ?_ (by first | exact Nat.le_refl _ | (simp; done) | (simp; omega) | omega) _
        | refine Below.alloc ?_ (by first | exact Nat.le_refl _ | (simp; done) | (simp; omega) | omega) _
        | refine Below.drew ?_)

theorem wframe_any (F : Nat → Prop) (dp : Value) (s : DK) (n : Int) (o A t : Nat) (w : World) (hD : DRep F w dp s) (hfit : Fits n) (hn : (s.n : Int) = n) (hf : s.fell = false) (ho : o ≤ t) (ht : t < 9223372036854775808) :
    Calls Try.prog 53 #[.agg (rdC dp n o A), .int .u64 (t : Int)] w fun e w' => ∃ v, e = .returned (.tuple #[fv (frameW (shW s n) (lz n).toNat o t).1 v, .int .i64 (frameW (shW s n) (lz n).toNat o t).2]) ∧ Mine w' w.heap.size v (frameW (shW s n) (lz n).toNat o t).1.data ∧ Below w.heap.size w w' := by
  unfold frameW
  by_cases hR : (lz n).toNat ≤ t - o
  · rw [if_pos hR]
    refine (wframe_far dp n o A t w hfit ho ht hR).mono ?_
    rintro e w1 ⟨rfl, b1⟩
    exact ⟨.slice none 0 0, rfl, mine_nil _ _, b1⟩
  · rw [if_neg hR]
    exact wframe_near F dp s n o A t w hD hfit hn hf ho ht hR
end Go.Proofs.Ytpkpjmebkikgdaa

/- The landed package wal: the frames that stand as one record's. -/
namespace Go.Proofs.Ytpkpjmebkikgdaa
open Go.RowKit

def sliceLen : Value → Nat
  | .slice _ n _ => n
  | _ => 0

/-- A slice of one frame. -/
theorem fown_one (W : World) (f : Fr) (p : Option Addr) (l c : Nat) (hok : f.ok) (hr : Row W (.slice p l c) f.data) :
    FOwn (W.alloc (.cells #[.int .u64 (f.age : Int), .int .u64 (f.first : Int), .int .i64 f.of, .slice p l c] 72)) W.heap.size (.slice (some ⟨W.heap.size, 0, none⟩) 1 1) [(f, .slice p l c)] := by
  have hb : Below W.heap.size W (W.alloc (.cells #[.int .u64 (f.age : Int), .int .u64 (f.first : Int), .int .i64 f.of, .slice p l c] 72)) := (Below.refl _ _).alloc (Nat.le_refl _) _
  refine ⟨⟨by simp [cellsL, frC], Or.inr ⟨W.heap.size, 1, _, rfl, Nat.le_refl _, heap_alloc_new W _, Nat.le_refl _, by unfold maxLen; omega, by simp, by simp [cellsL, frC]⟩⟩, fun q hq => ?_⟩
  simp only [List.mem_singleton] at hq
  subst hq
  refine ⟨hok, hr.below hb, fun b off n c' e hne hx => ?_⟩
  have := row_block_lt hr e hne
  simp only [Value.ownBlock, Option.some.injEq] at hx
  omega

set_option maxRecDepth 20000 in
set_option maxHeartbeats 4000000 in
theorem wparts_any (F : Nat → Prop) (dp : Value) (s : DK) (n : Int) (o A t p : Nat) (w : World) (hD : DRep F w dp s) (hfit : Fits n) (hn : (s.n : Int) = n) (hf : s.fell = false) (ho : o ≤ t) (ht : t + 64 < 9223372036854775808) :
    Calls Try.prog 35 #[.agg (rdC dp n o A), .int .u64 (t : Int), .int .u64 (p : Int)] w fun e w' => ∃ v l, e = .returned (.tuple #[v, .int .i64 (partsW (frameW (shW s n) (lz n).toNat o) A t p).2]) ∧ FOwn w' w.heap.size v l ∧ frs l = (partsW (frameW (shW s n) (lz n).toNat o) A t p).1 ∧ Below w.heap.size w w' := by
  obtain ⟨i0, hi, hz0, hz1, hz2⟩ := info_parts Try.info72
  have HFR := hide (fun (t' : Nat) w' (hb : Below w.heap.size w w') (h1 : o ≤ t') (h2 : t' < 9223372036854775808) => wframe_any F dp s n o A t' w' (hD.stays hb.size (fun k hk => hb.block k (hD.lt k hk))) hfit hn hf h1 h2)
  have HOK := hide (fun t' => frame_ok (shW s n) (lz n).toNat o t')
  have HMAY : Hid (∀ t', 1 ≤ (frameW (shW s n) (lz n).toNat o t').1.of → (frameW (shW s n) (lz n).toNat o t').1.of ≤ 32) := fun t' h => ((may_iff _).1 (frame_may _ _ _ t' h).1).2.1
  generalize frameW (shW s n) (lz n).toNat o = fr at *
  obtain ⟨Res, hRes⟩ : ∃ Res, Res = partsW fr A t p := ⟨_, rfl⟩
  rw [← hRes]
  unfold partsW at hRes
  have HRES := hide hRes
  have HO := hide ho
  have HT := hide ht
  have HB0 : Hid (Below w.heap.size w (w.alloc (.cells (rdC dp n o A) 69))) := (Below.refl _ _).alloc (Nat.le_refl _) _
  have HX0 : Hid ((w.alloc (.cells (rdC dp n o A) 69)).heap[w.heap.size]? = some (.cells (rdC dp n o A) 69 (0, 0))) := heap_alloc_new w _
  have HC0 := hide (unhide HFR t _ (unhide HB0) ho (by omega))
  generalize hW0 : w.alloc (.cells (rdC dp n o A) 69) = W0 at *
  have HW0 := hide hW0
  unfold rdC at HW0 HX0 HFR HC0 ⊢
  unfold fv at HC0 HFR
  obtain ⟨x0, x1, x2, x3, x4, x5, x6, x7, x8, x9, x10, x11⟩ := twelve_cells (unhide HX0)
  generalize lz n = z at *
  generalize lseg n = m at *
  clear hW0 hRes ho ht hD hfit hn hf
  go_enter Try.func35, Try.ntmps35
  go_wp2_with fail
  rw [unhide HW0]
  refine Calls.mono (unhide HC0) ?_
  rintro e w1 ⟨v1, rfl, m1, b1⟩
  have hok1 := unhide HOK t
  have hmay1 := unhide HMAY t
  have HRES1 := hide (unhide HRES)
  generalize hh : fr t = H at *
  obtain ⟨⟨ha, hfi, hof, hda⟩, E⟩ := H
  simp only at m1 hok1 hmay1 HRES1
  have B1 : Below w.heap.size w w1 := (unhide HB0).trans (b1.mono (unhide HB0).size)
  have hX1 := (b1.block w.heap.size (World.block_lt_of_cell? _ _ x0)).trans (unhide HX0)
  have HX1 := hide hX1
  obtain ⟨p1, q1, l1, rfl, hl1⟩ := m1.row.shape
  obtain ⟨W1, hW1⟩ : ∃ W1, W1 = w1.alloc (.cells #[.int .u64 (ha : Int), .int .u64 (hfi : Int), .int .i64 hof, .slice p1 l1 q1] 72) := ⟨_, rfl⟩
  have HW1 := hide hW1
  have hb1 : Below w1.heap.size w1 W1 := by rw [hW1]; exact (Below.refl _ _).alloc (Nat.le_refl _) _
  have hk1 : Blk4 W1 w1.heap.size 72 (.int .u64 (ha : Int)) (.int .u64 (hfi : Int)) (.int .i64 hof) (.slice p1 l1 q1) := by rw [hW1]; exact heap_alloc_new w1 _
  have HK1 := hide hk1
  obtain ⟨k0, k1, k2, k3, _⟩ := hk1.cells
  have HBW : Hid (Below w.heap.size w W1) := B1.trans (hb1.mono B1.size)
  have HRW := hide (m1.row.below hb1)
  have HXW : Hid (W1.heap[w.heap.size]? = _) := (hb1.block w.heap.size (Array.getElem?_eq_some_iff.1 hX1).1).trans hX1
  obtain ⟨y0, y1, y2, y3, y4, y5, y6, y7, y8, y9, y10, y11⟩ := twelve_cells hX1
  have hnl : w.heap.size < w1.heap.size := World.block_lt_of_cell? w1 _ y11
  have hnw : ¬ w1.heap.size = w.heap.size := by omega
  have hnw' : ¬ w.heap.size = w1.heap.size := by omega
  clear hl1 m1 b1 hX1 HX0 HB0 HC0 HRES B1 hb1 hk1 hW1 HX1 x0 x1 x2 x3 x4 x5 x6 x7 x8 x9 x10 x11 HW0 hh
  by_cases hE : E = 0
  · subst hE
    by_cases hbad : headBad ⟨ha, hfi, hof, hda⟩ t p A
    · have hRv := unhide HRES1
      rw [if_neg (by simp), if_pos hbad] at hRv
      have HEND : Hid (∃ v l, Ending.returned (.tuple #[.slice none 0 0, .int .i64 0]) = .returned (.tuple #[v, .int .i64 Res.2]) ∧ FOwn W1 w.heap.size v l ∧ frs l = Res.1 ∧ Below w.heap.size w W1) := by
        unfold Hid
        rw [hRv]
        exact ⟨_, [], rfl, FOwn.nil _ _, rfl, unhide HBW⟩
      unfold headBad at hbad
      simp only at hbad
      clear hRv HRES1 hok1 hmay1 HFR HOK HMAY HRW
      by_cases a1 : hof < 1
      · clear hbad
        go_wp2_with fail
        rw [← unhide HW1]
        go_ret2
        exact unhide HEND
      · by_cases a2 : hfi = t
        · subst a2
          by_cases a3 : ha < p
          · have d1 : decide (hof < 1) = false := decide_eq_false a1
            have a3' : (ha : Int) < p := by omega
            clear hbad
            go_wp2_with fail
            rw [← unhide HW1]
            go_ret2
            exact unhide HEND
          · have d1 : decide (hof < 1) = false := decide_eq_false a1
            have d3 : decide (ha < p) = false := decide_eq_false a3
            have a3' : ¬ (ha : Int) < p := by omega
            have a4' : (A : Int) ≤ ha := by omega
            clear hbad
            go_wp2_with fail
            rw [← unhide HW1]
            go_ret2
            exact unhide HEND
        · have a2' : ((hfi : Int) == (t : Int)) = false := by rw [beq_eq_false_iff_ne]; omega
          have d1 : decide (hof < 1) = false := decide_eq_false a1
          clear hbad
          go_wp2_with fail
          rw [← unhide HW1]
          go_ret2
          exact unhide HEND
    · have hRv := unhide HRES1
      rw [if_neg (by simp), if_neg hbad] at hRv
      unfold headBad at hbad
      simp only at hbad hRv
      have a2 : hfi = t := by omega
      subst a2
      have a1 : 1 ≤ hof := by omega
      have a1' : ¬ hof < 1 := by omega
      have a3 : ¬ ha < p := by omega
      have a4 : ¬ A ≤ ha := by omega
      have a3' : ¬ (ha : Int) < p := by omega
      have a4' : ¬ (A : Int) ≤ ha := by omega
      have d1 : decide (hof < 1) = false := decide_eq_false a1'
      have d3 : decide (ha < p) = false := decide_eq_false a3
      have d4 : decide (A ≤ ha) = false := decide_eq_false a4
      have h32 := hmay1 a1
      have HH := hide hRv
      have HF1 := hide (fown_one W1 ⟨ha, hfi, hof, hda⟩ p1 l1 q1 hok1 (unhide HRW))
      obtain ⟨W2, hW2⟩ : ∃ W2, W2 = W1.alloc (.cells #[.int .u64 (ha : Int), .int .u64 (hfi : Int), .int .i64 hof, .slice p1 l1 q1] 72) := ⟨_, rfl⟩
      simp only at HF1
      rw [← hW2] at HF1
      have HW2 := hide hW2
      have HB2 : Hid (Below W1.heap.size W1 W2) := by rw [hW2]; exact (Below.refl _ _).alloc (Nat.le_refl _) _
      have hs1 : W1.heap.size = w1.heap.size + 1 := by rw [unhide HW1]; simp
      have HS1 := hide hs1
      clear hRv hbad HRES1 hok1 hmay1 hW2 hs1 HRW a3 a4
      go_wp2_with fail
      rw [← unhide HW1, ← unhide HW2]
      have HH2 := unhide HS1
      rw [← unhide HS1]
      clear y0 y1 y2 y3 y4 y5 y6 y7 y8 y9 y10 y11 k0 k1 k2 k3 hnw hnw' hnl HH2 a3' a4' d1 d3 d4
      go_loopw [10] (fun v wr => ∃ (L : List (Fr × Value)), Hid (FOwn wr W1.heap.size v L) ∧ 1 ≤ L.length ∧ (L.length : Int) ≤ hof ∧ Hid (Res = scanW fr ⟨ha, hfi, hof, hda⟩ (hof.toNat - L.length) (hfi + L.length) (frs L)) ∧ Hid (Below W1.heap.size W1 wr)) (fun v _ => hof.toNat - sliceLen v)
      case atStart => exact ⟨[(⟨ha, hfi, hof, hda⟩, .slice p1 l1 q1)], unhide HF1, by simp, by simpa using a1, unhide HH, unhide HB2⟩
      case round =>
        obtain ⟨L, hF, hL1, hL2, hsc, hbel⟩ := hrel
        obtain ⟨k0, k1, k2, k3, _⟩ := ((unhide HK1).below (unhide hbel)).cells
        have hXr := ((unhide hbel).block w.heap.size (Array.getElem?_eq_some_iff.1 (unhide HXW)).1).trans (unhide HXW)
        obtain ⟨y0, y1, y2, y3, y4, y5, y6, y7, y8, y9, y10, y11⟩ := twelve_cells hXr
        obtain ⟨vp, vc, hve, hv1, hv2, _⟩ := (unhide hF).fl.shape
        subst hve
        by_cases hlt : (L.length : Int) < hof
        · have hto := unhide HT
          have hoo := unhide HO
          have HC := hide (unhide HFR (hfi + L.length) wr ((unhide HBW).trans ((unhide hbel).mono (unhide HBW).size)) (by omega) (by omega))
          rw [Int.natCast_add] at HC
          have hok2 := unhide HOK (hfi + L.length)
          have hscv := unhide hsc
          rw [show hof.toNat - L.length = (hof.toNat - L.length - 1) + 1 by omega] at hscv
          unfold scanW at hscv
          have HSC := hide hscv
          have hL32 : (L.length : Int) ≤ 32 := by omega
          have htI : (hfi : Int) + (L.length : Int) < 9223372036854775808 := by omega
          generalize hg2 : fr (hfi + L.length) = H2 at *
          obtain ⟨⟨fa, ff, fo, fd⟩, E2⟩ := H2
          simp only at HC hok2
          clear hscv hsc hto hoo hg2
          go_wp2_with fail
          refine Calls.mono (unhide HC) ?_
          rintro e w3 ⟨v3, rfl, m3, b3⟩
          have hF3 := (unhide hF).below b3
          have hB3 := (unhide hbel).trans (b3.mono (unhide hbel).size)
          obtain ⟨k0', k1', k2', k3', _⟩ := ((unhide HK1).below hB3).cells
          obtain ⟨p3, q3, l3, rfl, hl3⟩ := m3.row.shape
          have hbs : hof.toNat - L.length - 1 = hof.toNat - (L.length + 1) := by omega
          have hnl : w1.heap.size < w3.heap.size := World.block_lt_of_cell? w3 _ k0'
          have hn3 : ¬ w3.heap.size = w1.heap.size := by omega
          have hn3' : ¬ w1.heap.size = w3.heap.size := by omega
          clear hl3 k0 k1 k2 k3 y0 y1 y2 y3 y4 y5 y6 y7 y8 y9 y10 y11 hXr HC hv1 hv2
          by_cases hE2 : E2 = 0
          · subst hE2
            have HBX : Hid (Below w.heap.size w (w3.alloc (.cells #[.int .u64 (fa : Int), .int .u64 (ff : Int), .int .i64 fo, .slice p3 l3 q3] 72))) := by
              have h1 := (unhide HBW).trans (hB3.mono (unhide HBW).size)
              exact h1.alloc h1.size _
            by_cases hdif : ff ≠ hfi ∨ fa ≠ ha ∨ fo ≠ hof
            · have hRv := unhide HSC
              rw [if_neg (by simp), if_pos hdif] at hRv
              have HRV := hide hRv
              clear hRv HSC hF3 hB3 m3 b3 hok2 hbs hL32 htI hlt
              by_cases t1 : ff = hfi
              · subst t1
                by_cases t2 : fa = ha
                · subst t2
                  have t3 : ¬ fo = hof := by intro e; subst e; rcases hdif with h | h | h <;> exact h rfl
                  have t3' : (fo == hof) = false := by rw [beq_eq_false_iff_ne]; exact t3
                  clear hdif
                  go_wp2_with fail
                  go_ret2
                  exact ⟨_, [], by rw [unhide HRV]; rfl, FOwn.nil _ _, by rw [unhide HRV]; rfl, unhide HBX⟩
                · have t2' : ((fa : Int) == (ha : Int)) = false := by rw [beq_eq_false_iff_ne]; omega
                  clear hdif
                  go_wp2_with fail
                  go_ret2
                  exact ⟨_, [], by rw [unhide HRV]; rfl, FOwn.nil _ _, by rw [unhide HRV]; rfl, unhide HBX⟩
              · have t1' : ((ff : Int) == (hfi : Int)) = false := by rw [beq_eq_false_iff_ne]; omega
                clear hdif
                go_wp2_with fail
                go_ret2
                exact ⟨_, [], by rw [unhide HRV]; rfl, FOwn.nil _ _, by rw [unhide HRV]; rfl, unhide HBX⟩
            · have hRv := unhide HSC
              rw [if_neg (by simp), if_neg hdif] at hRv
              have t1 : ff = hfi := Decidable.byContradiction fun h => hdif (Or.inl h)
              have t2 : fa = ha := Decidable.byContradiction fun h => hdif (Or.inr (Or.inl h))
              have t3 : fo = hof := Decidable.byContradiction fun h => hdif (Or.inr (Or.inr h))
              subst t1 t2 t3
              rw [hbs] at hRv
              have HRV := hide hRv
              obtain ⟨W4, hW4⟩ : ∃ W4, W4 = w3.alloc (.cells #[.int .u64 (fa : Int), .int .u64 (ff : Int), .int .i64 fo, .slice p3 l3 q3] 72) := ⟨_, rfl⟩
              obtain ⟨W5, hW5⟩ : ∃ W5, W5 = W4.alloc (.cells #[.int .u64 (fa : Int), .int .u64 (ff : Int), .int .i64 fo, .slice p3 l3 q3] 72) := ⟨_, rfl⟩
              have hb34 : Below w3.heap.size w3 W4 := by rw [hW4]; exact (Below.refl _ _).alloc (Nat.le_refl _) _
              have hb45 : Below W4.heap.size W4 W5 := by rw [hW5]; exact (Below.refl _ _).alloc (Nat.le_refl _) _
              have hb35 : Below w3.heap.size w3 W5 := hb34.trans (hb45.mono hb34.size)
              have hs4 : W4.heap.size = w3.heap.size + 1 := by rw [hW4]; simp
              have h4 : At4 W5 W4.heap.size 0 (.int .u64 (fa : Int)) (.int .u64 (ff : Int)) (.int .i64 fo) (.slice p3 l3 q3) := by rw [hW5]; exact at4_new _ _ _ _ _ _
              have hF5 := hF3.below hb35
              have hB5 : Below W1.heap.size W1 W5 := hB3.trans (hb35.mono hB3.size)
              have hap : ∀ b off n c, Value.slice p3 l3 q3 = .slice (some ⟨b, off, none⟩) n c → fd ≠ [] → (Value.slice vp L.length vc).ownBlock ≠ some b := by
                intro b off n c e hne hb
                have h1 := ((unhide hF).1.lt b hb).2
                rcases m3.2 with h0 | ⟨g, off', cap, e', cur, ht, hg, _⟩
                · exact hne h0
                · rw [ht] at e
                  simp only [Value.slice.injEq, Option.some.injEq, Addr.mk.injEq, and_true] at e
                  omega
              have HMORE := hide (fun v' w5 => hF3.more (v' := v') (w2 := w5) (m := [((⟨fa, ff, fo, fd⟩ : Fr), .slice p3 l3 q3)]) hb35 (fun p hp => by
                simp only [List.mem_singleton] at hp
                subst hp
                exact ⟨hok2, m3.row, hap⟩))
              have HW4 := hide hW4
              have HW5 := hide hW5
              have HS4 := hide hs4
              have HOWN := hide hF5.1
              have HB5 := hide hB5
              have hszW := hB5.size
              have HLTB := hide (fun j hj => (hF5.1.lt j hj).1)
              clear hRv HSC hF3 hB3 m3 b3 hok2 hbs hdif hW4 hW5 hb34 hb45 hb35 hs4 hF5 hB5 hap
              go_wp2_with (at_builtin; rw [← unhide HW4, ← unhide HW5, ← unhide HS4]; refine wpList_append_gen rfl _ _ 70 rfl W1.heap.size 72 i0 _ Try.underlying70 hi hz0 4 48 (by omega) hz1 hz2 rfl (.slice vp L.length vc) L.length (cellsL L) rfl (unhide HOWN) ⟨W4.heap.size, 0, none⟩ 1 1 (cellsL [((⟨fa, ff, fo, fd⟩ : Fr), .slice p3 l3 q3)]) rfl rfl ?c1 ?c2 ?c3 ?c4 hszW ?_)
              case c1 =>
                intro j u hj
                obtain ⟨a0, a1, a2, a3⟩ := h4
                match j, hj with
                | 0, hj => simp [cellsL, frC] at hj; subst hj; simpa [Addr.add] using a0
                | 1, hj => simp [cellsL, frC] at hj; subst hj; simpa [Addr.add] using a1
                | 2, hj => simp [cellsL, frC] at hj; subst hj; simpa [Addr.add] using a2
                | 3, hj => simp [cellsL, frC] at hj; subst hj; simpa [Addr.add] using a3
                | j + 4, hj => simp [cellsL, frC] at hj
              case c2 => exact oneCell_L _ (fun p hp => by simp only [List.mem_singleton] at hp; subst hp; exact ⟨_, _, _, rfl⟩)
              case c3 => unfold maxLen; omega
              case c4 => omega
              intro v' w6 hown6 hgrow hvb
              have hF6 := unhide HMORE v' w6 hown6 hgrow hvb
              have HF6 := hide hF6
              have HB6 := hide ((unhide HB5).grown hgrow hszW (fun j hj => unhide HLTB j hj))
              obtain ⟨vp6, vc6, hve6, _, _, _⟩ := hF6.fl.shape
              subst hve6
              clear hown6 hgrow hvb hF6 HMORE HOWN HB5 HLTB h4
              go_wp2
              go_roundw
              case rel => exact ⟨_, unhide HF6, by simp, by simp; omega, by unfold Hid; rw [unhide HRV, frs_append]; simp [frs, Nat.add_assoc], unhide HB6⟩
              case measure => simp [sliceLen]; omega
          · have hRv := unhide HSC
            rw [if_pos hE2] at hRv
            have hE' : (E2 == 0) = false := by rw [beq_eq_false_iff_ne]; exact hE2
            have HBX : Hid (Below w.heap.size w (w3.alloc (.cells #[.int .u64 (fa : Int), .int .u64 (ff : Int), .int .i64 fo, .slice p3 l3 q3] 72))) := by
              have h1 := (unhide HBW).trans (hB3.mono (unhide HBW).size)
              exact h1.alloc h1.size _
            have HRV := hide hRv
            clear hRv HSC hE2 hF3 hB3 m3 b3 hok2 hbs hL32 htI hlt
            go_wp2_with fail
            go_ret2
            exact ⟨_, [], by rw [unhide HRV]; rfl, FOwn.nil _ _, by rw [unhide HRV]; rfl, unhide HBX⟩
        · have hRv := unhide hsc
          rw [show hof.toNat - L.length = 0 by omega] at hRv
          have HRV : Hid (Res = (frs L, 0)) := hRv
          have HFE := hide ((unhide hF).base (base' := w.heap.size) (unhide HBW).size)
          have HBE := hide ((unhide HBW).trans ((unhide hbel).mono (unhide HBW).size))
          clear hRv hsc y0 y1 y2 y3 y4 y5 y6 y7 y8 y9 y10 y11 hXr
          go_wp2_with fail
          go_ret2
          exact ⟨_, by rw [unhide HRV]; rfl, L, unhide HFE, by rw [unhide HRV], unhide HBE⟩
  · have hRv := unhide HRES1
    rw [if_pos hE] at hRv
    have HEND : Hid (∃ v l, Ending.returned (.tuple #[.slice none 0 0, .int .i64 E]) = .returned (.tuple #[v, .int .i64 Res.2]) ∧ FOwn W1 w.heap.size v l ∧ frs l = Res.1 ∧ Below w.heap.size w W1) := by
      unfold Hid
      rw [hRv]
      exact ⟨_, [], rfl, FOwn.nil _ _, rfl, unhide HBW⟩
    have hE' : (E == 0) = false := by rw [beq_eq_false_iff_ne]; exact hE
    clear hRv HRES1 hok1 hmay1 HFR HOK HMAY hE
    go_wp2_with fail
    rw [← unhide HW1]
    go_ret2
    exact unhide HEND
end Go.Proofs.Ytpkpjmebkikgdaa

/- The landed package wal: the records that an opening reads. -/
namespace Go.Proofs.Ytpkpjmebkikgdaa
open Go.RowKit

theorem Try.infoRow : (Try.prog.info? 31).map (fun i => (i.zero, i.size, i.bytes)) = some (some (.slice none 0 0), 1, 24) := by kernel_rfl

theorem join_ok {l : List Fr} (h : joinE l = 0) : IsRec l := by
  unfold joinE at h
  split at h
  · assumption
  · cases h

theorem thirteen_below {w w' : World} {g gl : Nat} {a0 a1 a2 a3 a4 a5 a6 a7 a8 a9 a10 a11 b : Value} (h : w.cell? ⟨g, 0, none⟩ = some a0 ∧ w.cell? ⟨g, 1, none⟩ = some a1 ∧ w.cell? ⟨g, 2, none⟩ = some a2 ∧ w.cell? ⟨g, 3, none⟩ = some a3 ∧ w.cell? ⟨g, 4, none⟩ = some a4 ∧ w.cell? ⟨g, 5, none⟩ = some a5 ∧ w.cell? ⟨g, 6, none⟩ = some a6 ∧ w.cell? ⟨g, 7, none⟩ = some a7 ∧ w.cell? ⟨g, 8, none⟩ = some a8 ∧ w.cell? ⟨g, 9, none⟩ = some a9 ∧ w.cell? ⟨g, 10, none⟩ = some a10 ∧ w.cell? ⟨g, 11, none⟩ = some a11 ∧ w.cell? ⟨gl, 12, none⟩ = some b) (hb : Below w.heap.size w w') :
    w'.cell? ⟨g, 0, none⟩ = some a0 ∧ w'.cell? ⟨g, 1, none⟩ = some a1 ∧ w'.cell? ⟨g, 2, none⟩ = some a2 ∧ w'.cell? ⟨g, 3, none⟩ = some a3 ∧ w'.cell? ⟨g, 4, none⟩ = some a4 ∧ w'.cell? ⟨g, 5, none⟩ = some a5 ∧ w'.cell? ⟨g, 6, none⟩ = some a6 ∧ w'.cell? ⟨g, 7, none⟩ = some a7 ∧ w'.cell? ⟨g, 8, none⟩ = some a8 ∧ w'.cell? ⟨g, 9, none⟩ = some a9 ∧ w'.cell? ⟨g, 10, none⟩ = some a10 ∧ w'.cell? ⟨g, 11, none⟩ = some a11 ∧ w'.cell? ⟨gl, 12, none⟩ = some b := by
  obtain ⟨h0, h1, h2, h3, h4, h5, h6, h7, h8, h9, h10, h11, h12⟩ := h
  have k : ∀ {p : Addr} {v : Value}, w.cell? p = some v → w'.cell? p = some v := fun hc => (hb.cell (World.block_lt_of_cell? w _ hc)).trans hc
  exact ⟨k h0, k h1, k h2, k h3, k h4, k h5, k h6, k h7, k h8, k h9, k h10, k h11, k h12⟩

/-- The age of the first of some frames, where they lie. -/
theorem first_age {w1 : World} {base : Nat} {vp : Option Addr} {n vc : Nat} {l : List (Fr × Value)} (h : FOwn w1 base (.slice vp n vc) l) (hne : frs l ≠ []) : ∃ g, vp = some ⟨g, 0, none⟩ ∧ base ≤ g ∧ w1.cell? ⟨g, 0, none⟩ = some (.int .u64 (((frs l).headD zeroF).age : Int)) := by
  cases l with
  | nil => exact absurd rfl hne
  | cons q r =>
    rcases h.1.2 with ⟨_, e2⟩ | ⟨g, cap, cur, e1, hb, hh, _⟩
    · simp at e2
    · simp only [Value.slice.injEq] at e1
      obtain ⟨rfl, rfl, rfl⟩ := e1
      have := h.1.cells (g := g) rfl 0 (.int .u64 (q.1.age : Int)) (by simp [cellsL, frC])
      rw [Addr.add_lit] at this
      exact ⟨g, rfl, hb, this⟩

set_option maxRecDepth 20000 in
set_option maxHeartbeats 1000000 in
theorem wrecall_any (F G : Nat → Prop) (lp dp : Value) (s : DK) (n : Int) (o A p : Nat) (L : LG) (w : World) (hD : DRep F w dp s) (hL : LRep G w lp dp n L) (hap : ∀ k, F k → ¬ G k) (hfit : Fits n) (hn : (s.n : Int) = n) (hf : s.fell = false) (hof : o ≤ 4611686018427387904) (hA : A < 18446744073709551616)
    (hfirst : L.first = o) (hnext : o ≤ L.next) (hring : L.next ≤ o + (lz n).toNat) :
    Calls Try.prog 23 #[lp, .agg (rdC dp n o A), .int .u64 (p : Int)] w fun e w' => ∃ v, e = .returned (.tuple #[v, .int .i64 (recallW (frameW (shW s n) (lz n).toNat o) A ((lz n).toNat + 1) p [] L).2.2]) ∧
      ∃ G' H, RecsAt H w' v (recallW (frameW (shW s n) (lz n).toNat o) A ((lz n).toNat + 1) p [] L).1 ∧ LRep G' w' lp dp n (recallW (frameW (shW s n) (lz n).toNat o) A ((lz n).toNat + 1) p [] L).2.1 ∧ (∀ k, H k → w.heap.size ≤ k) ∧ (∀ k, H k → ¬ G' k) ∧ Moves G G' w w' := by
  obtain ⟨i0, hi, hz0, hz1, hz2⟩ := info_parts Try.infoRow
  obtain ⟨z1, z2, _⟩ := lz_le n hfit
  obtain ⟨W0, hW0⟩ : ∃ W0, W0 = w.alloc (.cells (rdC dp n o A) 69) := ⟨_, rfl⟩
  have hB0 : Below w.heap.size w W0 := by rw [hW0]; exact (Below.refl _ _).alloc (Nat.le_refl _) _
  have hX0 : W0.heap[w.heap.size]? = some (.cells (rdC dp n o A) 69 (0, 0)) := by rw [hW0]; exact heap_alloc_new w _
  have hsz0 : W0.heap.size = w.heap.size + 1 := by rw [hW0]; simp
  have hGlt := hL.lt
  have hFlt := hD.lt
  have HPT := hide (fun (t p' : Nat) w' (hk : Keep G W0 w') (h1 : o ≤ t) (h2 : t + 64 < 9223372036854775808) => wparts_any F dp s n o A t p' w' ((hD.stays hB0.size (fun k hF => hB0.block k (hFlt k hF))).stays hk.size (fun k hF => hk.block k (Nat.lt_of_lt_of_le (hFlt k hF) hB0.size) (hap k hF))) hfit hn hf h1 h2)
  have HPL := hide (fun (t p' : Nat) (h : (partsW (frameW (shW s n) (lz n).toNat o) A t p').1 ≠ []) (h2 : o ≤ t) => parts_len (shW s n) (lz n).toNat o A t p' h h2)
  have HPE := hide (fun (t p' : Nat) => parts_err (shW s n) (lz n).toNat o A t p')
  generalize frameW (shW s n) (lz n).toNat o = fr at *
  obtain ⟨R, hR⟩ : ∃ R, R = (lz n).toNat := ⟨_, rfl⟩
  obtain ⟨Res, hRes⟩ : ∃ Res, Res = recallW fr A ((lz n).toNat + 1) p [] L := ⟨_, rfl⟩
  rw [← hRes]
  rw [← hR] at hRes hring HPL
  obtain ⟨g, sv, hlp, RL⟩ := hL
  subst hlp
  have HRES := hide hRes
  have HW0 := hide hW0
  have HX0 := hide hX0
  have HB0 := hide hB0
  have HGL := hide hGlt
  have HL0 : Hid (LRep G W0 (.pointer (some ⟨g, 0, none⟩)) dp n L) := ⟨g, sv, rfl, RL.below hB0⟩
  have HS0 := hide hsz0
  have HOF := hide hof
  have HAA := hide hA
  have HFI := hide hfirst
  have HNX := hide hnext
  have HRG := hide hring
  have HRL : Hid (R = (lz n).toNat) := hR
  have hR8 : R ≤ 8190 := by omega
  have HR8 := hide hR8
  unfold rdC at HW0 HX0 HPT ⊢
  generalize hzz : lz n = z at *
  have HZ := hide hzz
  generalize lseg n = m at *
  clear hzz hW0 hX0 hB0 hRes RL hGlt hFlt hD hap hfit hn hf hof hA hfirst hnext hring hR hsz0 z1 z2 hR8
  go_enter Try.func23, Try.ntmps23
  go_wp2_with fail
  rw [← unhide HW0]
  go_loopg [2, 8] (R + 1) (fun k lv rv wr => ∃ (p' : Nat) (ls : List (List UInt8)) (L' : LG) (G' H : Nat → Prop), lv = .int .u64 (p' : Int) ∧ Hid (RecsAt H wr rv ls ∧ (∀ k, H k → W0.heap.size ≤ k) ∧ ∀ k, H k → ¬ G' k) ∧ Hid (LRep G' wr (.pointer (some ⟨g, 0, none⟩)) dp n L') ∧ Hid (Moves G G' W0 wr) ∧ Hid (R + 1 ≤ k + (L'.next - o) ∧ L'.first = o ∧ o ≤ L'.next ∧ L'.next ≤ o + R ∧ ls.length ≤ L'.next - o) ∧ Hid (Res = recallW fr A k p' ls L'))
  case atStart => exact ⟨p, [], L, G, fun _ => False, rfl, ⟨RecsAt.nil _, fun _ h => h.elim, fun _ h => h.elim⟩, unhide HL0, Moves.refl _ _, ⟨by omega, unhide HFI, unhide HNX, unhide HRG, Nat.zero_le _⟩, unhide HRES⟩
  case round =>
    obtain ⟨p', ls, L', G', H, rfl, hrec, hL', hM', hb, hres⟩ := hrel
    obtain ⟨b1, b2, b3, b4, b5⟩ := unhide hb
    obtain ⟨k', rfl⟩ : ∃ k', gk = k' + 1 := ⟨gk - 1, by omega⟩
    have hrv := unhide hres
    unfold recallW at hrv
    have hXr : wr.heap[w.heap.size]? = _ := ((unhide hM').keep.block w.heap.size (by rw [unhide HS0]; omega) (fun hg => by have := unhide HGL _ hg; omega)).trans (unhide HX0)
    obtain ⟨y0, y1, y2, y3, y4, y5, y6, y7, y8, y9, y10, y11⟩ := twelve_cells hXr
    obtain ⟨g', sv', hg', RL⟩ := unhide hL'
    cases hg'
    have y12 := (fifteen_cells RL.blk).2.2.2.1
    have hdw : Below wr.heap.size wr wr.drew := (Below.refl _ _).drew
    have hkd : Keep G W0 wr.drew := (unhide hM').keep.trans (Keep.of_below (F := fun _ => False) hdw) (fun _ h => h.elim)
    have HC := hide (unhide HPT L'.next p' wr.drew hkd b3 (by have := unhide HOF; have := unhide HR8; omega))
    have hpe := unhide HPE L'.next p'
    have hpl := unhide HPL L'.next p'
    have HK13 := hide (thirteen_below ⟨y0, y1, y2, y3, y4, y5, y6, y7, y8, y9, y10, y11, y12⟩ hdw)
    obtain ⟨v0, v1, v2, v3, v4, v5, v6, v7, v8, v9, v10, v11, v12⟩ := unhide HK13
    generalize hP : partsW fr A L'.next p' = P at *
    obtain ⟨PL, PE⟩ := P
    simp only at HC hpe hpl hrv
    have HRV := hide hrv
    have HPEE := hide hpe
    have HPLL := hide hpl
    clear hrv hpe hpl hP hres RL hdw hkd hXr
    go_wp2_with fail
    go_region_held3 (fun w' => w'.cell? ⟨w.heap.size, 0, none⟩ = some (.func (.func 24) #[dp] #[]) ∧ w'.cell? ⟨w.heap.size, 1, none⟩ = some (.int .i64 n) ∧ w'.cell? ⟨w.heap.size, 2, none⟩ = some (.int .i64 3) ∧ w'.cell? ⟨w.heap.size, 3, none⟩ = some (.int .i64 13) ∧ w'.cell? ⟨w.heap.size, 4, none⟩ = some (.int .i64 z) ∧ w'.cell? ⟨w.heap.size, 5, none⟩ = some (.int .i64 (13 + z)) ∧ w'.cell? ⟨w.heap.size, 6, none⟩ = some (.int .i64 (13 + 2 * z)) ∧ w'.cell? ⟨w.heap.size, 7, none⟩ = some (.int .i64 z) ∧ w'.cell? ⟨w.heap.size, 8, none⟩ = some (.int .i64 (13 + 3 * z)) ∧ w'.cell? ⟨w.heap.size, 9, none⟩ = some (.int .i64 m) ∧ w'.cell? ⟨w.heap.size, 10, none⟩ = some (.int .u64 (o : Int)) ∧ w'.cell? ⟨w.heap.size, 11, none⟩ = some (.int .u64 (A : Int)) ∧ w'.cell? ⟨g, 12, none⟩ = some (.int .u64 (L'.next : Int))) (first | assumption | go_keep)
      (first | (go_at_call 35; refine Calls.mono (unhide HC) ?_; rintro e w1 ⟨vv1, l1, rfl, hF1, hfr1, bb1⟩; have hk1 := thirteen_below (unhide HK13) bb1))
    have hbw1 : Below wr.heap.size wr w1 := ((Below.refl _ _).drew).trans bb1
    have hrec1 := (unhide hrec).1.below hbw1
    have hL1 := (unhide hL').below hbw1
    have hM1 := (unhide hM').trans (Moves.of_below hbw1)
    have HSW : Hid (wr.heap.size ≤ w1.heap.size ∧ ∀ k, G' k → k < wr.heap.size) := ⟨hbw1.size, (unhide hL').lt⟩
    have HREC1 : Hid (RecsAt H w1 u8 ls ∧ (∀ k, H k → W0.heap.size ≤ k) ∧ (∀ k, H k → ¬ G' k) ∧ ∀ k, H k → k < wr.heap.size) := ⟨hrec1, (unhide hrec).2.1, (unhide hrec).2.2, (unhide hrec).1.2.2⟩
    have HL1 := hide hL1
    have HM1 := hide hM1
    have hBe : ∀ w', Moves G G' W0 w' → Moves G G' w w' := fun _ h => ⟨(Keep.of_below (F := G) (unhide HB0)).trans h.keep (fun _ h => Or.inl h), fun k hk => (h.sub k hk).imp_right (fun h => Nat.le_trans (unhide HB0).size h)⟩
    have HBE := hide hBe
    have HSZ : Hid (w.heap.size ≤ W0.heap.size) := (unhide HB0).size
    obtain ⟨vp, vc, hve, hvl, hvm, _⟩ := hF1.fl.shape
    subst hve
    have HF1 := hide hF1
    have HFR1 := hide hfr1
    clear hrec hL' hM' hbw1 hrec1 hL1 hM1 y0 y1 y2 y3 y4 y5 y6 y7 y8 y9 y10 y11 y12 v0 v1 v2 v3 v4 v5 v6 v7 v8 v9 v10 v11 v12 hk1 HK13 HC bb1 hF1 hfr1 hBe hvl hvm
    by_cases hPE : PE = 0
    · subst hPE
      have hrv := unhide HRV
      rw [if_neg (by simp)] at hrv
      have HJN := hide (join_any _ l1 w1 (unhide HF1).fl)
      rw [unhide HFR1] at HJN
      by_cases hJ : joinE PL = 0
      · rw [if_neg (by simpa using hJ)] at hrv
        rw [hJ] at HJN
        have hne : PL ≠ [] := (join_ok hJ).1
        obtain ⟨c1, c2, c3, c4⟩ := unhide HPLL hne b3
        have hl1 : l1.length = PL.length := by rw [← unhide HFR1, length_frs]
        have HLL : Hid (1 ≤ l1.length ∧ l1.length ≤ 32 ∧ L'.next + l1.length ≤ o + R ∧ (PL.headD zeroF).age < A ∧ l1.length = PL.length) := by unfold Hid; omega
        obtain ⟨g5, hg5, hb5, hc5⟩ := first_age (unhide HF1) (by rw [unhide HFR1]; exact hne)
        subst hg5
        rw [unhide HFR1] at hc5
        have HC5 := hide hc5
        have HB5 : Hid (wr.heap.size ≤ g5) := hb5
        have hl0 : (0 : Int) < (l1.length : Int) := by omega
        have hl32 : (l1.length : Int) ≤ 32 := by omega
        have HRV2 := hide hrv
        have HBB : Hid (R + 1 ≤ k' + 1 + (L'.next - o) ∧ L'.first = o ∧ o ≤ L'.next ∧ L'.next ≤ o + R ∧ ls.length ≤ L'.next - o) := ⟨b1, b2, b3, b4, b5⟩
        clear hrv hJ hne hl1 c1 c2 c3 c4 hc5 hb5 b1 b2 b3 b4 b5 HRV HPEE HPLL
        go_wp2_with fail
        refine Calls.mono (unhide HJN) ?_
        rintro e w2 ⟨t2, rfl, m2, bb2⟩
        have hrec2 := (unhide HREC1).1.below bb2
        have hL2 := (unhide HL1).below bb2
        have hM2 := (unhide HM1).trans (Moves.of_below bb2)
        have hc52 := (bb2.cell (World.block_lt_of_cell? _ _ (unhide HC5))).trans (unhide HC5)
        obtain ⟨tp2, tc2, tl2, rfl, htl⟩ := m2.row.shape
        clear htl
        obtain ⟨W3, hW3⟩ : ∃ W3, W3 = w2.alloc (.cells #[.slice tp2 tl2 tc2] 31) := ⟨_, rfl⟩
        have hb23 : Below w2.heap.size w2 W3 := by rw [hW3]; exact (Below.refl _ _).alloc (Nat.le_refl _) _
        have hc3 : W3.cell? ⟨w2.heap.size, 0, none⟩ = some (.slice tp2 tl2 tc2) := by rw [hW3]; exact cell_one (heap_alloc_new w2 _)
        obtain ⟨vs, hvs⟩ := hrec2.owns
        have hvs3 := owns_below4 hvs hb23
        have HMORE := hide (fun v' w4 hown hg hv => hrec2.more (v' := v') (w2 := w4) (bs := joinB PL) hb23 m2 (fun k hk => Nat.lt_of_lt_of_le ((unhide HREC1).2.2.2 k hk) (unhide HSW).1) bb2.size hg hv hown)
        have HVS := hide hvs
        have HVS3 := hide hvs3
        have HW3 := hide hW3
        have HL3 := hide (hL2.below hb23)
        have HM3 := hide (hM2.trans (Moves.of_below hb23))
        have HC53 := hide ((hb23.cell (World.block_lt_of_cell? _ _ hc52)).trans hc52)
        have HLS : Hid (ls.length ≤ 8190) := by have := unhide HR8; have := unhide HBB; unfold Hid; omega
        have HS2 : Hid (w1.heap.size ≤ W3.heap.size) := Nat.le_trans bb2.size hb23.size
        have HOWB : Hid (∀ k, u8.ownBlock = some k → H k) := (unhide HREC1).1.2.1
        have HWN : Hid (∀ k, W3.heap.size = k → ¬ G' k) := fun k hk hg => by have := (unhide HSW).2 k hg; have := (unhide HSW).1; have := bb2.size; have := hb23.size; omega
        clear hrec2 hL2 hM2 hc52 hb23 hvs hvs3 hW3 m2 bb2 HJN
        go_wp2_with (at_builtin; rw [← unhide HW3]; refine wpList_append_gen rfl _ _ 22 rfl 0 31 i0 _ Try.underlying22 hi hz0 1 24 (by omega) hz1 hz2 rfl u8 ls.length vs rfl (unhide HVS3) ⟨w2.heap.size, 0, none⟩ 1 1 [.slice tp2 tl2 tc2] rfl rfl ?c1 ?c2 ?c3 ?c4 (Nat.zero_le _) ?_)
        case c1 =>
          intro j u hj
          match j, hj with
          | 0, hj => simp at hj; subst hj; simpa [Addr.add] using hc3
        case c2 => intro u hu; simp at hu; subst hu; rfl
        case c3 => have := unhide HLS; unfold maxLen; omega
        case c4 => have := unhide HLS; omega
        intro v' w4 hown4 hgrow4 hvb4
        obtain ⟨H', hrec4, hH'⟩ := unhide HMORE v' w4 (fun vs' hvs' => by rw [owns_unique hvs' (unhide HVS)]; exact hown4) hgrow4 hvb4
        have hK4 := grown_keep hgrow4
        have hL4 := (unhide HL3).keep hK4 (fun k hk => (unhide HREC1).2.2.1 k (unhide HOWB k hk))
        have hM4 : Moves G G' W0 w4 := ⟨(unhide HM3).keep.trans hK4 (fun k hk => Or.inr ((unhide HREC1).2.1 k (unhide HOWB k hk))), fun k hk => (unhide HM3).sub k hk⟩
        have hHG : ∀ k, H' k → ¬ G' k := fun k hk hg => by
          rcases hH' k hk with h | h
          · exact (unhide HREC1).2.2.1 k h hg
          · have := (unhide HSW).2 k hg; have := (unhide HSW).1; omega
        have hHW : ∀ k, H' k → W0.heap.size ≤ k := fun k hk => by
          rcases hH' k hk with h | h
          · exact (unhide HREC1).2.1 k h
          · have := (unhide HM1).keep.size; omega
        have hc54 := (hK4.cell (p := ⟨g5, 0, none⟩) (World.block_lt_of_cell? _ _ (unhide HC53)) (fun hx => by have h1 := (unhide HREC1).2.2.2 g5 (unhide HOWB g5 hx); have h2 := unhide HB5; omega)).trans (unhide HC53)
        obtain ⟨vs4, hvs4⟩ := hrec4.owns
        have HREC4 := hide (And.intro hrec4 (And.intro hHW hHG))
        have HM4 := hide hM4
        have HL4 := hide hL4
        have HAD := hide (wadd_any G' _ dp n L' (PL.headD zeroF).age l1.length w4 hL4 (unhide HLL).1 (by rw [(unhide HBB).2.1, unhide HZ, ← unhide HRL]; exact (unhide HLL).2.2.1) (by have := unhide HLL; have := unhide HOF; have := unhide HR8; omega) (by have := unhide HLL; have := unhide HAA; omega))
        have HSP : Hid (∃ q nn cc, v' = .slice q nn cc) := by
          rcases hvs4.2 with ⟨e1, _⟩ | ⟨g6, cap6, cur6, e1, _⟩
          · exact ⟨_, _, _, e1⟩
          · exact ⟨_, _, _, e1⟩
        have hrvv := unhide HRV2
        rw [← (unhide HLL).2.2.2.2] at hrvv
        have HRV3 := hide hrvv
        generalize (PL.headD zeroF).age = AG at *
        clear hrec4 hH' hK4 hL4 hM4 hHG hHW hvs4 hown4 hgrow4 hvb4 hc3 hrvv HRV2 HMORE HVS HVS3 HW3 HL3 HM3 HC53 HC5
        go_wp2_with fail
        refine Calls.mono (unhide HAD) ?_
        rintro e w5 ⟨rfl, G5, hl5, hm5⟩
        have hrec5 := (unhide HREC4).1.keep hm5.keep (unhide HREC4).2.2
        have hHG5 : ∀ k, H' k → ¬ G5 k := fun k hk hg => by
          rcases hm5.sub k hg with h | h
          · exact (unhide HREC4).2.2 k hk h
          · have := (unhide HREC4).1.2.2 k hk; omega
        have HREC5 := hide (And.intro hrec5 (And.intro (unhide HREC4).2.1 hHG5))
        have HL5 := hide hl5
        have HM5 := hide ((unhide HM4).trans hm5)
        clear hrec5 hHG5 hl5 hm5 HAD hc54 hl0 hl32
        go_wp2_with fail
        go_roundg k'
        case measure => omega
        case rel => exact ⟨AG, _, _, G5, H', rfl, unhide HREC5, unhide HL5, unhide HM5, by
          have hb := unhide HBB
          have hl := unhide HLL
          refine ⟨?_, hb.2.1, ?_, ?_, ?_⟩
          · show R + 1 ≤ k' + (L'.next + l1.length - o); omega
          · show o ≤ L'.next + l1.length; omega
          · exact hl.2.2.1
          · rw [List.length_append]; show ls.length + 1 ≤ L'.next + l1.length - o; omega, unhide HRV3⟩
      · rw [if_pos hJ] at hrv
        have hJ' : (joinE PL == 0) = false := by rw [beq_eq_false_iff_ne]; exact hJ
        have HRV2 := hide hrv
        generalize joinE PL = JE at *
        generalize joinB PL = JB at *
        clear hrv hJ HRV
        go_wp2_with fail
        refine Calls.mono (unhide HJN) ?_
        rintro e w2 ⟨t2, rfl, m2, bb2⟩
        have hrec2 := (unhide HREC1).1.below bb2
        have hL2 := (unhide HL1).below bb2
        have hM2 := (unhide HM1).trans (Moves.of_below bb2)
        obtain ⟨tp2, tc2, tl2, rfl, htl⟩ := m2.row.shape
        have HEN := hide (And.intro hrec2 (And.intro hL2 hM2))
        clear htl m2 bb2 hrec2 hL2 hM2 HJN b1 b2 b3 b4 b5
        go_wp2_with fail
        go_ret2
        exact ⟨_, by rw [unhide HRV2]; rfl, G', H, by rw [unhide HRV2]; exact (unhide HEN).1, by rw [unhide HRV2]; exact (unhide HEN).2.1, fun k hk => Nat.le_trans (unhide HSZ) ((unhide HREC1).2.1 k hk), (unhide HREC1).2.2.1, unhide HBE _ (unhide HEN).2.2⟩
    · have hrv := unhide HRV
      rw [if_pos hPE] at hrv
      have HRV2 := hide hrv
      have hPE' : (PE == 0) = false := by rw [beq_eq_false_iff_ne]; exact hPE
      clear hrv HRV hPE b1 b2 b3 b4 b5 HPEE HPLL
      go_wp2_with fail
      go_ret2
      exact ⟨_, by rw [unhide HRV2]; rfl, G', fun _ => False, by rw [unhide HRV2]; exact RecsAt.nil _, by rw [unhide HRV2]; exact unhide HL1, fun _ h => h.elim, fun _ h => h.elim, unhide HBE _ (unhide HM1)⟩
end Go.Proofs.Ytpkpjmebkikgdaa

/- The landed package wal: Open. -/
namespace Go.Proofs.Ytpkpjmebkikgdaa
open Go.RowKit

theorem eq_ints (d : Nat) (x y : Int) (w : World) : (Op.equalIn (d + 1) 3 (.int .i64 x) (.int .i64 y)).run Try.prog w = .ok (x == y) w := by
  rw [run_equalIn_int w d _ .i64 .i64 x y Try.underlying3]
/-- Two layouts that differ in one number at most. -/
theorem lay_ne7 (a b c d e f g g' h i : Int) (w : World) : (binOp .neq 27 (.agg #[.int .i64 a, .int .i64 b, .int .i64 c, .int .i64 d, .int .i64 e, .int .i64 f, .int .i64 g, .int .i64 h, .int .i64 i]) (.agg #[.int .i64 a, .int .i64 b, .int .i64 c, .int .i64 d, .int .i64 e, .int .i64 f, .int .i64 g', .int .i64 h, .int .i64 i])).run Try.prog w = .ok (.bool (!(g == g'))) w := by
  rw [run_neq_struct]
  have hf : Try.prog.underlying 27 = some (.struct (Try.prog.fieldsOf 27)) := by kernel_rfl
  rw [show (10000 : Nat) = 9999 + 1 from rfl, run_equalIn_agg w 9999 _ _ _ hf Try.layHeld]
  have hfs : (Try.prog.fieldsOf 27) = match Try.prog.underlying 27 with | some (.struct fs) => fs | _ => #[] := by kernel_rfl
  rw [hfs, Try.underlying27]
  have e := fun x y w => eq_ints 9998 x y w
  have e2 := fun x y w => eq_two 9997 x y w
  have s := size_of_info Try.sizeTwo
  simp only [Op.eqFields]
  by_cases hg : g = g'
  · subst hg
    simp [part, e, e2, s]
  · have : (g == g') = false := by rw [beq_eq_false_iff_ne]; exact hg
    simp [part, e, e2, s, this]

theorem wopen_nil (lv : Value) (hlv : ∃ a b c d e f g h i : Int, lv = .agg #[.int .i64 a, .int .i64 b, .int .i64 c, .int .i64 d, .int .i64 e, .int .i64 f, .int .i64 g, .int .i64 h, .int .i64 i]) (o p A : Int) (w : World) :
    Calls Try.prog 7 #[.pointer none, lv, .int .u64 o, .int .u64 p, .int .u64 A] w fun e w' => e = .returned (.tuple #[.pointer none, .slice none 0 0, .int .i64 2]) ∧ Below w.heap.size w w' := by
  obtain ⟨a, b, c, d, e, f, g, h, i, rfl⟩ := hlv
  go_enter Try.func7, Try.ntmps7
  go_wp2
  go_ret3
  exact ⟨rfl, (Below.refl _ _).alloc (Nat.le_refl _) _⟩

/-- The log that an opening begins with. -/
def lg0 (o A : Nat) : LG := ⟨A, o, o, [], false⟩
theorem lg0_ok (o A R : Nat) (ho : o ≤ 4611686018427387904) (hA : A < 18446744073709551616) : (lg0 o A).Ok R :=
  ⟨hA, Nat.le_refl _, Nat.le_add_right _ _, by show o < _; omega, Nat.zero_le _, (fun p hp => by cases hp), List.Pairwise.nil⟩
def layCells (n : Int) : Array Value := #[.int .i64 n, .int .i64 3, .int .i64 13, .int .i64 (lz n), .int .i64 (13 + lz n), .int .i64 (13 + 2 * lz n), .int .i64 (lz n), .int .i64 (13 + 3 * lz n), .int .i64 (lseg n)]
/-- What an opening reads. -/
def opened (s : DK) (n : Int) (o p A : Nat) : List (List UInt8) × LG × Int := recallW (frameW (shW s n) (lz n).toNat o) A ((lz n).toNat + 1) p [] (lg0 o A)

set_option maxRecDepth 20000 in
set_option maxHeartbeats 1000000 in
/-- A layout that is another's. -/
theorem wopen_other (F : Nat → Prop) (dp : Value) (s : DK) (n x : Int) (o p A : Nat) (w : World) (hD : DRep F w dp s) (hn : (s.n : Int) = n) (hfit : Fits n) (hx : x ≠ lz n) :
    Calls Try.prog 7 #[dp, .agg #[.int .i64 n, .int .i64 3, .int .i64 13, .int .i64 (lz n), .int .i64 (13 + lz n), .int .i64 (13 + 2 * lz n), .int .i64 x, .int .i64 (13 + 3 * lz n), .int .i64 (lseg n)], .int .u64 (o : Int), .int .u64 (p : Int), .int .u64 (A : Int)] w fun e w' => e = .returned (.tuple #[.pointer none, .slice none 0 0, .int .i64 1]) ∧ Below w.heap.size w w' := by
  have hne := lay_ne7 n 3 13 (lz n) (13 + lz n) (13 + 2 * lz n) x (lz n) (13 + 3 * lz n) (lseg n)
  rw [show (x == lz n) = false by rw [beq_eq_false_iff_ne]; exact hx] at hne
  obtain ⟨W0, hW0⟩ : ∃ W0, W0 = w.alloc (.cells #[.int .i64 n, .int .i64 3, .int .i64 13, .int .i64 (lz n), .int .i64 (13 + lz n), .int .i64 (13 + 2 * lz n), .int .i64 x, .int .i64 (13 + 3 * lz n), .int .i64 (lseg n)] 27) := ⟨_, rfl⟩
  have hB0 : Below w.heap.size w W0 := by rw [hW0]; exact (Below.refl _ _).alloc (Nat.le_refl _) _
  have hX0 : W0.heap[w.heap.size]? = some (.cells #[.int .i64 n, .int .i64 3, .int .i64 13, .int .i64 (lz n), .int .i64 (13 + lz n), .int .i64 (13 + 2 * lz n), .int .i64 x, .int .i64 (13 + 3 * lz n), .int .i64 (lseg n)] 27 (0, 0)) := by rw [hW0]; exact heap_alloc_new w _
  have HSZ := hide (osize_any F dp s W0 (hD.stays hB0.size (fun k hk => hB0.block k (hD.lt k hk))))
  rw [hn] at HSZ
  have HPN := hide (fun w' => oplan_any n w')
  obtain ⟨dg, hdg⟩ : ∃ dg, dp = .pointer (some dg) := hD.ptr
  subst hdg
  rw [(plan_fits hfit).1, (plan_fits hfit).2] at HPN
  unfold layV at HPN
  have HW0 := hide hW0
  have HX0 := hide hX0
  have HB0 := hide hB0
  have hzb := lz_le n hfit
  generalize lz n = z at *
  generalize lseg n = m at *
  clear hW0 hX0 hB0 hD hn hfit hx hzb
  go_enter Try.func7, Try.ntmps7
  go_wp2_with fail
  rw [← unhide HW0]
  refine Calls.mono (unhide HSZ) ?_
  rintro e w1 ⟨rfl, b1⟩
  have HB1 := hide ((unhide HB0).trans (b1.mono (unhide HB0).size))
  have HX1 := hide ((b1.block w.heap.size (Array.getElem?_eq_some_iff.1 (unhide HX0)).1).trans (unhide HX0))
  clear b1 HB0 HX0 HSZ
  go_wp2_with fail
  refine Calls.mono (unhide HPN _) ?_
  rintro e w2 ⟨rfl, b2⟩
  have HB2 := hide ((unhide HB1).trans (b2.mono (unhide HB1).size))
  have hX2 := (b2.block w.heap.size (Array.getElem?_eq_some_iff.1 (unhide HX1)).1).trans (unhide HX1)
  obtain ⟨c0, c1, c2, c3, c4, c5, c6, c7, c8⟩ := nine_cells hX2
  have hnl : w.heap.size < w2.heap.size := World.block_lt_of_cell? w2 _ c0
  have hnw : ¬ w2.heap.size = w.heap.size := by omega
  have hnw' : ¬ w.heap.size = w2.heap.size := by omega
  clear b2 HB1 HX1 HPN hX2
  go_wp2_with fail
  go_ret3
  exact ⟨rfl, (unhide HB2).alloc (unhide HB2).size _⟩

/-- What Open answers, where the layout and the numbers are right. -/
def OpenR (s : DK) (n : Int) (o p A : Nat) (dp : Value) (w : World) (e : Ending) (w' : World) : Prop :=
  if s.fell = true then e = .returned (.tuple #[.pointer none, .slice none 0 0, .int .i64 40])
  else if (opened s n o p A).2.2 ≠ 0 then e = .returned (.tuple #[.pointer none, .slice none 0 0, .int .i64 (opened s n o p A).2.2])
  else ∃ lp v G H, e = .returned (.tuple #[lp, v, .int .i64 0]) ∧ RecsAt H w' v (opened s n o p A).1 ∧ LRep G w' lp dp n (opened s n o p A).2.1 ∧ (∀ k, H k → w.heap.size ≤ k) ∧ (∀ k, G k → w.heap.size ≤ k) ∧ ∀ k, H k → ¬ G k

theorem lg0_at (w : World) (dp : Value) (n : Int) (o A : Nat) (hfit : Fits n) (ho : o ≤ 4611686018427387904) (hA : A < 18446744073709551616) :
    LRep (fun k => k = w.heap.size) (w.alloc (.cells (logC dp n (lg0 o A) (.slice none 0 0)) 64)) (.pointer (some ⟨w.heap.size, 0, none⟩)) dp n (lg0 o A) :=
  ⟨w.heap.size, .slice none 0 0, rfl, ⟨heap_alloc_new w _, World.ownsRow_nil _ _ _ _, hfit, lg0_ok o A _ ho hA, rfl, (fun k hk => by cases hk), fun k hk => by rw [hk]; simp⟩⟩

set_option maxRecDepth 20000 in
set_option maxHeartbeats 2000000 in
/-- Opened, where the layout and the numbers are right. -/
theorem wopen_any (F : Nat → Prop) (dp : Value) (s : DK) (n : Int) (o p A : Nat) (w : World) (hD : DRep F w dp s) (hn : (s.n : Int) = n) (hfit : Fits n) (hA1 : 1 ≤ A) (hA : A < 18446744073709551616) (hp : p ≤ A) (ho : o ≤ 4611686018427387904) :
    Calls Try.prog 7 #[dp, layV n, .int .u64 (o : Int), .int .u64 (p : Int), .int .u64 (A : Int)] w fun e w' => OpenR s n o p A dp w e w' ∧ Below w.heap.size w w' := by
  have hne := lay_ne7 n 3 13 (lz n) (13 + lz n) (13 + 2 * lz n) (lz n) (lz n) (13 + 3 * lz n) (lseg n)
  rw [show (lz n == lz n) = true by simp] at hne
  obtain ⟨W0, hW0⟩ : ∃ W0, W0 = w.alloc (.cells (layCells n) 27) := ⟨_, rfl⟩
  have hB0 : Below w.heap.size w W0 := by rw [hW0]; exact (Below.refl _ _).alloc (Nat.le_refl _) _
  have hX0 : W0.heap[w.heap.size]? = some (.cells (layCells n) 27 (0, 0)) := by rw [hW0]; exact heap_alloc_new w _
  have hst : ∀ w', Below w.heap.size w w' → DRep F w' dp s := fun w' hb => hD.stays hb.size (fun k hk => hb.block k (hD.lt k hk))
  have HST := hide hst
  have HSZ := hide (osize_any F dp s W0 (hst W0 hB0))
  have HDN := hide (fun w' hb => odown_any F dp s w' (hst w' hb))
  rw [hn] at HSZ
  have HPN := hide (fun w' => oplan_any n w')
  rw [(plan_fits hfit).1, (plan_fits hfit).2] at HPN
  unfold layV at HPN ⊢
  have HLG := hide (fun w' => lg0_at w' dp n o A hfit ho hA)
  have hFlt := hD.lt
  have HRC := hide (fun (hfe : s.fell = false) (w' : World) (hb : Below w.heap.size w w') => wrecall_any F (fun k => k = w'.heap.size) (.pointer (some ⟨w'.heap.size, 0, none⟩)) dp s n o A p (lg0 o A) (w'.alloc (.cells (logC dp n (lg0 o A) (.slice none 0 0)) 64)) (hst _ (hb.alloc hb.size _)) (unhide HLG w') (fun k hk e => by have := hFlt k hk; have := hb.size; omega) hfit hn hfe ho hA rfl (Nat.le_refl _) (Nat.le_add_right _ _))
  obtain ⟨Res, hRes⟩ : ∃ Res, Res = opened s n o p A := ⟨_, rfl⟩
  have HRES := hide hRes
  unfold opened at hRes
  rw [← hRes] at HRC
  obtain ⟨dg, hdg⟩ : ∃ dg, dp = .pointer (some dg) := hD.ptr
  subst hdg
  have HW0 := hide hW0
  have HX0 := hide hX0
  have HB0 := hide hB0
  unfold layCells at HW0 HX0
  unfold logC lg0 rdC at HRC
  simp only at HRC
  have hA1' : ¬ (A : Int) < 1 := by omega
  have hd1 : decide ((A : Int) < 1) = false := decide_eq_false hA1'
  have hd1' : decide (A < 1) = false := decide_eq_false (by omega)
  have hp1 : decide (A < p) = false := decide_eq_false (by omega)
  have hp2 : ¬ (A : Int) < p := by omega
  have ho1 : decide (4611686018427387904 < (o : Int)) = false := decide_eq_false (by omega)
  have ho2 : ¬ 4611686018427387904 < (o : Int) := by omega
  generalize lz n = z at *
  generalize lseg n = m at *
  clear hW0 hX0 hB0 hD hn hfit hRes hst hFlt HLG hA hA1 hp ho
  go_enter Try.func7, Try.ntmps7
  go_wp2_with fail
  rw [← unhide HW0]
  refine Calls.mono (unhide HSZ) ?_
  rintro e w1 ⟨rfl, b1⟩
  have HB1 := hide ((unhide HB0).trans (b1.mono (unhide HB0).size))
  have HX1 := hide ((b1.block w.heap.size (Array.getElem?_eq_some_iff.1 (unhide HX0)).1).trans (unhide HX0))
  clear b1 HB0 HX0 HSZ
  go_wp2_with fail
  refine Calls.mono (unhide HPN _) ?_
  rintro e w2 ⟨rfl, b2⟩
  have HB2 := hide ((unhide HB1).trans (b2.mono (unhide HB1).size))
  have hX2 := (b2.block w.heap.size (Array.getElem?_eq_some_iff.1 (unhide HX1)).1).trans (unhide HX1)
  have HX2 := hide hX2
  obtain ⟨c0, c1, c2, c3, c4, c5, c6, c7, c8⟩ := nine_cells hX2
  have hnl : w.heap.size < w2.heap.size := World.block_lt_of_cell? w2 _ c0
  have hnw : ¬ w2.heap.size = w.heap.size := by omega
  have hnw' : ¬ w.heap.size = w2.heap.size := by omega
  obtain ⟨W3, hW3⟩ : ∃ W3, W3 = w2.alloc (.cells #[.int .i64 n, .int .i64 3, .int .i64 13, .int .i64 z, .int .i64 (13 + z), .int .i64 (13 + 2 * z), .int .i64 z, .int .i64 (13 + 3 * z), .int .i64 m] 27) := ⟨_, rfl⟩
  have hB3 : Below w.heap.size w W3 := by rw [hW3]; exact (unhide HB2).alloc (unhide HB2).size _
  have hX3 : W3.heap[w.heap.size]? = _ := (by rw [hW3]; exact Below.heap_alloc _ _ _ hnl : W3.heap[w.heap.size]? = w2.heap[w.heap.size]?).trans hX2
  have HB3 := hide hB3
  have HX3 := hide hX3
  have HW3 := hide hW3
  have HD3 := hide (unhide HDN W3 hB3)
  clear b2 HB1 HX1 HPN hX2 hB3 hX3 hW3
  go_wp2_with fail
  rw [← unhide HW3]
  refine Calls.mono (unhide HD3) ?_
  rintro e w4 ⟨rfl, b4⟩
  have HB4 := hide ((unhide HB3).trans (b4.mono (unhide HB3).size))
  have hX4 := (b4.block w.heap.size (Array.getElem?_eq_some_iff.1 (unhide HX3)).1).trans (unhide HX3)
  clear c0 c1 c2 c3 c4 c5 c6 c7 c8 HB2 HX2 HD3 hnl hnw hnw'
  obtain ⟨c0, c1, c2, c3, c4, c5, c6, c7, c8⟩ := nine_cells hX4
  have hnl : w.heap.size < w4.heap.size := World.block_lt_of_cell? w4 _ c0
  have hnw : ¬ w4.heap.size = w.heap.size := by omega
  have hnw' : ¬ w.heap.size = w4.heap.size := by omega
  clear b4 HB3 HX3 hX4 HW3 hd1 hd1' hp1 hp2 ho1 ho2 hA1'
  cases hfe : s.fell with
  | true =>
    have HFE := hide hfe
    clear hfe HRC
    go_wp2_with fail
    go_ret3
    exact ⟨by unfold OpenR; rw [if_pos (unhide HFE)]; rfl, unhide HB4⟩
  | false =>
    have HFE := hide hfe
    have HC := hide (unhide HRC hfe w4 (unhide HB4))
    clear hfe HRC
    go_wp2_with fail
    refine Calls.mono (unhide HC) ?_
    rintro e w5 ⟨v5, rfl, G5, H5, r5, l5, hH, hHG, hM⟩
    have hB5 : Below w.heap.size w w5 := by
      have h1 : Below w.heap.size w (w4.alloc (.cells #[.pointer (some dg), .int .i64 n, .int .i64 3, .int .i64 13, .int .i64 z, .int .i64 (13 + z), .int .i64 (13 + 2 * z), .int .i64 z, .int .i64 (13 + 3 * z), .int .i64 m, .int .u64 (A : Int), .int .u64 (o : Int), .int .u64 (o : Int), .slice none 0 0, .bool false] 64)) := (unhide HB4).alloc (unhide HB4).size _
      exact h1.trans (hM.keep.below (Nat.le_trans (unhide HB4).size (by simp)) (fun k hk => by rw [hk]; exact (unhide HB4).size))
    have HB5 := hide hB5
    have HEND : Hid (RecsAt H5 w5 v5 Res.1 ∧ LRep G5 w5 (.pointer (some ⟨w4.heap.size, 0, none⟩)) (.pointer (some dg)) n Res.2.1 ∧ (∀ k, H5 k → w.heap.size ≤ k) ∧ (∀ k, G5 k → w.heap.size ≤ k) ∧ ∀ k, H5 k → ¬ G5 k) := by
      refine ⟨r5, l5, fun k hk => ?_, fun k hk => ?_, hHG⟩
      · have h1 := hH k hk
        have h2 := (unhide HB4).size
        have h3 : w4.heap.size ≤ (w4.alloc (.cells #[.pointer (some dg), .int .i64 n, .int .i64 3, .int .i64 13, .int .i64 z, .int .i64 (13 + z), .int .i64 (13 + 2 * z), .int .i64 z, .int .i64 (13 + 3 * z), .int .i64 m, .int .u64 (A : Int), .int .u64 (o : Int), .int .u64 (o : Int), .slice none 0 0, .bool false] 64)).heap.size := by simp
        omega
      · rcases hM.sub k hk with h | h
        · rw [h]; exact (unhide HB4).size
        · have h2 := (unhide HB4).size
          have h3 : w4.heap.size ≤ (w4.alloc (.cells #[.pointer (some dg), .int .i64 n, .int .i64 3, .int .i64 13, .int .i64 z, .int .i64 (13 + z), .int .i64 (13 + 2 * z), .int .i64 z, .int .i64 (13 + 3 * z), .int .i64 m, .int .u64 (A : Int), .int .u64 (o : Int), .int .u64 (o : Int), .slice none 0 0, .bool false] 64)).heap.size := by simp
          omega
    obtain ⟨vs5, hvs5⟩ := r5.owns
    obtain ⟨q5, n5, c5', hv5⟩ : ∃ q nn cc, v5 = .slice q nn cc := by
      rcases hvs5.2 with ⟨e1, _⟩ | ⟨g6, cap6, cur6, e1, _⟩
      · exact ⟨_, _, _, e1⟩
      · exact ⟨_, _, _, e1⟩
    subst hv5
    generalize hE : Res.2.2 = E at *
    have HE2 := hide hE
    clear hvs5 r5 l5 hH hHG hM hB5 HC c0 c1 c2 c3 c4 c5 c6 c7 c8
    by_cases hE0 : E = 0
    · subst hE0
      clear hE
      go_wp2_with fail
      go_ret3
      exact ⟨by unfold OpenR; rw [if_neg (by rw [unhide HFE]; decide), ← unhide HRES, if_neg (by rw [unhide HE2]; simp)]; exact ⟨_, _, G5, H5, rfl, unhide HEND⟩, unhide HB5⟩
    · have hE' : (E == 0) = false := by rw [beq_eq_false_iff_ne]; exact hE0
      have HE0 := hide hE0
      clear hE hE0
      go_wp2_with fail
      go_ret3
      exact ⟨by unfold OpenR; rw [if_neg (by rw [unhide HFE]; decide), ← unhide HRES, if_pos (by rw [unhide HE2]; exact unhide HE0), unhide HE2]; rfl, unhide HB5⟩
end Go.Proofs.Ytpkpjmebkikgdaa

/- What an opening reads against the statement's own reading; the disk that the statement fills; an opening whose numbers are wrong. -/
namespace Go.Proofs.Ytpkpjmebkikgdaa
open Go.RowKit

/-- 'make' of zero bytes, with the block that they lie in. -/
theorem make_sec (w : World) (m : Nat) (hm : m ≤ 100000) : ∃ w8, (Instr.makeSlice 31 (.int .i64 (m : Int)) (.int .i64 (m : Int))).run Try.prog w = .ok (.slice (some ⟨w.heap.size, 0, none⟩) m m) w8 ∧ w8.heap[w.heap.size]? = some (.cells ((List.replicate m (0 : UInt8)).map B).toArray 5 (0, 0)) ∧ Below w.heap.size w w8 := by
  obtain ⟨i0, hi, hz0, hz1, hz2⟩ := info_parts Try.info5
  obtain ⟨w8, hrun, r1, r2⟩ := run_make_full (P := Try.prog) w w.heap.size 31 5 i0 (.int .u8 0) 1 Try.underlying31 hi hz0 hz1 .i64 .i64 m (by rw [hz2]; omega) (by unfold maxLen; omega) (Nat.le_refl _)
  have b8 : Below w.heap.size w w8 := (Below.refl _ _).grown r2 (Nat.le_refl _) (fun k hk => by cases hk)
  rw [Nat.mul_one] at r1
  have hblk8 := made_block (m := m) r1
  exact ⟨w8, hrun, hblk8, b8⟩

/-- The sector that stands at a place of the ring. -/
def secOf (ls : List (List UInt8)) (j : Nat) : List UInt8 := if (ls.getD j []).length = 512 then ls.getD j [] else blank
theorem secOf_len (ls : List (List UInt8)) (j : Nat) : (secOf ls j).length ≤ 512 := by
  unfold secOf
  split
  · omega
  · rw [length_blank]; omega
/-- The disk when k sectors were gone through. -/
structure RawD (ls : List (List UInt8)) (k : Nat) (s : DK) : Prop where
  n : s.n = 256
  up : s.fell = false
  calm : s.armed = 0
  waits : s.waits.length ≤ k
  ticks : s.ticks ≤ k
  shows : ∀ j, j < 30 → s.shown (13 + j) = if j < k then secOf ls j else blank
theorem RawD.new (ls : List (List UInt8)) : RawD ls 0 (DK.new 256) :=
  ⟨rfl, rfl, rfl, Nat.le_refl _, Nat.le_refl _, fun j _ => by rw [if_neg (by omega)]; rfl⟩
theorem RawD.skip {ls : List (List UInt8)} {k : Nat} {s : DK} (h : RawD ls k s) (hl : (ls.getD k []).length ≠ 512) : RawD ls (k + 1) s := by
  refine ⟨h.n, h.up, h.calm, Nat.le_succ_of_le h.waits, Nat.le_succ_of_le h.ticks, fun j hj => ?_⟩
  rw [h.shows j hj]
  by_cases e : j < k
  · rw [if_pos e, if_pos (by omega)]
  · rw [if_neg e]
    by_cases e2 : j = k
    · subst e2
      rw [if_pos (by omega)]
      unfold secOf
      rw [if_neg hl]
    · rw [if_neg (by omega)]
theorem raw_such {s : DK} (hn : s.n = 256) (k : Nat) (hk : k < 30) : s.noSuch (13 + (k : Int)) = false := by
  unfold DK.noSuch
  rw [hn]
  exact decide_eq_false (by omega)
theorem RawD.err {ls : List (List UInt8)} {k : Nat} {s : DK} (h : RawD ls k s) (hk : k < 30) (hl : (ls.getD k []).length = 512) : s.writeE (13 + (k : Int)) (ls.getD k []) = 0 := by
  unfold DK.writeE
  rw [if_neg (by rw [h.up]; decide), if_neg (by rw [raw_such h.n k hk]; simp only [hl]; simp), if_neg (by rw [h.calm]; decide)]
theorem RawD.write {ls : List (List UInt8)} {k : Nat} {s : DK} (h : RawD ls k s) (hk : k < 30) (hl : (ls.getD k []).length = 512) : RawD ls (k + 1) (s.write (13 + (k : Int)) (ls.getD k [])) := by
  have e : s.write (13 + (k : Int)) (ls.getD k []) = { s with waits := s.waits ++ [(13 + k, ls.getD k [])] }.tick := by
    unfold DK.write
    rw [if_neg (by rw [h.up]; decide), if_neg (by rw [raw_such h.n k hk]; simp only [hl]; simp)]
    rfl
  rw [e]
  refine ⟨h.n, by simp [DK.tick, h.calm], by simp [DK.tick, h.calm], by simp [DK.tick]; exact h.waits, by simp [DK.tick]; exact h.ticks, fun j hj => ?_⟩
  have e2 : (DK.tick { s with waits := s.waits ++ [(13 + k, ls.getD k [])] }).shown (13 + j) = if 13 + k = 13 + j then ls.getD k [] else s.shown (13 + j) := by
    simp only [DK.shown, DK.tick, shownB, List.foldl_append, List.foldl_cons, List.foldl_nil]
  rw [e2, h.shows j hj]
  by_cases e3 : j = k
  · subst e3
    rw [if_pos rfl, if_pos (by omega)]
    unfold secOf
    rw [if_pos hl]
  · rw [if_neg (by omega)]
    by_cases e4 : j < k
    · rw [if_pos e4, if_pos (by omega)]
    · rw [if_neg e4, if_neg (by omega)]
theorem lzN256 : (lz 256).toNat = 30 := by decide
/-- What an opening of it sees. -/
theorem RawD.frames {ls : List (List UInt8)} {s : DK} (h : RawD ls 30 s) (o : Nat) : frameW (shW s 256) (lz 256).toNat o = frameW (fun t => secOf ls (t % 30)) 30 o := by
  funext t
  unfold frameW
  rw [lzN256]
  have e : shW s 256 t = secOf ls (t % 30) := by
    unfold shW logN
    rw [lzN256, show (13 + ((t % 30 : Nat) : Int)).toNat = 13 + t % 30 by omega, h.shows _ (Nat.mod_lt _ (by decide)), if_pos (Nat.mod_lt _ (by decide))]
  rw [e]

/-- The statement's loop against the opening's: Res is what the opening reads. -/
def RawL (fr : Nat → Fr × Int) (A o : Nat) (Res : List (List UInt8) × LG × Int) (p t : Nat) (recs : List (List UInt8)) : Prop :=
  ∃ (fuel : Nat) (L : LG), recallW fr A fuel p recs L = Res ∧ L.next = t ∧ L.first = o ∧ o ≤ t ∧ t ≤ o + 30 ∧ o + 31 ≤ fuel + t
theorem RawL.bad {fr : Nat → Fr × Int} {A o p t : Nat} {Res : List (List UInt8) × LG × Int} {recs : List (List UInt8)} (h : RawL fr A o Res p t recs) (he : (partsW fr A t p).2 ≠ 0) : Res.2.2 = (partsW fr A t p).2 := by
  obtain ⟨fuel, L, h1, h2, h3, h4, h5, h6⟩ := h
  obtain ⟨f, rfl⟩ : ∃ f, fuel = f + 1 := ⟨fuel - 1, by omega⟩
  rw [← h1, recallW, h2, if_pos he]
theorem RawL.done {fr : Nat → Fr × Int} {A o p t : Nat} {Res : List (List UInt8) × LG × Int} {recs : List (List UInt8)} (h : RawL fr A o Res p t recs) (he : (partsW fr A t p).2 = 0) (hj : joinE (partsW fr A t p).1 ≠ 0) : Res.1 = recs ∧ Res.2.1.next = t ∧ Res.2.1.first = o ∧ Res.2.2 = 0 := by
  obtain ⟨fuel, L, h1, h2, h3, h4, h5, h6⟩ := h
  obtain ⟨f, rfl⟩ : ∃ f, fuel = f + 1 := ⟨fuel - 1, by omega⟩
  rw [← h1, recallW, h2, if_neg (by rw [he]; simp), if_pos hj]
  exact ⟨rfl, h2, h3, rfl⟩
theorem RawL.more {sh : Nat → List UInt8} {A o p t : Nat} {Res : List (List UInt8) × LG × Int} {recs : List (List UInt8)} (h : RawL (frameW sh 30 o) A o Res p t recs) (he : (partsW (frameW sh 30 o) A t p).2 = 0) (hj : joinE (partsW (frameW sh 30 o) A t p).1 = 0) :
    1 ≤ (partsW (frameW sh 30 o) A t p).1.length ∧ t + (partsW (frameW sh 30 o) A t p).1.length ≤ o + 30 ∧ ((partsW (frameW sh 30 o) A t p).1.headD zeroF).age < A ∧
    RawL (frameW sh 30 o) A o Res ((partsW (frameW sh 30 o) A t p).1.headD zeroF).age (t + (partsW (frameW sh 30 o) A t p).1.length) (recs ++ [joinB (partsW (frameW sh 30 o) A t p).1]) := by
  obtain ⟨fuel, L, h1, h2, h3, h4, h5, h6⟩ := h
  obtain ⟨f, rfl⟩ : ∃ f, fuel = f + 1 := ⟨fuel - 1, by omega⟩
  have hne : (partsW (frameW sh 30 o) A t p).1 ≠ [] := fun e => by rw [e] at hj; unfold joinE at hj; revert hj; decide
  obtain ⟨q1, q2, q3, q4⟩ := parts_len sh 30 o A t p hne h4
  refine ⟨q1, q3, q4, f, L.add ((partsW (frameW sh 30 o) A t p).1.headD zeroF).age (partsW (frameW sh 30 o) A t p).1.length, ?_, ?_, ?_, by omega, by omega, by omega⟩
  · rw [← h1, recallW, h2, if_neg (by rw [he]; simp), if_neg (by rw [hj]; simp)]
  · rw [← h2]; rfl
  · exact h3

set_option maxRecDepth 20000 in
set_option maxHeartbeats 1000000 in
/-- No age. -/
theorem wopen_age (F : Nat → Prop) (dp : Value) (s : DK) (n : Int) (o p A : Nat) (w : World) (hD : DRep F w dp s) (hn : (s.n : Int) = n) (hfit : Fits n) (hA0 : A < 1) :
    Calls Try.prog 7 #[dp, .agg #[.int .i64 n, .int .i64 3, .int .i64 13, .int .i64 (lz n), .int .i64 (13 + lz n), .int .i64 (13 + 2 * lz n), .int .i64 (lz n), .int .i64 (13 + 3 * lz n), .int .i64 (lseg n)], .int .u64 (o : Int), .int .u64 (p : Int), .int .u64 (A : Int)] w fun e w' => e = .returned (.tuple #[.pointer none, .slice none 0 0, .int .i64 1]) ∧ Below w.heap.size w w' := by
  have hne := lay_ne7 n 3 13 (lz n) (13 + lz n) (13 + 2 * lz n) (lz n) (lz n) (13 + 3 * lz n) (lseg n)
  rw [show (lz n == lz n) = true by simp] at hne
  obtain ⟨W0, hW0⟩ : ∃ W0, W0 = w.alloc (.cells #[.int .i64 n, .int .i64 3, .int .i64 13, .int .i64 (lz n), .int .i64 (13 + lz n), .int .i64 (13 + 2 * lz n), .int .i64 (lz n), .int .i64 (13 + 3 * lz n), .int .i64 (lseg n)] 27) := ⟨_, rfl⟩
  have hB0 : Below w.heap.size w W0 := by rw [hW0]; exact (Below.refl _ _).alloc (Nat.le_refl _) _
  have hX0 : W0.heap[w.heap.size]? = some (.cells #[.int .i64 n, .int .i64 3, .int .i64 13, .int .i64 (lz n), .int .i64 (13 + lz n), .int .i64 (13 + 2 * lz n), .int .i64 (lz n), .int .i64 (13 + 3 * lz n), .int .i64 (lseg n)] 27 (0, 0)) := by rw [hW0]; exact heap_alloc_new w _
  have HSZ := hide (osize_any F dp s W0 (hD.stays hB0.size (fun k hk => hB0.block k (hD.lt k hk))))
  rw [hn] at HSZ
  have HPN := hide (fun w' => oplan_any n w')
  obtain ⟨dg, hdg⟩ : ∃ dg, dp = .pointer (some dg) := hD.ptr
  subst hdg
  rw [(plan_fits hfit).1, (plan_fits hfit).2] at HPN
  unfold layV at HPN
  have HW0 := hide hW0
  have HX0 := hide hX0
  have HB0 := hide hB0
  have hzb := lz_le n hfit
  have hd0 : (A : Int) < 1 := by omega
  have hd1 : decide ((A : Int) < 1) = true := decide_eq_true hd0
  have hd1' : decide (A < 1) = true := decide_eq_true (by omega)
  generalize lz n = z at *
  generalize lseg n = m at *
  clear hW0 hX0 hB0 hD hn hfit hzb hA0
  go_enter Try.func7, Try.ntmps7
  go_wp2_with fail
  rw [← unhide HW0]
  refine Calls.mono (unhide HSZ) ?_
  rintro e w1 ⟨rfl, b1⟩
  have HB1 := hide ((unhide HB0).trans (b1.mono (unhide HB0).size))
  have HX1 := hide ((b1.block w.heap.size (Array.getElem?_eq_some_iff.1 (unhide HX0)).1).trans (unhide HX0))
  clear b1 HB0 HX0 HSZ
  go_wp2_with fail
  refine Calls.mono (unhide HPN _) ?_
  rintro e w2 ⟨rfl, b2⟩
  have HB2 := hide ((unhide HB1).trans (b2.mono (unhide HB1).size))
  have hX2 := (b2.block w.heap.size (Array.getElem?_eq_some_iff.1 (unhide HX1)).1).trans (unhide HX1)
  obtain ⟨c0, c1, c2, c3, c4, c5, c6, c7, c8⟩ := nine_cells hX2
  have hnl : w.heap.size < w2.heap.size := World.block_lt_of_cell? w2 _ c0
  have hnw : ¬ w2.heap.size = w.heap.size := by omega
  have hnw' : ¬ w.heap.size = w2.heap.size := by omega
  clear b2 HB1 HX1 HPN hX2
  go_wp2_with fail
  go_ret3
  exact ⟨rfl, (unhide HB2).alloc (unhide HB2).size _⟩

set_option maxRecDepth 20000 in
set_option maxHeartbeats 1000000 in
/-- A least that is more than the age. -/
theorem wopen_least (F : Nat → Prop) (dp : Value) (s : DK) (n : Int) (o p A : Nat) (w : World) (hD : DRep F w dp s) (hn : (s.n : Int) = n) (hfit : Fits n) (hA0 : 1 ≤ A) (hp0 : A < p) :
    Calls Try.prog 7 #[dp, .agg #[.int .i64 n, .int .i64 3, .int .i64 13, .int .i64 (lz n), .int .i64 (13 + lz n), .int .i64 (13 + 2 * lz n), .int .i64 (lz n), .int .i64 (13 + 3 * lz n), .int .i64 (lseg n)], .int .u64 (o : Int), .int .u64 (p : Int), .int .u64 (A : Int)] w fun e w' => e = .returned (.tuple #[.pointer none, .slice none 0 0, .int .i64 1]) ∧ Below w.heap.size w w' := by
  have hne := lay_ne7 n 3 13 (lz n) (13 + lz n) (13 + 2 * lz n) (lz n) (lz n) (13 + 3 * lz n) (lseg n)
  rw [show (lz n == lz n) = true by simp] at hne
  obtain ⟨W0, hW0⟩ : ∃ W0, W0 = w.alloc (.cells #[.int .i64 n, .int .i64 3, .int .i64 13, .int .i64 (lz n), .int .i64 (13 + lz n), .int .i64 (13 + 2 * lz n), .int .i64 (lz n), .int .i64 (13 + 3 * lz n), .int .i64 (lseg n)] 27) := ⟨_, rfl⟩
  have hB0 : Below w.heap.size w W0 := by rw [hW0]; exact (Below.refl _ _).alloc (Nat.le_refl _) _
  have hX0 : W0.heap[w.heap.size]? = some (.cells #[.int .i64 n, .int .i64 3, .int .i64 13, .int .i64 (lz n), .int .i64 (13 + lz n), .int .i64 (13 + 2 * lz n), .int .i64 (lz n), .int .i64 (13 + 3 * lz n), .int .i64 (lseg n)] 27 (0, 0)) := by rw [hW0]; exact heap_alloc_new w _
  have HSZ := hide (osize_any F dp s W0 (hD.stays hB0.size (fun k hk => hB0.block k (hD.lt k hk))))
  rw [hn] at HSZ
  have HPN := hide (fun w' => oplan_any n w')
  obtain ⟨dg, hdg⟩ : ∃ dg, dp = .pointer (some dg) := hD.ptr
  subst hdg
  rw [(plan_fits hfit).1, (plan_fits hfit).2] at HPN
  unfold layV at HPN
  have HW0 := hide hW0
  have HX0 := hide hX0
  have HB0 := hide hB0
  have hzb := lz_le n hfit
  have hA1' : ¬ (A : Int) < 1 := by omega
  have hd1 : decide ((A : Int) < 1) = false := decide_eq_false hA1'
  have hd1' : decide (A < 1) = false := decide_eq_false (by omega)
  have hp1 : decide (A < p) = true := decide_eq_true (by omega)
  have hp2 : (A : Int) < p := by omega
  generalize lz n = z at *
  generalize lseg n = m at *
  clear hW0 hX0 hB0 hD hn hfit hzb hA0 hp0
  go_enter Try.func7, Try.ntmps7
  go_wp2_with fail
  rw [← unhide HW0]
  refine Calls.mono (unhide HSZ) ?_
  rintro e w1 ⟨rfl, b1⟩
  have HB1 := hide ((unhide HB0).trans (b1.mono (unhide HB0).size))
  have HX1 := hide ((b1.block w.heap.size (Array.getElem?_eq_some_iff.1 (unhide HX0)).1).trans (unhide HX0))
  clear b1 HB0 HX0 HSZ
  go_wp2_with fail
  refine Calls.mono (unhide HPN _) ?_
  rintro e w2 ⟨rfl, b2⟩
  have HB2 := hide ((unhide HB1).trans (b2.mono (unhide HB1).size))
  have hX2 := (b2.block w.heap.size (Array.getElem?_eq_some_iff.1 (unhide HX1)).1).trans (unhide HX1)
  obtain ⟨c0, c1, c2, c3, c4, c5, c6, c7, c8⟩ := nine_cells hX2
  have hnl : w.heap.size < w2.heap.size := World.block_lt_of_cell? w2 _ c0
  have hnw : ¬ w2.heap.size = w.heap.size := by omega
  have hnw' : ¬ w.heap.size = w2.heap.size := by omega
  clear b2 HB1 HX1 HPN hX2
  go_wp2_with fail
  go_ret3
  exact ⟨rfl, (unhide HB2).alloc (unhide HB2).size _⟩

set_option maxRecDepth 20000 in
set_option maxHeartbeats 1000000 in
/-- A turn that is too great. -/
theorem wopen_from (F : Nat → Prop) (dp : Value) (s : DK) (n : Int) (o p A : Nat) (w : World) (hD : DRep F w dp s) (hn : (s.n : Int) = n) (hfit : Fits n) (hA0 : 1 ≤ A) (hp0 : p ≤ A) (ho0 : 4611686018427387904 < o) :
    Calls Try.prog 7 #[dp, .agg #[.int .i64 n, .int .i64 3, .int .i64 13, .int .i64 (lz n), .int .i64 (13 + lz n), .int .i64 (13 + 2 * lz n), .int .i64 (lz n), .int .i64 (13 + 3 * lz n), .int .i64 (lseg n)], .int .u64 (o : Int), .int .u64 (p : Int), .int .u64 (A : Int)] w fun e w' => e = .returned (.tuple #[.pointer none, .slice none 0 0, .int .i64 1]) ∧ Below w.heap.size w w' := by
  have hne := lay_ne7 n 3 13 (lz n) (13 + lz n) (13 + 2 * lz n) (lz n) (lz n) (13 + 3 * lz n) (lseg n)
  rw [show (lz n == lz n) = true by simp] at hne
  obtain ⟨W0, hW0⟩ : ∃ W0, W0 = w.alloc (.cells #[.int .i64 n, .int .i64 3, .int .i64 13, .int .i64 (lz n), .int .i64 (13 + lz n), .int .i64 (13 + 2 * lz n), .int .i64 (lz n), .int .i64 (13 + 3 * lz n), .int .i64 (lseg n)] 27) := ⟨_, rfl⟩
  have hB0 : Below w.heap.size w W0 := by rw [hW0]; exact (Below.refl _ _).alloc (Nat.le_refl _) _
  have hX0 : W0.heap[w.heap.size]? = some (.cells #[.int .i64 n, .int .i64 3, .int .i64 13, .int .i64 (lz n), .int .i64 (13 + lz n), .int .i64 (13 + 2 * lz n), .int .i64 (lz n), .int .i64 (13 + 3 * lz n), .int .i64 (lseg n)] 27 (0, 0)) := by rw [hW0]; exact heap_alloc_new w _
  have HSZ := hide (osize_any F dp s W0 (hD.stays hB0.size (fun k hk => hB0.block k (hD.lt k hk))))
  rw [hn] at HSZ
  have HPN := hide (fun w' => oplan_any n w')
  obtain ⟨dg, hdg⟩ : ∃ dg, dp = .pointer (some dg) := hD.ptr
  subst hdg
  rw [(plan_fits hfit).1, (plan_fits hfit).2] at HPN
  unfold layV at HPN
  have HW0 := hide hW0
  have HX0 := hide hX0
  have HB0 := hide hB0
  have hzb := lz_le n hfit
  have hA1' : ¬ (A : Int) < 1 := by omega
  have hd1 : decide ((A : Int) < 1) = false := decide_eq_false hA1'
  have hd1' : decide (A < 1) = false := decide_eq_false (by omega)
  have hp1 : decide (A < p) = false := decide_eq_false (by omega)
  have hp2 : ¬ (A : Int) < p := by omega
  have ho1 : decide (4611686018427387904 < (o : Int)) = true := decide_eq_true (by omega)
  have ho2 : 4611686018427387904 < (o : Int) := by omega
  generalize lz n = z at *
  generalize lseg n = m at *
  clear hW0 hX0 hB0 hD hn hfit hzb hA0 hp0 ho0
  go_enter Try.func7, Try.ntmps7
  go_wp2_with fail
  rw [← unhide HW0]
  refine Calls.mono (unhide HSZ) ?_
  rintro e w1 ⟨rfl, b1⟩
  have HB1 := hide ((unhide HB0).trans (b1.mono (unhide HB0).size))
  have HX1 := hide ((b1.block w.heap.size (Array.getElem?_eq_some_iff.1 (unhide HX0)).1).trans (unhide HX0))
  clear b1 HB0 HX0 HSZ
  go_wp2_with fail
  refine Calls.mono (unhide HPN _) ?_
  rintro e w2 ⟨rfl, b2⟩
  have HB2 := hide ((unhide HB1).trans (b2.mono (unhide HB1).size))
  have hX2 := (b2.block w.heap.size (Array.getElem?_eq_some_iff.1 (unhide HX1)).1).trans (unhide HX1)
  obtain ⟨c0, c1, c2, c3, c4, c5, c6, c7, c8⟩ := nine_cells hX2
  have hnl : w.heap.size < w2.heap.size := World.block_lt_of_cell? w2 _ c0
  have hnw : ¬ w2.heap.size = w.heap.size := by omega
  have hnw' : ¬ w.heap.size = w2.heap.size := by omega
  clear b2 HB1 HX1 HPN hX2
  go_wp2_with fail
  go_ret3
  exact ⟨rfl, (unhide HB2).alloc (unhide HB2).size _⟩

end Go.Proofs.Ytpkpjmebkikgdaa
