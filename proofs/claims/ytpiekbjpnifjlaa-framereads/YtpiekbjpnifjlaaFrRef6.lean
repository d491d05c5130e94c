/- The document's own answers of layer 6: Read. -/
import Derived.Test.YtpiekbjpnifjlaaFrRef5
import Derived.Test.YtpiekbjpnifjlaaFrRef1
import Derived.Test.YtpiekbjpnifjlaaFrOwn3
namespace Go.Proofs.Ytpiekbjpnifjlaa
open Go.RowKit

/-- The three numbers of a frame's head, by the reader. -/
def hd1 (b : List UInt8) : Nat × Int × Int := numF b 0 0
def hd2 (b : List UInt8) : Nat × Int × Int := numF b (hd1 b).2.1 (hd1 b).2.2
def hd3 (b : List UInt8) : Nat × Int × Int := mostF b 32 (hd2 b).2.1 (hd2 b).2.2
theorem read_reader (b : List UInt8) : readF b = if (hd3 b).2.2 ≠ 0 then (zeroF, (hd3 b).2.2) else if mayF ⟨(hd1 b).1, (hd2 b).1, ((hd3 b).1 : Nat), b.drop (hd3 b).2.1.toNat⟩ = true then (⟨(hd1 b).1, (hd2 b).1, ((hd3 b).1 : Nat), b.drop (hd3 b).2.1.toNat⟩, 0) else (zeroF, 11) := by
  unfold readF hd3 mostF hd2 hd1 numF
  by_cases h1 : readE b 0 = 0
  · by_cases h2 : readE b (readN b 0) = 0
    · by_cases h3 : readE b (readN b (readN b 0)) = 0
      · by_cases h4 : 32 < readV b (readN b (readN b 0))
        · simp [h1, h2, h3, h4]
        · simp [h1, h2, h3, h4]
      · simp [h1, h2, h3]
    · simp [h1, h2]
  · simp [h1]
theorem reader_ok (b : List UInt8) (h : (hd3 b).2.2 = 0) : 0 < (hd3 b).2.1 ∧ (hd3 b).2.1 ≤ b.length ∧ (hd1 b).1 < 18446744073709551616 ∧ (hd2 b).1 < 18446744073709551616 ∧ (hd3 b).1 ≤ 32 := by
  unfold hd3 mostF hd2 hd1 numF at h ⊢
  by_cases h1 : readE b 0 = 0
  · have a1 := read_ok b _ h1
    by_cases h2 : readE b (readN b 0) = 0
    · have a2 := read_ok b _ h2
      by_cases h3 : readE b (readN b (readN b 0)) = 0
      · have a3 := read_ok b _ h3
        by_cases h4 : 32 < readV b (readN b (readN b 0))
        · simp [h1, h2, h3, h4] at h
        · simp [h1, h2, h3, h4]
          omega
      · simp [h1, h2, h3] at h
    · simp [h1, h2] at h
  · simp [h1] at h

def rdr (w : World) (s : Value) : World := (rd0 w).alloc (.cells #[s, .int .i64 0, .int .i64 0] 61)

set_option maxRecDepth 20000 in
set_option maxHeartbeats 2000000 in
theorem rread_any (s : Value) (b : List UInt8) (w : World) (hs : Row w s b) (hroom : b.length ≤ 140737488351232) :
    Calls Try.prog 12 #[s] w fun x w' => ∃ t, x = .returned (.tuple #[fv (readF b).1 t, .int .i64 (readF b).2]) ∧ Row w' t (readF b).1.data ∧ Below w.heap.size w w' := by
  obtain ⟨q0, l0, cc0, hs0⟩ := slice_of_row hs
  subst hs0
  have HS := hide hs
  have hs1 := hs.below (rd0_below w)
  obtain ⟨W1, hW1⟩ : ∃ W1, W1 = rdr w (.slice q0 l0 cc0) := ⟨_, rfl⟩
  obtain ⟨W0, hW0⟩ : ∃ W0, W0 = rd0 w := ⟨_, rfl⟩
  rw [← hW0] at hs1
  have hb01 : Below W0.heap.size W0 W1 := by rw [hW1, hW0]; exact (Below.refl _ _).alloc (Nat.le_refl _) _
  have h31 : At3 W1 W0.heap.size 61 (.slice q0 l0 cc0) (.int .i64 0) (.int .i64 0) := by rw [hW1, hW0]; exact heap_alloc_new _ _
  have hsz0 : W0.heap.size = w.heap.size + 1 := by rw [hW0]; simp [rd0]
  have HN := hide (fun p e w' (hb : Below W0.heap.size W0 w') h3 => num_any W0.heap.size p e (.slice q0 l0 cc0) b W0 w' hs1 hroom hb (Nat.le_refl _) h3)
  have HM := hide (fun p e w' (hb : Below W0.heap.size W0 w') h3 => most_any W0.heap.size p e (.slice q0 l0 cc0) b W0 w' hs1 hroom hb (Nat.le_refl _) h3)
  have k0 : Blk4 W0 w.heap.size 25 (.int .u64 0) (.int .u64 0) (.int .i64 0) (.slice none 0 0) := by rw [hW0]; exact rd0_blk w
  have HK0 := hide (fun w' (hb : Below W0.heap.size W0 w') => k0.below hb)
  have HWB : Hid (∀ w', Below W0.heap.size W0 w' → Below w.heap.size w w') := fun w' hb => by
    have h1 := rd0_below w
    rw [← hW0] at h1
    exact h1.trans (hb.mono h1.size)
  have HW1 : Hid ((w.alloc (.cells #[.int .u64 0, .int .u64 0, .int .i64 0, .slice none 0 0] 25)).alloc (.cells #[.slice q0 l0 cc0, .int .i64 0, .int .i64 0] 61) = W1) := by unfold Hid; rw [hW1]; rfl
  have H31 := hide h31
  have HB01 := hide hb01
  have hro := reader_ok b
  rw [read_reader]
  have D1 : Hid (numF b 0 0 = hd1 b) := rfl
  have D2 : Hid (numF b (hd1 b).2.1 (hd1 b).2.2 = hd2 b) := rfl
  have D3 : Hid (mostF b 32 (hd2 b).2.1 (hd2 b).2.2 = hd3 b) := rfl
  generalize hd1 b = R1 at *
  generalize hd2 b = R2 at *
  generalize hd3 b = R3 at *
  obtain ⟨V1, P1, E1⟩ := R1
  obtain ⟨V2, P2, E2⟩ := R2
  obtain ⟨V3, P3, E3⟩ := R3
  simp only at D1 D2 D3 hro ⊢
  clear hs hs1 hW1 hb01 h31 k0 hW0
  rw [hsz0] at HN HM HK0 HWB H31 HB01
  clear hsz0
  by_cases hE : E3 = 0
  · subst hE
    rw [if_neg (by simp)]
    obtain ⟨r1, r2, r3, r4, r5⟩ := hro rfl
    obtain ⟨f, hf⟩ : ∃ f : Fr, f = ⟨V1, V2, (V3 : Int), b.drop P3.toNat⟩ := ⟨_, rfl⟩
    rw [← hf]
    have HF := hide hf
    have hmb : ∀ t w', Row w' t (b.drop P3.toNat) → Calls Try.prog 28 #[.agg #[.int .u64 (V1 : Int), .int .u64 (V2 : Int), .int .i64 (V3 : Int), t]] w' fun e w'' => e = .returned (.bool (mayF f)) ∧ Below w'.heap.size w' w'' := fun t w' hr => by
      have h := rmay_any f t w' (by rw [hf]; exact hr)
      rw [hf] at h
      unfold fv at h
      rw [hf]
      exact h
    have HMB := hide hmb
    clear hmb hf
    generalize hR : (if mayF f = true then (f, (0 : Int)) else (zeroF, 11)) = R
    have HRR := hide hR
    clear hR
    go_enter Try.func12, Try.ntmps12
    go_wp2_with fail
    rw [unhide HW1]
    refine Calls.mono (unhide HN _ _ _ (unhide HB01) (unhide H31)) ?_
    rintro x w1 ⟨rfl, k1, b1⟩
    rw [unhide D1] at k1 ⊢
    simp only at k1 ⊢
    have HK1 := hide k1
    have HB1 := hide b1
    clear k1 b1 HB01 H31 HW1
    go_wp2_with fail
    refine Calls.mono (unhide HN _ _ _ (unhide HB1) (unhide HK1)) ?_
    rintro x w2 ⟨rfl, k2, b2⟩
    rw [unhide D2] at k2 ⊢
    simp only at k2 ⊢
    have HK2 := hide k2
    have HB2 := hide b2
    clear k2 b2 HB1 HK1
    go_wp2_with fail
    refine Calls.mono (unhide HM _ _ _ (unhide HB2) (unhide HK2)) ?_
    rintro x w3 ⟨rfl, k3, b3⟩
    rw [unhide D3] at k3 ⊢
    simp only at k3 ⊢
    obtain ⟨W4, hW4⟩ : ∃ W4, W4 = w3.alloc (.cells #[.int .u64 (V1 : Int), .int .u64 (V2 : Int), .int .i64 (V3 : Int), .slice none 0 0] 25) := ⟨_, rfl⟩
    have hb34 : Below w3.heap.size w3 W4 := by rw [hW4]; exact (Below.refl _ _).alloc (Nat.le_refl _) _
    have hkF : Blk4 W4 w3.heap.size 25 (.int .u64 (V1 : Int)) (.int .u64 (V2 : Int)) (.int .i64 (V3 : Int)) (.slice none 0 0) := by rw [hW4]; exact heap_alloc_new _ _
    have hk4 := k3.below hb34
    have hkR := (unhide HK0 w3 b3).below hb34
    have hB4 : Below w.heap.size w W4 := (unhide HWB w3 b3).trans (hb34.mono (unhide HWB w3 b3).size)
    have HB4 := hide hB4
    have hlt3 : w.heap.size + 1 < w3.heap.size := World.block_lt_of_cell? w3 _ k3.cells.1
    have HW4 := hide hW4
    obtain ⟨y0, y1, y2, _⟩ := k3.cells
    have hn3 := World.new_ne w3 _ y2
    clear HB2 HK2 b3 k3 hb34 hW4
    obtain ⟨c0, c1, c2, _⟩ := hk4.cells
    have HKF := hide hkF
    have HKR := hide hkR
    have hrow := (unhide HS).below hB4
    rw [unhide HW4] at hrow
    have HCB := hide (fun t (hr : Row W4 t (b.drop P3.toNat)) => copyBytes_any t (b.drop P3.toNat) W4 hr (by simp; omega))
    clear hk4 hkR hkF hB4
    go_wp2_with (refine wpList_slice_l rfl 23 5 _ _ rfl Try.underlying23 Try.size5 _ b P3 .i64 rfl rfl hrow (by omega) (by omega) ?_)
    intro t1 hr1
    rw [← unhide HW4] at hr1 ⊢
    clear y0 y1 y2 hn3
    have HC1 := hide (unhide HCB t1 hr1)
    obtain ⟨p1, l1, q1, rfl⟩ := slice_of_row hr1
    clear hr1 hrow HCB
    go_wp2_with fail
    refine Calls.mono (unhide HC1) ?_
    rintro x w5 ⟨t2, rfl, x5, b5⟩
    have hm5 := mine_of_owns x5
    obtain ⟨p2, l2, q2, rfl⟩ := slice_of_row hm5.row
    have hkF5 := (unhide HKF).below b5
    have hkR5 := (unhide HKR).below b5
    have hB5 := (unhide HB4).trans (b5.mono (unhide HB4).size)
    have hs4 : w3.heap.size < W4.heap.size := World.block_lt_of_cell? W4 _ (unhide HKF).cells.1
    obtain ⟨e0, e1, e2, e3, fz⟩ := hkF5.cells
    have g3 := fz 3
    obtain ⟨W6, hW6⟩ : ∃ W6, W6 = w5.setCell ⟨w3.heap.size, 3, none⟩ (.slice p2 l2 q2) := ⟨_, rfl⟩
    have HW6 := hide hW6
    have hkF6 : Blk4 W6 w3.heap.size 25 (.int .u64 (V1 : Int)) (.int .u64 (V2 : Int)) (.int .i64 (V3 : Int)) (.slice p2 l2 q2) := by rw [hW6]; exact heap_setCell_same w5 _ 3 _ _ _ hkF5
    have hkR6 : Blk4 W6 w.heap.size 25 (.int .u64 0) (.int .u64 0) (.int .i64 0) (.slice none 0 0) := by
      rw [hW6]
      unfold Blk4
      rw [Below.heap_setCell _ _ _ _ (by show w.heap.size ≠ w3.heap.size; omega)]
      exact hkR5
    have hm6 : Mine W6 W4.heap.size (.slice p2 l2 q2) (b.drop P3.toNat) := by rw [hW6]; exact hm5.set hs4 _ _
    have hB6 : Below w.heap.size w W6 := by rw [hW6]; exact hB5.setCell (p := ⟨w3.heap.size, 3, none⟩) (by show w.heap.size ≤ w3.heap.size; omega) _
    have HMB6 := hide (unhide HMB (.slice p2 l2 q2) W6 hm6.row)
    have HKF6 := hide hkF6
    have HKR6 := hide hkR6
    have HM6 := hide hm6
    have HB6 := hide hB6
    obtain ⟨a0, a1, a2, a3, _⟩ := hkF6.cells
    clear fz hm5 hkF5 hkR5 hB5 hW6 hkF6 hkR6 hm6 hB6 x5 b5 HKF HKR HB4 HC1
    go_wp2_with fail
    rw [← unhide HW6]
    go_wp2_with fail
    clear e0 e1 e2 e3 g3
    refine Calls.mono (unhide HMB6) ?_
    rintro x w7 ⟨rfl, b7⟩
    have hB7 := (unhide HB6).trans (b7.mono (unhide HB6).size)
    have hm7 := (unhide HM6).below b7
    have hn7 : ∀ v0 v1 v2 v3, Row ((((w7.setCell ⟨w.heap.size, 0, none⟩ v0).setCell ⟨w.heap.size, 1, none⟩ v1).setCell ⟨w.heap.size, 2, none⟩ v2).setCell ⟨w.heap.size, 3, none⟩ v3) (.slice p2 l2 q2) (b.drop P3.toNat) := fun v0 v1 v2 v3 => ((((hm7.set (by omega) 0 v0).set (by omega) 1 v1).set (by omega) 2 v2).set (by omega) 3 v3).row
    clear hm7
    obtain ⟨e0, e1, e2, e3, _⟩ := ((unhide HKF6).below b7).cells
    obtain ⟨d0, d1, d2, d3, fz⟩ := ((unhide HKR6).below b7).cells
    have g0 := fz 0
    have g1 := fz 1
    have g2 := fz 2
    have g3 := fz 3
    have HB7 := hide hB7
    clear fz b7 hB7 a0 a1 a2 a3 HKF6 HKR6 HM6 HB6 HMB6 HMB
    cases hm : mayF f with
    | false =>
      have HRE : Hid (R = (zeroF, 11)) := by unfold Hid; rw [← unhide HRR, hm, if_neg (by simp)]
      clear hm hn7
      go_wp2
      refine bodyPost_ret (v := .tuple #[.agg #[.int .u64 0, .int .u64 0, .int .i64 0, .slice none 0 0], .int .i64 11]) (by simp [results, Try.results12, go_sem, *]) rfl ⟨.slice none 0 0, by rw [unhide HRE]; rfl, by rw [unhide HRE]; exact Row.nil _, ?_⟩
      exact ((((unhide HB7).setCell (p := ⟨w.heap.size, 0, none⟩) (Nat.le_refl _) _).setCell (p := ⟨w.heap.size, 1, none⟩) (Nat.le_refl _) _).setCell (p := ⟨w.heap.size, 2, none⟩) (Nat.le_refl _) _).setCell (p := ⟨w.heap.size, 3, none⟩) (Nat.le_refl _) _
    | true =>
      have HRE : Hid (R = (f, 0)) := by unfold Hid; rw [← unhide HRR, hm, if_pos rfl]
      have HN7 := hide hn7
      clear hm hn7
      go_wp2
      refine bodyPost_ret (v := .tuple #[.agg #[.int .u64 (V1 : Int), .int .u64 (V2 : Int), .int .i64 (V3 : Int), .slice p2 l2 q2], .int .i64 0]) (by simp [results, Try.results12, go_sem, *]) rfl ⟨.slice p2 l2 q2, by rw [unhide HRE, unhide HF]; rfl, ?_, ?_⟩
      · rw [unhide HRE, unhide HF]
        exact unhide HN7 _ _ _ _
      · exact ((((unhide HB7).setCell (p := ⟨w.heap.size, 0, none⟩) (Nat.le_refl _) _).setCell (p := ⟨w.heap.size, 1, none⟩) (Nat.le_refl _) _).setCell (p := ⟨w.heap.size, 2, none⟩) (Nat.le_refl _) _).setCell (p := ⟨w.heap.size, 3, none⟩) (Nat.le_refl _) _
  · rw [if_pos hE]
    have hE' : (E3 == 0) = false := by simp [hE]
    clear hro
    go_enter Try.func12, Try.ntmps12
    go_wp2_with fail
    rw [unhide HW1]
    refine Calls.mono (unhide HN _ _ _ (unhide HB01) (unhide H31)) ?_
    rintro x w1 ⟨rfl, k1, b1⟩
    rw [unhide D1] at k1 ⊢
    simp only at k1 ⊢
    have HK1 := hide k1
    have HB1 := hide b1
    clear k1 b1 HB01 H31 HW1
    go_wp2_with fail
    refine Calls.mono (unhide HN _ _ _ (unhide HB1) (unhide HK1)) ?_
    rintro x w2 ⟨rfl, k2, b2⟩
    rw [unhide D2] at k2 ⊢
    simp only at k2 ⊢
    have HK2 := hide k2
    have HB2 := hide b2
    clear k2 b2 HB1 HK1
    go_wp2_with fail
    refine Calls.mono (unhide HM _ _ _ (unhide HB2) (unhide HK2)) ?_
    rintro x w3 ⟨rfl, k3, b3⟩
    rw [unhide D3] at k3 ⊢
    simp only at k3 ⊢
    obtain ⟨W4, hW4⟩ : ∃ W4, W4 = w3.alloc (.cells #[.int .u64 (V1 : Int), .int .u64 (V2 : Int), .int .i64 (V3 : Int), .slice none 0 0] 25) := ⟨_, rfl⟩
    have hb34 : Below w3.heap.size w3 W4 := by rw [hW4]; exact (Below.refl _ _).alloc (Nat.le_refl _) _
    have hkF : Blk4 W4 w3.heap.size 25 (.int .u64 (V1 : Int)) (.int .u64 (V2 : Int)) (.int .i64 (V3 : Int)) (.slice none 0 0) := by rw [hW4]; exact heap_alloc_new _ _
    have hk4 := k3.below hb34
    have hkR := (unhide HK0 w3 b3).below hb34
    have hB4 : Below w.heap.size w W4 := (unhide HWB w3 b3).trans (hb34.mono (unhide HWB w3 b3).size)
    have HB4 := hide hB4
    have hlt3 : w.heap.size + 1 < w3.heap.size := World.block_lt_of_cell? w3 _ k3.cells.1
    have HW4 := hide hW4
    obtain ⟨y0, y1, y2, _⟩ := k3.cells
    have hn3 := World.new_ne w3 _ y2
    clear HB2 HK2 b3 k3 hb34 hW4
    have hbd : Below W4.heap.size W4 W4.drew := (Below.refl _ _).drew
    obtain ⟨c0, c1, c2, _⟩ := hk4.cells
    obtain ⟨d0, d1, d2, d3, fz⟩ := hkR.cells
    have f0 := fz 0
    have f1 := fz 1
    have f2 := fz 2
    have f3 := fz 3
    have hne1 : ¬ w.heap.size + 1 = w.heap.size := by omega
    clear fz hk4 hkR hkF hbd
    go_wp2_with fail
    rw [← unhide HW4]
    clear y0 y1 y2 hn3
    go_region
    go_wp2
    refine bodyPost_ret (v := .tuple #[.agg #[.int .u64 0, .int .u64 0, .int .i64 0, .slice none 0 0], .int .i64 E3]) (by simp [results, Try.results12, go_sem, *]) rfl ⟨.slice none 0 0, rfl, Row.nil _, ?_⟩
    have := unhide HB4
    repeat' (first
      | assumption
      | refine Below.setCell ?_ (by first | exact Nat.le_refl _ | (simp; done) | (simp; omega) | omega) _
      | refine Below.alloc ?_ (by first | exact Nat.le_refl _ | (simp; done) | (simp; omega) | omega) _
      | refine Below.drew ?_)
end Go.Proofs.Ytpiekbjpnifjlaa
