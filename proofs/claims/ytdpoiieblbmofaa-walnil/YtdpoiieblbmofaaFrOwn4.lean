/- What package frame does: Read, where bytes are a frame. -/
import Derived.Test.YtdpoiieblbmofaaFrOwn3
namespace Go.Proofs.Ytdpoiieblbmofaa
open Go.RowKit

set_option maxRecDepth 20000 in
set_option maxHeartbeats 2000000 in
theorem read_eq (g off cap len k : Nat) (w : World) (A C m : Nat) (data : List UInt8) (hR : HeadC (.slice (some ⟨g, off, none⟩) len cap) (rd0 w) A C m (k : Nat) 0) (h32 : ¬ 32 < m) (hk : k ≤ len) (hlc : len ≤ cap) (_hcap : cap ≤ maxLen) (hcz : cap = k)
    (hD : Row w (.slice (some ⟨g, off, none⟩) 0 0) data) (hroom : data.length ≤ 140737488351232) (f f' : Fr) (e' : Int) (hf : f = ⟨A, C, (m : Int), data⟩) (hf' : f' = if mayF f = true then f else zeroF) (he' : e' = if mayF f = true then 0 else 11) :
    Calls Try.prog 96 #[.slice (some ⟨g, off, none⟩) len cap] w fun e w' => ∃ t, e = .returned (.tuple #[fv f' t, .int .i64 e']) ∧ Mine w' w.heap.size t f'.data ∧ Below w.heap.size w w' := by
  subst hcz
  have h32' : ¬ (32 : Int) < m := by omega
  have hwm : IntKind.i64.wrap (m : Int) = m := by rw [IntKind.wrap_i64]; omega
  have HWM := hide hwm
  clear hwm
  unfold maxLen at _hcap
  unfold HeadC at hR
  have HR := hide hR
  have HD := hide hD
  have HF := hide hf
  have HW0 : Hid (w.alloc (.cells #[.int .u64 0, .int .u64 0, .int .i64 0, .slice none 0 0] 91) = rd0 w) := rfl
  have HB0 := hide (rd0_below w)
  have HK0 := hide (rd0_blk w)
  clear hR hf hD
  cases hm : mayF f with
  | false =>
    rw [hm, if_neg (by simp)] at hf' he'
    subst hf' he'
    have HMF := hide hm
    clear hm
    go_enter Try.func96, Try.ntmps96
    go_wp2_with fail
    rw [unhide HW0]
    refine Calls.mono (unhide HR) ?_
    rintro e w1 ⟨rfl, b1⟩
    have HB1 := hide ((unhide HB0).trans (b1.mono (unhide HB0).size))
    have HK1 := hide ((unhide HK0).below b1)
    obtain ⟨W1, hW1⟩ : ∃ W1, W1 = w1.alloc (.cells #[.int .u64 (A : Int), .int .u64 (C : Int), .int .u64 (m : Int)] 163) := ⟨_, rfl⟩
    have HW1 := hide hW1
    have hal : Below w1.heap.size w1 W1 := by rw [hW1]; exact (Below.refl _ _).alloc (Nat.le_refl _) _
    have HK2 := hide ((unhide HK1).below hal)
    have HB2 := hide ((unhide HB1).trans (hal.mono (unhide HB1).size))
    have hat : At3 W1 w1.heap.size 163 (.int .u64 (A : Int)) (.int .u64 (C : Int)) (.int .u64 (m : Int)) := by rw [hW1]; exact heap_alloc_new w1 _
    obtain ⟨c0, c1, c2, _⟩ := (hat.below ((Below.refl _ W1).drew)).cells
    obtain ⟨d0, d1, d2, _⟩ := hat.cells
    have hn0 := World.new_ne W1 _ d0
    clear HB0 HW0 HK0 HK1 HB1 b1 hat hal hW1
    go_wp2_with fail
    rw [← unhide HW1]
    go_wp2_with fail
    go_region_held3 (fun w' => w'.cell? ⟨w1.heap.size, 0, none⟩ = some (.int .u64 (A : Int)) ∧ w'.cell? ⟨w1.heap.size, 1, none⟩ = some (.int .u64 (C : Int)) ∧ w'.cell? ⟨w1.heap.size, 2, none⟩ = some (.int .u64 (m : Int))) (first | assumption | go_keep) (fail)
    rw [unhide HWM]
    obtain ⟨W2, hW2⟩ : ∃ W2, W2 = (W1.alloc (.cells #[.int .u64 (A : Int), .int .u64 (C : Int), .int .i64 (m : Int), .slice (some ⟨g, off, none⟩) 0 0] 91)).drew := ⟨_, rfl⟩
    have HW2 := hide hW2
    have hb12 : Below W1.heap.size W1 W2 := by rw [hW2]; exact ((Below.refl _ _).alloc (Nat.le_refl _) _).drew
    have hKF : Blk4 W2 W1.heap.size 91 (.int .u64 (A : Int)) (.int .u64 (C : Int)) (.int .i64 (m : Int)) (.slice (some ⟨g, off, none⟩) 0 0) := by rw [hW2]; exact heap_alloc_new W1 _
    have HB3' := hide ((unhide HB2).trans (hb12.mono (unhide HB2).size))
    have HKR' := hide ((unhide HK2).below hb12)
    have HM := hide (mayBe_any f (.slice (some ⟨g, off, none⟩) 0 0) W2 (by rw [unhide HF]; exact (unhide HD).below (unhide HB3')))
    rw [unhide HMF] at HM
    rw [unhide HF] at HM
    unfold fv at HM
    have HKF' := hide hKF
    obtain ⟨k0, k1, k2, k3, _⟩ := hKF.cells
    have hWs : w.heap.size < W1.heap.size := World.block_lt_of_cell? W1 _ (unhide HK2).cells.1
    clear c0 c1 c2 d0 d1 d2 hn0 HK2 HB2 hb12 hKF hW2 HW1
    rw [← unhide HW2]
    go_wp2_with fail
    refine Calls.mono (unhide HM) ?_
    rintro e w3 ⟨rfl, b3⟩
    have HB3 := hide ((unhide HB3').trans (b3.mono (unhide HB3').size))
    have HKF := hide ((unhide HKF').below b3)
    have HKR := hide ((unhide HKR').below b3)
    clear b3 HB3' HKF' HKR' k0 k1 k2 k3 HM HW2
    obtain ⟨c0, c1, c2, c3, fz⟩ := (unhide HKR).cells
    have f0 := fz 0
    have f1 := fz 1
    have f2 := fz 2
    have f3 := fz 3
    clear fz
    go_wp2
    refine bodyPost_ret (v := .tuple #[.agg #[.int .u64 0, .int .u64 0, .int .i64 0, .slice none 0 0], .int .i64 11]) (by simp [results, Try.results96, go_sem, *]) rfl ⟨.slice none 0 0, rfl, mine_nil _ _, ?_⟩
    have := unhide HB3
    repeat' (first
        | assumption
        | exact unhide (by assumption)
        | refine Below.setCell ?_ (by first | exact Nat.le_refl _ | (simp; done) | (simp; omega) | omega) _
        | refine Below.alloc ?_ (by first | exact Nat.le_refl _ | (simp; done) | (simp; omega) | omega) _
        | refine Below.drew ?_)
  | true =>
    rw [hm, if_pos rfl] at hf' he'
    subst he'
    rw [hf']
    clear hf'
    have HMF := hide hm
    clear hm
    go_enter Try.func96, Try.ntmps96
    go_wp2_with fail
    rw [unhide HW0]
    refine Calls.mono (unhide HR) ?_
    rintro e w1 ⟨rfl, b1⟩
    have HB1 := hide ((unhide HB0).trans (b1.mono (unhide HB0).size))
    have HK1 := hide ((unhide HK0).below b1)
    obtain ⟨W1, hW1⟩ : ∃ W1, W1 = w1.alloc (.cells #[.int .u64 (A : Int), .int .u64 (C : Int), .int .u64 (m : Int)] 163) := ⟨_, rfl⟩
    have HW1 := hide hW1
    have hal : Below w1.heap.size w1 W1 := by rw [hW1]; exact (Below.refl _ _).alloc (Nat.le_refl _) _
    have HK2 := hide ((unhide HK1).below hal)
    have HB2 := hide ((unhide HB1).trans (hal.mono (unhide HB1).size))
    have hat : At3 W1 w1.heap.size 163 (.int .u64 (A : Int)) (.int .u64 (C : Int)) (.int .u64 (m : Int)) := by rw [hW1]; exact heap_alloc_new w1 _
    obtain ⟨c0, c1, c2, _⟩ := (hat.below ((Below.refl _ W1).drew)).cells
    obtain ⟨d0, d1, d2, _⟩ := hat.cells
    have hn0 := World.new_ne W1 _ d0
    clear HB0 HW0 HK0 HK1 HB1 b1 hat hal hW1
    go_wp2_with fail
    rw [← unhide HW1]
    go_wp2_with fail
    go_region_held3 (fun w' => w'.cell? ⟨w1.heap.size, 0, none⟩ = some (.int .u64 (A : Int)) ∧ w'.cell? ⟨w1.heap.size, 1, none⟩ = some (.int .u64 (C : Int)) ∧ w'.cell? ⟨w1.heap.size, 2, none⟩ = some (.int .u64 (m : Int))) (first | assumption | go_keep) (fail)
    rw [unhide HWM]
    obtain ⟨W2, hW2⟩ : ∃ W2, W2 = (W1.alloc (.cells #[.int .u64 (A : Int), .int .u64 (C : Int), .int .i64 (m : Int), .slice (some ⟨g, off, none⟩) 0 0] 91)).drew := ⟨_, rfl⟩
    have HW2 := hide hW2
    have hb12 : Below W1.heap.size W1 W2 := by rw [hW2]; exact ((Below.refl _ _).alloc (Nat.le_refl _) _).drew
    have hKF : Blk4 W2 W1.heap.size 91 (.int .u64 (A : Int)) (.int .u64 (C : Int)) (.int .i64 (m : Int)) (.slice (some ⟨g, off, none⟩) 0 0) := by rw [hW2]; exact heap_alloc_new W1 _
    have HB3' := hide ((unhide HB2).trans (hb12.mono (unhide HB2).size))
    have HKR' := hide ((unhide HK2).below hb12)
    have HM := hide (mayBe_any f (.slice (some ⟨g, off, none⟩) 0 0) W2 (by rw [unhide HF]; exact (unhide HD).below (unhide HB3')))
    rw [unhide HMF] at HM
    rw [unhide HF] at HM
    unfold fv at HM
    have HKF' := hide hKF
    obtain ⟨k0, k1, k2, k3, _⟩ := hKF.cells
    have hWs : w.heap.size < W1.heap.size := World.block_lt_of_cell? W1 _ (unhide HK2).cells.1
    clear c0 c1 c2 d0 d1 d2 hn0 HK2 HB2 hb12 hKF hW2 HW1
    rw [← unhide HW2]
    go_wp2_with fail
    refine Calls.mono (unhide HM) ?_
    rintro e w3 ⟨rfl, b3⟩
    have HB3 := hide ((unhide HB3').trans (b3.mono (unhide HB3').size))
    have HKF := hide ((unhide HKF').below b3)
    have HKR := hide ((unhide HKR').below b3)
    clear b3 HB3' HKF' HKR' k0 k1 k2 k3 HM HW2
    obtain ⟨c0, c1, c2, c3, fz⟩ := (unhide HKF).cells
    have HCL := hide (clone_any _ data w3 ((unhide HD).below (unhide HB3)) hroom)
    clear fz
    go_wp2_with fail
    refine Calls.mono (unhide HCL) ?_
    rintro e w4 ⟨t, rfl, x4, b4⟩
    obtain ⟨p4, q4, l4, rfl, hl4⟩ := x4.row.shape
    have HX4 := hide x4
    have HLT : Hid (W1.heap.size < w3.heap.size) := World.block_lt_of_cell? w3 _ c0
    have HKF4 := hide ((unhide HKF).below b4)
    have HKR4 := hide ((unhide HKR).below b4)
    have HB4 := hide ((unhide HB3).trans (b4.mono (unhide HB3).size))
    clear c0 c1 c2 c3 HKF HKR x4 hl4 HCL HD
    obtain ⟨c0, c1, c2, c3, fz⟩ := (unhide HKF4).cells
    have f3 := fz 3
    clear fz
    obtain ⟨d0, d1, d2, d3, fz⟩ := (unhide HKR4).cells
    have g0 := fz 0
    have g1 := fz 1
    have g2 := fz 2
    have g3 := fz 3
    clear fz
    have hn : (W1.heap.size == w.heap.size) = false := by rw [beq_eq_false_iff_ne]; omega
    have hn1 : ¬ W1.heap.size = w.heap.size := by omega
    have hn2 : ¬ w.heap.size = W1.heap.size := by omega
    have HFD : Hid (f = ⟨A, C, (m : Int), data⟩) := HF
    go_wp2
    refine bodyPost_ret (v := .tuple #[.agg #[.int .u64 (A : Int), .int .u64 (C : Int), .int .i64 (m : Int), .slice p4 l4 q4], .int .i64 0]) (by simp [results, Try.results96, go_sem, *]) rfl ⟨.slice p4 l4 q4, by rw [unhide HFD]; rfl, ?_, ?_⟩
    · rw [unhide HFD]
      have h3 : W1.heap.size < w3.heap.size := unhide HLT
      refine Mine.base ?_ (unhide HB3).size
      exact ((((unhide HX4).set h3 _ _).set (by omega) _ _ |>.set (by omega) _ _).set (by omega) _ _).set (by omega) _ _
    · have := unhide HB4
      repeat' (first
          | assumption
          | exact unhide (by assumption)
          | refine Below.setCell ?_ (by first | exact Nat.le_refl _ | (simp; done) | (simp; omega) | omega) _
          | refine Below.alloc ?_ (by first | exact Nat.le_refl _ | (simp; done) | (simp; omega) | omega) _
          | refine Below.drew ?_)

set_option maxRecDepth 20000 in
set_option maxHeartbeats 2000000 in
theorem read_lt (g off cap len k : Nat) (w : World) (A C m : Nat) (data : List UInt8) (hR : HeadC (.slice (some ⟨g, off, none⟩) len cap) (rd0 w) A C m (k : Nat) 0) (h32 : ¬ 32 < m) (hk : k ≤ len) (_hlc : len ≤ cap) (_hcap : cap ≤ maxLen) (hcz : k < cap)
    (hD : Row w (.slice (some ⟨g, off + k, none⟩) (len - k) (cap - k)) data) (hroom : data.length ≤ 140737488351232) (f f' : Fr) (e' : Int) (hf : f = ⟨A, C, (m : Int), data⟩) (hf' : f' = if mayF f = true then f else zeroF) (he' : e' = if mayF f = true then 0 else 11) :
    Calls Try.prog 96 #[.slice (some ⟨g, off, none⟩) len cap] w fun e w' => ∃ t, e = .returned (.tuple #[fv f' t, .int .i64 e']) ∧ Mine w' w.heap.size t f'.data ∧ Below w.heap.size w w' := by
  have hcz' : ¬ cap = k := by omega
  have h32' : ¬ (32 : Int) < m := by omega
  have hwm : IntKind.i64.wrap (m : Int) = m := by rw [IntKind.wrap_i64]; omega
  have HWM := hide hwm
  clear hwm
  unfold maxLen at _hcap
  unfold HeadC at hR
  have HR := hide hR
  have HD := hide hD
  have HF := hide hf
  have HW0 : Hid (w.alloc (.cells #[.int .u64 0, .int .u64 0, .int .i64 0, .slice none 0 0] 91) = rd0 w) := rfl
  have HB0 := hide (rd0_below w)
  have HK0 := hide (rd0_blk w)
  clear hR hf hD
  cases hm : mayF f with
  | false =>
    rw [hm, if_neg (by simp)] at hf' he'
    subst hf' he'
    have HMF := hide hm
    clear hm
    go_enter Try.func96, Try.ntmps96
    go_wp2_with fail
    rw [unhide HW0]
    refine Calls.mono (unhide HR) ?_
    rintro e w1 ⟨rfl, b1⟩
    have HB1 := hide ((unhide HB0).trans (b1.mono (unhide HB0).size))
    have HK1 := hide ((unhide HK0).below b1)
    obtain ⟨W1, hW1⟩ : ∃ W1, W1 = w1.alloc (.cells #[.int .u64 (A : Int), .int .u64 (C : Int), .int .u64 (m : Int)] 163) := ⟨_, rfl⟩
    have HW1 := hide hW1
    have hal : Below w1.heap.size w1 W1 := by rw [hW1]; exact (Below.refl _ _).alloc (Nat.le_refl _) _
    have HK2 := hide ((unhide HK1).below hal)
    have HB2 := hide ((unhide HB1).trans (hal.mono (unhide HB1).size))
    have hat : At3 W1 w1.heap.size 163 (.int .u64 (A : Int)) (.int .u64 (C : Int)) (.int .u64 (m : Int)) := by rw [hW1]; exact heap_alloc_new w1 _
    obtain ⟨c0, c1, c2, _⟩ := (hat.below ((Below.refl _ W1).drew)).cells
    obtain ⟨d0, d1, d2, _⟩ := hat.cells
    have hn0 := World.new_ne W1 _ d0
    clear HB0 HW0 HK0 HK1 HB1 b1 hat hal hW1
    go_wp2_with fail
    rw [← unhide HW1]
    go_wp2_with fail
    go_region_held3 (fun w' => w'.cell? ⟨w1.heap.size, 0, none⟩ = some (.int .u64 (A : Int)) ∧ w'.cell? ⟨w1.heap.size, 1, none⟩ = some (.int .u64 (C : Int)) ∧ w'.cell? ⟨w1.heap.size, 2, none⟩ = some (.int .u64 (m : Int))) (first | assumption | go_keep) (fail)
    rw [unhide HWM]
    obtain ⟨W2, hW2⟩ : ∃ W2, W2 = (W1.alloc (.cells #[.int .u64 (A : Int), .int .u64 (C : Int), .int .i64 (m : Int), .slice (some ⟨g, off + k, none⟩) (len - k) (cap - k)] 91)).drew := ⟨_, rfl⟩
    have HW2 := hide hW2
    have hb12 : Below W1.heap.size W1 W2 := by rw [hW2]; exact ((Below.refl _ _).alloc (Nat.le_refl _) _).drew
    have hKF : Blk4 W2 W1.heap.size 91 (.int .u64 (A : Int)) (.int .u64 (C : Int)) (.int .i64 (m : Int)) (.slice (some ⟨g, off + k, none⟩) (len - k) (cap - k)) := by rw [hW2]; exact heap_alloc_new W1 _
    have HB3' := hide ((unhide HB2).trans (hb12.mono (unhide HB2).size))
    have HKR' := hide ((unhide HK2).below hb12)
    have HM := hide (mayBe_any f (.slice (some ⟨g, off + k, none⟩) (len - k) (cap - k)) W2 (by rw [unhide HF]; exact (unhide HD).below (unhide HB3')))
    rw [unhide HMF] at HM
    rw [unhide HF] at HM
    unfold fv at HM
    have HKF' := hide hKF
    obtain ⟨k0, k1, k2, k3, _⟩ := hKF.cells
    have hWs : w.heap.size < W1.heap.size := World.block_lt_of_cell? W1 _ (unhide HK2).cells.1
    clear c0 c1 c2 d0 d1 d2 hn0 HK2 HB2 hb12 hKF hW2 HW1
    rw [← unhide HW2]
    go_wp2_with fail
    refine Calls.mono (unhide HM) ?_
    rintro e w3 ⟨rfl, b3⟩
    have HB3 := hide ((unhide HB3').trans (b3.mono (unhide HB3').size))
    have HKF := hide ((unhide HKF').below b3)
    have HKR := hide ((unhide HKR').below b3)
    clear b3 HB3' HKF' HKR' k0 k1 k2 k3 HM HW2
    obtain ⟨c0, c1, c2, c3, fz⟩ := (unhide HKR).cells
    have f0 := fz 0
    have f1 := fz 1
    have f2 := fz 2
    have f3 := fz 3
    clear fz
    go_wp2
    refine bodyPost_ret (v := .tuple #[.agg #[.int .u64 0, .int .u64 0, .int .i64 0, .slice none 0 0], .int .i64 11]) (by simp [results, Try.results96, go_sem, *]) rfl ⟨.slice none 0 0, rfl, mine_nil _ _, ?_⟩
    have := unhide HB3
    repeat' (first
        | assumption
        | exact unhide (by assumption)
        | refine Below.setCell ?_ (by first | exact Nat.le_refl _ | (simp; done) | (simp; omega) | omega) _
        | refine Below.alloc ?_ (by first | exact Nat.le_refl _ | (simp; done) | (simp; omega) | omega) _
        | refine Below.drew ?_)
  | true =>
    rw [hm, if_pos rfl] at hf' he'
    subst he'
    rw [hf']
    clear hf'
    have HMF := hide hm
    clear hm
    go_enter Try.func96, Try.ntmps96
    go_wp2_with fail
    rw [unhide HW0]
    refine Calls.mono (unhide HR) ?_
    rintro e w1 ⟨rfl, b1⟩
    have HB1 := hide ((unhide HB0).trans (b1.mono (unhide HB0).size))
    have HK1 := hide ((unhide HK0).below b1)
    obtain ⟨W1, hW1⟩ : ∃ W1, W1 = w1.alloc (.cells #[.int .u64 (A : Int), .int .u64 (C : Int), .int .u64 (m : Int)] 163) := ⟨_, rfl⟩
    have HW1 := hide hW1
    have hal : Below w1.heap.size w1 W1 := by rw [hW1]; exact (Below.refl _ _).alloc (Nat.le_refl _) _
    have HK2 := hide ((unhide HK1).below hal)
    have HB2 := hide ((unhide HB1).trans (hal.mono (unhide HB1).size))
    have hat : At3 W1 w1.heap.size 163 (.int .u64 (A : Int)) (.int .u64 (C : Int)) (.int .u64 (m : Int)) := by rw [hW1]; exact heap_alloc_new w1 _
    obtain ⟨c0, c1, c2, _⟩ := (hat.below ((Below.refl _ W1).drew)).cells
    obtain ⟨d0, d1, d2, _⟩ := hat.cells
    have hn0 := World.new_ne W1 _ d0
    clear HB0 HW0 HK0 HK1 HB1 b1 hat hal hW1
    go_wp2_with fail
    rw [← unhide HW1]
    go_wp2_with fail
    go_region_held3 (fun w' => w'.cell? ⟨w1.heap.size, 0, none⟩ = some (.int .u64 (A : Int)) ∧ w'.cell? ⟨w1.heap.size, 1, none⟩ = some (.int .u64 (C : Int)) ∧ w'.cell? ⟨w1.heap.size, 2, none⟩ = some (.int .u64 (m : Int))) (first | assumption | go_keep) (fail)
    rw [unhide HWM]
    obtain ⟨W2, hW2⟩ : ∃ W2, W2 = (W1.alloc (.cells #[.int .u64 (A : Int), .int .u64 (C : Int), .int .i64 (m : Int), .slice (some ⟨g, off + k, none⟩) (len - k) (cap - k)] 91)).drew := ⟨_, rfl⟩
    have HW2 := hide hW2
    have hb12 : Below W1.heap.size W1 W2 := by rw [hW2]; exact ((Below.refl _ _).alloc (Nat.le_refl _) _).drew
    have hKF : Blk4 W2 W1.heap.size 91 (.int .u64 (A : Int)) (.int .u64 (C : Int)) (.int .i64 (m : Int)) (.slice (some ⟨g, off + k, none⟩) (len - k) (cap - k)) := by rw [hW2]; exact heap_alloc_new W1 _
    have HB3' := hide ((unhide HB2).trans (hb12.mono (unhide HB2).size))
    have HKR' := hide ((unhide HK2).below hb12)
    have HM := hide (mayBe_any f (.slice (some ⟨g, off + k, none⟩) (len - k) (cap - k)) W2 (by rw [unhide HF]; exact (unhide HD).below (unhide HB3')))
    rw [unhide HMF] at HM
    rw [unhide HF] at HM
    unfold fv at HM
    have HKF' := hide hKF
    obtain ⟨k0, k1, k2, k3, _⟩ := hKF.cells
    have hWs : w.heap.size < W1.heap.size := World.block_lt_of_cell? W1 _ (unhide HK2).cells.1
    clear c0 c1 c2 d0 d1 d2 hn0 HK2 HB2 hb12 hKF hW2 HW1
    rw [← unhide HW2]
    go_wp2_with fail
    refine Calls.mono (unhide HM) ?_
    rintro e w3 ⟨rfl, b3⟩
    have HB3 := hide ((unhide HB3').trans (b3.mono (unhide HB3').size))
    have HKF := hide ((unhide HKF').below b3)
    have HKR := hide ((unhide HKR').below b3)
    clear b3 HB3' HKF' HKR' k0 k1 k2 k3 HM HW2
    obtain ⟨c0, c1, c2, c3, fz⟩ := (unhide HKF).cells
    have HCL := hide (clone_any _ data w3 ((unhide HD).below (unhide HB3)) hroom)
    clear fz
    go_wp2_with fail
    refine Calls.mono (unhide HCL) ?_
    rintro e w4 ⟨t, rfl, x4, b4⟩
    obtain ⟨p4, q4, l4, rfl, hl4⟩ := x4.row.shape
    have HX4 := hide x4
    have HLT : Hid (W1.heap.size < w3.heap.size) := World.block_lt_of_cell? w3 _ c0
    have HKF4 := hide ((unhide HKF).below b4)
    have HKR4 := hide ((unhide HKR).below b4)
    have HB4 := hide ((unhide HB3).trans (b4.mono (unhide HB3).size))
    clear c0 c1 c2 c3 HKF HKR x4 hl4 HCL HD
    obtain ⟨c0, c1, c2, c3, fz⟩ := (unhide HKF4).cells
    have f3 := fz 3
    clear fz
    obtain ⟨d0, d1, d2, d3, fz⟩ := (unhide HKR4).cells
    have g0 := fz 0
    have g1 := fz 1
    have g2 := fz 2
    have g3 := fz 3
    clear fz
    have hn : (W1.heap.size == w.heap.size) = false := by rw [beq_eq_false_iff_ne]; omega
    have hn1 : ¬ W1.heap.size = w.heap.size := by omega
    have hn2 : ¬ w.heap.size = W1.heap.size := by omega
    have HFD : Hid (f = ⟨A, C, (m : Int), data⟩) := HF
    go_wp2
    refine bodyPost_ret (v := .tuple #[.agg #[.int .u64 (A : Int), .int .u64 (C : Int), .int .i64 (m : Int), .slice p4 l4 q4], .int .i64 0]) (by simp [results, Try.results96, go_sem, *]) rfl ⟨.slice p4 l4 q4, by rw [unhide HFD]; rfl, ?_, ?_⟩
    · rw [unhide HFD]
      have h3 : W1.heap.size < w3.heap.size := unhide HLT
      refine Mine.base ?_ (unhide HB3).size
      exact ((((unhide HX4).set h3 _ _).set (by omega) _ _ |>.set (by omega) _ _).set (by omega) _ _).set (by omega) _ _
    · have := unhide HB4
      repeat' (first
          | assumption
          | exact unhide (by assumption)
          | refine Below.setCell ?_ (by first | exact Nat.le_refl _ | (simp; done) | (simp; omega) | omega) _
          | refine Below.alloc ?_ (by first | exact Nat.le_refl _ | (simp; done) | (simp; omega) | omega) _
          | refine Below.drew ?_)

theorem read_any (s : Value) (b : List UInt8) (w : World) (hs : Row w s b) (hroom : b.length ≤ 140737488351232) :
    Calls Try.prog 96 #[s] w fun e w' => ∃ t, e = .returned (.tuple #[fv (readF b).1 t, .int .i64 (readF b).2]) ∧ Mine w' w.heap.size t (readF b).1.data ∧ Below w.heap.size w w' := by
  have hR := readHead_any s b (rd0 w) (hs.below (rd0_below w)) hroom
  rw [read_head]
  have hho := head_ok b
  generalize headR b = R at *
  obtain ⟨⟨A, C, m⟩, n, e0⟩ := R
  simp only at hR hho ⊢
  by_cases z : e0 = 0
  · subst z
    obtain ⟨n0, n1, hA, hC⟩ := hho rfl
    rw [if_neg (by simp)]
    by_cases h32 : 32 < m
    · rw [if_pos h32]
      refine (read_32 s w A C m n hR h32).mono ?_
      rintro e w1 ⟨rfl, b1⟩
      exact ⟨.slice none 0 0, rfl, mine_nil _ _, b1⟩
    · rw [if_neg h32]
      have hne : b ≠ [] := by intro e; rw [e] at n1; simp at n1; omega
      obtain ⟨g, off, cap, rfl, hc1, hc2, hcell⟩ := hs.open hne
      obtain ⟨k, rfl⟩ := Int.eq_ofNat_of_zero_le (show 0 ≤ n by omega)
      rw [Int.toNat_natCast]
      have hl : (b.drop k).length = b.length - k := by simp
      have key : ∀ {e : Ending} {w' : World} {f f' : Fr} {e' : Int}, f = ⟨A, C, (m : Int), b.drop k⟩ → f' = (if mayF f = true then f else zeroF) → e' = (if mayF f = true then 0 else 11) →
          (∃ t, e = .returned (.tuple #[fv f' t, .int .i64 e']) ∧ Mine w' w.heap.size t f'.data ∧ Below w.heap.size w w') →
          ∃ t, e = .returned (.tuple #[fv (if mayF ⟨A, C, (m : Int), b.drop k⟩ = true then ((⟨A, C, (m : Int), b.drop k⟩ : Fr), (0 : Int)) else (zeroF, 11)).1 t, .int .i64 (if mayF ⟨A, C, (m : Int), b.drop k⟩ = true then ((⟨A, C, (m : Int), b.drop k⟩ : Fr), (0 : Int)) else (zeroF, 11)).2]) ∧
            Mine w' w.heap.size t (if mayF ⟨A, C, (m : Int), b.drop k⟩ = true then ((⟨A, C, (m : Int), b.drop k⟩ : Fr), (0 : Int)) else (zeroF, 11)).1.data ∧ Below w.heap.size w w' := by
        intro e w' f f' e' h1 h2 h3 h4
        subst h1
        subst h2 h3
        split at h4
        · rename_i hm; rw [if_pos hm]; exact h4
        · rename_i hm; rw [if_neg hm]; exact h4
      by_cases hcz : cap = k
      · refine (read_eq g off cap b.length k w A C m (b.drop k) hR h32 (by omega) hc1 hc2 hcz ?_ (by omega) _ _ _ rfl rfl rfl).mono (fun e w' h => key rfl rfl rfl h)
        have e0 : b.drop k = [] := List.eq_nil_of_length_eq_zero (by omega)
        rw [e0]
        exact ⟨_, 0, rfl, Nat.le_refl _, by unfold maxLen; omega, fun _ => rfl, Or.inl rfl⟩
      · refine (read_lt g off cap b.length k w A C m (b.drop k) hR h32 (by omega) hc1 hc2 (by omega) ?_ (by omega) _ _ _ rfl rfl rfl).mono (fun e w' h => key rfl rfl rfl h)
        refine ⟨_, cap - k, by rw [hl], by omega, by unfold maxLen at *; omega, by simp, Or.inr ⟨g, off + k, rfl, fun j hj => ?_⟩⟩
        rw [Nat.add_assoc, hcell (k + j) (by omega)]
        simp
  · rw [if_pos z]
    refine (read_err s w A C m n e0 hR z).mono ?_
    rintro e w1 ⟨rfl, b1⟩
    exact ⟨.slice none 0 0, rfl, mine_nil _ _, b1⟩

end Go.Proofs.Ytdpoiieblbmofaa
