/- Texts of ours, one behind the other: FrOwn4, FrRef3, WalRecs. -/
import Derived.Test.YtpkpjmebkikgdaaG4
import Derived.Test.YtpkpjmebkikgdaaG5
import Derived.Test.YtpkpjmebkikgdaaG13
/- What package frame does: Read, where bytes are a frame. -/
namespace Go.Proofs.Ytpkpjmebkikgdaa
open Go.RowKit

set_option maxRecDepth 20000 in
set_option maxHeartbeats 2000000 in
theorem read_eq (g off cap len k : Nat) (w : World) (A C m : Nat) (data : List UInt8) (hR : HeadC (.slice (some ⟨g, off, none⟩) len cap) (rd0 w) A C m (k : Nat) 0) (h32 : ¬ 32 < m) (hk : k ≤ len) (hlc : len ≤ cap) (_hcap : cap ≤ maxLen) (hcz : cap = k)
    (hD : Row w (.slice (some ⟨g, off, none⟩) 0 0) data) (hroom : data.length ≤ 140737488351232) (f f' : Fr) (e' : Int) (hf : f = ⟨A, C, (m : Int), data⟩) (hf' : f' = if mayF f = true then f else zeroF) (he' : e' = if mayF f = true then 0 else 11) :
    Calls Try.prog 66 #[.slice (some ⟨g, off, none⟩) len cap] w fun e w' => ∃ t, e = .returned (.tuple #[fv f' t, .int .i64 e']) ∧ Mine w' w.heap.size t f'.data ∧ Below w.heap.size w w' := by
  subst hcz
  have h32' : ¬ (32 : Int) < m := by omega
  have hwm : IntKind.i64.wrap (m : Int) = m := by rw [IntKind.wrap_i64]; omega
  have HWM := hide hwm
  clear hwm
  unfold maxLen at _hcap
  unfold HeadC at hR
  have HR := hide hR
  have HD := hide hD
  have HF := hide hf
  have HW0 : Hid (w.alloc (.cells #[.int .u64 0, .int .u64 0, .int .i64 0, .slice none 0 0] 72) = rd0 w) := rfl
  have HB0 := hide (rd0_below w)
  have HK0 := hide (rd0_blk w)
  clear hR hf hD
  cases hm : mayF f with
  | false =>
    rw [hm, if_neg (by simp)] at hf' he'
    subst hf' he'
    have HMF := hide hm
    clear hm
    go_enter Try.func66, Try.ntmps66
    go_wp2_with fail
    rw [unhide HW0]
    refine Calls.mono (unhide HR) ?_
    rintro e w1 ⟨rfl, b1⟩
    have HB1 := hide ((unhide HB0).trans (b1.mono (unhide HB0).size))
    have HK1 := hide ((unhide HK0).below b1)
    obtain ⟨W1, hW1⟩ : ∃ W1, W1 = w1.alloc (.cells #[.int .u64 (A : Int), .int .u64 (C : Int), .int .u64 (m : Int)] 140) := ⟨_, rfl⟩
    have HW1 := hide hW1
    have hal : Below w1.heap.size w1 W1 := by rw [hW1]; exact (Below.refl _ _).alloc (Nat.le_refl _) _
    have HK2 := hide ((unhide HK1).below hal)
    have HB2 := hide ((unhide HB1).trans (hal.mono (unhide HB1).size))
    have hat : At3 W1 w1.heap.size 140 (.int .u64 (A : Int)) (.int .u64 (C : Int)) (.int .u64 (m : Int)) := by rw [hW1]; exact heap_alloc_new w1 _
    obtain ⟨c0, c1, c2, _⟩ := (hat.below ((Below.refl _ W1).drew)).cells
    obtain ⟨d0, d1, d2, _⟩ := hat.cells
    have hn0 := World.new_ne W1 _ d0
    clear HB0 HW0 HK0 HK1 HB1 b1 hat hal hW1
    go_wp2_with fail
    rw [← unhide HW1]
    go_wp2_with fail
    go_region_held3 (fun w' => w'.cell? ⟨w1.heap.size, 0, none⟩ = some (.int .u64 (A : Int)) ∧ w'.cell? ⟨w1.heap.size, 1, none⟩ = some (.int .u64 (C : Int)) ∧ w'.cell? ⟨w1.heap.size, 2, none⟩ = some (.int .u64 (m : Int))) (first | assumption | go_keep) (fail)
    rw [unhide HWM]
    obtain ⟨W2, hW2⟩ : ∃ W2, W2 = (W1.alloc (.cells #[.int .u64 (A : Int), .int .u64 (C : Int), .int .i64 (m : Int), .slice (some ⟨g, off, none⟩) 0 0] 72)).drew := ⟨_, rfl⟩
    have HW2 := hide hW2
    have hb12 : Below W1.heap.size W1 W2 := by rw [hW2]; exact ((Below.refl _ _).alloc (Nat.le_refl _) _).drew
    have hKF : Blk4 W2 W1.heap.size 72 (.int .u64 (A : Int)) (.int .u64 (C : Int)) (.int .i64 (m : Int)) (.slice (some ⟨g, off, none⟩) 0 0) := by rw [hW2]; exact heap_alloc_new W1 _
    have HB3' := hide ((unhide HB2).trans (hb12.mono (unhide HB2).size))
    have HKR' := hide ((unhide HK2).below hb12)
    have HM := hide (mayBe_any f (.slice (some ⟨g, off, none⟩) 0 0) W2 (by rw [unhide HF]; exact (unhide HD).below (unhide HB3')))
    rw [unhide HMF] at HM
    rw [unhide HF] at HM
    unfold fv at HM
    have HKF' := hide hKF
    obtain ⟨k0, k1, k2, k3, _⟩ := hKF.cells
    have hWs : w.heap.size < W1.heap.size := World.block_lt_of_cell? W1 _ (unhide HK2).cells.1
    clear c0 c1 c2 d0 d1 d2 hn0 HK2 HB2 hb12 hKF hW2 HW1
    rw [← unhide HW2]
    go_wp2_with fail
    refine Calls.mono (unhide HM) ?_
    rintro e w3 ⟨rfl, b3⟩
    have HB3 := hide ((unhide HB3').trans (b3.mono (unhide HB3').size))
    have HKF := hide ((unhide HKF').below b3)
    have HKR := hide ((unhide HKR').below b3)
    clear b3 HB3' HKF' HKR' k0 k1 k2 k3 HM HW2
    obtain ⟨c0, c1, c2, c3, fz⟩ := (unhide HKR).cells
    have f0 := fz 0
    have f1 := fz 1
    have f2 := fz 2
    have f3 := fz 3
    clear fz
    go_wp2
    refine bodyPost_ret (v := .tuple #[.agg #[.int .u64 0, .int .u64 0, .int .i64 0, .slice none 0 0], .int .i64 11]) (by simp [results, Try.results66, go_sem, *]) rfl ⟨.slice none 0 0, rfl, mine_nil _ _, ?_⟩
    have := unhide HB3
    repeat' (first
        | assumption
        | exact unhide (by assumption)
        | refine Below.setCell ?_ (by first | exact Nat.le_refl _ | (simp; done) | (simp; omega) | omega) _
        | refine Below.alloc ?_ (by first | exact Nat.le_refl _ | (simp; done) | (simp; omega) | omega) _
        | refine Below.drew ?_)
  | true =>
    rw [hm, if_pos rfl] at hf' he'
    subst he'
    rw [hf']
    clear hf'
    have HMF := hide hm
    clear hm
    go_enter Try.func66, Try.ntmps66
    go_wp2_with fail
    rw [unhide HW0]
    refine Calls.mono (unhide HR) ?_
    rintro e w1 ⟨rfl, b1⟩
    have HB1 := hide ((unhide HB0).trans (b1.mono (unhide HB0).size))
    have HK1 := hide ((unhide HK0).below b1)
    obtain ⟨W1, hW1⟩ : ∃ W1, W1 = w1.alloc (.cells #[.int .u64 (A : Int), .int .u64 (C : Int), .int .u64 (m : Int)] 140) := ⟨_, rfl⟩
    have HW1 := hide hW1
    have hal : Below w1.heap.size w1 W1 := by rw [hW1]; exact (Below.refl _ _).alloc (Nat.le_refl _) _
    have HK2 := hide ((unhide HK1).below hal)
    have HB2 := hide ((unhide HB1).trans (hal.mono (unhide HB1).size))
    have hat : At3 W1 w1.heap.size 140 (.int .u64 (A : Int)) (.int .u64 (C : Int)) (.int .u64 (m : Int)) := by rw [hW1]; exact heap_alloc_new w1 _
    obtain ⟨c0, c1, c2, _⟩ := (hat.below ((Below.refl _ W1).drew)).cells
    obtain ⟨d0, d1, d2, _⟩ := hat.cells
    have hn0 := World.new_ne W1 _ d0
    clear HB0 HW0 HK0 HK1 HB1 b1 hat hal hW1
    go_wp2_with fail
    rw [← unhide HW1]
    go_wp2_with fail
    go_region_held3 (fun w' => w'.cell? ⟨w1.heap.size, 0, none⟩ = some (.int .u64 (A : Int)) ∧ w'.cell? ⟨w1.heap.size, 1, none⟩ = some (.int .u64 (C : Int)) ∧ w'.cell? ⟨w1.heap.size, 2, none⟩ = some (.int .u64 (m : Int))) (first | assumption | go_keep) (fail)
    rw [unhide HWM]
    obtain ⟨W2, hW2⟩ : ∃ W2, W2 = (W1.alloc (.cells #[.int .u64 (A : Int), .int .u64 (C : Int), .int .i64 (m : Int), .slice (some ⟨g, off, none⟩) 0 0] 72)).drew := ⟨_, rfl⟩
    have HW2 := hide hW2
    have hb12 : Below W1.heap.size W1 W2 := by rw [hW2]; exact ((Below.refl _ _).alloc (Nat.le_refl _) _).drew
    have hKF : Blk4 W2 W1.heap.size 72 (.int .u64 (A : Int)) (.int .u64 (C : Int)) (.int .i64 (m : Int)) (.slice (some ⟨g, off, none⟩) 0 0) := by rw [hW2]; exact heap_alloc_new W1 _
    have HB3' := hide ((unhide HB2).trans (hb12.mono (unhide HB2).size))
    have HKR' := hide ((unhide HK2).below hb12)
    have HM := hide (mayBe_any f (.slice (some ⟨g, off, none⟩) 0 0) W2 (by rw [unhide HF]; exact (unhide HD).below (unhide HB3')))
    rw [unhide HMF] at HM
    rw [unhide HF] at HM
    unfold fv at HM
    have HKF' := hide hKF
    obtain ⟨k0, k1, k2, k3, _⟩ := hKF.cells
    have hWs : w.heap.size < W1.heap.size := World.block_lt_of_cell? W1 _ (unhide HK2).cells.1
    clear c0 c1 c2 d0 d1 d2 hn0 HK2 HB2 hb12 hKF hW2 HW1
    rw [← unhide HW2]
    go_wp2_with fail
    refine Calls.mono (unhide HM) ?_
    rintro e w3 ⟨rfl, b3⟩
    have HB3 := hide ((unhide HB3').trans (b3.mono (unhide HB3').size))
    have HKF := hide ((unhide HKF').below b3)
    have HKR := hide ((unhide HKR').below b3)
    clear b3 HB3' HKF' HKR' k0 k1 k2 k3 HM HW2
    obtain ⟨c0, c1, c2, c3, fz⟩ := (unhide HKF).cells
    have HCL := hide (clone_any _ data w3 ((unhide HD).below (unhide HB3)) hroom)
    clear fz
    go_wp2_with fail
    refine Calls.mono (unhide HCL) ?_
    rintro e w4 ⟨t, rfl, x4, b4⟩
    obtain ⟨p4, q4, l4, rfl, hl4⟩ := x4.row.shape
    have HX4 := hide x4
    have HLT : Hid (W1.heap.size < w3.heap.size) := World.block_lt_of_cell? w3 _ c0
    have HKF4 := hide ((unhide HKF).below b4)
    have HKR4 := hide ((unhide HKR).below b4)
    have HB4 := hide ((unhide HB3).trans (b4.mono (unhide HB3).size))
    clear c0 c1 c2 c3 HKF HKR x4 hl4 HCL HD
    obtain ⟨c0, c1, c2, c3, fz⟩ := (unhide HKF4).cells
    have f3 := fz 3
    clear fz
    obtain ⟨d0, d1, d2, d3, fz⟩ := (unhide HKR4).cells
    have g0 := fz 0
    have g1 := fz 1
    have g2 := fz 2
    have g3 := fz 3
    clear fz
    have hn : (W1.heap.size == w.heap.size) = false := by rw [beq_eq_false_iff_ne]; omega
    have hn1 : ¬ W1.heap.size = w.heap.size := by omega
    have hn2 : ¬ w.heap.size = W1.heap.size := by omega
    have HFD : Hid (f = ⟨A, C, (m : Int), data⟩) := HF
    go_wp2
    refine bodyPost_ret (v := .tuple #[.agg #[.int .u64 (A : Int), .int .u64 (C : Int), .int .i64 (m : Int), .slice p4 l4 q4], .int .i64 0]) (by simp [results, Try.results66, go_sem, *]) rfl ⟨.slice p4 l4 q4, by rw [unhide HFD]; rfl, ?_, ?_⟩
    · rw [unhide HFD]
      have h3 : W1.heap.size < w3.heap.size := unhide HLT
      refine Mine.base ?_ (unhide HB3).size
      exact ((((unhide HX4).set h3 _ _).set (by omega) _ _ |>.set (by omega) _ _).set (by omega) _ _).set (by omega) _ _
    · have := unhide HB4
      repeat' (first
          | assumption
          | exact unhide (by assumption)
          | refine Below.setCell ?_ (by first | exact Nat.le_refl _ | (simp; done) | (simp; omega) | omega) _
          | refine Below.alloc ?_ (by first | exact Nat.le_refl _ | (simp; done) | (simp; omega) | omega) _
          | refine Below.drew ?_)

set_option maxRecDepth 20000 in
set_option maxHeartbeats 2000000 in
theorem read_lt (g off cap len k : Nat) (w : World) (A C m : Nat) (data : List UInt8) (hR : HeadC (.slice (some ⟨g, off, none⟩) len cap) (rd0 w) A C m (k : Nat) 0) (h32 : ¬ 32 < m) (hk : k ≤ len) (_hlc : len ≤ cap) (_hcap : cap ≤ maxLen) (hcz : k < cap)
    (hD : Row w (.slice (some ⟨g, off + k, none⟩) (len - k) (cap - k)) data) (hroom : data.length ≤ 140737488351232) (f f' : Fr) (e' : Int) (hf : f = ⟨A, C, (m : Int), data⟩) (hf' : f' = if mayF f = true then f else zeroF) (he' : e' = if mayF f = true then 0 else 11) :
    Calls Try.prog 66 #[.slice (some ⟨g, off, none⟩) len cap] w fun e w' => ∃ t, e = .returned (.tuple #[fv f' t, .int .i64 e']) ∧ Mine w' w.heap.size t f'.data ∧ Below w.heap.size w w' := by
  have hcz' : ¬ cap = k := by omega
  have h32' : ¬ (32 : Int) < m := by omega
  have hwm : IntKind.i64.wrap (m : Int) = m := by rw [IntKind.wrap_i64]; omega
  have HWM := hide hwm
  clear hwm
  unfold maxLen at _hcap
  unfold HeadC at hR
  have HR := hide hR
  have HD := hide hD
  have HF := hide hf
  have HW0 : Hid (w.alloc (.cells #[.int .u64 0, .int .u64 0, .int .i64 0, .slice none 0 0] 72) = rd0 w) := rfl
  have HB0 := hide (rd0_below w)
  have HK0 := hide (rd0_blk w)
  clear hR hf hD
  cases hm : mayF f with
  | false =>
    rw [hm, if_neg (by simp)] at hf' he'
    subst hf' he'
    have HMF := hide hm
    clear hm
    go_enter Try.func66, Try.ntmps66
    go_wp2_with fail
    rw [unhide HW0]
    refine Calls.mono (unhide HR) ?_
    rintro e w1 ⟨rfl, b1⟩
    have HB1 := hide ((unhide HB0).trans (b1.mono (unhide HB0).size))
    have HK1 := hide ((unhide HK0).below b1)
    obtain ⟨W1, hW1⟩ : ∃ W1, W1 = w1.alloc (.cells #[.int .u64 (A : Int), .int .u64 (C : Int), .int .u64 (m : Int)] 140) := ⟨_, rfl⟩
    have HW1 := hide hW1
    have hal : Below w1.heap.size w1 W1 := by rw [hW1]; exact (Below.refl _ _).alloc (Nat.le_refl _) _
    have HK2 := hide ((unhide HK1).below hal)
    have HB2 := hide ((unhide HB1).trans (hal.mono (unhide HB1).size))
    have hat : At3 W1 w1.heap.size 140 (.int .u64 (A : Int)) (.int .u64 (C : Int)) (.int .u64 (m : Int)) := by rw [hW1]; exact heap_alloc_new w1 _
    obtain ⟨c0, c1, c2, _⟩ := (hat.below ((Below.refl _ W1).drew)).cells
    obtain ⟨d0, d1, d2, _⟩ := hat.cells
    have hn0 := World.new_ne W1 _ d0
    clear HB0 HW0 HK0 HK1 HB1 b1 hat hal hW1
    go_wp2_with fail
    rw [← unhide HW1]
    go_wp2_with fail
    go_region_held3 (fun w' => w'.cell? ⟨w1.heap.size, 0, none⟩ = some (.int .u64 (A : Int)) ∧ w'.cell? ⟨w1.heap.size, 1, none⟩ = some (.int .u64 (C : Int)) ∧ w'.cell? ⟨w1.heap.size, 2, none⟩ = some (.int .u64 (m : Int))) (first | assumption | go_keep) (fail)
    rw [unhide HWM]
    obtain ⟨W2, hW2⟩ : ∃ W2, W2 = (W1.alloc (.cells #[.int .u64 (A : Int), .int .u64 (C : Int), .int .i64 (m : Int), .slice (some ⟨g, off + k, none⟩) (len - k) (cap - k)] 72)).drew := ⟨_, rfl⟩
    have HW2 := hide hW2
    have hb12 : Below W1.heap.size W1 W2 := by rw [hW2]; exact ((Below.refl _ _).alloc (Nat.le_refl _) _).drew
    have hKF : Blk4 W2 W1.heap.size 72 (.int .u64 (A : Int)) (.int .u64 (C : Int)) (.int .i64 (m : Int)) (.slice (some ⟨g, off + k, none⟩) (len - k) (cap - k)) := by rw [hW2]; exact heap_alloc_new W1 _
    have HB3' := hide ((unhide HB2).trans (hb12.mono (unhide HB2).size))
    have HKR' := hide ((unhide HK2).below hb12)
    have HM := hide (mayBe_any f (.slice (some ⟨g, off + k, none⟩) (len - k) (cap - k)) W2 (by rw [unhide HF]; exact (unhide HD).below (unhide HB3')))
    rw [unhide HMF] at HM
    rw [unhide HF] at HM
    unfold fv at HM
    have HKF' := hide hKF
    obtain ⟨k0, k1, k2, k3, _⟩ := hKF.cells
    have hWs : w.heap.size < W1.heap.size := World.block_lt_of_cell? W1 _ (unhide HK2).cells.1
    clear c0 c1 c2 d0 d1 d2 hn0 HK2 HB2 hb12 hKF hW2 HW1
    rw [← unhide HW2]
    go_wp2_with fail
    refine Calls.mono (unhide HM) ?_
    rintro e w3 ⟨rfl, b3⟩
    have HB3 := hide ((unhide HB3').trans (b3.mono (unhide HB3').size))
    have HKF := hide ((unhide HKF').below b3)
    have HKR := hide ((unhide HKR').below b3)
    clear b3 HB3' HKF' HKR' k0 k1 k2 k3 HM HW2
    obtain ⟨c0, c1, c2, c3, fz⟩ := (unhide HKR).cells
    have f0 := fz 0
    have f1 := fz 1
    have f2 := fz 2
    have f3 := fz 3
    clear fz
    go_wp2
    refine bodyPost_ret (v := .tuple #[.agg #[.int .u64 0, .int .u64 0, .int .i64 0, .slice none 0 0], .int .i64 11]) (by simp [results, Try.results66, go_sem, *]) rfl ⟨.slice none 0 0, rfl, mine_nil _ _, ?_⟩
    have := unhide HB3
    repeat' (first
        | assumption
        | exact unhide (by assumption)
        | refine Below.setCell ?_ (by first | exact Nat.le_refl _ | (simp; done) | (simp; omega) | omega) _
        | refine Below.alloc ?_ (by first | exact Nat.le_refl _ | (simp; done) | (simp; omega) | omega) _
        | refine Below.drew ?_)
  | true =>
    rw [hm, if_pos rfl] at hf' he'
    subst he'
    rw [hf']
    clear hf'
    have HMF := hide hm
    clear hm
    go_enter Try.func66, Try.ntmps66
    go_wp2_with fail
    rw [unhide HW0]
    refine Calls.mono (unhide HR) ?_
    rintro e w1 ⟨rfl, b1⟩
    have HB1 := hide ((unhide HB0).trans (b1.mono (unhide HB0).size))
    have HK1 := hide ((unhide HK0).below b1)
    obtain ⟨W1, hW1⟩ : ∃ W1, W1 = w1.alloc (.cells #[.int .u64 (A : Int), .int .u64 (C : Int), .int .u64 (m : Int)] 140) := ⟨_, rfl⟩
    have HW1 := hide hW1
    have hal : Below w1.heap.size w1 W1 := by rw [hW1]; exact (Below.refl _ _).alloc (Nat.le_refl _) _
    have HK2 := hide ((unhide HK1).below hal)
    have HB2 := hide ((unhide HB1).trans (hal.mono (unhide HB1).size))
    have hat : At3 W1 w1.heap.size 140 (.int .u64 (A : Int)) (.int .u64 (C : Int)) (.int .u64 (m : Int)) := by rw [hW1]; exact heap_alloc_new w1 _
    obtain ⟨c0, c1, c2, _⟩ := (hat.below ((Below.refl _ W1).drew)).cells
    obtain ⟨d0, d1, d2, _⟩ := hat.cells
    have hn0 := World.new_ne W1 _ d0
    clear HB0 HW0 HK0 HK1 HB1 b1 hat hal hW1
    go_wp2_with fail
    rw [← unhide HW1]
    go_wp2_with fail
    go_region_held3 (fun w' => w'.cell? ⟨w1.heap.size, 0, none⟩ = some (.int .u64 (A : Int)) ∧ w'.cell? ⟨w1.heap.size, 1, none⟩ = some (.int .u64 (C : Int)) ∧ w'.cell? ⟨w1.heap.size, 2, none⟩ = some (.int .u64 (m : Int))) (first | assumption | go_keep) (fail)
    rw [unhide HWM]
    obtain ⟨W2, hW2⟩ : ∃ W2, W2 = (W1.alloc (.cells #[.int .u64 (A : Int), .int .u64 (C : Int), .int .i64 (m : Int), .slice (some ⟨g, off + k, none⟩) (len - k) (cap - k)] 72)).drew := ⟨_, rfl⟩
    have HW2 := hide hW2
    have hb12 : Below W1.heap.size W1 W2 := by rw [hW2]; exact ((Below.refl _ _).alloc (Nat.le_refl _) _).drew
    have hKF : Blk4 W2 W1.heap.size 72 (.int .u64 (A : Int)) (.int .u64 (C : Int)) (.int .i64 (m : Int)) (.slice (some ⟨g, off + k, none⟩) (len - k) (cap - k)) := by rw [hW2]; exact heap_alloc_new W1 _
    have HB3' := hide ((unhide HB2).trans (hb12.mono (unhide HB2).size))
    have HKR' := hide ((unhide HK2).below hb12)
    have HM := hide (mayBe_any f (.slice (some ⟨g, off + k, none⟩) (len - k) (cap - k)) W2 (by rw [unhide HF]; exact (unhide HD).below (unhide HB3')))
    rw [unhide HMF] at HM
    rw [unhide HF] at HM
    unfold fv at HM
    have HKF' := hide hKF
    obtain ⟨k0, k1, k2, k3, _⟩ := hKF.cells
    have hWs : w.heap.size < W1.heap.size := World.block_lt_of_cell? W1 _ (unhide HK2).cells.1
    clear c0 c1 c2 d0 d1 d2 hn0 HK2 HB2 hb12 hKF hW2 HW1
    rw [← unhide HW2]
    go_wp2_with fail
    refine Calls.mono (unhide HM) ?_
    rintro e w3 ⟨rfl, b3⟩
    have HB3 := hide ((unhide HB3').trans (b3.mono (unhide HB3').size))
    have HKF := hide ((unhide HKF').below b3)
    have HKR := hide ((unhide HKR').below b3)
    clear b3 HB3' HKF' HKR' k0 k1 k2 k3 HM HW2
    obtain ⟨c0, c1, c2, c3, fz⟩ := (unhide HKF).cells
    have HCL := hide (clone_any _ data w3 ((unhide HD).below (unhide HB3)) hroom)
    clear fz
    go_wp2_with fail
    refine Calls.mono (unhide HCL) ?_
    rintro e w4 ⟨t, rfl, x4, b4⟩
    obtain ⟨p4, q4, l4, rfl, hl4⟩ := x4.row.shape
    have HX4 := hide x4
    have HLT : Hid (W1.heap.size < w3.heap.size) := World.block_lt_of_cell? w3 _ c0
    have HKF4 := hide ((unhide HKF).below b4)
    have HKR4 := hide ((unhide HKR).below b4)
    have HB4 := hide ((unhide HB3).trans (b4.mono (unhide HB3).size))
    clear c0 c1 c2 c3 HKF HKR x4 hl4 HCL HD
    obtain ⟨c0, c1, c2, c3, fz⟩ := (unhide HKF4).cells
    have f3 := fz 3
    clear fz
    obtain ⟨d0, d1, d2, d3, fz⟩ := (unhide HKR4).cells
    have g0 := fz 0
    have g1 := fz 1
    have g2 := fz 2
    have g3 := fz 3
    clear fz
    have hn : (W1.heap.size == w.heap.size) = false := by rw [beq_eq_false_iff_ne]; omega
    have hn1 : ¬ W1.heap.size = w.heap.size := by omega
    have hn2 : ¬ w.heap.size = W1.heap.size := by omega
    have HFD : Hid (f = ⟨A, C, (m : Int), data⟩) := HF
    go_wp2
    refine bodyPost_ret (v := .tuple #[.agg #[.int .u64 (A : Int), .int .u64 (C : Int), .int .i64 (m : Int), .slice p4 l4 q4], .int .i64 0]) (by simp [results, Try.results66, go_sem, *]) rfl ⟨.slice p4 l4 q4, by rw [unhide HFD]; rfl, ?_, ?_⟩
    · rw [unhide HFD]
      have h3 : W1.heap.size < w3.heap.size := unhide HLT
      refine Mine.base ?_ (unhide HB3).size
      exact ((((unhide HX4).set h3 _ _).set (by omega) _ _ |>.set (by omega) _ _).set (by omega) _ _).set (by omega) _ _
    · have := unhide HB4
      repeat' (first
          | assumption
          | exact unhide (by assumption)
          | refine Below.setCell ?_ (by first | exact Nat.le_refl _ | (simp; done) | (simp; omega) | omega) _
          | refine Below.alloc ?_ (by first | exact Nat.le_refl _ | (simp; done) | (simp; omega) | omega) _
          | refine Below.drew ?_)

theorem read_any (s : Value) (b : List UInt8) (w : World) (hs : Row w s b) (hroom : b.length ≤ 140737488351232) :
    Calls Try.prog 66 #[s] w fun e w' => ∃ t, e = .returned (.tuple #[fv (readF b).1 t, .int .i64 (readF b).2]) ∧ Mine w' w.heap.size t (readF b).1.data ∧ Below w.heap.size w w' := by
  have hR := readHead_any s b (rd0 w) (hs.below (rd0_below w)) hroom
  rw [read_head]
  have hho := head_ok b
  generalize headR b = R at *
  obtain ⟨⟨A, C, m⟩, n, e0⟩ := R
  simp only at hR hho ⊢
  by_cases z : e0 = 0
  · subst z
    obtain ⟨n0, n1, hA, hC⟩ := hho rfl
    rw [if_neg (by simp)]
    by_cases h32 : 32 < m
    · rw [if_pos h32]
      refine (read_32 s w A C m n hR h32).mono ?_
      rintro e w1 ⟨rfl, b1⟩
      exact ⟨.slice none 0 0, rfl, mine_nil _ _, b1⟩
    · rw [if_neg h32]
      have hne : b ≠ [] := by intro e; rw [e] at n1; simp at n1; omega
      obtain ⟨g, off, cap, rfl, hc1, hc2, hcell⟩ := hs.open hne
      obtain ⟨k, rfl⟩ := Int.eq_ofNat_of_zero_le (show 0 ≤ n by omega)
      rw [Int.toNat_natCast]
      have hl : (b.drop k).length = b.length - k := by simp
      have key : ∀ {e : Ending} {w' : World} {f f' : Fr} {e' : Int}, f = ⟨A, C, (m : Int), b.drop k⟩ → f' = (if mayF f = true then f else zeroF) → e' = (if mayF f = true then 0 else 11) →
          (∃ t, e = .returned (.tuple #[fv f' t, .int .i64 e']) ∧ Mine w' w.heap.size t f'.data ∧ Below w.heap.size w w') →
          ∃ t, e = .returned (.tuple #[fv (if mayF ⟨A, C, (m : Int), b.drop k⟩ = true then ((⟨A, C, (m : Int), b.drop k⟩ : Fr), (0 : Int)) else (zeroF, 11)).1 t, .int .i64 (if mayF ⟨A, C, (m : Int), b.drop k⟩ = true then ((⟨A, C, (m : Int), b.drop k⟩ : Fr), (0 : Int)) else (zeroF, 11)).2]) ∧
            Mine w' w.heap.size t (if mayF ⟨A, C, (m : Int), b.drop k⟩ = true then ((⟨A, C, (m : Int), b.drop k⟩ : Fr), (0 : Int)) else (zeroF, 11)).1.data ∧ Below w.heap.size w w' := by
        intro e w' f f' e' h1 h2 h3 h4
        subst h1
        subst h2 h3
        split at h4
        · rename_i hm; rw [if_pos hm]; exact h4
        · rename_i hm; rw [if_neg hm]; exact h4
      by_cases hcz : cap = k
      · refine (read_eq g off cap b.length k w A C m (b.drop k) hR h32 (by omega) hc1 hc2 hcz ?_ (by omega) _ _ _ rfl rfl rfl).mono (fun e w' h => key rfl rfl rfl h)
        have e0 : b.drop k = [] := List.eq_nil_of_length_eq_zero (by omega)
        rw [e0]
        exact ⟨_, 0, rfl, Nat.le_refl _, by unfold maxLen; omega, fun _ => rfl, Or.inl rfl⟩
      · refine (read_lt g off cap b.length k w A C m (b.drop k) hR h32 (by omega) hc1 hc2 (by omega) ?_ (by omega) _ _ _ rfl rfl rfl).mono (fun e w' h => key rfl rfl rfl h)
        refine ⟨_, cap - k, by rw [hl], by omega, by unfold maxLen at *; omega, by simp, Or.inr ⟨g, off + k, rfl, fun j hj => ?_⟩⟩
        rw [Nat.add_assoc, hcell (k + j) (by omega)]
        simp
  · rw [if_pos z]
    refine (read_err s w A C m n e0 hR z).mono ?_
    rintro e w1 ⟨rfl, b1⟩
    exact ⟨.slice none 0 0, rfl, mine_nil _ _, b1⟩

end Go.Proofs.Ytpkpjmebkikgdaa

/- The document's own answers of layer 6: Cut. -/
namespace Go.Proofs.Ytpkpjmebkikgdaa
open Go.RowKit

/-- Texts in a row of the call's own, to which texts are appended. -/
def ROwn (w : World) (base : Nat) (v : Value) (ls : List (List UInt8)) : Prop :=
  ∃ vs : List Value, vs.length = ls.length ∧ w.ownsRow base 31 1 v ls.length vs ∧ ∀ j (h : j < ls.length), ∃ t, vs[j]? = some t ∧ Row w t ls[j] ∧ ∀ b off n c, t = .slice (some ⟨b, off, none⟩) n c → ls[j] ≠ [] → v.ownBlock ≠ some b ∧ base ≤ b
theorem ROwn.nil (w : World) (base : Nat) : ROwn w base (.slice none 0 0) [] := ⟨[], rfl, World.ownsRow_nil _ _ _ _, fun j h => by simp at h⟩
theorem ROwn.below {w w' : World} {base : Nat} {v : Value} {ls : List (List UInt8)} (h : ROwn w base v ls) (hb : Below w.heap.size w w') : ROwn w' base v ls := by
  obtain ⟨vs, h1, h2, h3⟩ := h
  exact ⟨vs, h1, owns_below4 h2 hb, fun j hj => let ⟨t, a, b, c⟩ := h3 j hj; ⟨t, a, b.below hb, c⟩⟩
theorem ROwn.base {w : World} {base base' : Nat} {v : Value} {ls : List (List UInt8)} (h : ROwn w base v ls) (hb : base' ≤ base) : ROwn w base' v ls := by
  obtain ⟨vs, h1, h2, h3⟩ := h
  exact ⟨vs, h1, owns_base h2 hb, fun j hj => let ⟨t, a, b, c⟩ := h3 j hj; ⟨t, a, b, fun b off n c' e hne => ⟨(c b off n c' e hne).1, Nat.le_trans hb (c b off n c' e hne).2⟩⟩⟩
theorem ROwn.keep {F : Nat → Prop} {w w' : World} {base : Nat} {v : Value} {ls : List (List UInt8)} (h : ROwn w base v ls) (hk : Keep F w w') (hF : ∀ b, F b → b < base) : ROwn w' base v ls := by
  obtain ⟨vs, h1, h2, h3⟩ := h
  refine ⟨vs, h1, ⟨h2.1, ?_⟩, fun j hj => ?_⟩
  · rcases h2.2 with h2 | ⟨g, cap, cur, hv, hg, hh, r⟩
    · exact Or.inl h2
    · exact Or.inr ⟨g, cap, cur, hv, hg, (hk.block g (Array.getElem?_eq_some_iff.1 hh).1 (fun hf => by have := hF g hf; omega)).trans hh, r⟩
  · obtain ⟨t, a, b, c⟩ := h3 j hj
    exact ⟨t, a, b.keep hk (fun b' off c' e hne hf => by have := hF b' hf; have := (c b' off _ c' e hne).2; omega), c⟩
theorem ROwn.rows {w : World} {base : Nat} {v : Value} {ls : List (List UInt8)} (h : ROwn w base v ls) : Rows2 w v ls := by
  obtain ⟨vs, h1, h2, h3⟩ := h
  rcases h2.2 with ⟨rfl, e⟩ | ⟨g, cap, cur, rfl, hg, hh, k1, k2, k3, k4⟩
  · have : ls = [] := List.eq_nil_of_length_eq_zero e
    subst this
    exact Rows2.nil w
  · refine ⟨_, cap, rfl, k1, k2, by simp, Or.inr ⟨g, 0, rfl, fun j hj => ?_⟩⟩
    obtain ⟨t, a, b, _⟩ := h3 j hj
    refine ⟨t, ?_, b⟩
    rw [Nat.zero_add, cell_of_row w g j cur _ (0, 0) hh]
    rw [← k4] at a
    obtain ⟨hj2, rfl⟩ := List.getElem?_eq_some_iff.1 a
    simp only [List.length_take, Array.length_toList] at hj2
    rw [List.getElem_take, Array.getElem_toList]
    exact Array.getElem?_eq_getElem (by omega)
theorem ROwn.more {w1 W w2 : World} {base : Nat} {v v' t : Value} {ls : List (List UInt8)} {bs : List UInt8} (h : ROwn w1 base v ls) (hW : Below w1.heap.size w1 W) (hr : Row w1 t bs)
    (hap : ∀ b off n c, t = .slice (some ⟨b, off, none⟩) n c → bs ≠ [] → v.ownBlock ≠ some b ∧ base ≤ b)
    (hg : W.grownBy w2 v.ownBlock) (hv : v'.ownBlock = v.ownBlock ∨ v'.ownBlock = some W.heap.size) (hown : ∀ vs, w1.ownsRow base 31 1 v ls.length vs → w2.ownsRow base 31 1 v' (ls.length + 1) (vs ++ [t])) : ROwn w2 base v' (ls ++ [bs]) := by
  obtain ⟨vs, h1, h2, h3⟩ := h
  refine ⟨vs ++ [t], by simp [h1], by simpa using hown vs h2, fun j hj => ?_⟩
  have key : ∀ (t : Value) (bs : List UInt8), Row w1 t bs → (∀ b off n c, t = .slice (some ⟨b, off, none⟩) n c → bs ≠ [] → v.ownBlock ≠ some b ∧ base ≤ b) → Row w2 t bs ∧ ∀ b off n c, t = .slice (some ⟨b, off, none⟩) n c → bs ≠ [] → v'.ownBlock ≠ some b ∧ base ≤ b := by
    intro t bs hr ha
    refine ⟨(hr.below hW).grown hg (fun b off n c e hne => (ha b off n c e hne).1), fun b off n c e hne => ⟨?_, (ha b off n c e hne).2⟩⟩
    rcases hv with hv | hv
    · rw [hv]; exact (ha b off n c e hne).1
    · rw [hv]
      have := row_block_lt hr e hne
      have := hW.size
      intro e
      simp only [Option.some.injEq] at e
      omega
  by_cases hjl : j < ls.length
  · obtain ⟨t', a, b, c⟩ := h3 j hjl
    have e : (ls ++ [bs])[j] = ls[j] := List.getElem_append_left hjl
    rw [e]
    exact ⟨t', by rw [List.getElem?_append_left (by omega)]; exact a, key t' _ b c⟩
  · have hj' : j = ls.length := by simp at hj; omega
    subst hj'
    have e : (ls ++ [bs])[ls.length] = bs := by simp
    rw [e]
    exact ⟨t, by rw [← h1]; simp, key t bs hr hap⟩

end Go.Proofs.Ytpkpjmebkikgdaa

/- Texts in a row to which texts are appended, with all the memory that they lie in; nothing here speaks of what the program does. -/
namespace Go.Proofs.Ytpkpjmebkikgdaa
open Go.RowKit

/-- Texts in a row; H is all the memory of the row and of the texts. -/
def RecsAt (H : Nat → Prop) (w : World) (v : Value) (ls : List (List UInt8)) : Prop :=
  (∃ vs : List Value, vs.length = ls.length ∧ w.ownsRow 0 31 1 v ls.length vs ∧ ∀ j (h : j < ls.length), ∃ t, vs[j]? = some t ∧ Row w t ls[j] ∧ ∀ b off n c, t = .slice (some ⟨b, off, none⟩) n c → ls[j] ≠ [] → v.ownBlock ≠ some b ∧ H b) ∧
  (∀ k, v.ownBlock = some k → H k) ∧ ∀ k, H k → k < w.heap.size

theorem RecsAt.nil (w : World) : RecsAt (fun _ => False) w (.slice none 0 0) [] := ⟨⟨[], rfl, World.ownsRow_nil _ _ _ _, fun j h => by simp at h⟩, (fun k hk => by cases hk), fun k hk => hk.elim⟩
theorem RecsAt.keep {F H : Nat → Prop} {w w' : World} {v : Value} {ls : List (List UInt8)} (h : RecsAt H w v ls) (hk : Keep F w w') (ha : ∀ k, H k → ¬ F k) : RecsAt H w' v ls := by
  obtain ⟨⟨vs, h1, h2, h3⟩, h4, h5⟩ := h
  refine ⟨⟨vs, h1, ⟨h2.1, ?_⟩, fun j hj => ?_⟩, h4, fun k hH => Nat.lt_of_lt_of_le (h5 k hH) hk.size⟩
  · rcases h2.2 with h2 | ⟨g, cap, cur, rfl, hg, hh, r⟩
    · exact Or.inl h2
    · exact Or.inr ⟨g, cap, cur, rfl, hg, (hk.block g (Array.getElem?_eq_some_iff.1 hh).1 (ha g (h4 g rfl))).trans hh, r⟩
  · obtain ⟨t, a, b, c⟩ := h3 j hj
    exact ⟨t, a, b.keep hk (fun b' off c' e hne => ha b' (c b' off _ c' e hne).2), c⟩
theorem RecsAt.below {H : Nat → Prop} {w w' : World} {v : Value} {ls : List (List UInt8)} (h : RecsAt H w v ls) (hb : Below w.heap.size w w') : RecsAt H w' v ls :=
  h.keep (Keep.of_below (F := fun _ => False) hb) (fun _ _ hf => hf)
theorem RecsAt.weak {H H' : Nat → Prop} {w : World} {v : Value} {ls : List (List UInt8)} (h : RecsAt H w v ls) (hs : ∀ k, H k → H' k) (hl : ∀ k, H' k → k < w.heap.size) : RecsAt H' w v ls := by
  obtain ⟨⟨vs, h1, h2, h3⟩, h4, _⟩ := h
  exact ⟨⟨vs, h1, h2, fun j hj => let ⟨t, a, b, c⟩ := h3 j hj; ⟨t, a, b, fun b' off n c' e hne => ⟨(c b' off n c' e hne).1, hs _ (c b' off n c' e hne).2⟩⟩⟩, fun k hk => hs k (h4 k hk), hl⟩
theorem RecsAt.rows {H : Nat → Prop} {w : World} {v : Value} {ls : List (List UInt8)} (h : RecsAt H w v ls) : Rows2 w v ls := by
  obtain ⟨⟨vs, h1, h2, h3⟩, _⟩ := h
  exact ROwn.rows (base := 0) ⟨vs, h1, h2, fun j hj => let ⟨t, a, b, c⟩ := h3 j hj; ⟨t, a, b, fun b' off n c' e hne => ⟨(c b' off n c' e hne).1, Nat.zero_le _⟩⟩⟩
theorem RecsAt.owns {H : Nat → Prop} {w : World} {v : Value} {ls : List (List UInt8)} (h : RecsAt H w v ls) : ∃ vs, w.ownsRow 0 31 1 v ls.length vs := by
  obtain ⟨⟨vs, h1, h2, h3⟩, _⟩ := h
  exact ⟨vs, h2⟩
theorem owns_unique {w : World} {base e sz n : Nat} {v : Value} {xs ys : List Value} (h : w.ownsRow base e sz v n xs) (h' : w.ownsRow base e sz v n ys) : xs = ys := by
  have hl := h.1
  have hl' := h'.1
  rcases h.2 with ⟨_, e2⟩ | ⟨g, cap, cur, e1, _, hh, _, _, _, e6⟩
  · subst e2
    rw [Nat.zero_mul] at hl hl'
    rw [List.eq_nil_of_length_eq_zero hl, List.eq_nil_of_length_eq_zero hl']
  · rcases h'.2 with ⟨e1', _⟩ | ⟨g', cap', cur', e1', _, hh', _, _, _, e6'⟩
    · rw [e1] at e1'; cases e1'
    · rw [e1] at e1'
      simp only [Value.slice.injEq, Option.some.injEq, Addr.mk.injEq, and_true, true_and] at e1'
      obtain ⟨rfl, rfl⟩ := e1'
      rw [hh] at hh'
      cases hh'
      rw [← e6, ← e6']
/-- One text more. -/
theorem RecsAt.more {H : Nat → Prop} {w1 W w2 : World} {v v' t : Value} {ls : List (List UInt8)} {bs : List UInt8} {base : Nat} (h : RecsAt H w1 v ls) (hW : Below w1.heap.size w1 W) (hm : Mine w1 base t bs) (hbase : ∀ k, H k → k < base) (hbw : base ≤ w1.heap.size)
    (hg : W.grownBy w2 v.ownBlock) (hv : v'.ownBlock = v.ownBlock ∨ v'.ownBlock = some W.heap.size) (hown : ∀ vs, w1.ownsRow 0 31 1 v ls.length vs → w2.ownsRow 0 31 1 v' (ls.length + 1) (vs ++ [t])) :
    ∃ H', RecsAt H' w2 v' (ls ++ [bs]) ∧ ∀ k, H' k → H k ∨ base ≤ k := by
  obtain ⟨⟨vs, h1, h2, h3⟩, h4, h5⟩ := h
  have hmb : ∀ b off n c, t = .slice (some ⟨b, off, none⟩) n c → bs ≠ [] → base ≤ b ∧ b < w1.heap.size := by
    intro b off n c e hne
    refine ⟨?_, row_block_lt hm.row e hne⟩
    rcases hm.2 with h0 | ⟨g, off', cap, e', cur, ht, hg, _⟩
    · exact absurd h0 hne
    · rw [ht] at e
      simp only [Value.slice.injEq, Option.some.injEq, Addr.mk.injEq, and_true] at e
      omega
  have hR := ROwn.more (base := 0) (w1 := w1) (W := W) (w2 := w2) (v := v) (v' := v') (t := t) (ls := ls) (bs := bs) ⟨vs, h1, h2, fun j hj => let ⟨t, a, b, c⟩ := h3 j hj; ⟨t, a, b, fun b' off n c' e hne => ⟨(c b' off n c' e hne).1, Nat.zero_le _⟩⟩⟩ hW hm.row
    (fun b off n c e hne => ⟨fun hx => by have := hbase b (h4 b hx); have := (hmb b off n c e hne).1; omega, Nat.zero_le _⟩) hg hv hown
  obtain ⟨vs', r1, r2, r3⟩ := hR
  have hst : vs'.length = (ls ++ [bs]).length := r1
  have hw12 : w1.heap.size ≤ w2.heap.size := Nat.le_trans hW.size hg.size
  -- the cells are the old ones and the new one
  have hvs : vs' = vs ++ [t] := by
    have h6 := hown vs h2
    rcases r2.2 with ⟨e1, e2⟩ | ⟨g, cap, cur, e1, _, hh, _, _, _, e6⟩
    · simp at e2
    · rcases h6.2 with ⟨e1', _⟩ | ⟨g', cap', cur', e1', _, hh', _, _, _, e6'⟩
      · rw [e1] at e1'; cases e1'
      · rw [e1] at e1'
        simp only [Value.slice.injEq, Option.some.injEq, Addr.mk.injEq, and_true] at e1'
        obtain ⟨rfl, _, rfl⟩ := e1'
        rw [hh] at hh'
        cases hh'
        rw [← e6, ← e6']
        simp
  refine ⟨fun k => H k ∨ v'.ownBlock = some k ∨ ∃ off n c, t = .slice (some ⟨k, off, none⟩) n c ∧ bs ≠ [], ⟨⟨vs', r1, r2, fun j hj => ?_⟩, fun k hk => Or.inr (Or.inl hk), fun k hk => ?_⟩, fun k hk => ?_⟩
  · obtain ⟨t', a, b, c⟩ := r3 j hj
    refine ⟨t', a, b, fun b' off n c' e hne => ⟨(c b' off n c' e hne).1, ?_⟩⟩
    by_cases hjl : j < ls.length
    · obtain ⟨t'', a', _, c''⟩ := h3 j hjl
      have e1 : (ls ++ [bs])[j] = ls[j] := List.getElem_append_left hjl
      rw [e1] at hne
      rw [hvs, List.getElem?_append_left (by omega), a'] at a
      cases a
      exact Or.inl (c'' b' off n c' e hne).2
    · have hj' : j = ls.length := by simp at hj; omega
      subst hj'
      have e1 : (ls ++ [bs])[ls.length] = bs := by simp
      rw [e1] at hne
      rw [hvs, ← h1] at a
      simp only [List.getElem?_append_right (Nat.le_refl _), Nat.sub_self, List.getElem?_cons_zero, Option.some.injEq] at a
      subst a
      exact Or.inr (Or.inr ⟨off, n, c', e, hne⟩)
  · rcases hk with hk | hk | ⟨off, n, c, e, hne⟩
    · exact Nat.lt_of_lt_of_le (h5 k hk) hw12
    · rcases r2.2 with ⟨e1, _⟩ | ⟨g, cap, cur, e1, _, hh, _⟩
      · rw [e1] at hk; cases hk
      · rw [e1] at hk; cases hk; exact (Array.getElem?_eq_some_iff.1 hh).1
    · exact Nat.lt_of_lt_of_le (hmb k off n c e hne).2 hw12
  · rcases hk with hk | hk | ⟨off, n, c, e, hne⟩
    · exact Or.inl hk
    · rcases hv with hv | hv
      · exact Or.inl (h4 k (hv ▸ hk))
      · rw [hv] at hk
        simp only [Option.some.injEq] at hk
        right
        have h6 := hW.size
        omega
    · exact Or.inr (hmb k off n c e hne).1
end Go.Proofs.Ytpkpjmebkikgdaa
