/- The walk of the law LayoutApart, by the contracts of package layout. -/
import Derived.Test.YtpjgkdegkodpmaaLayCon
import Derived.Test.YtpjgkdegkodpmaaLayNine
import Derived.Deep.RegionHeld3
namespace Go.Proofs.Ytpjgkdegkodpmaa
open Go.RowKit

/-- How many of the first i sectors are of the region k; how many are heads. -/
def cntN (n : Int) (k : Int) : Nat → Int
  | 0 => 0
  | i + 1 => if regN n i = k then cntN n k i + 1 else cntN n k i
def hdN (n : Int) : Nat → Int
  | 0 => 0
  | i + 1 => if regN n i = 7 ∧ logicB n i = false then hdN n i + 1 else hdN n i
theorem cnt_le (n k : Int) (i : Nat) : 0 ≤ cntN n k i ∧ cntN n k i ≤ i := by
  induction i with
  | zero => exact ⟨Int.le_refl _, Int.le_refl _⟩
  | succ i ih => unfold cntN; split <;> omega
theorem hd_le (n : Int) (i : Nat) : 0 ≤ hdN n i ∧ hdN n i ≤ i := by
  induction i with
  | zero => exact ⟨Int.le_refl _, Int.le_refl _⟩
  | succ i ih => unfold hdN; split <;> omega
theorem reg_range (n a : Int) : 0 ≤ regN n a ∧ regN n a ≤ 7 := by
  unfold regN
  repeat' split
  all_goals omega
/-- A part of the sectors that lies at lo and is of the length d. -/
def part1 (lo d : Int) (i : Int) : Int := if i ≤ lo then 0 else if i ≤ lo + d then i - lo else d
theorem cnt_part {n k lo d : Int} (hd : 0 ≤ d) (hlo : 0 ≤ lo) (i : Nat) (h : ∀ j : Nat, j < i → (regN n j = k ↔ lo ≤ (j : Int) ∧ (j : Int) < lo + d)) : cntN n k i = part1 lo d i := by
  induction i with
  | zero => unfold cntN part1; rw [if_pos (by omega)]
  | succ i ih =>
    have h1 := ih (fun j hj => h j (by omega))
    have h2 := h i (by omega)
    unfold cntN
    rw [h1]
    unfold part1
    by_cases hc : regN n i = k
    · rw [if_pos hc]
      have := h2.1 hc
      repeat' split
      all_goals omega
    · rw [if_neg hc]
      have := fun p => hc (h2.2 p)
      repeat' split
      all_goals omega
theorem hd_part {n : Int} (h : Fits n) (i : Nat) (hi : (i : Int) ≤ n) : hdN n i = (part1 (13 + 3 * lz n) (lseg n * 32) i + 31) / 32 := by
  obtain ⟨z1, z2, _, _⟩ := lz_le n h
  obtain ⟨s1, s2, s3, s4⟩ := lseg_le n h
  induction i with
  | zero => unfold hdN part1; rw [if_pos (by omega)]; rfl
  | succ i ih =>
    have h1 := ih (by omega)
    have h2 : regN n i = 7 ↔ 13 + 3 * lz n ≤ (i : Int) ∧ (i : Int) < 13 + 3 * lz n + lseg n * 32 := by
      unfold regN
      repeat' split
      all_goals omega
    have h3 : logicB n i = false ↔ ¬ (regN n i = 7 ∧ ((i : Int) - (13 + 3 * lz n)) % 32 ≠ 0) := by
      unfold logicB
      rw [decide_eq_false_iff_not]
      exact Iff.rfl
    unfold hdN
    rw [h1]
    unfold part1
    by_cases hc : regN n i = 7 ∧ logicB n i = false
    · rw [if_pos hc]
      have p1 := h2.1 hc.1
      have p2 := h3.1 hc.2
      have p3 : ((i : Int) - (13 + 3 * lz n)) % 32 = 0 := by
        by_cases q : ((i : Int) - (13 + 3 * lz n)) % 32 = 0
        · exact q
        · exact absurd ⟨hc.1, q⟩ p2
      repeat' split
      all_goals omega
    · rw [if_neg hc]
      have p : 13 + 3 * lz n ≤ (i : Int) ∧ (i : Int) < 13 + 3 * lz n + lseg n * 32 → ((i : Int) - (13 + 3 * lz n)) % 32 ≠ 0 := by
        intro q e
        exact hc ⟨h2.2 q, h3.2 (fun r => r.2 e)⟩
      repeat' split
      all_goals omega
theorem cnt_all {n : Int} (h : Fits n) : cntN n 1 n.toNat = 2 ∧ cntN n 2 n.toNat = 1 ∧ cntN n 3 n.toNat = 10 ∧ cntN n 4 n.toNat = lz n ∧ cntN n 5 n.toNat = lz n ∧ cntN n 6 n.toNat = lz n ∧ cntN n 7 n.toNat = lseg n * 32 ∧ hdN n n.toNat = lseg n ∧ cntN n 0 n.toNat < 32 := by
  obtain ⟨z1, z2, _, _⟩ := lz_le n h
  obtain ⟨s1, s2, s3, s4⟩ := lseg_le n h
  have hn := h.1
  have e : ((n.toNat : Nat) : Int) = n := by omega
  have r : ∀ k lo d : Int, 0 ≤ d → 0 ≤ lo → lo + d ≤ n → (∀ j : Nat, j < n.toNat → (regN n j = k ↔ lo ≤ (j : Int) ∧ (j : Int) < lo + d)) → cntN n k n.toNat = d := by
    intro k lo d h1 h2 h3 h4
    rw [cnt_part h1 h2 n.toNat h4, e]
    unfold part1
    repeat' split
    all_goals omega
  refine ⟨r 1 0 2 (by omega) (by omega) (by omega) ?_, r 2 2 1 (by omega) (by omega) (by omega) ?_, r 3 3 10 (by omega) (by omega) (by omega) ?_, r 4 13 _ (by omega) (by omega) (by omega) ?_, r 5 (13 + lz n) _ (by omega) (by omega) (by omega) ?_, r 6 (13 + 2 * lz n) _ (by omega) (by omega) (by omega) ?_, r 7 (13 + 3 * lz n) _ (by omega) (by omega) (by omega) ?_, ?_, ?_⟩
  case refine_8 =>
    rw [hd_part h n.toNat (by omega), e]
    unfold part1
    repeat' split
    all_goals omega
  case refine_9 =>
    have := r 0 (13 + 3 * lz n + lseg n * 32) (n - (13 + 3 * lz n + lseg n * 32)) (by omega) (by omega) (by omega) (by
      intro j hj
      unfold regN
      repeat' split
      all_goals omega)
    rw [this]
    omega
  all_goals
    intro j hj
    unfold regN
    repeat' split
    all_goals omega
/-- The eight counts in a block. -/
def Counts (w : World) (y : Nat) (n : Int) (i : Nat) : Prop :=
  ∃ cur, w.heap[y]? = some (.cells cur 37 (0, 0)) ∧ cur.size = 8 ∧ ∀ j : Nat, j < 8 → cur[j]? = some (.int .i64 (cntN n j i))
theorem Counts.cell {w : World} {y : Nat} {n : Int} {i : Nat} (h : Counts w y n i) {j : Nat} (hj : j < 8) : w.cell? ⟨y, j, none⟩ = some (.int .i64 (cntN n j i)) := by
  obtain ⟨cur, h1, _, h3⟩ := h
  rw [cell_of_row w y j _ _ (0, 0) h1, h3 j hj]
theorem Counts.frozen {w : World} {y : Nat} {n : Int} {i : Nat} (h : Counts w y n i) (j : Nat) : w.frozen? ⟨y, j, none⟩ = false := by
  obtain ⟨cur, h1, _, h3⟩ := h
  exact frozen_of_block h1
theorem Counts.stays {w w' : World} {y : Nat} {n : Int} {i : Nat} (h : Counts w y n i) (hb : Below w.heap.size w w') : Counts w' y n i := by
  obtain ⟨cur, h1, h2⟩ := h
  exact ⟨cur, (hb.block y (Array.getElem?_eq_some_iff.1 h1).1).trans h1, h2⟩
theorem Counts.set {w : World} {y : Nat} {n : Int} {i R : Nat} (h : Counts w y n i) (hR : R < 8) (hr : regN n i = R) : Counts (w.setCell ⟨y, R, none⟩ (.int .i64 (cntN n R i + 1))) y n (i + 1) := by
  obtain ⟨cur, h1, h2, h3⟩ := h
  refine ⟨_, heap_setCell_same w _ R cur _ _ h1, by simpa using h2, fun j hj => ?_⟩
  rw [Array.getElem?_setIfInBounds]
  by_cases e : R = j
  · subst e
    rw [if_pos rfl, if_pos (by omega), cntN, if_pos hr]
  · rw [if_neg e, h3 j hj, cntN, if_neg (by rw [hr]; omega)]

theorem lapart_no (C : LayC) (n : Int) (w : World) (hn : I64 n) (h : ¬ Fits n) :
    Calls Try.prog 5 #[.int .i64 n] w fun e w' => e = .returned (.bool true) ∧ Below w.heap.size w w' := by
  have HP := hide (C.plan n w hn)
  rw [(plan_not h).1, (plan_not h).2] at HP
  unfold layZ at HP
  have HA := hide (fun w' => lawake_any C w')
  clear h hn
  go_enter Try.func5, Try.ntmps5
  go_wp2_with fail
  refine Calls.mono (unhide HP) ?_
  rintro e w1 ⟨rfl, hb1⟩
  go_wp2_with fail
  refine Calls.mono (unhide HA _) ?_
  rintro e w2 ⟨rfl, hb2⟩
  have hB : Below w.heap.size w (w1.alloc (.cells #[.int .i64 0, .int .i64 0, .int .i64 0, .int .i64 0, .int .i64 0, .int .i64 0, .int .i64 0, .int .i64 0, .int .i64 0] 25)) := hb1.alloc hb1.size _
  have HB := hide (hB.trans (hb2.mono hB.size))
  clear hb1 hb2 hB
  go_wp2_with fail
  refine Calls.mono (unhide HA _) ?_
  rintro e w3 ⟨rfl, hb3⟩
  go_wp2
  go_ret
  exact ⟨rfl, (unhide HB).trans (hb3.mono (unhide HB).size)⟩

theorem lapart_far (C : LayC) (n : Int) (w : World) (hn : I64 n) (h : Fits n) (h5 : 5000 < n) :
    Calls Try.prog 5 #[.int .i64 n] w fun e w' => e = .returned (.bool true) ∧ Below w.heap.size w w' := by
  have HP := hide (C.plan n w hn)
  rw [(plan_fits h).1, (plan_fits h).2] at HP
  unfold layV at HP
  have HA := hide (fun w' => lawake_any C w')
  generalize lz n = z at *
  generalize lseg n = m at *
  clear h hn
  go_enter Try.func5, Try.ntmps5
  go_wp2_with fail
  refine Calls.mono (unhide HP) ?_
  rintro e w1 ⟨rfl, hb1⟩
  go_wp2_with fail
  refine Calls.mono (unhide HA _) ?_
  rintro e w2 ⟨rfl, hb2⟩
  have hB : Below w.heap.size w (w1.alloc (.cells #[.int .i64 n, .int .i64 3, .int .i64 13, .int .i64 z, .int .i64 (13 + z), .int .i64 (13 + 2 * z), .int .i64 z, .int .i64 (13 + 3 * z), .int .i64 m] 25)) := hb1.alloc hb1.size _
  have HB := hide (hB.trans (hb2.mono hB.size))
  clear hb1 hb2 hB
  go_wp2_with fail
  refine Calls.mono (unhide HA _) ?_
  rintro e w3 ⟨rfl, hb3⟩
  go_wp2
  go_ret
  exact ⟨rfl, (unhide HB).trans (hb3.mono (unhide HB).size)⟩

set_option maxHeartbeats 4000000 in
theorem lapart_ok (C : LayC) (n : Int) (w : World) (hn : I64 n) (h : Fits n) (h5 : n ≤ 5000) :
    Calls Try.prog 5 #[.int .i64 n] w fun e w' => e = .returned (.bool true) ∧ Below w.heap.size w w' := by
  have HP := hide (C.plan n w hn)
  rw [(plan_fits h).1, (plan_fits h).2] at HP
  obtain ⟨z1, z2, _, _⟩ := lz_le n h
  obtain ⟨s1, s2, _, _⟩ := lseg_le n h
  have HA := hide (fun w' => lawake_any C w')
  have LR := hide (fun (i : Nat) (hi : (i : Int) < n) w' => C.region n i w' h ⟨by omega, by omega⟩)
  have LL := hide (fun (i : Nat) (hi : (i : Int) < n) w' => C.logic n i w' h ⟨by omega, by omega⟩)
  have LC := hide (fun w' => C.capacity n w' h)
  rw [show capN n = lseg n * 31 from rfl] at LC
  have HE := hide (cnt_all h)
  have hn0 : 256 ≤ n := h.1
  unfold layV at HP LR LL LC
  generalize lz n = z at *
  generalize lseg n = m at *
  clear h hn
  go_enter Try.func5, Try.ntmps5
  go_wp2_with fail
  refine Calls.mono (unhide HP) ?_
  rintro e w1 ⟨rfl, hb1⟩
  obtain ⟨wB, hwB⟩ : ∃ wB, wB = w1.alloc (.cells #[.int .i64 n, .int .i64 3, .int .i64 13, .int .i64 z, .int .i64 (13 + z), .int .i64 (13 + 2 * z), .int .i64 z, .int .i64 (13 + 3 * z), .int .i64 m] 25) := ⟨_, rfl⟩
  have hxB : wB.heap[w1.heap.size]? = some (.cells #[.int .i64 n, .int .i64 3, .int .i64 13, .int .i64 z, .int .i64 (13 + z), .int .i64 (13 + 2 * z), .int .i64 z, .int .i64 (13 + 3 * z), .int .i64 m] 25 (0, 0)) := by rw [hwB]; exact heap_alloc_new _ _
  have hbB : Below w.heap.size w wB := by rw [hwB]; exact hb1.alloc hb1.size _
  have hxl : w1.heap.size < wB.heap.size := (Array.getElem?_eq_some_iff.1 hxB).1
  have HX := hide (fun W' (hb : Below wB.heap.size wB W') => nine_cells ((hb.block _ hxl).trans hxB))
  have HB := hide hbB
  have HWB := hide hwB
  clear HP hb1 hwB hxB hbB hxl
  go_wp2_with fail
  rw [← unhide HWB]
  generalize w1.heap.size = x at *
  refine Calls.mono (unhide HA _) ?_
  rintro e w2 ⟨rfl, hb2⟩
  obtain ⟨wC, hwC⟩ : ∃ wC, wC = w2.alloc (.cells #[.int .i64 0, .int .i64 0, .int .i64 0, .int .i64 0, .int .i64 0, .int .i64 0, .int .i64 0, .int .i64 0] 37) := ⟨_, rfl⟩
  have hyC : wC.heap[w2.heap.size]? = some (.cells #[.int .i64 0, .int .i64 0, .int .i64 0, .int .i64 0, .int .i64 0, .int .i64 0, .int .i64 0, .int .i64 0] 37 (0, 0)) := by rw [hwC]; exact heap_alloc_new _ _
  have hbC : Below wB.heap.size wB wC := by rw [hwC]; exact hb2.alloc hb2.size _
  have hC0 : Counts wC w2.heap.size n 0 := ⟨_, hyC, rfl, fun j hj => by
    match j, hj with
    | 0, _ => rfl
    | 1, _ => rfl
    | 2, _ => rfl
    | 3, _ => rfl
    | 4, _ => rfl
    | 5, _ => rfl
    | 6, _ => rfl
    | 7, _ => rfl⟩
  have HY := hide hb2.size
  have HC0 := hide (And.intro hC0 hbC)
  have HWC := hide hwC
  clear hb2 HWB HA hwC hyC hbC hC0
  go_wp2_with fail
  rw [← unhide HWC]
  clear HWC
  generalize w2.heap.size = y at *
  go_loopw [6, 7] (fun hd i wr => ∃ k : Nat, (k : Int) ≤ n ∧ hd = .int .i64 (hdN n k) ∧ i = .int .i64 k ∧ Hid (Counts wr y n k) ∧ Hid (Below wB.heap.size wB wr)) (fun _ i _ => n.toNat - (intOf i).toNat)
  case atStart => exact ⟨0, by omega, rfl, rfl, (unhide HC0).1, (unhide HC0).2⟩
  case round =>
    obtain ⟨k, hk, rfl, rfl, hcs, hbel⟩ := hrel
    by_cases hlt : (k : Int) < n
    · obtain ⟨x0, x1, x2, x3, x4, x5, x6, x7, x8⟩ := unhide HX wr (unhide hbel)
      have HR := hide (unhide LR k hlt)
      have HL := hide (unhide LL k hlt)
      obtain ⟨R, hR⟩ := Int.eq_ofNat_of_zero_le (reg_range n k).1
      have hR7 : R < 8 := by have := (reg_range n k).2; omega
      have hhd := hd_le n k
      have hct := cnt_le n R k
      have HT := hide (show hdN n (k + 1) = if regN n k = 7 ∧ logicB n k = false then hdN n k + 1 else hdN n k from rfl)
      have HSET := hide (fun (W : World) (hc : Counts W y n k) => hc.set hR7 hR)
      rw [hR] at HR HT
      generalize logicN n k = lc at *
      generalize logicB n k = ok at *
      generalize hdN n k = H at *
      clear hR
      go_wp2_with fail
      refine Calls.mono (unhide HR _) ?_
      rintro e w3 ⟨rfl, hb3⟩
      have hc3 := (unhide hcs).stays hb3
      have hw3 : Below wB.heap.size wB w3 := (unhide hbel).trans (hb3.mono (unhide hbel).size)
      have hcell := hc3.cell hR7
      have hfz := hc3.frozen R
      have hset := unhide HSET w3 hc3
      have hw4 : Below wB.heap.size wB (w3.setCell ⟨y, R, none⟩ (.int .i64 (cntN n R k + 1))) := hw3.setCell (p := ⟨y, R, none⟩) (unhide HY) _
      clear x0 x1 x2 x3 x4 x5 x6 x7 x8
      obtain ⟨x0, x1, x2, x3, x4, x5, x6, x7, x8⟩ := unhide HX _ hw4
      have HS4 := hide (And.intro hset hw4)
      clear hb3 hc3 hw3 hset hw4 hcs hbel HSET HR
      generalize cntN n R k = c at *
      have hRI : (R : Int) < 8 := by omega
      have hRI7 : ¬ 7 < (R : Int) := by omega
      have hRI0 : ¬ (R : Int) < 0 := by omega
      go_wp2_with fail
      refine Calls.mono (unhide HL _) ?_
      rintro e w5 ⟨rfl, hb5⟩
      have HN : Hid (Counts w5 y n (k + 1) ∧ Below wB.heap.size wB w5) := ⟨(unhide HS4).1.stays hb5, (unhide HS4).2.trans (hb5.mono (unhide HS4).2.size)⟩
      clear hb5 HS4 HL x0 x1 x2 x3 x4 x5 x6 x7 x8 hcell hfz
      by_cases h7 : R = 7
      · subst h7
        cases ok with
        | false =>
          rw [if_pos ⟨rfl, rfl⟩] at HT
          go_wp2
          go_roundw
          case rel => exact ⟨k + 1, by omega, by rw [unhide HT], by go_num, (unhide HN).1, (unhide HN).2⟩
          case measure => simp [intOf]; omega
        | true =>
          rw [if_neg (fun h => nomatch h.2)] at HT
          go_wp2
          go_roundw
          case rel => exact ⟨k + 1, by omega, by rw [unhide HT], by go_num, (unhide HN).1, (unhide HN).2⟩
          case measure => simp [intOf]; omega
      · rw [if_neg (fun h => h7 (by have := h.1; omega))] at HT
        have h7I : ((R : Int) == 7) = false := by rw [beq_eq_false_iff_ne]; omega
        go_wp2
        go_roundw
        case rel => exact ⟨k + 1, by omega, by rw [unhide HT], by go_num, (unhide HN).1, (unhide HN).2⟩
        case measure => simp [intOf]; omega
    · have hkn : k = n.toNat := by omega
      obtain ⟨e1, e2, e3, e4, e5, e6, e7, e8, e0⟩ := unhide HE
      rw [← hkn] at e1 e2 e3 e4 e5 e6 e7 e8 e0
      have hc00 := (cnt_le n 0 k).1
      have HS := hide (fun W' (hb : Below wr.heap.size wr W') => (unhide hcs).stays hb)
      have HS2 : Hid (∀ w', Below wr.heap.size wr w' → w'.cell? ⟨x, 0, none⟩ = some (.int .i64 n) ∧ w'.cell? ⟨x, 1, none⟩ = some (.int .i64 3) ∧ w'.cell? ⟨x, 2, none⟩ = some (.int .i64 13) ∧ w'.cell? ⟨x, 3, none⟩ = some (.int .i64 z) ∧ w'.cell? ⟨x, 4, none⟩ = some (.int .i64 (13 + z)) ∧ w'.cell? ⟨x, 5, none⟩ = some (.int .i64 (13 + 2 * z)) ∧ w'.cell? ⟨x, 6, none⟩ = some (.int .i64 z) ∧ w'.cell? ⟨x, 7, none⟩ = some (.int .i64 (13 + 3 * z)) ∧ w'.cell? ⟨x, 8, none⟩ = some (.int .i64 m) ∧ w'.cell? ⟨y, 0, none⟩ = some (.int .i64 (cntN n 0 k)) ∧ w'.cell? ⟨y, 1, none⟩ = some (.int .i64 2) ∧ w'.cell? ⟨y, 2, none⟩ = some (.int .i64 1) ∧ w'.cell? ⟨y, 3, none⟩ = some (.int .i64 10) ∧ w'.cell? ⟨y, 4, none⟩ = some (.int .i64 z) ∧ w'.cell? ⟨y, 5, none⟩ = some (.int .i64 z) ∧ w'.cell? ⟨y, 6, none⟩ = some (.int .i64 z) ∧ w'.cell? ⟨y, 7, none⟩ = some (.int .i64 (m * 32))) := by
        intro w' hb
        have q := unhide HS w' hb
        have q0 := q.cell (j := 0) (by omega)
        have q1 := q.cell (j := 1) (by omega)
        have q2 := q.cell (j := 2) (by omega)
        have q3 := q.cell (j := 3) (by omega)
        have q4 := q.cell (j := 4) (by omega)
        have q5 := q.cell (j := 5) (by omega)
        have q6 := q.cell (j := 6) (by omega)
        have q7 := q.cell (j := 7) (by omega)
        rw [show ((1 : Nat) : Int) = 1 from rfl, e1] at q1
        rw [show ((2 : Nat) : Int) = 2 from rfl, e2] at q2
        rw [show ((3 : Nat) : Int) = 3 from rfl, e3] at q3
        rw [show ((4 : Nat) : Int) = 4 from rfl, e4] at q4
        rw [show ((5 : Nat) : Int) = 5 from rfl, e5] at q5
        rw [show ((6 : Nat) : Int) = 6 from rfl, e6] at q6
        rw [show ((7 : Nat) : Int) = 7 from rfl, e7] at q7
        obtain ⟨x0, x1, x2, x3, x4, x5, x6, x7, x8⟩ := unhide HX w' ((unhide hbel).trans (hb.mono (unhide hbel).size))
        exact ⟨x0, x1, x2, x3, x4, x5, x6, x7, x8, q0, q1, q2, q3, q4, q5, q6, q7⟩
      rw [e8]
      generalize cntN n 0 k = c0 at *
      have hS0 := unhide HS2 wr (Below.refl _ _)
      have hge : n ≤ (k : Int) := by omega
      clear HS hcs e1 e2 e3 e4 e5 e6 e7 e8 HE hkn hlt
      go_wp2_with fail
      have HDr : Hid (Below wr.heap.size wr wr.drew) := (Below.refl _ _).drew
      have hu32 : IntKind.i64.wrap (m * 32) = m * 32 := by rw [IntKind.wrap_i64]; omega
      have hu31 : IntKind.i64.wrap (m * 31) = m * 31 := by rw [IntKind.wrap_i64]; omega
      conv in (Code.region _ _ _) => dsimp only [List.append]
      go_region_held3 (fun w' => w'.cell? ⟨x, 0, none⟩ = some (.int .i64 n) ∧ w'.cell? ⟨x, 1, none⟩ = some (.int .i64 3) ∧ w'.cell? ⟨x, 2, none⟩ = some (.int .i64 13) ∧ w'.cell? ⟨x, 3, none⟩ = some (.int .i64 z) ∧ w'.cell? ⟨x, 4, none⟩ = some (.int .i64 (13 + z)) ∧ w'.cell? ⟨x, 5, none⟩ = some (.int .i64 (13 + 2 * z)) ∧ w'.cell? ⟨x, 6, none⟩ = some (.int .i64 z) ∧ w'.cell? ⟨x, 7, none⟩ = some (.int .i64 (13 + 3 * z)) ∧ w'.cell? ⟨x, 8, none⟩ = some (.int .i64 m) ∧ w'.cell? ⟨y, 0, none⟩ = some (.int .i64 c0) ∧ w'.cell? ⟨y, 1, none⟩ = some (.int .i64 2) ∧ w'.cell? ⟨y, 2, none⟩ = some (.int .i64 1) ∧ w'.cell? ⟨y, 3, none⟩ = some (.int .i64 10) ∧ w'.cell? ⟨y, 4, none⟩ = some (.int .i64 z) ∧ w'.cell? ⟨y, 5, none⟩ = some (.int .i64 z) ∧ w'.cell? ⟨y, 6, none⟩ = some (.int .i64 z) ∧ w'.cell? ⟨y, 7, none⟩ = some (.int .i64 (m * 32))) (first | exact hS0 | exact hS1) (first
        | (go_at_call 18; refine Calls.mono (unhide LC _) ?_; rintro e w7 ⟨rfl, hb⟩; have hb7 := (unhide HDr).trans (hb.mono (unhide HDr).size); have hS1 := unhide HS2 _ hb7; have HD7 := hide hb7; clear hb hb7))
      go_wp2
      go_ret
      exact ⟨rfl, (unhide HB).trans (((unhide hbel).trans ((unhide HD7).mono (unhide hbel).size)).mono (unhide HB).size)⟩

theorem lapart_any (C : LayC) (n : Int) (w : World) (hn : I64 n) :
    Calls Try.prog 5 #[.int .i64 n] w fun e w' => e = .returned (.bool true) ∧ Below w.heap.size w w' := by
  by_cases h : Fits n
  · by_cases h5 : 5000 < n
    · exact lapart_far C n w hn h h5
    · exact lapart_ok C n w hn h (by omega)
  · exact lapart_no C n w hn h
end Go.Proofs.Ytpjgkdegkodpmaa
