/- The walk of the law CrcBurst. -/
import Derived.Test.YtnbekfomohhgnaaCrcTurn
import Derived.OpenShut
import Derived.Deep.RegionHeld3
namespace Go.Proofs.Ytnbekfomohhgnaa
open Go.RowKit

/-- The places of the bits of a pattern, of the first k. -/
def isOf (P k : Nat) : List Nat := (List.range k).filter (fun i => P.testBit i)
theorem isOf_succ (P k : Nat) : isOf P (k + 1) = isOf P k ++ (if P.testBit k then [k] else []) := by
  unfold isOf
  rw [List.range_succ, List.filter_append]
  congr 1
  by_cases h : P.testBit k = true
  · simp [h]
  · simp [h]
theorem isOf_len (P k : Nat) : (isOf P k).length ≤ k := by
  have := List.length_filter_le (fun i => P.testBit i) (List.range k)
  rw [List.length_range] at this
  exact this
theorem isOf_lt (P k i : Nat) (h : i ∈ isOf P k) : i < k := by
  unfold isOf at h
  rw [List.mem_filter, List.mem_range] at h
  exact h.1
theorem isOf_nodup (P k : Nat) : (isOf P k).Nodup := (List.nodup_range).filter _
theorem isOf_ne (P : Nat) (h0 : P ≠ 0) (h1 : P < 4294967296) : isOf P 32 ≠ [] := by
  intro e
  apply h0
  apply Nat.eq_of_testBit_eq
  intro i
  rw [Nat.zero_testBit]
  by_cases hi : i < 32
  · cases hb : P.testBit i with
    | false => rfl
    | true =>
      have : i ∈ isOf P 32 := by
        unfold isOf
        rw [List.mem_filter, List.mem_range]
        exact ⟨hi, hb⟩
      rw [e] at this
      cases this
  · exact Nat.testBit_lt_two_pow (Nat.lt_of_lt_of_le h1 (by
      show 2 ^ 32 ≤ 2 ^ i
      exact Nat.pow_le_pow_right (by omega) (by omega)))
theorem patt_bit (r : Nat) (is : List Nat) (hn : is.Nodup) (j : Nat) : (patt r is).testBit j = decide (j < r ∧ j ∈ is) := by
  induction is with
  | nil => simp [patt]
  | cons i t ih =>
    rw [List.nodup_cons] at hn
    rw [patt, Nat.testBit_xor, ih hn.2]
    by_cases hij : i = j
    · subst hij
      by_cases hr : i < r
      · simp [hr, hn.1, Nat.testBit_two_pow_self]
      · simp [hr]
    · have e : (if i < r then 2 ^ i else 0).testBit j = false := by
        split
        · rw [Nat.testBit_two_pow]; simp [hij]
        · simp
      rw [e]
      simp [Ne.symm hij]
theorem patt_lt (r : Nat) (is : List Nat) (hn : is.Nodup) (h : ∀ i ∈ is, i < 32) : patt r is < 4294967296 := by
  show patt r is < 2 ^ 32
  apply Nat.lt_pow_two_of_testBit
  intro j hj
  rw [patt_bit r is hn j]
  simp only [decide_eq_false_iff_not]
  rintro ⟨_, hm⟩
  exact absurd (h j hm) (by omega)
theorem patt_ne (r i : Nat) (is : List Nat) (hn : is.Nodup) (h : i ∈ is) (hr : i < r) : patt r is ≠ 0 := by
  intro e
  have := patt_bit r is hn i
  rw [e, Nat.zero_testBit] at this
  simp [hr, h] at this
theorem burst_more (bs : List UInt8) (a P : Nat) (i : Nat) (t : List Nat) (hP : isOf P 32 = i :: t) (ha : a ≤ 8 * bs.length) (hi : a + i < 8 * bs.length) :
    more 0 (turnAll bs ((isOf P 32).map (a + ·))) ≠ more 0 bs := by
  intro e
  unfold more at e
  have e2 := raw_burst (0 ^^^ 4294967295) bs a (isOf P 32) ha (patt_lt _ _ (isOf_nodup P 32) (fun i hi => isOf_lt P 32 i hi)) (patt_ne _ i _ (isOf_nodup P 32) (by rw [hP]; simp) (by omega))
  apply e2
  have e3 : ∀ x y : Nat, x ^^^ 4294967295 = y ^^^ 4294967295 → x = y := by
    intro x y h
    have h2 : (x ^^^ 4294967295) ^^^ 4294967295 = (y ^^^ 4294967295) ^^^ 4294967295 := by rw [h]
    rw [Nat.xor_assoc, Nat.xor_assoc, Nat.xor_self, Nat.xor_zero, Nat.xor_zero] at h2
    exact h2
  exact e3 _ _ e

theorem place_in (x : Int) (n : Nat) (h0 : 0 < n) (h1 : n ≤ 65536) : ∃ I : Nat, wrap64 ((IntKind.u64.wrap x).tmod (8 * (n : Int))) = (I : Int) ∧ I < 8 * n := by
  have hw : 0 ≤ IntKind.u64.wrap x := by rw [IntKind.wrap_u64]; omega
  rw [Int.tmod_eq_emod_of_nonneg hw]
  have h2 := Int.emod_nonneg (IntKind.u64.wrap x) (show (8 * (n : Int)) ≠ 0 by omega)
  have h3 := Int.emod_lt_of_pos (IntKind.u64.wrap x) (show 0 < 8 * (n : Int) by omega)
  generalize IntKind.u64.wrap x % (8 * (n : Int)) = q at *
  refine ⟨q.toNat, ?_, by omega⟩
  unfold wrap64
  omega

theorem bit_test (P k : Nat) (hP : P < 4294967296) : (bits .and .u32 ((P : Int) / 2 ^ k) 1 == 1) = P.testBit k := by
  have e : (P : Int) / 2 ^ k = ((P / 2 ^ k : Nat) : Int) := by
    rw [Int.natCast_ediv, Int.natCast_pow]
    rfl
  have hl : P / 2 ^ k < 4294967296 := Nat.lt_of_le_of_lt (Nat.div_le_self _ _) hP
  rw [e, bits_and1 _ hl, Nat.testBit_eq_decide_div_mod_eq]
  rcases Nat.mod_two_eq_zero_or_one (P / 2 ^ k) with h | h <;> rw [h] <;> rfl

/-- 'append(v, one int)', v the call's own (or nil). -/
def I64 (n : Nat) : Value := .int .i64 (n : Int)
theorem Try.info3 : (Try.prog.info? 3).map (fun i => (i.zero, i.size, i.bytes)) = some (some (.int .i64 0), 1, 8) := by kernel_rfl

theorem irow_of_owns {w : World} {base : Nat} {v : Value} {ps : List Nat} (hne : ps ≠ []) (h : w.ownsRow base 3 1 v ps.length (ps.map I64)) : IRow w v ps := by
  rcases h.2 with ⟨_, h2⟩ | ⟨g, cap, cur, rfl, hg, hh, hnc, hcp, hcs, htake⟩
  · exact absurd (List.eq_nil_of_length_eq_zero h2) hne
  · refine ⟨g, cap, rfl, hnc, fun j hj => ?_⟩
    rw [h.cellAt j (by omega)]
    simp [hj, I64]

theorem one_new (w : World) (v : Value) (e : Nat) : ∀ (j : Nat) (u : Value), [v][j]? = some u → (w.alloc (.cells #[v] e)).cell? ((⟨w.heap.size, 0, none⟩ : Addr).add j) = some u := by
  intro j u hu
  match j, hu with
  | 0, hu =>
    cases hu
    rw [Addr.add_lit, cell_of_row _ _ _ _ _ (0, 0) (heap_alloc_new _ _)]
    rfl
theorem one_cell (n : Int) : ∀ u ∈ [Value.int .i64 n], u.oneCell' = true := by
  intro u hu
  rw [List.mem_singleton] at hu
  subst hu
  rfl

set_option maxHeartbeats 2000000 in
theorem burst_any (s : Value) (bs : List UInt8) (x : Int) (P : Nat) (w : World) (hs : Row w s bs) (hroom : bs.length ≤ 508) (hne : 0 < bs.length) (hP0 : P ≠ 0) (hP : P < 4294967296) :
    Calls Try.prog 7 #[s, .int .i64 x, .int .u32 P] w fun e w' => e = .returned (.bool true) ∧ Below w.heap.size w w' := by
  obtain ⟨p, c, l, rfl, hl⟩ := hs.shape
  subst hl
  have hz : ((P : Int) == 0) = false := by simp; omega
  have hz2 : ((bs.length : Int) == 0) = false := by rw [beq_eq_false_iff_ne]; omega
  go_enter Try.func7, Try.ntmps7
  go_wp2_with fail
  refine (awake_any w).mono ?_
  rintro e w1 ⟨rfl, hb1⟩
  have H1 := hide (hs.below hb1)
  clear hs
  obtain ⟨i0, hi, hz0, hz1, hz3⟩ := info_parts Try.info3
  obtain ⟨A, hA, hA8⟩ := place_in x bs.length hne (by omega)
  have HA := hide hA
  clear hA
  go_wp2_with fail
  rw [unhide HA]
  clear HA
  go_loopw [7, 8] (fun t i wr => ∃ k : Nat, k ≤ 32 ∧ i = .int .i64 k ∧ Hid (wr.ownsRow w1.heap.size 3 1 t (isOf P k).length ((isOf P k).map fun i => I64 (A + i))) ∧ Below w1.heap.size w1 wr) (fun _ i _ => 32 - (intOf i).toNat)
  case atStart => exact ⟨0, by omega, rfl, World.ownsRow_nil _ _ _ _, Below.refl _ _⟩
  case round =>
    obtain ⟨k, hk, rfl, hown, hbel⟩ := hrel
    by_cases hlt : k < 32
    · have hb := bit_test P k hP
      have HI := hide (isOf_succ P k)
      have hk0 : ((k : Int) < 32) := by omega
      have hlen := isOf_len P k
      cases hbit : P.testBit k with
      | true =>
        rw [hbit] at hb HI
        clear hbit
        have HO := hide (owns_below (unhide hown) ((Below.refl wr.heap.size wr).alloc (Nat.le_refl _) (.cells #[.int .i64 ((A : Int) + (k : Int))] 3)))
        have HB2 := hide (hbel.alloc hbel.size (.cells #[.int .i64 ((A : Int) + (k : Int))] 3))
        clear hown hbel
        go_wp2_with (at_builtin; refine wpList_append_own _ rfl _ _ 37 rfl w1.heap.size 3 i0 (.int .i64 0) 1 8 Try.underlying37 hi hz0 hz1 hz3 rfl (by decide) _ _ _ rfl (unhide HO) ⟨wr.heap.size, 0, none⟩ 1 1 [.int .i64 ((A : Int) + (k : Int))] rfl rfl (one_new wr _ _) (one_cell _) (by unfold maxLen; omega) (by omega) (unhide HB2).size ?_)
        intro v' w' hown' hgrow' _
        have HN : Hid (w'.ownsRow w1.heap.size 3 1 v' (isOf P (k + 1)).length ((isOf P (k + 1)).map fun i => I64 (A + i))) := by
          unfold Hid
          rw [unhide HI]
          simpa [I64] using hown'
        have HB3 := hide ((unhide HB2).grown hgrow' (unhide HB2).size (fun j hj => ((unhide HO).lt j hj).1))
        clear hown' hgrow' HO HB2 HI
        go_wp2
        go_roundw
        case rel => exact ⟨k + 1, by omega, by go_num, unhide HN, unhide HB3⟩
        case measure => simp [intOf]; omega
      | false =>
        rw [hbit] at hb HI
        clear hbit
        go_wp2
        go_roundw
        case rel => exact ⟨k + 1, by omega, by go_num, by rw [unhide HI]; simpa using hown, hbel⟩
        case measure => simp [intOf]; omega
    · obtain rfl : k = 32 := by omega
      cases hq : isOf P 32 with
      | nil => exact absurd hq (isOf_ne P hP0 hP)
      | cons i0' t0 =>
        have HQ := hide hq
        have hm : i0' ∈ isOf P 32 := by rw [hq]; simp
        have hi32 := isOf_lt P 32 i0' hm
        have HR := hide (irow_of_owns (ps := (isOf P 32).map (A + ·)) (by rw [hq]; simp) (by rw [List.length_map, List.map_map]; exact unhide hown))
        have HLN := hide (isOf_len P 32)
        have HLT := hide (fun i h => isOf_lt P 32 i h)
        clear hown hq hm
        obtain ⟨gb, cb, rfl, hcb, hcells⟩ := unhide HR
        have hc0 := hcells 0 (by rw [List.length_map, unhide HQ]; simp)
        have e0 : ((isOf P 32).map (A + ·))[0]'(by rw [List.length_map, unhide HQ]; simp) = A + i0' := by simp [unhide HQ]
        rw [e0] at hc0
        have hl0 : 0 < ((isOf P 32).map (A + ·)).length := by rw [List.length_map, unhide HQ]; simp
        clear hcells e0
        have HBU := hide (fun h : A + i0' < 8 * bs.length => burst_more bs A P i0' t0 (unhide HQ) (by omega) h)
        have HLM : Hid (((isOf P 32).map (A + ·)).length ≤ 32) := by unfold Hid; rw [List.length_map]; exact unhide HLN
        have HPS : Hid (∀ p ∈ (isOf P 32).map (A + ·), p < 8 * bs.length + 32) := by
          intro p hp
          obtain ⟨i, hi, rfl⟩ := List.mem_map.1 hp
          have := unhide HLT i hi
          omega
        generalize (isOf P 32).map (A + ·) = ps at *
        clear HQ HLN HLT
        by_cases hin : A + i0' < 8 * bs.length
        · have hd : ¬ (8 * (bs.length : Int) ≤ (A : Int) + (i0' : Int)) := by omega
          have HX := hide (unhide HBU hin)
          clear HBU
          have R2 := (unhide H1).below hbel
          have B2 : Below w.heap.size w wr := hb1.trans (hbel.mono hb1.size)
          go_wp2_with fail
          refine (turn_any _ _ bs ps wr R2 (unhide HR) (by omega) (fun p hp => by have := unhide HPS p hp; omega) (by have := unhide HLM; omega)).mono ?_
          rintro e w3 ⟨u3, rfl, hown3, hb3⟩
          have hl3 := length_turnAll bs ps
          rw [← hl3] at hown3
          have R3 := row_of_owns hown3
          have B3 : Below w.heap.size w w3 := B2.trans (hb3.mono B2.size)
          have R2' := R2.below hb3
          clear hown3 R2 B2
          go_wp2_with fail
          refine (sum_any u3 _ w3 R3 (by omega)).mono ?_
          rintro e w4 ⟨rfl, hb4⟩
          have R4 := R2'.below hb4
          have B4 : Below w.heap.size w w4 := B3.trans (hb4.mono B3.size)
          clear R3 B3 R2'
          go_wp2_with fail
          refine (sum_any _ bs w4 R4 (by omega)).mono ?_
          rintro e w5 ⟨rfl, hb5⟩
          have hx : (((more 0 (turnAll bs ps) : Nat) : Int) != ((more 0 bs : Nat) : Int)) = true := by
            have := unhide HX
            rw [bne_iff_ne]
            omega
          go_wp2
          go_ret
          exact ⟨rfl, B4.trans (hb5.mono B4.size)⟩
        · have hd : 8 * (bs.length : Int) ≤ (A : Int) + (i0' : Int) := by omega
          clear HBU
          go_wp2
          go_ret
          exact ⟨rfl, hb1.trans (hbel.mono hb1.size)⟩

theorem burst_none (s : Value) (bs : List UInt8) (x : Int) (P : Nat) (w : World) (hs : Row w s bs) (h : bs.length = 0 ∨ 508 < bs.length ∨ P = 0) :
    Calls Try.prog 7 #[s, .int .i64 x, .int .u32 P] w fun e w' => e = .returned (.bool true) ∧ Below w.heap.size w w' := by
  obtain ⟨p, c, l, rfl, hl⟩ := hs.shape
  subst hl
  clear hs
  generalize bs.length = n at *
  by_cases h0 : n = 0
  · subst h0
    go_enter Try.func7, Try.ntmps7
    go_wp2_with fail
    refine (awake_any w).mono ?_
    rintro e w1 ⟨rfl, hb1⟩
    go_wp2_with fail
    refine (awake_any w1).mono ?_
    rintro e w2 ⟨rfl, hb2⟩
    go_wp2
    go_ret
    exact ⟨rfl, hb1.trans (hb2.mono hb1.size)⟩
  · have hz2 : ((n : Int) == 0) = false := by rw [beq_eq_false_iff_ne]; omega
    by_cases h1 : 508 < n
    · have h1' : (508 : Int) < n := by omega
      clear h
      go_enter Try.func7, Try.ntmps7
      go_wp2_with fail
      refine (awake_any w).mono ?_
      rintro e w1 ⟨rfl, hb1⟩
      go_wp2_with fail
      refine (awake_any w1).mono ?_
      rintro e w2 ⟨rfl, hb2⟩
      go_wp2
      go_ret
      exact ⟨rfl, hb1.trans (hb2.mono hb1.size)⟩
    · obtain rfl : P = 0 := by omega
      have h1' : ¬ (508 : Int) < n := by omega
      clear h
      go_enter Try.func7, Try.ntmps7
      go_wp2_with fail
      refine (awake_any w).mono ?_
      rintro e w1 ⟨rfl, hb1⟩
      go_wp2_with fail
      refine (awake_any w1).mono ?_
      rintro e w2 ⟨rfl, hb2⟩
      go_wp2
      go_ret
      exact ⟨rfl, hb1.trans (hb2.mono hb1.size)⟩

theorem walk_CrcBurst (s : Value) (bs : List UInt8) (a1 : Int) (_w1 : (Lit.int .i64 a1).wf = true) (a2 : Int) (w2 : (Lit.int .u32 a2).wf = true) (w : World) (hs : Row w s bs) (_hroom : bs.length ≤ 140737488351232) :
    Calls Try.prog 7 #[s, .int .i64 a1, .int .u32 a2] w fun e w' => e = .returned (.bool true) ∧ Below w.heap.size w w' := by
  have hb := bounds_u32 w2
  obtain ⟨P, rfl⟩ := Int.eq_ofNat_of_zero_le hb.1
  by_cases h : bs.length = 0 ∨ 508 < bs.length ∨ P = 0
  · exact burst_none s bs a1 P w hs h
  · exact burst_any s bs a1 P w hs (by omega) (by omega) (by omega) (by omega)
end Go.Proofs.Ytnbekfomohhgnaa
