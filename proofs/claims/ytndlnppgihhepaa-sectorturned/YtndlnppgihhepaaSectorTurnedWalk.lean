/- The walk of the law SectorTurned, by the contracts of package sector. -/
import Derived.Test.YtndlnppgihhepaaSecLaws
import Derived.Test.YtndlnppgihhepaaSecOpen2
import Derived.Test.YtndlnppgihhepaaSecHelp
import Derived.Test.YtndlnppgihhepaaCrcTurn
import Derived.Test.YtndlnppgihhepaaSectorTwoWalk
import Derived.OpenShut
import Derived.BigQuiet
import Derived.WalkSmall
import Derived.Deep.QuietTactic
namespace Go.Proofs.Ytndlnppgihhepaa
open Go.RowKit

theorem place_at (x : Int) : ∃ I : Nat, wrap64 ((IntKind.u64.wrap x).tmod 4096) = (I : Int) ∧ I < 4096 := by
  have hw : 0 ≤ IntKind.u64.wrap x := by rw [IntKind.wrap_u64]; omega
  rw [Int.tmod_eq_emod_of_nonneg hw]
  have h2 := Int.emod_nonneg (IntKind.u64.wrap x) (show (4096 : Int) ≠ 0 by omega)
  have h3 := Int.emod_lt_of_pos (IntKind.u64.wrap x) (show 0 < (4096 : Int) by omega)
  generalize IntKind.u64.wrap x % 4096 = q at *
  refine ⟨q.toNat, ?_, by omega⟩
  unfold wrap64
  omega

theorem row_of_made {w : World} {base e g m : Nat} (h : w.ownsRow base e 1 (.slice (some ⟨g, 0, none⟩) m m) m (madeCells #[Value.int .u8 0] m).toList) : Row w (.slice (some ⟨g, 0, none⟩) m m) (List.replicate m 0) := by
  have hb := made_block h
  have hm : m ≤ maxLen := by
    rcases h.2 with ⟨h', _⟩ | ⟨g', cap, cur, h', _, _, _, hc, _⟩
    · simp at h'
    · simp only [Value.slice.injEq] at h'
      omega
  have r := row_of_block hb 0 m m (by simp) (Nat.le_refl _) hm
  rw [List.drop_zero, List.take_of_length_le (by simp)] at r
  exact r

theorem turned_error (k : UInt8) (turn : Int) (s : Value) (p : List UInt8) (x y z : Int) (w : World) (CS : Hid (Calls Try.prog 9 #[.int .u8 (k.toNat : Int), .int .u64 turn, s] w fun e w' => ∃ t, e = .returned (.tuple #[t, .int .i64 (sealE k p)]) ∧ Below w.heap.size w w')) (CA : Hid (∀ (w : World), Calls Try.prog 11 #[] w fun e w' => e = .returned (.bool true) ∧ Below w.heap.size w w')) (h : sealE k p ≠ 0) :
    Calls Try.prog 6 #[.int .u8 (k.toNat : Int), .int .u64 turn, s, .int .i64 x, .int .i64 y, .int .i64 z] w fun e w' => e = .returned (.bool true) ∧ Below w.heap.size w w' := by
  have hE : ((sealE k p) != 0) = true := by rw [bne_iff_ne]; exact h
  generalize sealE k p = E at *
  clear h
  go_enter Try.func6, Try.ntmps6
  go_wp2_with fail
  refine Calls.mono (unhide CS) ?_
  rintro e w1 ⟨t, rfl, hb1⟩
  go_wp2_with fail
  refine Calls.mono (unhide CA w1) ?_
  rintro e w2 ⟨rfl, hb2⟩
  have B2 : Below w.heap.size w w2 := hb1.trans (hb2.mono hb1.size)
  go_wp2_with fail
  refine Calls.mono (unhide CA w2) ?_
  rintro e w3 ⟨rfl, hb3⟩
  go_wp2
  go_ret
  exact ⟨rfl, B2.trans (hb3.mono B2.size)⟩

set_option maxHeartbeats 1000000 in
theorem turned_any (cs : SealC) (ck : KnownC) (co : OpenC) (k : UInt8) (turn : Nat) (s : Value) (p : List UInt8) (x y z : Int) (w : World) (hs : Row w s p) (ht : turn < 18446744073709551616) (hr : p.length ≤ 140737488351232) :
    Calls Try.prog 6 #[.int .u8 (k.toNat : Int), .int .u64 turn, s, .int .i64 x, .int .i64 y, .int .i64 z] w fun e w' => e = .returned (.bool true) ∧ Below w.heap.size w w' := by
  obtain ⟨i0, hi, hz0, hz1, hz2⟩ := info_parts Try.info5
  have CS := hide (cs k turn s p w ht hr hs)
  have CA := hide (awake_any cs ck)
  by_cases h0 : sealE k p = 0
  · obtain ⟨hk, hl, hsl⟩ := sealE_ok k p h0
    rw [hsl turn, h0] at CS
    have CO := hide co
    obtain ⟨I, hI, hI8⟩ := place_at x
    obtain ⟨J, hJ, hJ8⟩ := place_at y
    obtain ⟨M, hM, hM8⟩ := place_at z
    have HIJM := hide (And.intro hI (And.intro hJ hM))
    clear hI hJ hM hs cs ck co hsl h0 hr ht
    go_enter Try.func6, Try.ntmps6
    go_wp2_with fail
    refine Calls.mono (unhide CS) ?_
    rintro e w1 ⟨t, rfl, m1, hb1⟩
    go_wp2_with fail
    refine Calls.mono (unhide CA w1) ?_
    rintro e w2 ⟨rfl, hb2⟩
    have r2 := m1.row.below hb2
    have B2 : Below w.heap.size w w2 := hb1.trans (hb2.mono hb1.size)
    clear m1 hb1 hb2 CS
    go_wp2_with fail
    go_region
    rw [(unhide HIJM).1, (unhide HIJM).2.1, (unhide HIJM).2.2]
    have BD : Below w2.heap.size w2 (w2.alloc (.cells #[.int .i64 (I : Int), .int .i64 (J : Int), .int .i64 (M : Int)] 3)).drew := ((Below.refl _ _).alloc (Nat.le_refl _) _).drew
    have x3 := three_cells (show (w2.alloc (.cells #[.int .i64 (I : Int), .int .i64 (J : Int), .int .i64 (M : Int)] 3)).drew.heap[w2.heap.size]? = some (.cells #[.int .i64 (I : Int), .int .i64 (J : Int), .int .i64 (M : Int)] 3 (0, 0)) from heap_alloc_new _ _)
    have r3 := r2.below BD
    have B3 := B2.trans (BD.mono B2.size)
    clear BD r2 B2 HIJM
    generalize (w2.alloc (.cells #[.int .i64 (I : Int), .int .i64 (J : Int), .int .i64 (M : Int)] 3)).drew = w3 at *
    obtain ⟨c0, c1, c2, _, _, _⟩ := x3
    generalize w2.heap.size = gb at *
    have HR1 : IRow w3 (.slice (some ⟨gb, 0, none⟩) 1 3) [I] := ⟨gb, 3, rfl, by simp, fun j hj => by
      have hj' : j < 1 := by simpa using hj
      match j, hj' with
      | 0, _ => exact c0⟩
    have HR3 : IRow w3 (.slice (some ⟨gb, 0, none⟩) 3 3) [I, J, M] := ⟨gb, 3, rfl, by simp, fun j hj => by
      have hj' : j < 3 := by simpa using hj
      match j, hj' with
      | 0, _ => exact c0
      | 1, _ => exact c1
      | 2, _ => exact c2⟩
    by_cases hij : I = J
    · have d1 : ((I : Int) == (J : Int)) = true := by simp [hij]
      have HP : Hid (Places 4096 [I]) := Or.inl ⟨I, rfl, hI8⟩
      clear hij
      go_wp2_with fail
      go_quiet (fail)
      have bd := below_drewN (Below.refl w3.heap.size w3) nq
      have RI := HR1.below bd
      have r4 := r3.below bd
      have B4 := B3.trans (bd.mono B3.size)
      clear bd HR1 HR3 r3 B3 c0 c1 c2
      generalize w3.drewN nq = w4 at *
      have HPS : Hid (∀ q ∈ [I], q < 4096) := by unfold Hid; simp; omega
      go_wp2_with fail
      refine (turn_any _ _ _ [I] w4 r4 RI (by rw [length_sealed k turn p hl]; omega) (fun q hq => by have := unhide HPS q hq; omega) (by simp)).mono ?_
      rintro e w5 ⟨u5, rfl, o5, b5⟩
      rw [← length_turnAll (sealed k turn p) [I]] at o5
      have RI5 := RI.below b5
      have B5 := B4.trans (b5.mono B4.size)
      have CX := hide (unhide CO u5 _ w5 (by rw [length_turnAll, length_sealed k turn p hl]; omega) (row_of_owns o5))
      rw [open_turned k turn p [I] hk hl (unhide HP)] at CX
      clear r4 RI B4 o5 b5
      go_wp2_with fail
      refine Calls.mono (unhide CX) ?_
      rintro e w6 ⟨v6, rfl, m6, b6⟩
      have RI6 := RI5.below b6
      have B6 := B5.trans (b6.mono B5.size)
      obtain ⟨p6, c6, l6, rfl, hl6⟩ := m6.row.shape
      have M6 := hide m6.row
      clear hl6 RI5 B5 b6 m6 CX
      have ba := (Below.refl w6.heap.size w6).alloc (Nat.le_refl _) (.cells #[.int .u8 0, .int .u64 0, .slice p6 l6 c6] 35)
      have H6 := hide (And.intro (RI6.below ba) (And.intro (B6.trans (ba.mono B6.size)) (heap_alloc_new w6 (.cells #[.int .u8 0, .int .u64 0, .slice p6 l6 c6] 35))))
      have M6A := hide ((unhide M6).below ba)
      clear ba RI6 B6
      go_wp2_with (at_make; refine wpList_make_full _ rfl _ _ 23 rfl (w6.heap.size + 1) 5 i0 (.int .u8 0) 1 Try.underlying23 hi hz0 hz1 .i64 .i64 (512 : Int) (512 : Int) 512 rfl rfl rfl rfl (by rw [hz2]; omega) (by unfold maxLen; omega) (by simp) ?_)
      intro w7 hown7 hgrow7
      have B67 := (Below.refl (w6.heap.size + 1) (w6.alloc (.cells #[.int .u8 0, .int .u64 0, .slice p6 l6 c6] 35))).grown hgrow7 (by simp) (fun k hk => by cases hk)
      have R7 := hide (row_of_made hown7)
      have H7 := hide (And.intro ((unhide H6).1.below (B67.mono (by simp))) (And.intro ((unhide H6).2.1.trans (B67.mono (by have := (unhide H6).2.1.size; simp at this ⊢; omega))) ((B67.block w6.heap.size (by omega)).trans (unhide H6).2.2)))
      have M7 := hide ((unhide M6A).below (B67.mono (by simp)))
      clear hown7 hgrow7 H6 M6A M6 B67
      go_wp2_with fail
      refine (turn_any _ _ _ [I] w7 (unhide R7) (unhide H7).1 (by rw [List.length_replicate]; omega) (fun q hq => by have := unhide HPS q hq; omega) (by simp)).mono ?_
      rintro e w8 ⟨u8, rfl, o8, b8⟩
      rw [← length_turnAll (List.replicate 512 0) [I]] at o8
      have CY := hide (unhide CO u8 _ w8 (by rw [length_turnAll, List.length_replicate]; omega) (row_of_owns o8))
      obtain ⟨E, hE, hEE⟩ : ∃ E : Int, openR (turnAll (List.replicate 512 0) [I]) = (0, 0, [], E) ∧ (E = 30 ∨ E = 11) := by
        rcases open_blank_turned [I] (unhide HP) with h | h
        · exact ⟨30, h, Or.inl rfl⟩
        · exact ⟨11, h, Or.inr rfl⟩
      rw [hE] at CY
      have H8 := hide (And.intro ((unhide H7).2.1.trans (b8.mono (unhide H7).2.1.size)) (And.intro ((b8.block w6.heap.size (Array.getElem?_eq_some_iff.1 (unhide H7).2.2).1).trans (unhide H7).2.2) ((unhide M7).below b8)))
      clear hE o8 b8 R7 H7 M7
      go_wp2_with fail
      refine Calls.mono (unhide CY) ?_
      rintro e w9 ⟨v9, rfl, m9, b9⟩
      obtain ⟨p9, c9, l9, rfl, hl9⟩ := m9.row.shape
      have ba := (Below.refl w9.heap.size w9).alloc (Nat.le_refl _) (.cells #[.int .u8 0, .int .u64 0, .slice p9 l9 c9] 35)
      have B9 := (unhide H8).1.trans (b9.mono (unhide H8).1.size)
      have x9 := (b9.block w6.heap.size (Array.getElem?_eq_some_iff.1 (unhide H8).2.1).1).trans (unhide H8).2.1
      have hs9 : w6.heap.size < w9.heap.size := (Array.getElem?_eq_some_iff.1 x9).1
      have H9 := hide (And.intro (B9.trans (ba.mono B9.size)) (And.intro ((unhide H8).2.2.below (b9.trans (ba.mono b9.size))) (m9.row.below ba)))
      have X9 := three_cells ((ba.block w6.heap.size hs9).trans x9)
      have Y9 := three_cells (heap_alloc_new w9 (.cells #[.int .u8 0, .int .u64 0, .slice p9 l9 c9] 35))
      clear hl9 m9 b9 ba B9 x9 hs9 H8 CY
      have HY := hide (heap_alloc_new w9 (.cells #[.int .u8 0, .int .u64 0, .slice p9 l9 c9] 35))
      go_wp2_with fail
      refine (sector_any 0 0 0 0 _ _ [] [] _ (unhide H9).2.1 (Row.nil _)).mono ?_
      rintro e wA ⟨rfl, bA⟩
      rw [show ((0 : Int) == 0 && ((0 : Int) == 0 && ([] : List UInt8) == [])) = true by decide]
      have YA := three_cells ((bA.block w9.heap.size (by simp)).trans (unhide HY))
      have HA := hide (And.intro ((unhide H9).1.trans (bA.mono (unhide H9).1.size)) ((unhide H9).2.2.below bA))
      clear X9 Y9 H9 HY bA
      rcases hEE with rfl | rfl
      · go_wp2_with fail
        refine (sector_any 0 0 0 0 _ _ [] [] _ (unhide HA).2 (Row.nil _)).mono ?_
        rintro e wB ⟨rfl, bB⟩
        rw [show ((0 : Int) == 0 && ((0 : Int) == 0 && ([] : List UInt8) == [])) = true by decide]
        have BB := (unhide HA).1.trans (bB.mono (unhide HA).1.size)
        clear YA
        go_wp2
        go_ret
        exact ⟨rfl, BB⟩
      · go_wp2_with fail
        refine (sector_any 0 0 0 0 _ _ [] [] _ (unhide HA).2 (Row.nil _)).mono ?_
        rintro e wB ⟨rfl, bB⟩
        rw [show ((0 : Int) == 0 && ((0 : Int) == 0 && ([] : List UInt8) == [])) = true by decide]
        have BB := (unhide HA).1.trans (bB.mono (unhide HA).1.size)
        clear YA
        go_wp2
        go_ret
        exact ⟨rfl, BB⟩
    · have d1 : ((I : Int) == (J : Int)) = false := by simp; omega
      by_cases hjm : J = M
      · have d2 : ((J : Int) == (M : Int)) = true := by simp [hjm]
        have HP : Hid (Places 4096 [I]) := Or.inl ⟨I, rfl, hI8⟩
        clear hij hjm
        go_wp2_with fail
        go_quiet (fail)
        have bd := below_drewN (Below.refl w3.heap.size w3) nq
        have RI := HR1.below bd
        have r4 := r3.below bd
        have B4 := B3.trans (bd.mono B3.size)
        clear bd HR1 HR3 r3 B3 c0 c1 c2
        generalize w3.drewN nq = w4 at *
        have HPS : Hid (∀ q ∈ [I], q < 4096) := by unfold Hid; simp; omega
        go_wp2_with fail
        refine (turn_any _ _ _ [I] w4 r4 RI (by rw [length_sealed k turn p hl]; omega) (fun q hq => by have := unhide HPS q hq; omega) (by simp)).mono ?_
        rintro e w5 ⟨u5, rfl, o5, b5⟩
        rw [← length_turnAll (sealed k turn p) [I]] at o5
        have RI5 := RI.below b5
        have B5 := B4.trans (b5.mono B4.size)
        have CX := hide (unhide CO u5 _ w5 (by rw [length_turnAll, length_sealed k turn p hl]; omega) (row_of_owns o5))
        rw [open_turned k turn p [I] hk hl (unhide HP)] at CX
        clear r4 RI B4 o5 b5
        go_wp2_with fail
        refine Calls.mono (unhide CX) ?_
        rintro e w6 ⟨v6, rfl, m6, b6⟩
        have RI6 := RI5.below b6
        have B6 := B5.trans (b6.mono B5.size)
        obtain ⟨p6, c6, l6, rfl, hl6⟩ := m6.row.shape
        have M6 := hide m6.row
        clear hl6 RI5 B5 b6 m6 CX
        have ba := (Below.refl w6.heap.size w6).alloc (Nat.le_refl _) (.cells #[.int .u8 0, .int .u64 0, .slice p6 l6 c6] 35)
        have H6 := hide (And.intro (RI6.below ba) (And.intro (B6.trans (ba.mono B6.size)) (heap_alloc_new w6 (.cells #[.int .u8 0, .int .u64 0, .slice p6 l6 c6] 35))))
        have M6A := hide ((unhide M6).below ba)
        clear ba RI6 B6
        go_wp2_with (at_make; refine wpList_make_full _ rfl _ _ 23 rfl (w6.heap.size + 1) 5 i0 (.int .u8 0) 1 Try.underlying23 hi hz0 hz1 .i64 .i64 (512 : Int) (512 : Int) 512 rfl rfl rfl rfl (by rw [hz2]; omega) (by unfold maxLen; omega) (by simp) ?_)
        intro w7 hown7 hgrow7
        have B67 := (Below.refl (w6.heap.size + 1) (w6.alloc (.cells #[.int .u8 0, .int .u64 0, .slice p6 l6 c6] 35))).grown hgrow7 (by simp) (fun k hk => by cases hk)
        have R7 := hide (row_of_made hown7)
        have H7 := hide (And.intro ((unhide H6).1.below (B67.mono (by simp))) (And.intro ((unhide H6).2.1.trans (B67.mono (by have := (unhide H6).2.1.size; simp at this ⊢; omega))) ((B67.block w6.heap.size (by omega)).trans (unhide H6).2.2)))
        have M7 := hide ((unhide M6A).below (B67.mono (by simp)))
        clear hown7 hgrow7 H6 M6A M6 B67
        go_wp2_with fail
        refine (turn_any _ _ _ [I] w7 (unhide R7) (unhide H7).1 (by rw [List.length_replicate]; omega) (fun q hq => by have := unhide HPS q hq; omega) (by simp)).mono ?_
        rintro e w8 ⟨u8, rfl, o8, b8⟩
        rw [← length_turnAll (List.replicate 512 0) [I]] at o8
        have CY := hide (unhide CO u8 _ w8 (by rw [length_turnAll, List.length_replicate]; omega) (row_of_owns o8))
        obtain ⟨E, hE, hEE⟩ : ∃ E : Int, openR (turnAll (List.replicate 512 0) [I]) = (0, 0, [], E) ∧ (E = 30 ∨ E = 11) := by
          rcases open_blank_turned [I] (unhide HP) with h | h
          · exact ⟨30, h, Or.inl rfl⟩
          · exact ⟨11, h, Or.inr rfl⟩
        rw [hE] at CY
        have H8 := hide (And.intro ((unhide H7).2.1.trans (b8.mono (unhide H7).2.1.size)) (And.intro ((b8.block w6.heap.size (Array.getElem?_eq_some_iff.1 (unhide H7).2.2).1).trans (unhide H7).2.2) ((unhide M7).below b8)))
        clear hE o8 b8 R7 H7 M7
        go_wp2_with fail
        refine Calls.mono (unhide CY) ?_
        rintro e w9 ⟨v9, rfl, m9, b9⟩
        obtain ⟨p9, c9, l9, rfl, hl9⟩ := m9.row.shape
        have ba := (Below.refl w9.heap.size w9).alloc (Nat.le_refl _) (.cells #[.int .u8 0, .int .u64 0, .slice p9 l9 c9] 35)
        have B9 := (unhide H8).1.trans (b9.mono (unhide H8).1.size)
        have x9 := (b9.block w6.heap.size (Array.getElem?_eq_some_iff.1 (unhide H8).2.1).1).trans (unhide H8).2.1
        have hs9 : w6.heap.size < w9.heap.size := (Array.getElem?_eq_some_iff.1 x9).1
        have H9 := hide (And.intro (B9.trans (ba.mono B9.size)) (And.intro ((unhide H8).2.2.below (b9.trans (ba.mono b9.size))) (m9.row.below ba)))
        have X9 := three_cells ((ba.block w6.heap.size hs9).trans x9)
        have Y9 := three_cells (heap_alloc_new w9 (.cells #[.int .u8 0, .int .u64 0, .slice p9 l9 c9] 35))
        clear hl9 m9 b9 ba B9 x9 hs9 H8 CY
        have HY := hide (heap_alloc_new w9 (.cells #[.int .u8 0, .int .u64 0, .slice p9 l9 c9] 35))
        go_wp2_with fail
        refine (sector_any 0 0 0 0 _ _ [] [] _ (unhide H9).2.1 (Row.nil _)).mono ?_
        rintro e wA ⟨rfl, bA⟩
        rw [show ((0 : Int) == 0 && ((0 : Int) == 0 && ([] : List UInt8) == [])) = true by decide]
        have YA := three_cells ((bA.block w9.heap.size (by simp)).trans (unhide HY))
        have HA := hide (And.intro ((unhide H9).1.trans (bA.mono (unhide H9).1.size)) ((unhide H9).2.2.below bA))
        clear X9 Y9 H9 HY bA
        rcases hEE with rfl | rfl
        · go_wp2_with fail
          refine (sector_any 0 0 0 0 _ _ [] [] _ (unhide HA).2 (Row.nil _)).mono ?_
          rintro e wB ⟨rfl, bB⟩
          rw [show ((0 : Int) == 0 && ((0 : Int) == 0 && ([] : List UInt8) == [])) = true by decide]
          have BB := (unhide HA).1.trans (bB.mono (unhide HA).1.size)
          clear YA
          go_wp2
          go_ret
          exact ⟨rfl, BB⟩
        · go_wp2_with fail
          refine (sector_any 0 0 0 0 _ _ [] [] _ (unhide HA).2 (Row.nil _)).mono ?_
          rintro e wB ⟨rfl, bB⟩
          rw [show ((0 : Int) == 0 && ((0 : Int) == 0 && ([] : List UInt8) == [])) = true by decide]
          have BB := (unhide HA).1.trans (bB.mono (unhide HA).1.size)
          clear YA
          go_wp2
          go_ret
          exact ⟨rfl, BB⟩
      · have d2 : ((J : Int) == (M : Int)) = false := by simp; omega
        by_cases him : I = M
        · have d3 : ((I : Int) == (M : Int)) = true := by simp [him]
          have HP : Hid (Places 4096 [I]) := Or.inl ⟨I, rfl, hI8⟩
          clear hij hjm him
          go_wp2_with fail
          go_quiet (fail)
          have bd := below_drewN (Below.refl w3.heap.size w3) nq
          have RI := HR1.below bd
          have r4 := r3.below bd
          have B4 := B3.trans (bd.mono B3.size)
          clear bd HR1 HR3 r3 B3 c0 c1 c2
          generalize w3.drewN nq = w4 at *
          have HPS : Hid (∀ q ∈ [I], q < 4096) := by unfold Hid; simp; omega
          go_wp2_with fail
          refine (turn_any _ _ _ [I] w4 r4 RI (by rw [length_sealed k turn p hl]; omega) (fun q hq => by have := unhide HPS q hq; omega) (by simp)).mono ?_
          rintro e w5 ⟨u5, rfl, o5, b5⟩
          rw [← length_turnAll (sealed k turn p) [I]] at o5
          have RI5 := RI.below b5
          have B5 := B4.trans (b5.mono B4.size)
          have CX := hide (unhide CO u5 _ w5 (by rw [length_turnAll, length_sealed k turn p hl]; omega) (row_of_owns o5))
          rw [open_turned k turn p [I] hk hl (unhide HP)] at CX
          clear r4 RI B4 o5 b5
          go_wp2_with fail
          refine Calls.mono (unhide CX) ?_
          rintro e w6 ⟨v6, rfl, m6, b6⟩
          have RI6 := RI5.below b6
          have B6 := B5.trans (b6.mono B5.size)
          obtain ⟨p6, c6, l6, rfl, hl6⟩ := m6.row.shape
          have M6 := hide m6.row
          clear hl6 RI5 B5 b6 m6 CX
          have ba := (Below.refl w6.heap.size w6).alloc (Nat.le_refl _) (.cells #[.int .u8 0, .int .u64 0, .slice p6 l6 c6] 35)
          have H6 := hide (And.intro (RI6.below ba) (And.intro (B6.trans (ba.mono B6.size)) (heap_alloc_new w6 (.cells #[.int .u8 0, .int .u64 0, .slice p6 l6 c6] 35))))
          have M6A := hide ((unhide M6).below ba)
          clear ba RI6 B6
          go_wp2_with (at_make; refine wpList_make_full _ rfl _ _ 23 rfl (w6.heap.size + 1) 5 i0 (.int .u8 0) 1 Try.underlying23 hi hz0 hz1 .i64 .i64 (512 : Int) (512 : Int) 512 rfl rfl rfl rfl (by rw [hz2]; omega) (by unfold maxLen; omega) (by simp) ?_)
          intro w7 hown7 hgrow7
          have B67 := (Below.refl (w6.heap.size + 1) (w6.alloc (.cells #[.int .u8 0, .int .u64 0, .slice p6 l6 c6] 35))).grown hgrow7 (by simp) (fun k hk => by cases hk)
          have R7 := hide (row_of_made hown7)
          have H7 := hide (And.intro ((unhide H6).1.below (B67.mono (by simp))) (And.intro ((unhide H6).2.1.trans (B67.mono (by have := (unhide H6).2.1.size; simp at this ⊢; omega))) ((B67.block w6.heap.size (by omega)).trans (unhide H6).2.2)))
          have M7 := hide ((unhide M6A).below (B67.mono (by simp)))
          clear hown7 hgrow7 H6 M6A M6 B67
          go_wp2_with fail
          refine (turn_any _ _ _ [I] w7 (unhide R7) (unhide H7).1 (by rw [List.length_replicate]; omega) (fun q hq => by have := unhide HPS q hq; omega) (by simp)).mono ?_
          rintro e w8 ⟨u8, rfl, o8, b8⟩
          rw [← length_turnAll (List.replicate 512 0) [I]] at o8
          have CY := hide (unhide CO u8 _ w8 (by rw [length_turnAll, List.length_replicate]; omega) (row_of_owns o8))
          obtain ⟨E, hE, hEE⟩ : ∃ E : Int, openR (turnAll (List.replicate 512 0) [I]) = (0, 0, [], E) ∧ (E = 30 ∨ E = 11) := by
            rcases open_blank_turned [I] (unhide HP) with h | h
            · exact ⟨30, h, Or.inl rfl⟩
            · exact ⟨11, h, Or.inr rfl⟩
          rw [hE] at CY
          have H8 := hide (And.intro ((unhide H7).2.1.trans (b8.mono (unhide H7).2.1.size)) (And.intro ((b8.block w6.heap.size (Array.getElem?_eq_some_iff.1 (unhide H7).2.2).1).trans (unhide H7).2.2) ((unhide M7).below b8)))
          clear hE o8 b8 R7 H7 M7
          go_wp2_with fail
          refine Calls.mono (unhide CY) ?_
          rintro e w9 ⟨v9, rfl, m9, b9⟩
          obtain ⟨p9, c9, l9, rfl, hl9⟩ := m9.row.shape
          have ba := (Below.refl w9.heap.size w9).alloc (Nat.le_refl _) (.cells #[.int .u8 0, .int .u64 0, .slice p9 l9 c9] 35)
          have B9 := (unhide H8).1.trans (b9.mono (unhide H8).1.size)
          have x9 := (b9.block w6.heap.size (Array.getElem?_eq_some_iff.1 (unhide H8).2.1).1).trans (unhide H8).2.1
          have hs9 : w6.heap.size < w9.heap.size := (Array.getElem?_eq_some_iff.1 x9).1
          have H9 := hide (And.intro (B9.trans (ba.mono B9.size)) (And.intro ((unhide H8).2.2.below (b9.trans (ba.mono b9.size))) (m9.row.below ba)))
          have X9 := three_cells ((ba.block w6.heap.size hs9).trans x9)
          have Y9 := three_cells (heap_alloc_new w9 (.cells #[.int .u8 0, .int .u64 0, .slice p9 l9 c9] 35))
          clear hl9 m9 b9 ba B9 x9 hs9 H8 CY
          have HY := hide (heap_alloc_new w9 (.cells #[.int .u8 0, .int .u64 0, .slice p9 l9 c9] 35))
          go_wp2_with fail
          refine (sector_any 0 0 0 0 _ _ [] [] _ (unhide H9).2.1 (Row.nil _)).mono ?_
          rintro e wA ⟨rfl, bA⟩
          rw [show ((0 : Int) == 0 && ((0 : Int) == 0 && ([] : List UInt8) == [])) = true by decide]
          have YA := three_cells ((bA.block w9.heap.size (by simp)).trans (unhide HY))
          have HA := hide (And.intro ((unhide H9).1.trans (bA.mono (unhide H9).1.size)) ((unhide H9).2.2.below bA))
          clear X9 Y9 H9 HY bA
          rcases hEE with rfl | rfl
          · go_wp2_with fail
            refine (sector_any 0 0 0 0 _ _ [] [] _ (unhide HA).2 (Row.nil _)).mono ?_
            rintro e wB ⟨rfl, bB⟩
            rw [show ((0 : Int) == 0 && ((0 : Int) == 0 && ([] : List UInt8) == [])) = true by decide]
            have BB := (unhide HA).1.trans (bB.mono (unhide HA).1.size)
            clear YA
            go_wp2
            go_ret
            exact ⟨rfl, BB⟩
          · go_wp2_with fail
            refine (sector_any 0 0 0 0 _ _ [] [] _ (unhide HA).2 (Row.nil _)).mono ?_
            rintro e wB ⟨rfl, bB⟩
            rw [show ((0 : Int) == 0 && ((0 : Int) == 0 && ([] : List UInt8) == [])) = true by decide]
            have BB := (unhide HA).1.trans (bB.mono (unhide HA).1.size)
            clear YA
            go_wp2
            go_ret
            exact ⟨rfl, BB⟩
        · have d3 : ((I : Int) == (M : Int)) = false := by simp; omega
          have HP : Hid (Places 4096 [I, J, M]) := Or.inr ⟨I, J, M, rfl, hij, hjm, him, hI8, hJ8, hM8⟩
          clear hij hjm him
          go_wp2_with fail
          go_quiet (fail)
          have bd := below_drewN (Below.refl w3.heap.size w3) nq
          have RI := HR3.below bd
          have r4 := r3.below bd
          have B4 := B3.trans (bd.mono B3.size)
          clear bd HR1 HR3 r3 B3 c0 c1 c2
          generalize w3.drewN nq = w4 at *
          have HPS : Hid (∀ q ∈ [I, J, M], q < 4096) := by unfold Hid; simp; omega
          go_wp2_with fail
          refine (turn_any _ _ _ [I, J, M] w4 r4 RI (by rw [length_sealed k turn p hl]; omega) (fun q hq => by have := unhide HPS q hq; omega) (by simp)).mono ?_
          rintro e w5 ⟨u5, rfl, o5, b5⟩
          rw [← length_turnAll (sealed k turn p) [I, J, M]] at o5
          have RI5 := RI.below b5
          have B5 := B4.trans (b5.mono B4.size)
          have CX := hide (unhide CO u5 _ w5 (by rw [length_turnAll, length_sealed k turn p hl]; omega) (row_of_owns o5))
          rw [open_turned k turn p [I, J, M] hk hl (unhide HP)] at CX
          clear r4 RI B4 o5 b5
          go_wp2_with fail
          refine Calls.mono (unhide CX) ?_
          rintro e w6 ⟨v6, rfl, m6, b6⟩
          have RI6 := RI5.below b6
          have B6 := B5.trans (b6.mono B5.size)
          obtain ⟨p6, c6, l6, rfl, hl6⟩ := m6.row.shape
          have M6 := hide m6.row
          clear hl6 RI5 B5 b6 m6 CX
          have ba := (Below.refl w6.heap.size w6).alloc (Nat.le_refl _) (.cells #[.int .u8 0, .int .u64 0, .slice p6 l6 c6] 35)
          have H6 := hide (And.intro (RI6.below ba) (And.intro (B6.trans (ba.mono B6.size)) (heap_alloc_new w6 (.cells #[.int .u8 0, .int .u64 0, .slice p6 l6 c6] 35))))
          have M6A := hide ((unhide M6).below ba)
          clear ba RI6 B6
          go_wp2_with (at_make; refine wpList_make_full _ rfl _ _ 23 rfl (w6.heap.size + 1) 5 i0 (.int .u8 0) 1 Try.underlying23 hi hz0 hz1 .i64 .i64 (512 : Int) (512 : Int) 512 rfl rfl rfl rfl (by rw [hz2]; omega) (by unfold maxLen; omega) (by simp) ?_)
          intro w7 hown7 hgrow7
          have B67 := (Below.refl (w6.heap.size + 1) (w6.alloc (.cells #[.int .u8 0, .int .u64 0, .slice p6 l6 c6] 35))).grown hgrow7 (by simp) (fun k hk => by cases hk)
          have R7 := hide (row_of_made hown7)
          have H7 := hide (And.intro ((unhide H6).1.below (B67.mono (by simp))) (And.intro ((unhide H6).2.1.trans (B67.mono (by have := (unhide H6).2.1.size; simp at this ⊢; omega))) ((B67.block w6.heap.size (by omega)).trans (unhide H6).2.2)))
          have M7 := hide ((unhide M6A).below (B67.mono (by simp)))
          clear hown7 hgrow7 H6 M6A M6 B67
          go_wp2_with fail
          refine (turn_any _ _ _ [I, J, M] w7 (unhide R7) (unhide H7).1 (by rw [List.length_replicate]; omega) (fun q hq => by have := unhide HPS q hq; omega) (by simp)).mono ?_
          rintro e w8 ⟨u8, rfl, o8, b8⟩
          rw [← length_turnAll (List.replicate 512 0) [I, J, M]] at o8
          have CY := hide (unhide CO u8 _ w8 (by rw [length_turnAll, List.length_replicate]; omega) (row_of_owns o8))
          obtain ⟨E, hE, hEE⟩ : ∃ E : Int, openR (turnAll (List.replicate 512 0) [I, J, M]) = (0, 0, [], E) ∧ (E = 30 ∨ E = 11) := by
            rcases open_blank_turned [I, J, M] (unhide HP) with h | h
            · exact ⟨30, h, Or.inl rfl⟩
            · exact ⟨11, h, Or.inr rfl⟩
          rw [hE] at CY
          have H8 := hide (And.intro ((unhide H7).2.1.trans (b8.mono (unhide H7).2.1.size)) (And.intro ((b8.block w6.heap.size (Array.getElem?_eq_some_iff.1 (unhide H7).2.2).1).trans (unhide H7).2.2) ((unhide M7).below b8)))
          clear hE o8 b8 R7 H7 M7
          go_wp2_with fail
          refine Calls.mono (unhide CY) ?_
          rintro e w9 ⟨v9, rfl, m9, b9⟩
          obtain ⟨p9, c9, l9, rfl, hl9⟩ := m9.row.shape
          have ba := (Below.refl w9.heap.size w9).alloc (Nat.le_refl _) (.cells #[.int .u8 0, .int .u64 0, .slice p9 l9 c9] 35)
          have B9 := (unhide H8).1.trans (b9.mono (unhide H8).1.size)
          have x9 := (b9.block w6.heap.size (Array.getElem?_eq_some_iff.1 (unhide H8).2.1).1).trans (unhide H8).2.1
          have hs9 : w6.heap.size < w9.heap.size := (Array.getElem?_eq_some_iff.1 x9).1
          have H9 := hide (And.intro (B9.trans (ba.mono B9.size)) (And.intro ((unhide H8).2.2.below (b9.trans (ba.mono b9.size))) (m9.row.below ba)))
          have X9 := three_cells ((ba.block w6.heap.size hs9).trans x9)
          have Y9 := three_cells (heap_alloc_new w9 (.cells #[.int .u8 0, .int .u64 0, .slice p9 l9 c9] 35))
          clear hl9 m9 b9 ba B9 x9 hs9 H8 CY
          have HY := hide (heap_alloc_new w9 (.cells #[.int .u8 0, .int .u64 0, .slice p9 l9 c9] 35))
          go_wp2_with fail
          refine (sector_any 0 0 0 0 _ _ [] [] _ (unhide H9).2.1 (Row.nil _)).mono ?_
          rintro e wA ⟨rfl, bA⟩
          rw [show ((0 : Int) == 0 && ((0 : Int) == 0 && ([] : List UInt8) == [])) = true by decide]
          have YA := three_cells ((bA.block w9.heap.size (by simp)).trans (unhide HY))
          have HA := hide (And.intro ((unhide H9).1.trans (bA.mono (unhide H9).1.size)) ((unhide H9).2.2.below bA))
          clear X9 Y9 H9 HY bA
          rcases hEE with rfl | rfl
          · go_wp2_with fail
            refine (sector_any 0 0 0 0 _ _ [] [] _ (unhide HA).2 (Row.nil _)).mono ?_
            rintro e wB ⟨rfl, bB⟩
            rw [show ((0 : Int) == 0 && ((0 : Int) == 0 && ([] : List UInt8) == [])) = true by decide]
            have BB := (unhide HA).1.trans (bB.mono (unhide HA).1.size)
            clear YA
            go_wp2
            go_ret
            exact ⟨rfl, BB⟩
          · go_wp2_with fail
            refine (sector_any 0 0 0 0 _ _ [] [] _ (unhide HA).2 (Row.nil _)).mono ?_
            rintro e wB ⟨rfl, bB⟩
            rw [show ((0 : Int) == 0 && ((0 : Int) == 0 && ([] : List UInt8) == [])) = true by decide]
            have BB := (unhide HA).1.trans (bB.mono (unhide HA).1.size)
            clear YA
            go_wp2
            go_ret
            exact ⟨rfl, BB⟩
  · refine turned_error k turn s p x y z w ?_ CA h0
    refine Calls.mono (unhide CS) ?_
    rintro e w1 ⟨t, rfl, _, hb1⟩
    exact ⟨t, rfl, hb1⟩

theorem walk_SectorTurned (a0 : Int) (w0 : (Lit.int .u8 a0).wf = true) (a1 : Int) (w1 : (Lit.int .u64 a1).wf = true) (s : Value) (p : List UInt8) (a3 : Int) (_w3 : (Lit.int .i64 a3).wf = true) (a4 : Int) (_w4 : (Lit.int .i64 a4).wf = true) (a5 : Int) (_w5 : (Lit.int .i64 a5).wf = true) (w : World) (hs : Row w s p) (hr : p.length ≤ 140737488351232) :
    Calls Try.prog 6 #[.int .u8 a0, .int .u64 a1, s, .int .i64 a3, .int .i64 a4, .int .i64 a5] w fun e w' => e = .returned (.bool true) ∧ Below w.heap.size w w' := by
  obtain ⟨k0, rfl⟩ := byte_of w0
  have hb1 := bounds_u64 w1
  obtain ⟨t1, rfl⟩ := Int.eq_ofNat_of_zero_le hb1.1
  exact turned_any sealC knownC openC k0 t1 s p a3 a4 a5 w hs (by omega) hr
end Go.Proofs.Ytndlnppgihhepaa
