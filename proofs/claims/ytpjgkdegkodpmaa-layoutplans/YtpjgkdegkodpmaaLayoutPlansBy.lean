/- The walk of the law LayoutPlans, by the contracts of package layout. -/
import Derived.Test.YtpjgkdegkodpmaaLayEq
import Derived.Test.YtpjgkdegkodpmaaLayNine
import Derived.Test.YtpjgkdegkodpmaaLayRef3
import Derived.Deep.RegionHeld3
namespace Go.Proofs.Ytpjgkdegkodpmaa
open Go.RowKit

theorem lplans_no (C : LayC) (n a : Int) (t : Nat) (w : World) (hn : I64 n) (h : ¬ Fits n) :
    Calls Try.prog 3 #[.int .i64 n, .int .i64 a, .int .u64 (t : Int)] w fun e w' => e = .returned (.bool true) ∧ Below w.heap.size w w' := by
  have HP := hide (C.plan n w hn)
  rw [(plan_not h).1, (plan_not h).2] at HP
  have HR := hide (fun w' => rplan_any n w')
  rw [(plan_not h).1, (plan_not h).2] at HR
  unfold layZ at HP HR
  clear h hn
  go_enter Try.func3, Try.ntmps3
  go_wp2_with fail
  refine Calls.mono (unhide HP) ?_
  rintro e w1 ⟨rfl, hb1⟩
  go_wp2_with fail
  obtain ⟨wA, hwA⟩ : ∃ wA, wA = w1.alloc (.cells #[.int .i64 0, .int .i64 0, .int .i64 0, .int .i64 0, .int .i64 0, .int .i64 0, .int .i64 0, .int .i64 0, .int .i64 0] 25) := ⟨_, rfl⟩
  have hxA : wA.heap[w1.heap.size]? = some (.cells #[.int .i64 0, .int .i64 0, .int .i64 0, .int .i64 0, .int .i64 0, .int .i64 0, .int .i64 0, .int .i64 0, .int .i64 0] 25 (0, 0)) := by rw [hwA]; exact heap_alloc_new _ _
  have hbA : Below w.heap.size w wA := by rw [hwA]; exact hb1.alloc hb1.size _
  rw [← hwA]
  refine Calls.mono (unhide HR _) ?_
  rintro e w2 ⟨rfl, hb2⟩
  have hxl : w1.heap.size < wA.heap.size := (Array.getElem?_eq_some_iff.1 hxA).1
  have hx2 := (hb2.block _ hxl).trans hxA
  obtain ⟨wB, hwB⟩ : ∃ wB, wB = w2.alloc (.cells #[.int .i64 0, .int .i64 0, .int .i64 0, .int .i64 0, .int .i64 0, .int .i64 0, .int .i64 0, .int .i64 0, .int .i64 0] 25) := ⟨_, rfl⟩
  have hyB : wB.heap[w2.heap.size]? = some (.cells #[.int .i64 0, .int .i64 0, .int .i64 0, .int .i64 0, .int .i64 0, .int .i64 0, .int .i64 0, .int .i64 0, .int .i64 0] 25 (0, 0)) := by rw [hwB]; exact heap_alloc_new _ _
  have hxl2 : w1.heap.size < w2.heap.size := Nat.lt_of_lt_of_le hxl hb2.size
  have hxB : wB.heap[w1.heap.size]? = some (.cells #[.int .i64 0, .int .i64 0, .int .i64 0, .int .i64 0, .int .i64 0, .int .i64 0, .int .i64 0, .int .i64 0, .int .i64 0] 25 (0, 0)) := by rw [hwB, Below.heap_alloc _ _ _ hxl2]; exact hx2
  have hbB : Below w.heap.size w wB := by rw [hwB]; exact (hbA.trans (hb2.mono hbA.size)).alloc (hbA.trans (hb2.mono hbA.size)).size _
  have hyl : w2.heap.size < wB.heap.size := (Array.getElem?_eq_some_iff.1 hyB).1
  have HX := hide (fun W' (hb : Below wB.heap.size wB W') => nine_cells ((hb.block _ (by omega)).trans hxB))
  have HY := hide (fun W' (hb : Below wB.heap.size wB W') => nine_cells ((hb.block _ hyl).trans hyB))
  have HB := hide hbB
  have HAW := hide (lawake_any C wB)
  have HWB := hide hwB
  clear hwA hxA hbA hb2 hx2 hwB hyB hxB hbB hb1 HP HR
  go_wp2_with fail
  rw [← unhide HWB]
  generalize w1.heap.size = x at *
  generalize w2.heap.size = y at *
  refine Calls.mono (unhide HAW) ?_
  rintro e w3 ⟨rfl, hb3⟩
  have hne := lay_ne 0 0 0 0 0 0 0 0 0
  obtain ⟨x0, x1, x2, x3, x4, x5, x6, x7, x8⟩ := unhide HX w3 hb3
  obtain ⟨y0, y1, y2, y3, y4, y5, y6, y7, y8⟩ := unhide HY w3 hb3
  have HB3 := hide hb3
  clear hb3 HAW HWB
  go_wp2
  go_ret
  exact ⟨rfl, (unhide HB).trans ((unhide HB3).mono (unhide HB).size)⟩

set_option maxHeartbeats 4000000 in
theorem lplans_any (C : LayC) (n a : Int) (t : Nat) (w : World) (hn : I64 n) (ha : I64 a) (ht : t < 18446744073709551616) :
    Calls Try.prog 3 #[.int .i64 n, .int .i64 a, .int .u64 (t : Int)] w fun e w' => e = .returned (.bool true) ∧ Below w.heap.size w w' := by
  have HP := hide (C.plan n w hn)
  by_cases h : Fits n
  · rw [(plan_fits h).1, (plan_fits h).2] at HP
    have HR := hide (fun w' => rplan_any n w')
    rw [(plan_fits h).1, (plan_fits h).2] at HR
    have L1 := hide (fun w' => C.region n a w' h ha)
    have L2 := hide (fun w' => C.segment n a w' h ha)
    have L3 := hide (fun w' => C.capacity n w' h)
    have L4 := hide (fun w' => C.phys n a w' h ha)
    have L5 := hide (fun w' => C.logic n a w' h ha)
    have L6 := hide (fun w' => C.logAt n t w' h ht)
    have R1 := hide (fun w' => rregion_any n a w' h)
    have R2 := hide (fun w' => rseg_any n a w' h)
    have R3 := hide (fun w' => rcap_any n w' h)
    have R4 := hide (fun w' => rphys_any n a w' h)
    have R5 := hide (fun w' => rlogic_any n a w' h)
    have R6 := hide (fun w' => rlogat_any n t w' h ht)
    unfold layV at HP HR L1 L2 L3 L4 L5 L6 R1 R2 R3 R4 R5 R6
    generalize lz n = z at *
    generalize lseg n = m at *
    go_enter Try.func3, Try.ntmps3
    go_wp2_with fail
    refine Calls.mono (unhide HP) ?_
    rintro e w1 ⟨rfl, hb1⟩
    go_wp2_with fail
    obtain ⟨wA, hwA⟩ : ∃ wA, wA = w1.alloc (.cells #[.int .i64 n, .int .i64 3, .int .i64 13, .int .i64 z, .int .i64 (13 + z), .int .i64 (13 + 2 * z), .int .i64 z, .int .i64 (13 + 3 * z), .int .i64 m] 25) := ⟨_, rfl⟩
    have hxA : wA.heap[w1.heap.size]? = some (.cells #[.int .i64 n, .int .i64 3, .int .i64 13, .int .i64 z, .int .i64 (13 + z), .int .i64 (13 + 2 * z), .int .i64 z, .int .i64 (13 + 3 * z), .int .i64 m] 25 (0, 0)) := by rw [hwA]; exact heap_alloc_new _ _
    have hbA : Below w.heap.size w wA := by rw [hwA]; exact hb1.alloc hb1.size _
    rw [← hwA]
    refine Calls.mono (unhide HR _) ?_
    rintro e w2 ⟨rfl, hb2⟩
    have hxl : w1.heap.size < wA.heap.size := (Array.getElem?_eq_some_iff.1 hxA).1
    have hx2 := (hb2.block _ hxl).trans hxA
    obtain ⟨wB, hwB⟩ : ∃ wB, wB = w2.alloc (.cells #[.int .i64 n, .int .i64 3, .int .i64 13, .int .i64 z, .int .i64 (13 + z), .int .i64 (13 + 2 * z), .int .i64 z, .int .i64 (13 + 3 * z), .int .i64 m] 25) := ⟨_, rfl⟩
    have hyB : wB.heap[w2.heap.size]? = some (.cells #[.int .i64 n, .int .i64 3, .int .i64 13, .int .i64 z, .int .i64 (13 + z), .int .i64 (13 + 2 * z), .int .i64 z, .int .i64 (13 + 3 * z), .int .i64 m] 25 (0, 0)) := by rw [hwB]; exact heap_alloc_new _ _
    have hxl2 : w1.heap.size < w2.heap.size := Nat.lt_of_lt_of_le hxl hb2.size
    have hxB : wB.heap[w1.heap.size]? = some (.cells #[.int .i64 n, .int .i64 3, .int .i64 13, .int .i64 z, .int .i64 (13 + z), .int .i64 (13 + 2 * z), .int .i64 z, .int .i64 (13 + 3 * z), .int .i64 m] 25 (0, 0)) := by rw [hwB, Below.heap_alloc _ _ _ hxl2]; exact hx2
    have hbB : Below w.heap.size w wB := by rw [hwB]; exact (hbA.trans (hb2.mono hbA.size)).alloc (hbA.trans (hb2.mono hbA.size)).size _
    have hyl : w2.heap.size < wB.heap.size := (Array.getElem?_eq_some_iff.1 hyB).1
    have HX := hide (fun W' (hb : Below wB.heap.size wB W') => nine_cells ((hb.block _ (by omega)).trans hxB))
    have HY := hide (fun W' (hb : Below wB.heap.size wB W') => nine_cells ((hb.block _ hyl).trans hyB))
    have HB := hide hbB
    have HAW := hide (lawake_any C wB)
    have HWB := hide hwB
    clear hwA hxA hbA hb2 hx2 hwB hyB hxB hbB hb1 HP HR
    go_wp2_with fail
    rw [← unhide HWB]
    generalize w1.heap.size = x at *
    generalize w2.heap.size = y at *
    refine Calls.mono (unhide HAW) ?_
    rintro e w3 ⟨rfl, hb3⟩
    have hne := lay_ne n 3 13 z (13 + z) (13 + 2 * z) z (13 + 3 * z) m
    obtain ⟨x0, x1, x2, x3, x4, x5, x6, x7, x8⟩ := unhide HX w3 hb3
    obtain ⟨y0, y1, y2, y3, y4, y5, y6, y7, y8⟩ := unhide HY w3 hb3
    have HB3 := hide hb3
    clear hb3 HAW HWB
    go_wp2_with fail
    refine Calls.mono (unhide L4 _) ?_
    rintro e w4 ⟨rfl, hb⟩
    have hb4 := (unhide HB3).trans (hb.mono (unhide HB3).size)
    clear x0 x1 x2 x3 x4 x5 x6 x7 x8 y0 y1 y2 y3 y4 y5 y6 y7 y8
    obtain ⟨x0, x1, x2, x3, x4, x5, x6, x7, x8⟩ := unhide HX w4 hb4
    obtain ⟨y0, y1, y2, y3, y4, y5, y6, y7, y8⟩ := unhide HY w4 hb4
    have HB4 := hide hb4
    clear hb hb4 HB3
    go_wp2_with fail
    refine Calls.mono (unhide R4 _) ?_
    rintro e w5 ⟨rfl, hb⟩
    have hb5 := (unhide HB4).trans (hb.mono (unhide HB4).size)
    clear x0 x1 x2 x3 x4 x5 x6 x7 x8 y0 y1 y2 y3 y4 y5 y6 y7 y8
    obtain ⟨x0, x1, x2, x3, x4, x5, x6, x7, x8⟩ := unhide HX w5 hb5
    obtain ⟨y0, y1, y2, y3, y4, y5, y6, y7, y8⟩ := unhide HY w5 hb5
    have HB5 := hide hb5
    clear hb hb5 HB4
    go_wp2_with fail
    refine Calls.mono (unhide L5 _) ?_
    rintro e w6 ⟨rfl, hb⟩
    have hb6 := (unhide HB5).trans (hb.mono (unhide HB5).size)
    clear x0 x1 x2 x3 x4 x5 x6 x7 x8 y0 y1 y2 y3 y4 y5 y6 y7 y8
    obtain ⟨x0, x1, x2, x3, x4, x5, x6, x7, x8⟩ := unhide HX w6 hb6
    obtain ⟨y0, y1, y2, y3, y4, y5, y6, y7, y8⟩ := unhide HY w6 hb6
    have HB6 := hide hb6
    clear hb hb6 HB5
    go_wp2_with fail
    refine Calls.mono (unhide R5 _) ?_
    rintro e w7 ⟨rfl, hb⟩
    have hb7 := (unhide HB6).trans (hb.mono (unhide HB6).size)
    clear x0 x1 x2 x3 x4 x5 x6 x7 x8 y0 y1 y2 y3 y4 y5 y6 y7 y8
    obtain ⟨x0, x1, x2, x3, x4, x5, x6, x7, x8⟩ := unhide HX w7 hb7
    obtain ⟨y0, y1, y2, y3, y4, y5, y6, y7, y8⟩ := unhide HY w7 hb7
    have HB7 := hide hb7
    clear hb hb7 HB6
    go_wp2_with fail
    have HS : Hid (∀ w', Below wB.heap.size wB w' → w'.cell? ⟨x, 0, none⟩ = some (.int .i64 n) ∧ w'.cell? ⟨x, 1, none⟩ = some (.int .i64 3) ∧ w'.cell? ⟨x, 2, none⟩ = some (.int .i64 13) ∧ w'.cell? ⟨x, 3, none⟩ = some (.int .i64 z) ∧ w'.cell? ⟨x, 4, none⟩ = some (.int .i64 (13 + z)) ∧ w'.cell? ⟨x, 5, none⟩ = some (.int .i64 (13 + 2 * z)) ∧ w'.cell? ⟨x, 6, none⟩ = some (.int .i64 z) ∧ w'.cell? ⟨x, 7, none⟩ = some (.int .i64 (13 + 3 * z)) ∧ w'.cell? ⟨x, 8, none⟩ = some (.int .i64 m) ∧ w'.cell? ⟨y, 0, none⟩ = some (.int .i64 n) ∧ w'.cell? ⟨y, 1, none⟩ = some (.int .i64 3) ∧ w'.cell? ⟨y, 2, none⟩ = some (.int .i64 13) ∧ w'.cell? ⟨y, 3, none⟩ = some (.int .i64 z) ∧ w'.cell? ⟨y, 4, none⟩ = some (.int .i64 (13 + z)) ∧ w'.cell? ⟨y, 5, none⟩ = some (.int .i64 (13 + 2 * z)) ∧ w'.cell? ⟨y, 6, none⟩ = some (.int .i64 z) ∧ w'.cell? ⟨y, 7, none⟩ = some (.int .i64 (13 + 3 * z)) ∧ w'.cell? ⟨y, 8, none⟩ = some (.int .i64 m)) := fun w' hb => by
      obtain ⟨x0, x1, x2, x3, x4, x5, x6, x7, x8⟩ := unhide HX w' hb
      obtain ⟨y0, y1, y2, y3, y4, y5, y6, y7, y8⟩ := unhide HY w' hb
      exact ⟨x0, x1, x2, x3, x4, x5, x6, x7, x8, y0, y1, y2, y3, y4, y5, y6, y7, y8⟩
    have HD7 : Hid (Below wB.heap.size wB w7.drew) := (unhide HB7).drew
    have hS7 := unhide HS _ (unhide HD7)
    clear x0 x1 x2 x3 x4 x5 x6 x7 x8 y0 y1 y2 y3 y4 y5 y6 y7 y8 HX HY hne
    go_region_held3 (fun w' => w'.cell? ⟨x, 0, none⟩ = some (.int .i64 n) ∧ w'.cell? ⟨x, 1, none⟩ = some (.int .i64 3) ∧ w'.cell? ⟨x, 2, none⟩ = some (.int .i64 13) ∧ w'.cell? ⟨x, 3, none⟩ = some (.int .i64 z) ∧ w'.cell? ⟨x, 4, none⟩ = some (.int .i64 (13 + z)) ∧ w'.cell? ⟨x, 5, none⟩ = some (.int .i64 (13 + 2 * z)) ∧ w'.cell? ⟨x, 6, none⟩ = some (.int .i64 z) ∧ w'.cell? ⟨x, 7, none⟩ = some (.int .i64 (13 + 3 * z)) ∧ w'.cell? ⟨x, 8, none⟩ = some (.int .i64 m) ∧ w'.cell? ⟨y, 0, none⟩ = some (.int .i64 n) ∧ w'.cell? ⟨y, 1, none⟩ = some (.int .i64 3) ∧ w'.cell? ⟨y, 2, none⟩ = some (.int .i64 13) ∧ w'.cell? ⟨y, 3, none⟩ = some (.int .i64 z) ∧ w'.cell? ⟨y, 4, none⟩ = some (.int .i64 (13 + z)) ∧ w'.cell? ⟨y, 5, none⟩ = some (.int .i64 (13 + 2 * z)) ∧ w'.cell? ⟨y, 6, none⟩ = some (.int .i64 z) ∧ w'.cell? ⟨y, 7, none⟩ = some (.int .i64 (13 + 3 * z)) ∧ w'.cell? ⟨y, 8, none⟩ = some (.int .i64 m)) (first | exact hS7 | exact hS8 | exact hS9 | exact hS10 | exact hS11 | exact hS12 | exact hS13 | exact hS14 | exact hS15) (first
      | (go_at_call 14; refine Calls.mono (unhide L1 _) ?_; rintro e w8 ⟨rfl, hb⟩; have hb8 := (unhide HD7).trans (hb.mono (unhide HD7).size); have hS8 := unhide HS _ hb8; have HD8 := hide hb8; clear hb hb8)
      | (go_at_call 15; refine Calls.mono (unhide R1 _) ?_; rintro e w9 ⟨rfl, hb⟩; have hb9 := (unhide HD8).trans (hb.mono (unhide HD8).size); have hS9 := unhide HS _ hb9; have HD9 := hide hb9; clear hb hb9)
      | (go_at_call 16; refine Calls.mono (unhide L2 _) ?_; rintro e w10 ⟨rfl, hb⟩; have hb10 := (unhide HD9).trans (hb.mono (unhide HD9).size); have hS10 := unhide HS _ hb10; have HD10 := hide hb10; clear hb hb10)
      | (go_at_call 17; refine Calls.mono (unhide R2 _) ?_; rintro e w11 ⟨rfl, hb⟩; have hb11 := (unhide HD10).trans (hb.mono (unhide HD10).size); have hS11 := unhide HS _ hb11; have HD11 := hide hb11; clear hb hb11)
      | (go_at_call 18; refine Calls.mono (unhide L3 _) ?_; rintro e w12 ⟨rfl, hb⟩; have hb12 := (unhide HD11).trans (hb.mono (unhide HD11).size); have hS12 := unhide HS _ hb12; have HD12 := hide hb12; clear hb hb12)
      | (go_at_call 19; refine Calls.mono (unhide R3 _) ?_; rintro e w13 ⟨rfl, hb⟩; have hb13 := (unhide HD12).trans (hb.mono (unhide HD12).size); have hS13 := unhide HS _ hb13; have HD13 := hide hb13; clear hb hb13)
      | (go_at_call 20; refine Calls.mono (unhide L6 _) ?_; rintro e w14 ⟨rfl, hb⟩; have hb14 := (unhide HD13).trans (hb.mono (unhide HD13).size); have hS14 := unhide HS _ hb14; have HD14 := hide hb14; clear hb hb14)
      | (go_at_call 21; refine Calls.mono (unhide R6 _) ?_; rintro e w15 ⟨rfl, hb⟩; have hb15 := (unhide HD14).trans (hb.mono (unhide HD14).size); have hS15 := unhide HS _ hb15; have HD15 := hide hb15; clear hb hb15))
    go_wp2
    go_ret
    exact ⟨by simp, (unhide HB).trans ((unhide HD15).mono (unhide HB).size)⟩
  · exact lplans_no C n a t w hn h
end Go.Proofs.Ytpjgkdegkodpmaa
