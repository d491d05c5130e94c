/- The walk of the law LayoutRing, by the contracts of package layout. -/
import Derived.Test.YtpjgkdegkodpmaaLayCon
import Derived.Test.YtpjgkdegkodpmaaLayNine
import Derived.Deep.RegionHeld3
namespace Go.Proofs.Ytpjgkdegkodpmaa
open Go.RowKit

theorem log_next (n : Int) (t : Nat) (h : Fits n) : logN n (t + 1) = if logN n t + 1 = 13 + lz n then 13 else logN n t + 1 := by
  obtain ⟨z1, _, _, _⟩ := lz_le n h
  obtain ⟨q, hq⟩ := Int.eq_ofNat_of_zero_le (show 0 ≤ lz n by omega)
  unfold logN
  rw [hq, Int.toNat_natCast]
  have hq0 : 0 < q := by omega
  have h1 : t % q < q := Nat.mod_lt _ hq0
  have h2 : (t + 1) % q = if t % q + 1 = q then 0 else t % q + 1 := by
    by_cases e : t % q + 1 = q
    · rw [if_pos e, Nat.add_mod, Nat.mod_eq_of_lt (show 1 < q by omega), e, Nat.mod_self]
    · rw [if_neg e, Nat.add_mod, Nat.mod_eq_of_lt (show 1 < q by omega), Nat.mod_eq_of_lt (show t % q + 1 < q by omega)]
  rw [h2]
  by_cases e : t % q + 1 = q
  · rw [if_pos e, if_pos (by omega)]
    rfl
  · rw [if_neg e, if_neg (by omega)]
    omega
theorem log_round (n : Int) (t : Nat) : logN n (t + (lz n).toNat) = logN n t := by
  unfold logN
  rw [Nat.add_mod_right]
theorem log_in (n : Int) (t : Nat) (h : Fits n) : 13 ≤ logN n t ∧ logN n t < 13 + lz n := by
  obtain ⟨z1, _, _, _⟩ := lz_le n h
  obtain ⟨q, hq⟩ := Int.eq_ofNat_of_zero_le (show 0 ≤ lz n by omega)
  unfold logN
  rw [hq, Int.toNat_natCast]
  have h1 : t % q < q := Nat.mod_lt _ (by omega)
  omega
theorem log_reg (n : Int) (t : Nat) (h : Fits n) : regN n (logN n t) = 4 := by
  obtain ⟨z1, _, _, _⟩ := lz_le n h
  obtain ⟨a1, a2⟩ := log_in n t h
  unfold regN
  repeat' split
  all_goals omega

theorem lring_no (C : LayC) (n : Int) (t : Nat) (w : World) (hn : I64 n) (h : ¬ Fits n) :
    Calls Try.prog 6 #[.int .i64 n, .int .u64 (t : Int)] w fun e w' => e = .returned (.bool true) ∧ Below w.heap.size w w' := by
  have HP := hide (C.plan n w hn)
  rw [(plan_not h).1, (plan_not h).2] at HP
  unfold layZ at HP
  have HA := hide (fun w' => lawake_any C w')
  clear h hn
  go_enter Try.func6, Try.ntmps6
  go_wp2_with fail
  refine Calls.mono (unhide HP) ?_
  rintro e w1 ⟨rfl, hb1⟩
  go_wp2_with fail
  refine Calls.mono (unhide HA _) ?_
  rintro e w2 ⟨rfl, hb2⟩
  have hB : Below w.heap.size w (w1.alloc (.cells #[.int .i64 0, .int .i64 0, .int .i64 0, .int .i64 0, .int .i64 0, .int .i64 0, .int .i64 0, .int .i64 0, .int .i64 0] 25)) := hb1.alloc hb1.size _
  have HB := hide (hB.trans (hb2.mono hB.size))
  clear hb1 hb2 hB
  go_wp2_with fail
  refine Calls.mono (unhide HA _) ?_
  rintro e w3 ⟨rfl, hb3⟩
  go_wp2
  go_ret
  exact ⟨rfl, (unhide HB).trans (hb3.mono (unhide HB).size)⟩

theorem lring_far (C : LayC) (n : Int) (t : Nat) (w : World) (hn : I64 n) (h : Fits n) (ht : 4611686018427387904 < t) :
    Calls Try.prog 6 #[.int .i64 n, .int .u64 (t : Int)] w fun e w' => e = .returned (.bool true) ∧ Below w.heap.size w w' := by
  have HP := hide (C.plan n w hn)
  rw [(plan_fits h).1, (plan_fits h).2] at HP
  unfold layV at HP
  have HA := hide (fun w' => lawake_any C w')
  have htI : (4611686018427387904 : Int) < t := by omega
  generalize lz n = z at *
  generalize lseg n = m at *
  clear h hn ht
  go_enter Try.func6, Try.ntmps6
  go_wp2_with fail
  refine Calls.mono (unhide HP) ?_
  rintro e w1 ⟨rfl, hb1⟩
  go_wp2_with fail
  refine Calls.mono (unhide HA _) ?_
  rintro e w2 ⟨rfl, hb2⟩
  have hB : Below w.heap.size w (w1.alloc (.cells #[.int .i64 n, .int .i64 3, .int .i64 13, .int .i64 z, .int .i64 (13 + z), .int .i64 (13 + 2 * z), .int .i64 z, .int .i64 (13 + 3 * z), .int .i64 m] 25)) := hb1.alloc hb1.size _
  have HB := hide (hB.trans (hb2.mono hB.size))
  clear hb1 hb2 hB
  go_wp2_with fail
  refine Calls.mono (unhide HA _) ?_
  rintro e w3 ⟨rfl, hb3⟩
  go_wp2
  go_ret
  exact ⟨rfl, (unhide HB).trans (hb3.mono (unhide HB).size)⟩

set_option maxHeartbeats 4000000 in
theorem lring_ok (C : LayC) (n : Int) (t : Nat) (w : World) (hn : I64 n) (h : Fits n) (ht : t ≤ 4611686018427387904) :
    Calls Try.prog 6 #[.int .i64 n, .int .u64 (t : Int)] w fun e w' => e = .returned (.bool true) ∧ Below w.heap.size w w' := by
  have HP := hide (C.plan n w hn)
  rw [(plan_fits h).1, (plan_fits h).2] at HP
  obtain ⟨z1, z2, _, _⟩ := lz_le n h
  have HA := hide (fun w' => lawake_any C w')
  have L1 := hide (fun w' => C.logAt n t w' h (by omega))
  have L2 := hide (fun w' => C.logAt n (t + 1) w' h (by omega))
  have L3 := hide (fun w' => C.logAt n (t + (lz n).toNat) w' h (by omega))
  have hin := log_in n t h
  have LR := hide (fun w' => C.region n (logN n t) w' h ⟨by omega, by omega⟩)
  rw [log_reg n t h] at LR
  rw [log_round] at L3
  have hnx := log_next n t h
  rw [show ((t + 1 : Nat) : Int) = (t : Int) + 1 by omega] at L2
  rw [show ((t + (lz n).toNat : Nat) : Int) = (t : Int) + lz n by omega] at L3
  generalize logN n t = A at *
  generalize logN n (t + 1) = A1 at *
  have htI : (t : Int) ≤ 4611686018427387904 := by omega
  unfold layV at HP L1 L2 L3 LR
  generalize lz n = z at *
  generalize lseg n = m at *
  have HNX := hide hnx
  clear h hn ht hnx
  go_enter Try.func6, Try.ntmps6
  go_wp2_with fail
  refine Calls.mono (unhide HP) ?_
  rintro e w1 ⟨rfl, hb1⟩
  obtain ⟨wB, hwB⟩ : ∃ wB, wB = w1.alloc (.cells #[.int .i64 n, .int .i64 3, .int .i64 13, .int .i64 z, .int .i64 (13 + z), .int .i64 (13 + 2 * z), .int .i64 z, .int .i64 (13 + 3 * z), .int .i64 m] 25) := ⟨_, rfl⟩
  have hxB : wB.heap[w1.heap.size]? = some (.cells #[.int .i64 n, .int .i64 3, .int .i64 13, .int .i64 z, .int .i64 (13 + z), .int .i64 (13 + 2 * z), .int .i64 z, .int .i64 (13 + 3 * z), .int .i64 m] 25 (0, 0)) := by rw [hwB]; exact heap_alloc_new _ _
  have hbB : Below w.heap.size w wB := by rw [hwB]; exact hb1.alloc hb1.size _
  have hxl : w1.heap.size < wB.heap.size := (Array.getElem?_eq_some_iff.1 hxB).1
  have HX := hide (fun W' (hb : Below wB.heap.size wB W') => nine_cells ((hb.block _ hxl).trans hxB))
  have HB := hide hbB
  have HWB := hide hwB
  clear HP hb1 hwB hxB hbB hxl
  go_wp2_with fail
  rw [← unhide HWB]
  generalize w1.heap.size = x at *
  refine Calls.mono (unhide HA _) ?_
  rintro e w3 ⟨rfl, hb3⟩
  have HB3 := hide hb3
  have HD3 : Hid (Below wB.heap.size wB w3.drew) := hb3.drew
  have hS3 := unhide HX _ (unhide HD3)
  have hu1 : IntKind.u64.wrap ((t : Int) + 1) = (t : Int) + 1 := by rw [IntKind.wrap_u64]; omega
  have hu2 : IntKind.u64.wrap z = z := by rw [IntKind.wrap_u64]; omega
  have hu3 : IntKind.u64.wrap ((t : Int) + z) = (t : Int) + z := by rw [IntKind.wrap_u64]; omega
  have hu4 : IntKind.u64.wrap ((t : Int) + IntKind.u64.wrap z) = (t : Int) + z := by rw [hu2]; exact hu3
  rw [← hu1] at L2
  rw [← hu4] at L3
  clear hb3 HWB HA hu1 hu2 hu3 hu4
  go_wp2_with fail
  go_region_held3 (fun w' => w'.cell? ⟨x, 0, none⟩ = some (.int .i64 n) ∧ w'.cell? ⟨x, 1, none⟩ = some (.int .i64 3) ∧ w'.cell? ⟨x, 2, none⟩ = some (.int .i64 13) ∧ w'.cell? ⟨x, 3, none⟩ = some (.int .i64 z) ∧ w'.cell? ⟨x, 4, none⟩ = some (.int .i64 (13 + z)) ∧ w'.cell? ⟨x, 5, none⟩ = some (.int .i64 (13 + 2 * z)) ∧ w'.cell? ⟨x, 6, none⟩ = some (.int .i64 z) ∧ w'.cell? ⟨x, 7, none⟩ = some (.int .i64 (13 + 3 * z)) ∧ w'.cell? ⟨x, 8, none⟩ = some (.int .i64 m)) (first | exact hS3 | exact hS4 | exact hS5 | exact hS6) (first
    | (go_at_call_of 20 (Value.int IntKind.u64 (t : Int)); refine Calls.mono (unhide L1 _) ?_; rintro e w4 ⟨rfl, hb⟩; have hb4 := (unhide HD3).trans (hb.mono (unhide HD3).size); have hS4 := unhide HX _ hb4; have HD4 := hide hb4; clear hb hb4)
    | (go_at_call_of 20 (IntKind.u64.wrap z); refine Calls.mono (unhide L3 _) ?_; rintro e w6 ⟨rfl, hb⟩; have hb6 := (unhide HD5).trans (hb.mono (unhide HD5).size); have hS6 := unhide HX _ hb6; have HD6 := hide hb6; clear hb hb6)
    | (go_at_call 20; refine Calls.mono (unhide L2 _) ?_; rintro e w5 ⟨rfl, hb⟩; have hb5 := (unhide HD4).trans (hb.mono (unhide HD4).size); have hS5 := unhide HX _ hb5; have HD5 := hide hb5; clear hb hb5))
  clear hS3 hS4 hS5 L1 L2 L3 HD3 HD4 HD5 HB3
  obtain ⟨x0, x1, x2, x3, x4, x5, x6, x7, x8⟩ := hS6
  by_cases he : A + 1 = 13 + z
  · have heB : (A + 1 == 13 + z) = true := by rw [beq_iff_eq]; exact he
    have hA1 : A1 = 13 := by rw [unhide HNX, if_pos he]
    subst hA1
    go_wp2_with fail
    refine Calls.mono (unhide LR _) ?_
    rintro e w7 ⟨rfl, hb7⟩
    go_wp2
    go_ret
    exact ⟨by simp, (unhide HB).trans (((unhide HD6).trans (hb7.mono (unhide HD6).size)).mono (unhide HB).size)⟩
  · have heB : (A + 1 == 13 + z) = false := by rw [beq_eq_false_iff_ne]; exact he
    have hA1 : A1 = A + 1 := by rw [unhide HNX, if_neg he]
    subst hA1
    go_wp2_with fail
    refine Calls.mono (unhide LR _) ?_
    rintro e w7 ⟨rfl, hb7⟩
    go_wp2
    go_ret
    exact ⟨by simp, (unhide HB).trans (((unhide HD6).trans (hb7.mono (unhide HD6).size)).mono (unhide HB).size)⟩

theorem lring_any (C : LayC) (n : Int) (t : Nat) (w : World) (hn : I64 n) (_ht : t < 18446744073709551616) :
    Calls Try.prog 6 #[.int .i64 n, .int .u64 (t : Int)] w fun e w' => e = .returned (.bool true) ∧ Below w.heap.size w w' := by
  by_cases h : Fits n
  · by_cases ht : 4611686018427387904 < t
    · exact lring_far C n t w hn h ht
    · exact lring_ok C n t w hn h (by omega)
  · exact lring_no C n t w hn h
end Go.Proofs.Ytpjgkdegkodpmaa
