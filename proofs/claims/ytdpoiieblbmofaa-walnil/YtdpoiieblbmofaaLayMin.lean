/- What package layout's 'bounded' does, with slices.Min and slices.Max. -/
import Derived.Test.YtdpoiieblbmofaaLayCon
import Derived.Test.YtdpoiieblbmofaaLayRef3
import Derived.Test.YtdpoiieblbmofaaLayNine
namespace Go.Proofs.Ytdpoiieblbmofaa
open Go.RowKit

theorem smin_any (b : Nat) (f : Nat → Int) (w : World) (h : ∀ j, j < 9 → w.cell? ⟨b, j, none⟩ = some (.int .i64 (f j))) (hf : ∀ j, j < 9 → 0 ≤ f j ∧ f j ≤ 65536) :
    Calls Try.prog 104 #[.slice (some ⟨b, 0, none⟩) 9 9] w fun e w' => ∃ r : Int, e = .returned (.int .i64 r) ∧ 0 ≤ r ∧ r ≤ 65536 ∧ w' = w := by
  have h0 := h 0 (by omega)
  obtain ⟨g1, g2⟩ := hf 0 (by omega)
  have H := hide h
  have HF := hide hf
  clear h hf
  go_enter Try.func104, Try.ntmps104
  go_wp2_with fail
  go_loop [3, 4] (fun m i => ∃ (k : Nat) (r : Int), k ≤ 9 ∧ i = .int .i64 k ∧ m = .int .i64 r ∧ 0 ≤ r ∧ r ≤ 65536) (fun _ i => 9 - (intOf i).toNat)
  case atStart => exact ⟨1, _, by omega, rfl, rfl, g1, g2⟩
  case round =>
    obtain ⟨k, r, hk, rfl, rfl, r1, r2⟩ := hrel
    by_cases hlt : k < 9
    · have hc := unhide H k hlt
      obtain ⟨e1, e2⟩ := unhide HF k hlt
      have hk0 : (k : Int) < 9 := by omega
      clear h0 g1 g2
      generalize f k = x at *
      go_wp2
      all_goals
        go_round
        case rel => exact ⟨k + 1, _, by omega, by go_num, rfl, by omega, by omega⟩
        case measure => simp [intOf]; omega
    · obtain rfl : k = 9 := by omega
      go_wp2
      go_ret
      exact ⟨r, rfl, r1, r2, rfl⟩

theorem smax_any (b : Nat) (f : Nat → Int) (w : World) (h : ∀ j, j < 9 → w.cell? ⟨b, j, none⟩ = some (.int .i64 (f j))) (hf : ∀ j, j < 9 → 0 ≤ f j ∧ f j ≤ 65536) :
    Calls Try.prog 105 #[.slice (some ⟨b, 0, none⟩) 9 9] w fun e w' => ∃ r : Int, e = .returned (.int .i64 r) ∧ 0 ≤ r ∧ r ≤ 65536 ∧ w' = w := by
  have h0 := h 0 (by omega)
  obtain ⟨g1, g2⟩ := hf 0 (by omega)
  have H := hide h
  have HF := hide hf
  clear h hf
  go_enter Try.func105, Try.ntmps105
  go_wp2_with fail
  go_loop [3, 4] (fun m i => ∃ (k : Nat) (r : Int), k ≤ 9 ∧ i = .int .i64 k ∧ m = .int .i64 r ∧ 0 ≤ r ∧ r ≤ 65536) (fun _ i => 9 - (intOf i).toNat)
  case atStart => exact ⟨1, _, by omega, rfl, rfl, g1, g2⟩
  case round =>
    obtain ⟨k, r, hk, rfl, rfl, r1, r2⟩ := hrel
    by_cases hlt : k < 9
    · have hc := unhide H k hlt
      obtain ⟨e1, e2⟩ := unhide HF k hlt
      have hk0 : (k : Int) < 9 := by omega
      clear h0 g1 g2
      generalize f k = x at *
      go_wp2
      all_goals
        go_round
        case rel => exact ⟨k + 1, _, by omega, by go_num, rfl, by omega, by omega⟩
        case measure => simp [intOf]; omega
    · obtain rfl : k = 9 := by omega
      go_wp2
      go_ret
      exact ⟨r, rfl, r1, r2, rfl⟩

set_option maxHeartbeats 1000000 in
theorem bounded_any (n : Int) (w : World) (h : Fits n) :
    Calls Try.prog 94 #[layV n] w fun e w' => e = .returned (.bool true) ∧ Below w.heap.size w w' := by
  obtain ⟨z1, z2, z3, z4⟩ := lz_le n h
  obtain ⟨s1, s2, s3, s4⟩ := lseg_le n h
  obtain ⟨n1, n2⟩ := h
  unfold layV
  generalize lz n = z at *
  generalize lseg n = m at *
  obtain ⟨f, hf⟩ : ∃ f : Nat → Int, f = fun j => match j with | 0 => n | 1 => 3 | 2 => 13 | 3 => z | 4 => 13 + z | 5 => 13 + 2 * z | 6 => z | 7 => 13 + 3 * z | _ => m := ⟨_, rfl⟩
  have HF : Hid (∀ j, j < 9 → 0 ≤ f j ∧ f j ≤ 65536) := by
    intro j hj
    match j, hj with
    | 0, _ => rw [hf]; exact ⟨show 0 ≤ n by omega, show n ≤ 65536 by omega⟩
    | 1, _ => rw [hf]; exact ⟨show (0 : Int) ≤ 3 by omega, show (3 : Int) ≤ 65536 by omega⟩
    | 2, _ => rw [hf]; exact ⟨show (0 : Int) ≤ 13 by omega, show (13 : Int) ≤ 65536 by omega⟩
    | 3, _ => rw [hf]; exact ⟨show 0 ≤ z by omega, show z ≤ 65536 by omega⟩
    | 4, _ => rw [hf]; exact ⟨show 0 ≤ 13 + z by omega, show 13 + z ≤ 65536 by omega⟩
    | 5, _ => rw [hf]; exact ⟨show 0 ≤ 13 + 2 * z by omega, show 13 + 2 * z ≤ 65536 by omega⟩
    | 6, _ => rw [hf]; exact ⟨show 0 ≤ z by omega, show z ≤ 65536 by omega⟩
    | 7, _ => rw [hf]; exact ⟨show 0 ≤ 13 + 3 * z by omega, show 13 + 3 * z ≤ 65536 by omega⟩
    | 8, _ => rw [hf]; exact ⟨show 0 ≤ m by omega, show m ≤ 65536 by omega⟩
  obtain ⟨O1, hO1⟩ : ∃ O : Obj, O = .cells #[.int .i64 n, .int .i64 3, .int .i64 13, .int .i64 z, .int .i64 (13 + z), .int .i64 (13 + 2 * z), .int .i64 z, .int .i64 (13 + 3 * z), .int .i64 m] 33 := ⟨_, rfl⟩
  have HC : Hid (∀ j, j < 9 → ((w.alloc O1).alloc (.cells #[.int .i64 n, .int .i64 3, .int .i64 13, .int .i64 z, .int .i64 (13 + z), .int .i64 (13 + 2 * z), .int .i64 z, .int .i64 (13 + 3 * z), .int .i64 m] 3)).cell? ⟨w.heap.size + 1, j, none⟩ = some (.int .i64 (f j))) := by
    obtain ⟨c0, c1, c2, c3, c4, c5, c6, c7, c8⟩ := nine_cells (heap_alloc_new (w.alloc O1) (.cells #[.int .i64 n, .int .i64 3, .int .i64 13, .int .i64 z, .int .i64 (13 + z), .int .i64 (13 + 2 * z), .int .i64 z, .int .i64 (13 + 3 * z), .int .i64 m] 3))
    rw [World.size_alloc] at *
    intro j hj
    rw [hf]
    match j, hj with
    | 0, _ => exact c0
    | 1, _ => exact c1
    | 2, _ => exact c2
    | 3, _ => exact c3
    | 4, _ => exact c4
    | 5, _ => exact c5
    | 6, _ => exact c6
    | 7, _ => exact c7
    | 8, _ => exact c8
  rw [hO1] at HC
  clear hf hO1
  go_enter Try.func94, Try.ntmps94
  go_wp2_with (first
    | (go_at_call 104; refine (smin_any _ f _ (unhide HC) (unhide HF)).mono ?_; rintro e w' ⟨r, rfl, r1, r2, rfl⟩)
    | (go_at_call 105; refine (smax_any _ f _ (unhide HC) (unhide HF)).mono ?_; rintro e w' ⟨r', rfl, r3, r4, rfl⟩))
  go_ret
  exact ⟨rfl, ((Below.refl _ _).alloc (Nat.le_refl _) _).alloc (by simp) _⟩
end Go.Proofs.Ytdpoiieblbmofaa
