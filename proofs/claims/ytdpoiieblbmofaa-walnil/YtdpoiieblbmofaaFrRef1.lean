/- The document's own answers of layer 6: May, Count, Write, Frames. -/
import Derived.Test.YtdpoiieblbmofaaFrList
import Derived.Test.YtdpoiieblbmofaaSliceRow
import Derived.Test.YtdpoiieblbmofaaRefRv
namespace Go.Proofs.Ytdpoiieblbmofaa
open Go.RowKit

theorem Try.info91 : (Try.prog.info? 91).map (fun i => (i.zero, i.size, i.bytes)) = some (some (.agg #[.int .u64 0, .int .u64 0, .int .i64 0, .slice none 0 0]), 4, 48) := by kernel_rfl

set_option maxRecDepth 20000 in
theorem rmay_any (f : Fr) (s : Value) (w : World) (hs : Row w s f.data) :
    Calls Try.prog 72 #[fv f s] w fun e w' => e = .returned (.bool (mayF f)) ∧ Below w.heap.size w w' := by
  obtain ⟨q, c, l, rfl, hl⟩ := hs.shape
  unfold fv mayF
  rw [hl]
  clear hs hl
  generalize f.of = m
  by_cases h1 : 1 ≤ m
  · by_cases h2 : m ≤ 32
    · have e : (decide (1 ≤ m ∧ m ≤ 32 ∧ (l : Int) ≤ 440)) = decide ((l : Int) ≤ 440) := by simp [h1, h2]
      rw [e]
      go_enter Try.func72, Try.ntmps72
      go_wp2
      go_ret
      exact ⟨rfl, (Below.refl _ _).alloc (Nat.le_refl _) _⟩
    · have e : (decide (1 ≤ m ∧ m ≤ 32 ∧ (l : Int) ≤ 440)) = false := by simp [h2]
      rw [e]
      go_enter Try.func72, Try.ntmps72
      go_wp2
      go_ret
      exact ⟨rfl, (Below.refl _ _).alloc (Nat.le_refl _) _⟩
  · have e : (decide (1 ≤ m ∧ m ≤ 32 ∧ (l : Int) ≤ 440)) = false := by simp [h1]
    rw [e]
    go_enter Try.func72, Try.ntmps72
    go_wp2
    go_ret
    exact ⟨rfl, (Below.refl _ _).alloc (Nat.le_refl _) _⟩

set_option maxRecDepth 20000 in
theorem rcount_any (n : Int) (w : World) (h1 : -9223372036854775808 ≤ n) (h2 : n ≤ 9223372036854775807) :
    Calls Try.prog 29 #[.int .i64 n] w fun e w' => e = .returned (.int .i64 (countN n)) ∧ w' = w := by
  unfold countN
  by_cases h0 : n < 0
  · rw [if_pos h0]
    go_enter Try.func29, Try.ntmps29
    go_wp2
    go_ret
    exact ⟨rfl, rfl⟩
  · rw [if_neg h0]
    by_cases h3 : n = 0
    · subst h3
      rw [if_pos rfl]
      go_enter Try.func29, Try.ntmps29
      go_wp2
      go_ret
      exact ⟨rfl, rfl⟩
    · rw [if_neg h3]
      go_enter Try.func29, Try.ntmps29
      go_wp2
      go_ret
      exact ⟨rfl, rfl⟩

end Go.Proofs.Ytdpoiieblbmofaa
