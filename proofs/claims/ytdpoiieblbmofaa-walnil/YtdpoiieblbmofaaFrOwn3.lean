/- What package frame does: Read. -/
import Derived.Test.YtdpoiieblbmofaaFrOwn2
namespace Go.Proofs.Ytdpoiieblbmofaa
open Go.RowKit

theorem read_head (b : List UInt8) : readF b = if (headR b).2.2 ≠ 0 then (zeroF, (headR b).2.2) else if 32 < (headR b).1.2.2 then (zeroF, 11)
    else if mayF ⟨(headR b).1.1, (headR b).1.2.1, ((headR b).1.2.2 : Nat), b.drop (headR b).2.1.toNat⟩ = true then (⟨(headR b).1.1, (headR b).1.2.1, ((headR b).1.2.2 : Nat), b.drop (headR b).2.1.toNat⟩, 0) else (zeroF, 11) := by
  unfold readF headR
  by_cases h1 : readE b 0 = 0
  · rw [if_neg (by simp [h1])]
    by_cases h2 : readE b (readN b 0) = 0
    · rw [if_neg (by simp [h2])]
      by_cases h3 : readE b (readN b (readN b 0)) = 0
      · rw [if_neg (by simp [h3])]
        simp [h1, h2, h3]
      · simp [h1, h2, h3]
    · simp [h1, h2]
  · simp [h1]
theorem head_ok (b : List UInt8) (h : (headR b).2.2 = 0) : 0 < (headR b).2.1 ∧ (headR b).2.1 ≤ b.length ∧ (headR b).1.1 < 18446744073709551616 ∧ (headR b).1.2.1 < 18446744073709551616 := by
  unfold headR at h ⊢
  by_cases h1 : readE b 0 = 0
  · rw [if_neg (by simp [h1])] at h ⊢
    by_cases h2 : readE b (readN b 0) = 0
    · rw [if_neg (by simp [h2])] at h ⊢
      by_cases h3 : readE b (readN b (readN b 0)) = 0
      · rw [if_neg (by simp [h3])]
        have a1 := read_ok b _ h1
        have a2 := read_ok b _ h2
        have a3 := read_ok b _ h3
        exact ⟨by simp only; omega, a3.2.2.1, a1.2.2.2, a2.2.2.2⟩
      · rw [if_pos h3] at h; exact absurd h h3
    · rw [if_pos h2] at h; exact absurd h h2
  · rw [if_pos h1] at h; exact absurd h h1

/-- Four cells that are a block. -/
def Blk4 (w : World) (g : Nat) (t : TypeId) (a b c d : Value) : Prop := w.heap[g]? = some (.cells #[a, b, c, d] t (0, 0))
theorem Blk4.below {w w' : World} {g t : Nat} {a b c d : Value} (h : Blk4 w g t a b c d) (hb : Below w.heap.size w w') : Blk4 w' g t a b c d := (hb.block g (Array.getElem?_eq_some_iff.1 h).1).trans h
theorem Blk4.cells {w : World} {g t : Nat} {a b c d : Value} (h : Blk4 w g t a b c d) : w.cell? ⟨g, 0, none⟩ = some a ∧ w.cell? ⟨g, 1, none⟩ = some b ∧ w.cell? ⟨g, 2, none⟩ = some c ∧ w.cell? ⟨g, 3, none⟩ = some d ∧ ∀ j, w.frozen? ⟨g, j, none⟩ = false := by
  refine ⟨?_, ?_, ?_, ?_, fun j => frozen_of_block h⟩ <;> (rw [cell_of_row _ _ _ _ _ (0, 0) h]; rfl)

theorem Mine.set {w : World} {base k : Nat} {t : Value} {bs : List UInt8} (h : Mine w base t bs) (hk : k < base) (j : Nat) (v : Value) : Mine (w.setCell ⟨k, j, none⟩ v) base t bs := by
  have hoth : ∀ g, base ≤ g → (w.setCell ⟨k, j, none⟩ v).heap[g]? = w.heap[g]? := fun g hg => Below.heap_setCell _ _ _ _ (by show g ≠ k; omega)
  obtain ⟨⟨a, cap, e, h1, h2, h3, h4⟩, h5⟩ := h
  rcases h5 with rfl | ⟨g, off, cap', e', cur, rfl, hg, hh⟩
  · exact ⟨⟨a, cap, e, h1, h2, h3, Or.inl rfl⟩, Or.inl rfl⟩
  · refine ⟨⟨a, cap, e, h1, h2, h3, ?_⟩, Or.inr ⟨g, off, cap', e', cur, rfl, hg, (hoth g hg).trans hh⟩⟩
    simp only [Value.slice.injEq, true_and] at e
    obtain ⟨rfl, rfl⟩ := e
    rcases h4 with h4 | ⟨b, off', e2, hc⟩
    · exact Or.inl h4
    · simp only [Option.some.injEq, Addr.mk.injEq, and_true] at e2
      obtain ⟨rfl, rfl⟩ := e2
      refine Or.inr ⟨g, off, rfl, fun i hi => ?_⟩
      rw [← hc i hi]
      exact World.cell?_of_block (w := w) (hoth g hg)

abbrev HeadC (s : Value) (w : World) (A C m : Nat) (n e0 : Int) : Prop := Calls Try.prog 109 #[s] w fun e w' => e = .returned (.tuple #[.agg #[.int .u64 (A : Int), .int .u64 (C : Int), .int .u64 (m : Int)], .int .i64 n, .int .i64 e0]) ∧ Below w.heap.size w w'
def rd0 (w : World) : World := w.alloc (.cells #[.int .u64 0, .int .u64 0, .int .i64 0, .slice none 0 0] 91)
theorem rd0_below (w : World) : Below w.heap.size w (rd0 w) := (Below.refl _ _).alloc (Nat.le_refl _) _
theorem rd0_blk (w : World) : Blk4 (rd0 w) w.heap.size 91 (.int .u64 0) (.int .u64 0) (.int .i64 0) (.slice none 0 0) := heap_alloc_new w _

set_option maxRecDepth 20000 in
set_option maxHeartbeats 2000000 in
theorem read_err (s : Value) (w : World) (A C m : Nat) (n e0 : Int) (hR : HeadC s (rd0 w) A C m n e0) (z : e0 ≠ 0) :
    Calls Try.prog 96 #[s] w fun e w' => e = .returned (.tuple #[.agg #[.int .u64 0, .int .u64 0, .int .i64 0, .slice none 0 0], .int .i64 e0]) ∧ Below w.heap.size w w' := by
  have z' : (e0 == 0) = false := by simp [z]
  unfold HeadC at hR
  have HR := hide hR
  have HW0 : Hid (w.alloc (.cells #[.int .u64 0, .int .u64 0, .int .i64 0, .slice none 0 0] 91) = rd0 w) := rfl
  have HB0 := hide (rd0_below w)
  have HK0 := hide (rd0_blk w)
  clear hR
  go_enter Try.func96, Try.ntmps96
  go_wp2_with fail
  rw [unhide HW0]
  refine Calls.mono (unhide HR) ?_
  rintro e w1 ⟨rfl, b1⟩
  have HB1 := hide ((unhide HB0).trans (b1.mono (unhide HB0).size))
  obtain ⟨c0, c1, c2, c3, fz⟩ := ((unhide HK0).below b1).cells
  have f0 := fz 0
  have f1 := fz 1
  have f2 := fz 2
  have f3 := fz 3
  have hlt : w.heap.size < w1.heap.size := World.block_lt_of_cell? w1 _ c0
  clear fz b1 HB0 HK0 HW0
  go_wp2
  refine bodyPost_ret (v := .tuple #[.agg #[.int .u64 0, .int .u64 0, .int .i64 0, .slice none 0 0], .int .i64 e0]) (by simp [results, Try.results96, go_sem, *]) rfl ⟨rfl, ?_⟩
  have := unhide HB1
  repeat' (first
      | assumption
      | exact unhide (by assumption)
      | refine Below.setCell ?_ (by first | exact Nat.le_refl _ | (simp; done) | (simp; omega) | omega) _
      | refine Below.alloc ?_ (by first | exact Nat.le_refl _ | (simp; done) | (simp; omega) | omega) _
      | refine Below.drew ?_)

set_option maxRecDepth 20000 in
set_option maxHeartbeats 2000000 in
theorem read_32 (s : Value) (w : World) (A C m : Nat) (n : Int) (hR : HeadC s (rd0 w) A C m n 0) (h32 : 32 < m) :
    Calls Try.prog 96 #[s] w fun e w' => e = .returned (.tuple #[.agg #[.int .u64 0, .int .u64 0, .int .i64 0, .slice none 0 0], .int .i64 11]) ∧ Below w.heap.size w w' := by
  have h32' : (32 : Int) < m := by omega
  unfold HeadC at hR
  have HR := hide hR
  have HW0 : Hid (w.alloc (.cells #[.int .u64 0, .int .u64 0, .int .i64 0, .slice none 0 0] 91) = rd0 w) := rfl
  have HB0 := hide (rd0_below w)
  have HK0 := hide (rd0_blk w)
  clear hR
  go_enter Try.func96, Try.ntmps96
  go_wp2_with fail
  rw [unhide HW0]
  refine Calls.mono (unhide HR) ?_
  rintro e w1 ⟨rfl, b1⟩
  have HB1 := hide ((unhide HB0).trans (b1.mono (unhide HB0).size))
  obtain ⟨c0, c1, c2, c3, fz⟩ := ((unhide HK0).below b1).cells
  have f0 := fz 0
  have f1 := fz 1
  have f2 := fz 2
  have f3 := fz 3
  have hlt : w.heap.size < w1.heap.size := World.block_lt_of_cell? w1 _ c0
  clear fz b1 HB0 HK0 HW0
  go_wp2
  refine bodyPost_ret (v := .tuple #[.agg #[.int .u64 0, .int .u64 0, .int .i64 0, .slice none 0 0], .int .i64 11]) (by simp [results, Try.results96, go_sem, *]) rfl ⟨rfl, ?_⟩
  have := unhide HB1
  repeat' (first
      | assumption
      | exact unhide (by assumption)
      | refine Below.setCell ?_ (by first | exact Nat.le_refl _ | (simp; done) | (simp; omega) | omega) _
      | refine Below.alloc ?_ (by first | exact Nat.le_refl _ | (simp; done) | (simp; omega) | omega) _
      | refine Below.drew ?_)

end Go.Proofs.Ytdpoiieblbmofaa
