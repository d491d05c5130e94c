/- The landed package disk: what is asked of it without a change; Arm, Start, the count of writes and flushes. -/
import Derived.Test.YtdpoiieblbmofaaDiskOwn
namespace Go.Proofs.Ytdpoiieblbmofaa
open Go.RowKit

theorem orefuses_any (F : Nat → Prop) (p : Value) (s : DK) (w : World) (h : DRep F w p s) :
    Calls Try.prog 35 #[p] w fun e w' => e = .returned (.int .i64 (if s.fell = true then 40 else 0)) ∧ w' = w := by
  obtain ⟨g, kb, kc, wv, mv, hit, rfl, R⟩ := h
  obtain ⟨c0, c1, c2, c3, c4, c5, c6, c7, hfz⟩ := eight_cells R.blk
  clear R hfz c0 c1 c2 c4 c5 c6 c7
  cases hf : s.fell with
  | true =>
    rw [hf] at c3
    go_enter Try.func35, Try.ntmps35
    go_wp2
    go_ret
    exact ⟨rfl, rfl⟩
  | false =>
    rw [hf] at c3
    go_enter Try.func35, Try.ntmps35
    go_wp2
    go_ret
    exact ⟨rfl, rfl⟩

theorem ohas_any (F : Nat → Prop) (p : Value) (s : DK) (a : Int) (w : World) (h : DRep F w p s) :
    Calls Try.prog 36 #[p, .int .i64 a] w fun e w' => e = .returned (.bool (!s.noSuch a)) ∧ w' = w := by
  obtain ⟨g, kb, kc, wv, mv, hit, rfl, R⟩ := h
  obtain ⟨c0, c1, c2, c3, c4, c5, c6, c7, hfz⟩ := eight_cells R.blk
  have hn := R.ok.size
  have hnI : (s.n : Int) ≤ 65536 := by omega
  clear R hfz c1 c2 c3 c4 c5 c6 c7 hn
  by_cases h0 : 0 ≤ a
  · by_cases h1 : a < s.n
    · have e : s.noSuch a = false := by unfold DK.noSuch; simp; omega
      rw [e]
      clear e
      go_enter Try.func36, Try.ntmps36
      go_wp2
      go_ret
      exact ⟨rfl, rfl⟩
    · have e : s.noSuch a = true := by unfold DK.noSuch; simp; omega
      rw [e]
      clear e
      go_enter Try.func36, Try.ntmps36
      go_wp2
      go_ret
      exact ⟨rfl, rfl⟩
  · have e : s.noSuch a = true := by unfold DK.noSuch; simp; omega
    rw [e]
    clear e
    go_enter Try.func36, Try.ntmps36
    go_wp2
    go_ret
    exact ⟨rfl, rfl⟩

theorem odown_any (F : Nat → Prop) (p : Value) (s : DK) (w : World) (h : DRep F w p s) :
    Calls Try.prog 31 #[p] w fun e w' => e = .returned (.bool s.fell) ∧ Below w.heap.size w w' := by
  obtain ⟨g, kb, kc, wv, mv, hit, rfl, R⟩ := h
  obtain ⟨c0, c1, c2, c3, c4, c5, c6, c7, hfz⟩ := eight_cells R.blk
  clear R hfz c0 c1 c2 c4 c5 c6 c7
  go_enter Try.func31, Try.ntmps31
  go_wp2
  go_ret
  exact ⟨rfl, Below.refl _ _⟩
theorem owaiting_any (F : Nat → Prop) (p : Value) (s : DK) (w : World) (h : DRep F w p s) :
    Calls Try.prog 60 #[p] w fun e w' => e = .returned (.int .i64 (s.waits.length : Int)) ∧ Below w.heap.size w w' := by
  obtain ⟨g, kb, kc, wv, mv, hit, rfl, R⟩ := h
  obtain ⟨c0, c1, c2, c3, c4, c5, c6, c7, hfz⟩ := eight_cells R.blk
  obtain ⟨q, cw, rfl⟩ := R.shape
  obtain ⟨m, rfl⟩ := R.mshape
  clear R hfz
  go_enter Try.func60, Try.ntmps60
  go_wp2
  go_ret
  exact ⟨rfl, Below.refl _ _⟩
theorem osize_any (F : Nat → Prop) (p : Value) (s : DK) (w : World) (h : DRep F w p s) :
    Calls Try.prog 41 #[p] w fun e w' => e = .returned (.int .i64 (s.n : Int)) ∧ Below w.heap.size w w' := by
  obtain ⟨g, kb, kc, wv, mv, hit, rfl, R⟩ := h
  obtain ⟨c0, c1, c2, c3, c4, c5, c6, c7, hfz⟩ := eight_cells R.blk
  clear R hfz c1 c2 c3 c4 c5 c6 c7
  go_enter Try.func41, Try.ntmps41
  go_wp2
  go_ret
  exact ⟨rfl, Below.refl _ _⟩
/-- A tally counts one more. -/
theorem ocount_any (g o : Nat) (n h : Int) (w : World) (c0 : w.cell? ⟨g, o, none⟩ = some (.int .i64 n)) (c1 : w.cell? ⟨g, o + 1, none⟩ = some (.int .i64 h)) (hf : w.frozen? ⟨g, o, none⟩ = false) (h0 : 0 ≤ n) (h1 : n ≤ 1048576) :
    Calls Try.prog 39 #[.pointer (some ⟨g, o, none⟩)] w fun e w' => e = .returned (.bool (n + 1 == h)) ∧ w' = (w.setCell ⟨g, o, none⟩ (.int .i64 (n + 1))).drew := by
  have c2 : (w.setCell ⟨g, o, none⟩ (.int .i64 (n + 1))).cell? ⟨g, o + 1, none⟩ = some (.int .i64 h) := by
    rw [World.cell?_setCell_other _ _ _ _ (by simp)]
    exact c1
  go_enter Try.func39, Try.ntmps39
  go_wp2
  go_region
  go_wp2
  go_ret
  exact ⟨rfl, rfl⟩

set_option maxHeartbeats 1000000 in
theorem ostart_any (F : Nat → Prop) (p : Value) (s : DK) (w : World) (h : DRep F w p s) :
    Calls Try.prog 25 #[p] w fun e w' => e = .returned (.int .i64 0) ∧ ∃ F', DRep F' w' p s.start ∧ Moves F F' w w' := by
  obtain ⟨g, kb, kc, wv, mv, hit, rfl, R⟩ := h
  obtain ⟨c0, c1, c2, c3, c4, c5, c6, c7, hfz⟩ := eight_cells R.blk
  have hfz1 := hfz 1
  have hfz2 := hfz 2
  have hfz3 := hfz 3
  have hfz4 := hfz 4
  have hfz5 := hfz 5
  have HR := hide R
  clear R hfz
  cases hf : s.fell with
  | false =>
    have e2 : s.start = s := by unfold DK.start; rw [if_neg (by rw [hf]; decide)]
    rw [hf] at c3
    rw [e2]
    clear e2 hf
    go_enter Try.func25, Try.ntmps25
    go_wp2
    go_ret
    exact ⟨rfl, F, ⟨g, kb, kc, wv, mv, hit, rfl, unhide HR⟩, Moves.refl _ _⟩
  | true =>
    have e2 : s.start = { s with fell := false, armed := 0, waits := [], ticks := 0 } := by unfold DK.start; rw [if_pos hf]
    obtain ⟨w5, hw5⟩ : ∃ w5, w5 = ((((w.setCell ⟨g, 1, none⟩ (.slice none 0 0)).setCell ⟨g, 2, none⟩ (.map none)).setCell ⟨g, 4, none⟩ (.int .i64 0)).setCell ⟨g, 5, none⟩ (.int .i64 0)).setCell ⟨g, 3, none⟩ (.bool false) := ⟨_, rfl⟩
    have HK : Hid (DAt F w5 g kb kc (.slice none 0 0) (.map none) s.start 0 ∧ Moves F F w w5) := by
      have R := unhide HR
      have b1 := heap_setCell_same w g 1 _ _ (.slice none 0 0) R.blk
      have b2 := heap_setCell_same _ g 2 _ _ (.map none) b1
      have b3 := heap_setCell_same _ g 4 _ _ (.int .i64 0) b2
      have b4 := heap_setCell_same _ g 5 _ _ (.int .i64 0) b3
      have b5 := heap_setCell_same _ g 3 _ _ (.bool false) b4
      rw [← hw5] at b5
      have hK : Keep (fun k => k = g) w w5 := by
        rw [hw5]
        exact ((((keep_set w g 1 _).also 2 _).also 4 _).also 5 _).also 3 _
      have hok := R.ok.start
      rw [e2] at hok ⊢
      refine ⟨R.drop ?_ hK.size (fun k h h1 => hK.block k h1 h) rfl rfl rfl rfl hok, ⟨hK.weak (fun k e => e ▸ R.fg), fun k h => Or.inl h⟩⟩
      rw [b5]
      rfl
    rw [hf] at c3
    subst hw5
    clear e2 hf HR
    go_enter Try.func25, Try.ntmps25
    go_wp2
    go_ret
    exact ⟨rfl, F, ⟨g, kb, kc, _, _, 0, rfl, (unhide HK).1⟩, (unhide HK).2⟩
end Go.Proofs.Ytdpoiieblbmofaa
