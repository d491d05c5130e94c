/- Texts of ours, one behind the other: DiskOwn3. -/
import Derived.Test.YtpkpjmebkikgdaaG4
import Derived.Test.YtpkpjmebkikgdaaG21
import Derived.Deep.LoopGhost
/- The landed package disk: the count that falls; what is kept of the writes that wait. -/
namespace Go.Proofs.Ytpkpjmebkikgdaa
open Go.RowKit

theorem ent_count (args : Array Value) (w : World) : (callFunc 19 args).run Try.prog w = .ok (.enter 19 args) w := by
  first | kernel_rfl | rfl | simp [callFunc, Try.func19]

theorem tick_armed {hit : Int} {n : Nat} : (((n : Int) + 1 == hit) = true ↔ (hit - n).toNat = 1) ∧ (hit - (n + 1 : Nat)).toNat = (hit - n).toNat - 1 := by
  constructor
  · rw [beq_iff_eq]
    omega
  · omega

/-- The device behind one more write or flush, ahead of what becomes of it if it is hit. -/
theorem DAt.tick {F : Nat → Prop} {w : World} {g kb kc : Nat} {wv mv : Value} {s : DK} {hit : Int} (h : DAt F w g kb kc wv mv s hit) :
    DAt F (w.setCell ⟨g, 4, none⟩ (.int .i64 ((s.ticks : Int) + 1))).drew g kb kc wv mv { s with armed := s.armed - 1, ticks := s.ticks + 1 } hit := by
  have b1 := heap_setCell_same w g 4 _ _ (.int .i64 ((s.ticks : Int) + 1)) h.blk
  have hK := keep_set w g 4 (.int .i64 ((s.ticks : Int) + 1))
  refine h.set ?_ hK.size (fun k h1 h2 => hK.block k h2 h1) rfl rfl rfl ?_ ⟨h.ok.size, h.ok.kept, h.ok.waits, Nat.le_trans (Nat.sub_le _ _) h.ok.armed⟩
  · show (w.setCell ⟨g, 4, none⟩ (.int .i64 ((s.ticks : Int) + 1))).heap[g]? = _
    rw [b1]
    show _ = some (Obj.cells #[_, _, _, _, .int .i64 ((s.ticks + 1 : Nat) : Int), _, _, _] _ _)
    rw [Int.natCast_add]
    rfl
  · show s.armed - 1 = (hit - (s.ticks + 1 : Nat)).toNat
    rw [h.armed, tick_armed.2]

set_option maxRecDepth 20000 in
theorem ofalls_any (F : Nat → Prop) (g : Nat) (s : DK) (w : World) (h : DRep F w (.pointer (some ⟨g, 0, none⟩)) s) (hf : s.fell = false) (ht : s.ticks ≤ 1048576) :
    Calls Try.prog 18 #[.pointer (some ⟨g, 0, none⟩), .func (.func 19) #[.pointer (some ⟨g, 4, none⟩)] #[]] w fun e w' => e = .returned (.int .i64 (if s.armed = 1 then 40 else 0)) ∧ DRep F w' (.pointer (some ⟨g, 0, none⟩)) s.tick ∧ Keep F w w' := by
  obtain ⟨g', kb, kc, wv, mv, hit, e, R⟩ := h
  cases e
  obtain ⟨c0, c1, c2, c3, c4, c5, c6, c7, hfz⟩ := eight_cells R.blk
  have H := hide (ocount_any g 4 (s.ticks : Int) hit w c4 c5 (hfz 4) (by omega) (by omega))
  have R1 := R.tick
  have HKp : Hid (Keep F w (w.setCell ⟨g, 4, none⟩ (.int .i64 ((s.ticks : Int) + 1))).drew) := by
    have := (keep_set w g 4 (.int .i64 ((s.ticks : Int) + 1))).weak (G := F) (fun k e => e ▸ R.fg)
    exact ⟨this.os, this.tape, this.output, this.size, this.block⟩
  have ha := R.armed
  have hent := ent_count
  by_cases h1 : s.armed = 1
  · have hb : ((s.ticks : Int) + 1 == hit) = true := tick_armed.1.2 (by rw [← ha]; exact h1)
    rw [hb] at H
    rw [if_pos h1]
    generalize (w.setCell ⟨g, 4, none⟩ (.int .i64 ((s.ticks : Int) + 1))).drew = w1 at *
    obtain ⟨d0, d1, d2, d3, d4, d5, d6, d7, dfz⟩ := eight_cells R1.blk
    have dfz3 := dfz 3
    have HK : Hid (DAt F (w1.setCell ⟨g, 3, none⟩ (.bool true)) g kb kc wv mv s.tick hit ∧ Keep F w (w1.setCell ⟨g, 3, none⟩ (.bool true))) := by
      have b1 := heap_setCell_same w1 g 3 _ _ (.bool true) R1.blk
      have hK := keep_set w1 g 3 (.bool true)
      refine ⟨R1.set ?_ hK.size (fun k h1 h2 => hK.block k h2 h1) rfl rfl rfl R1.armed R.ok.tick, (unhide HKp).trans (hK.weak (G := F) (fun k e => e ▸ R.fg)) (fun x h => Or.inl h)⟩
      rw [b1]
      unfold DK.tick
      rw [h1]
      rfl
    clear R R1 c0 c1 c2 c3 c4 c5 c6 c7 hfz dfz d0 d1 d2 d4 d5 d6 d7 ha h1 hb ht hf HKp
    go_enter Try.func18, Try.ntmps18
    go_wp2_with fail
    refine Calls.mono (unhide H) ?_
    rintro e w' ⟨rfl, rfl⟩
    go_wp2
    go_ret
    exact ⟨rfl, ⟨g, kb, kc, wv, mv, hit, rfl, (unhide HK).1⟩, (unhide HK).2⟩
  · have hb : ((s.ticks : Int) + 1 == hit) = false := by
      cases hb : ((s.ticks : Int) + 1 == hit) with
      | false => rfl
      | true => exact absurd (by rw [ha]; exact tick_armed.1.1 hb) h1
    rw [hb] at H
    rw [if_neg h1]
    have e1 : ({ s with armed := s.armed - 1, ticks := s.ticks + 1 } : DK) = s.tick := by
      unfold DK.tick
      rw [show (s.armed == 1) = false by rw [beq_eq_false_iff_ne]; exact h1, hf]
    rw [e1] at R1
    have HR1 := hide R1
    clear R R1 c0 c1 c2 c3 c4 c5 c6 c7 hfz ha h1 hb ht hf e1
    go_enter Try.func18, Try.ntmps18
    go_wp2_with fail
    refine Calls.mono (unhide H) ?_
    rintro e w' ⟨rfl, rfl⟩
    go_wp2
    go_ret
    exact ⟨rfl, ⟨g, kb, kc, wv, mv, hit, rfl, unhide HR1⟩, unhide HKp⟩
end Go.Proofs.Ytpkpjmebkikgdaa
