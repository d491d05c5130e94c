/- The landed package disk: Flush, Crash, New. -/
import Derived.Test.YtdpoiieblbmofaaDiskOwn4
namespace Go.Proofs.Ytdpoiieblbmofaa
open Go.RowKit

theorem ent_flush1 (args : Array Value) (w : World) : (callFunc 81 args).run Try.prog w = .ok (.enter 81 args) w := by
  first | kernel_rfl | rfl | simp [callFunc, Try.func81]
theorem ent_crash1 (args : Array Value) (w : World) : (callFunc 54 args).run Try.prog w = .ok (.enter 54 args) w := by
  first | kernel_rfl | rfl | simp [callFunc, Try.func54]

theorem oflush1_any (i : Int) (w : World) : Calls Try.prog 81 #[.int .i64 i] w fun e w' => e = .returned (.bool true) ∧ Below w.heap.size w w' := by
  go_enter Try.func81, Try.ntmps81
  go_wp2
  go_ret
  exact ⟨rfl, Below.refl _ _⟩

set_option maxRecDepth 20000 in
theorem ocrash1_any (i x : Nat) (kv : Value) (ks : List Bool) (w : World) (hx : w.cell? ⟨x, 0, none⟩ = some kv) (hk : BRow w kv ks) :
    Calls Try.prog 54 #[.int .i64 (i : Int), .pointer (some ⟨x, 0, none⟩)] w fun e w' => e = .returned (.bool (ks.getD i false)) ∧ Below w.heap.size w w' := by
  obtain ⟨kq, kc, rfl, hk1, hk2⟩ := hk.shape
  have hkI : (ks.length : Int) ≤ 9223372036854775807 := by unfold maxLen at hk2; omega
  by_cases hin : i < ks.length
  · obtain ⟨b, off, c, e1, hc, e2⟩ := hk.at i hin
    simp only [Value.slice.injEq, true_and] at e1
    obtain ⟨rfl, rfl⟩ := e1
    have hgd : ks.getD i false = ks[i] := by simp [List.getD, List.getElem?_eq_getElem hin]
    have hin' : (i : Int) < ks.length := by omega
    rw [hgd]
    generalize ks[i] = v at *
    clear hgd hk hk2
    go_enter Try.func54, Try.ntmps54
    go_wp2
    try (go_region; go_wp2)
    go_ret
    exact ⟨rfl, by first | exact Below.refl _ _ | exact (Below.refl _ _).drew⟩
  · have hgd : ks.getD i false = false := by simp [List.getD, List.getElem?_eq_none (Nat.le_of_not_lt hin)]
    have hin' : ¬ (i : Int) < ks.length := by omega
    rw [hgd]
    clear hgd hk hk2
    go_enter Try.func54, Try.ntmps54
    go_wp2
    try (go_region; go_wp2)
    go_ret
    exact ⟨rfl, by first | exact Below.refl _ _ | exact (Below.refl _ _).drew⟩

set_option maxRecDepth 20000 in
theorem oflush_any (F : Nat → Prop) (p : Value) (s : DK) (w : World) (h : DRep F w p s) (hw : s.waits.length ≤ 1048576) (ht : s.ticks ≤ 1048576) :
    Calls Try.prog 59 #[p] w fun e w' => e = .returned (.int .i64 s.flushE) ∧ ∃ F', DRep F' w' p s.flush ∧ Moves F F' w w' := by
  have H := hide (orefuses_any F p s w h)
  obtain ⟨g, hg⟩ : ∃ g, p = .pointer (some ⟨g, 0, none⟩) := by obtain ⟨g, _, _, _, _, _, h, _⟩ := h; exact ⟨g, h⟩
  subst hg
  have HD := hide h
  cases hf : s.fell with
  | true =>
    rw [hf, if_pos rfl] at H
    have e1 : s.flushE = 40 := by unfold DK.flushE; rw [if_pos hf]
    have e2 : s.flush = s := by unfold DK.flush; rw [if_pos hf]
    rw [e1, e2]
    clear e1 e2 hf h hw ht
    go_enter Try.func59, Try.ntmps59
    go_wp2_with fail
    refine Calls.mono (unhide H) ?_
    rintro e w' ⟨rfl, rfl⟩
    go_wp2
    go_ret
    exact ⟨rfl, F, unhide HD, Moves.refl _ _⟩
  | false =>
    rw [hf, if_neg (by decide)] at H
    have HA := hide (ofalls_any F g s w h hf ht)
    by_cases h1 : s.armed = 1
    · rw [if_pos h1] at HA
      have e1 : s.flushE = 40 := by unfold DK.flushE; rw [if_neg (by rw [hf]; decide), if_pos h1]
      have e2 : s.flush = s.tick := by unfold DK.flush; rw [if_neg (by rw [hf]; decide), if_pos h1]
      rw [e1, e2]
      clear e1 e2 hf h hw ht h1
      go_enter Try.func59, Try.ntmps59
      go_wp2_with fail
      refine Calls.mono (unhide H) ?_
      rintro e w' ⟨rfl, rfl⟩
      go_wp2_with fail
      refine Calls.mono (unhide HA) ?_
      rintro e w2 ⟨rfl, hr2, hk2⟩
      go_wp2
      go_ret
      exact ⟨rfl, F, hr2, ⟨hk2, fun _ h => Or.inl h⟩⟩
    · rw [if_neg h1] at HA
      have e1 : s.flushE = 0 := by unfold DK.flushE; rw [if_neg (by rw [hf]; decide), if_neg h1]
      have e2 : s.flush = { s.tick with kept := settled (fun _ => true) s.tick.kept 0 s.tick.waits, waits := [] } := by
        rw [settled_all]
        unfold DK.flush
        rw [if_neg (by rw [hf]; decide), if_neg h1]
        rfl
      rw [e1, e2]
      have hw2 : s.tick.waits.length ≤ 1048576 := hw
      generalize s.tick = t at *
      have HW2 := hide hw2
      clear e1 e2 hf h hw ht h1 hw2
      go_enter Try.func59, Try.ntmps59
      go_wp2_with fail
      refine Calls.mono (unhide H) ?_
      rintro e w' ⟨rfl, rfl⟩
      go_wp2_with fail
      refine Calls.mono (unhide HA) ?_
      rintro e w2 ⟨rfl, hr2, hk2⟩
      have HS := hide (osettle_any F g t w2 81 #[] (fun _ => true) hr2 ent_flush1 (fun i w' _ _ => oflush1_any (i : Int) w') (unhide HW2))
      have HK2 := hide hk2
      clear hr2 hk2
      go_wp2_with fail
      refine Calls.mono (unhide HS) ?_
      rintro e w3 ⟨rfl, hr3, hk3⟩
      go_wp2
      go_ret
      exact ⟨rfl, F, hr3, ⟨(unhide HK2).trans hk3 (fun _ h => Or.inl h), fun _ h => Or.inl h⟩⟩

set_option maxRecDepth 20000 in
theorem ocrash_any (F : Nat → Prop) (p : Value) (s : DK) (kv : Value) (ks : List Bool) (w : World) (h : DRep F w p s) (hks : BRow w kv ks) (ho : ∀ b off n c, kv = .slice (some ⟨b, off, none⟩) n c → 0 < n → ¬ F b) (hw : s.waits.length ≤ 1048576) :
    Calls Try.prog 20 #[p, kv] w fun e w' => e = .returned (.int .i64 0) ∧ ∃ F', DRep F' w' p (s.crash ks) ∧ Moves F F' w w' := by
  obtain ⟨g, hg⟩ : ∃ g, p = .pointer (some ⟨g, 0, none⟩) := by obtain ⟨g, _, _, _, _, _, h, _⟩ := h; exact ⟨g, h⟩
  subst hg
  obtain ⟨kq, kcc, rfl, _, _⟩ := hks.shape
  obtain ⟨w1, hw1⟩ : ∃ w1, w1 = w.alloc (.cells #[.slice kq ks.length kcc] 109) := ⟨_, rfl⟩
  have hb1 : Below w.heap.size w w1 := by rw [hw1]; exact (Below.refl _ _).alloc (Nat.le_refl _) _
  have hx1 : w1.heap[w.heap.size]? = some (.cells #[.slice kq ks.length kcc] 109 (0, 0)) := by rw [hw1]; exact heap_alloc_new _ _
  have hd1 := h.stays hb1.size (fun k hk => hb1.block k (h.lt k hk))
  have hlx : w.heap.size < w1.heap.size := (Array.getElem?_eq_some_iff.1 hx1).1
  have hS := osettle_any F g s w1 54 #[.pointer (some ⟨w.heap.size, 0, none⟩)] (fun i => ks.getD i false) hd1 ent_crash1 (fun i w' _ hk => by
    have hxl : w'.cell? ⟨w.heap.size, 0, none⟩ = some (.slice kq ks.length kcc) := by
      rw [hk.cell (p := ⟨w.heap.size, 0, none⟩) hlx (fun hf => absurd (h.lt _ hf) (Nat.lt_irrefl _)), cell_of_row w1 _ 0 _ _ (0, 0) hx1]
      rfl
    refine ocrash1_any i w.heap.size _ ks w' hxl ?_
    have hk1 := hks.below hb1
    exact hk1.keep hk (fun b off c e hne => ho b off _ c e (List.length_pos_iff.2 hne))) hw
  have HS := hide hS
  have HB := hide hb1
  have HC : Hid (s.crash ks = { ({ s with kept := settled (fun i => ks.getD i false) s.kept 0 s.waits, waits := [] } : DK) with fell := true }) := by
    unfold Hid DK.crash
    rw [settled_some]
  clear hS hb1 hx1 hd1 hlx hks ho hw h
  rw [unhide HC]
  generalize ({ s with kept := settled (fun i => ks.getD i false) s.kept 0 s.waits, waits := [] } : DK) = t at *
  go_enter Try.func20, Try.ntmps20
  go_wp2_with fail
  rw [← hw1]
  refine Calls.mono (unhide HS) ?_
  rintro e w2 ⟨rfl, ⟨g', kb, kc, wv, mv, hit, e, R⟩, hk2⟩
  cases e
  have c3 := (eight_cells R.blk).2.2.2.1
  have hfz3 := (eight_cells R.blk).2.2.2.2.2.2.2.2 3
  have HK : Hid (DAt F (w2.setCell ⟨g, 3, none⟩ (.bool true)) g kb kc wv mv { t with fell := true } hit ∧ Keep F w (w2.setCell ⟨g, 3, none⟩ (.bool true))) := by
    have b1 := heap_setCell_same w2 g 3 _ _ (.bool true) R.blk
    have hK := keep_set w2 g 3 (.bool true)
    exact ⟨R.set b1 hK.size (fun k h1 h2 => hK.block k h2 h1) rfl rfl rfl R.armed ⟨R.ok.size, R.ok.kept, R.ok.waits, R.ok.armed⟩, ((Keep.of_below (F := F) (unhide HB)).trans hk2 (fun _ h => Or.inl h)).trans (hK.weak (G := F) (fun k e => e ▸ R.fg)) (fun x h => Or.inl h)⟩
  clear R hk2 HS HC hw1 HB
  go_wp2
  go_ret
  exact ⟨rfl, F, ⟨g, kb, kc, wv, mv, hit, rfl, (unhide HK).1⟩, ⟨(unhide HK).2, fun _ h => Or.inl h⟩⟩
end Go.Proofs.Ytdpoiieblbmofaa
