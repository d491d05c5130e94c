/- What the reference of package disk does: Flip, Write. -/
import Derived.Test.YtkekikfiijbjmaaDiskRef3
import Derived.Test.YtkekikfiijbjmaaMemStep
import Derived.Test.YtkekikfiijbjmaaTurnBit
namespace Go.Proofs.Ytkekikfiijbjmaa
open Go.RowKit

theorem RAt.weak {F G : Nat → Prop} {w : World} {g m : Nat} {wv : Value} {f : Int → Option Value} {xs : List Value} {s : DK} {cnt : Nat} (h : RAt F w g m wv f xs s cnt) (hs : ∀ k, F k → G k) (hl : ∀ k, G k → k < w.heap.size) : RAt G w g m wv f xs s cnt where
  blk := h.blk
  map := h.map
  own := h.own
  waits := fun j hj => by
    obtain ⟨v, h1, h2, h3⟩ := h.waits j hj
    exact ⟨v, h1, h2, h3.weak hs⟩
  kept := fun a => by
    rcases h.kept a with h1 | ⟨v, h1, h2⟩
    · exact Or.inl h1
    · exact Or.inr ⟨v, h1, h2.weak hs⟩
  fg := hs g h.fg
  fm := hs m h.fm
  fw := fun k hk => hs k (h.fw k hk)
  lt := hl
  ok := h.ok

set_option maxRecDepth 20000 in
set_option maxHeartbeats 1000000 in
theorem rflip_ok (F : Nat → Prop) (p : Value) (s : DK) (cnt a bit : Nat) (w : World) (h : RRep F w p s cnt) (ha : a < s.n) (hb : bit < 4096) (ht : s.turns ≤ 1048576) (hc : cnt ≤ 1048576 * 1048576) :
    Calls Try.prog 36 #[p, .int .i64 (a : Int), .int .i64 (bit : Int)] w fun e w' => e = .returned (.int .i64 0) ∧ ∃ F', RRep F' w' p { s with kept := keep1 s.kept (a, tog (s.kept a) bit), turns := s.turns + 1 } (cnt + 1) ∧ Moves F F' w w' := by
  have H := hide h
  obtain ⟨g, m, wv, f, xs, rfl, R⟩ := h
  have hn := R.ok.size
  obtain ⟨c0, c1, c2, c3, c4, c5, hfz⟩ := six_cells R.blk
  have HR := hide R
  have ha1 : ¬ (a : Int) < 0 := by omega
  have ha2 : (a : Int) < s.n := by omega
  have ha3 : ¬ (s.n : Int) ≤ a := by omega
  have hb1 : ¬ (bit : Int) < 0 := by omega
  have hb2 : ¬ (4096 : Int) ≤ bit := by omega
  clear R hfz
  go_enter Try.func36, Try.ntmps36
  go_wp2_with fail
  refine (rkept_any F _ s cnt a w (unhide H) (by omega)).mono ?_
  rintro e w1 ⟨t, rfl, hown1, hb1'⟩
  have hkl : (s.kept a).length = 512 := (unhide HR).ok.kept a
  rcases hown1.2 with ⟨_, h0⟩ | ⟨gb, cap, cur, rfl, hgb, hblk, hcap, hcm, hcs, htk⟩
  · omega
  have hle := World.ownsRow.lt hown1 gb rfl
  have hq : bit / 8 < 512 := by omega
  obtain ⟨u0, hu0⟩ : ∃ u0 : UInt8, u0 = (s.kept a).getD (bit / 8) 0 := ⟨_, rfl⟩
  have htk' : cur.toList.take 512 = (s.kept a).map B := by simpa using htk
  have hcell : w1.cell? ⟨gb, bit / 8, none⟩ = some (.int .u8 (u0.toNat : Int)) := by
    rw [cell_of_row w1 gb (bit / 8) _ _ (0, 0) hblk]
    have e1 : cur[bit / 8]? = (cur.toList.take 512)[bit / 8]? := by rw [List.getElem?_take_of_lt hq]; simp
    rw [e1, htk', hu0, List.getElem?_map, List.getElem?_eq_getElem (by omega)]
    simp [B, List.getD, List.getElem?_eq_getElem (show bit / 8 < (s.kept a).length by omega)]
  have hfzb : w1.frozen? ⟨gb, bit / 8, none⟩ = false := frozen_of_block hblk
  -- behind the store into the copy
  obtain ⟨w2, hw2⟩ : ∃ w2, w2 = w1.setCell ⟨gb, bit / 8, none⟩ (B (u0 ^^^ UInt8.ofNat (2 ^ (bit % 8)))) := ⟨_, rfl⟩
  have hkp2 : ∀ k, k < w.heap.size → w2.heap[k]? = w.heap[k]? := fun k hk => by
    rw [hw2, Below.heap_setCell _ _ _ _ (show k ≠ gb by omega)]
    exact hb1'.block k hk
  have hsz2 : w.heap.size ≤ w2.heap.size := by rw [hw2]; simpa using hb1'.size
  have hgl2 : gb < w2.heap.size := by rw [hw2]; simpa using hle.2
  have R2 : RAt (fun k => F k ∨ k = gb) w2 g m wv f xs s cnt :=
    ((unhide HR).stays hsz2 (fun k hF => hkp2 k ((unhide HR).lt k hF))).weak (fun k h => Or.inl h) (fun k h => by
      rcases h with h | h
      · exact Nat.lt_of_lt_of_le ((unhide HR).lt k h) hsz2
      · omega)
  have hblk2 : w2.heap[gb]? = some (.cells (cur.setIfInBounds (bit / 8) (B (u0 ^^^ UInt8.ofNat (2 ^ (bit % 8))))) 5 (0, 0)) := by
    rw [hw2]
    exact heap_setCell_same w1 gb (bit / 8) cur _ _ hblk
  have htog : (cur.setIfInBounds (bit / 8) (B (u0 ^^^ UInt8.ofNat (2 ^ (bit % 8))))).toList.take 512 = (tog (s.kept a) bit).map B := by
    rw [set_cells htk' hq]
    unfold tog
    rw [← hu0]
  have hrow : RowIn (fun k => F k ∨ k = gb) w2 (.slice (some ⟨gb, 0, none⟩) 512 cap) (tog (s.kept a) bit) := by
    have hl : (tog (s.kept a) bit).length = 512 := by rw [length_tog]; exact hkl
    refine ⟨gb, 0, cap, _, rfl, Or.inr rfl, hblk2, hl, some ⟨gb, 0, none⟩, cap, by rw [hl], by rw [hl]; exact hcap, hcm, by simp, Or.inr ⟨gb, 0, rfl, fun j hj => ?_⟩⟩
    rw [Nat.zero_add, cell_of_row w2 gb j _ _ (0, 0) hblk2]
    have hj5 : j < 512 := by omega
    have e1 : ∀ c : Array Value, c[j]? = (c.toList.take 512)[j]? := fun c => by rw [List.getElem?_take_of_lt hj5]; simp
    rw [e1, htog, List.getElem?_map, List.getElem?_eq_getElem hj]
    rfl
  obtain ⟨w3, hrun, hm3, hg3⟩ := R2.map.put (t := 66) Try.underlying3 Try.underlying66 (by unfold maxLen; omega) (a : Int) (wf64 (by omega) (by omega)) (.slice (some ⟨gb, 0, none⟩) 512 cap)
  have R3 := R2.put a (tog (s.kept a) bit) _ hm3 hg3 hrow (by rw [length_tog]; exact hkl)
  obtain ⟨e0, e1, e2, e3, e4, e5, hfz3⟩ := six_cells R3.blk
  have hfz5 := hfz3 5
  have HK : Hid (RAt (fun k => F k ∨ k = gb) (w3.setCell ⟨g, 5, none⟩ (.int .i64 ((s.turns : Int) + 1))) g m wv (fun x => if x = (a : Int) then some (.slice (some ⟨gb, 0, none⟩) 512 cap) else f x) xs { s with kept := keep1 s.kept (a, tog (s.kept a) bit), turns := s.turns + 1 } (cnt + 1) ∧ Moves F (fun k => F k ∨ k = gb) w (w3.setCell ⟨g, 5, none⟩ (.int .i64 ((s.turns : Int) + 1)))) := by
    have b1 := heap_setCell_same w3 g 5 _ _ (.int .i64 ((s.turns : Int) + 1)) R3.blk
    have hk : ∀ k, k ≠ g → (w3.setCell ⟨g, 5, none⟩ (.int .i64 ((s.turns : Int) + 1))).heap[k]? = w3.heap[k]? := fun k hk => by
      rw [Below.heap_setCell _ _ _ _ hk]
    refine ⟨R3.set ?_ (by simp) (fun k h _ => hk k h) rfl rfl ⟨R3.ok.size, R3.ok.kept, R3.ok.waits, R3.ok.armed⟩, ⟨?_, fun k h => ?_⟩⟩
    · rw [b1]
      show _ = some (Obj.cells #[_, _, _, _, _, .int .i64 ((s.turns + 1 : Nat) : Int)] _ _)
      rw [Int.natCast_add]
      rfl
    · refine ⟨hg3.os.trans (by rw [hw2]; exact hb1'.os), hg3.tape.trans (by rw [hw2]; exact hb1'.tape), hg3.output.trans (by rw [hw2]; exact hb1'.output), by have := hg3.size; simp; omega, fun k hk' hn => ?_⟩
      rw [hk k (fun e => hn (e ▸ (unhide HR).fg)), hg3.block k (by omega) (fun e => hn (by rw [Option.some.inj e]; exact (unhide HR).fm)), hkp2 k hk']
    · rcases h with h | h
      · exact Or.inl h
      · right; omega
  have d1 : w2.cell? ⟨g, 1, none⟩ = some (.map (some m)) := (six_cells R2.blk).2.1
  have hBB : B (u0 ^^^ UInt8.ofNat (2 ^ (bit % 8))) = .int .u8 (bits .xor .u8 (u0.toNat : Int) ((2 : Int) ^ (bit % 8) % 256)) := by unfold B; rw [turn_bit u0 (bit % 8) (by omega)]
  have hdiv : (bit : Int) / 8 < 512 := by omega
  rw [hBB] at hw2
  clear hBB hfz3 R3 R2 hm3 hg3 hrow htog hblk2 htk htk' hblk hcs hown1 hu0 hkp2 hle c0 c1 c2 c3 c4 c5 e0 e1 e2 e3 e4 hb1' H
  subst hw2
  have hcap' : (512 : Int) ≤ cap := by omega
  have hbI : (bit : Int) < 4096 := by omega
  have htI : (s.turns : Int) ≤ 1048576 := by omega
  clear hb hn ht hc hq hcap hcm hkl hsz2 hgl2 ha hgb
  go_wp2_with fail
  go_ret
  exact ⟨rfl, _, ⟨g, m, wv, _, xs, rfl, (unhide HK).1⟩, (unhide HK).2⟩

set_option maxRecDepth 20000 in
theorem rflip_any (F : Nat → Prop) (p : Value) (s : DK) (cnt : Nat) (a bit : Int) (w : World) (h : RRep F w p s cnt) (ht : s.turns ≤ 1048576) (hc : cnt ≤ 1048576 * 1048576) :
    Calls Try.prog 36 #[p, .int .i64 a, .int .i64 bit] w fun e w' => e = .returned (.int .i64 (s.flipE a bit)) ∧ ∃ F', (∃ c, c ≤ cnt + 1 ∧ RRep F' w' p (s.flip a bit) c) ∧ Moves F F' w w' := by
  by_cases hn : s.noSuch a = true ∨ bit < 0 ∨ 4096 ≤ bit
  · have e1 : s.flipE a bit = 1 := by unfold DK.flipE; rw [if_pos hn]
    have e2 : s.flip a bit = s := by unfold DK.flip; rw [if_pos hn]
    rw [e1, e2]
    have H := hide h
    obtain ⟨g, m, wv, f, xs, rfl, R⟩ := h
    obtain ⟨c0, c1, c2, c3, c4, c5, hfz⟩ := six_cells R.blk
    clear R hfz e1 e2 ht hc
    by_cases h1 : a < 0
    · clear hn
      go_enter Try.func36, Try.ntmps36
      go_wp2
      go_ret
      exact ⟨rfl, F, ⟨cnt, by omega, unhide H⟩, Moves.refl _ _⟩
    · by_cases h2 : (s.n : Int) ≤ a
      · clear hn
        go_enter Try.func36, Try.ntmps36
        go_wp2
        go_ret
        exact ⟨rfl, F, ⟨cnt, by omega, unhide H⟩, Moves.refl _ _⟩
      · by_cases h3 : bit < 0
        · clear hn
          go_enter Try.func36, Try.ntmps36
          go_wp2
          go_ret
          exact ⟨rfl, F, ⟨cnt, by omega, unhide H⟩, Moves.refl _ _⟩
        · have h4 : (4096 : Int) ≤ bit := by
            rcases hn with hn | hn | hn
            · have := of_decide_eq_true hn; omega
            · omega
            · exact hn
          clear hn
          go_enter Try.func36, Try.ntmps36
          go_wp2
          go_ret
          exact ⟨rfl, F, ⟨cnt, by omega, unhide H⟩, Moves.refl _ _⟩
  · have e1 : s.flipE a bit = 0 := by unfold DK.flipE; rw [if_neg hn]
    have e2 : s.flip a bit = { s with kept := keep1 s.kept (a.toNat, tog (s.kept a.toNat) bit.toNat), turns := s.turns + 1 } := by unfold DK.flip; rw [if_neg hn]
    rw [e1, e2]
    have hs : s.noSuch a = false := by
      cases h1 : s.noSuch a with
      | false => rfl
      | true => exact absurd (Or.inl h1) hn
    obtain ⟨h0, h1, h2⟩ := DK.noSuch_false hs
    obtain ⟨k, rfl⟩ := Int.eq_ofNat_of_zero_le h0
    obtain ⟨b, rfl⟩ := Int.eq_ofNat_of_zero_le (show 0 ≤ bit by omega)
    rw [Int.toNat_natCast, Int.toNat_natCast]
    refine (rflip_ok F p s cnt k b w h (by omega) (by omega) ht hc).mono ?_
    rintro e w' ⟨rfl, F', hr, hm⟩
    exact ⟨rfl, F', ⟨_, Nat.le_refl _, hr⟩, hm⟩
end Go.Proofs.Ytkekikfiijbjmaa
