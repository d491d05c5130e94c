/- The landed package disk: New, Flip. -/
import Derived.Test.YtkekikfiijbjmaaDiskOwn4
import Derived.Test.YtkekikfiijbjmaaTurnBit
namespace Go.Proofs.Ytkekikfiijbjmaa
open Go.RowKit

theorem onew_arg (n : Int) (w : World) (h : n < 1 ∨ 65536 < n) : Calls Try.prog 9 #[.int .i64 n] w fun e w' => e = .returned (.tuple #[.pointer none, .int .i64 1]) ∧ Below w.heap.size w w' := by
  rcases h with h | h
  · go_enter Try.func9, Try.ntmps9
    go_wp2
    go_ret2
    exact ⟨rfl, Below.refl _ _⟩
  · have h' : ¬ n < 1 := by omega
    go_enter Try.func9, Try.ntmps9
    go_wp2
    go_ret2
    exact ⟨rfl, Below.refl _ _⟩

theorem Try.infoImage3 : (Try.prog.info? 80).map (fun i => (i.zero, i.size, i.bytes)) = some (some (.agg (List.replicate 512 (Value.int .u8 0)).toArray), 512, 512) := by kernel_rfl

theorem made_all (z : Value) (L m : Nat) (hL : 0 < L) : (madeCells (List.replicate L z).toArray m).toList = List.replicate m z := by
  apply List.ext_getElem?
  intro i
  unfold madeCells
  by_cases h : i < m
  · have h5 : i % L < L := Nat.mod_lt _ hL
    simp [h, getElem!_def, h5]
  · simp [h]

theorem blank_B : blank.map B = List.replicate 512 (Value.int .u8 0) := by
  unfold blank
  rw [List.map_replicate]
  rfl

set_option maxRecDepth 20000 in
theorem onew_ok (n : Nat) (w : World) (h1 : 1 ≤ n) (h2 : n ≤ 65536) : Calls Try.prog 9 #[.int .i64 (n : Int)] w fun e w' => ∃ p, e = .returned (.tuple #[p, .int .i64 0]) ∧ (∃ F, DRep F w' p (DK.new n) ∧ ∀ k, F k → w.heap.size ≤ k) ∧ Below w.heap.size w w' := by
  obtain ⟨i0, hi, hz0, hz1, hz2⟩ := info_parts Try.infoImage3
  obtain ⟨Z, hZ⟩ : ∃ Z : Array Value, Z = (List.replicate 512 (Value.int .u8 0)).toArray := ⟨_, rfl⟩
  rw [← hZ] at hz0
  have HZ := hide hZ
  clear hZ
  have i1 : ¬ (n : Int) < 1 := by omega
  have i2 : (n : Int) ≤ 65536 := by omega
  go_enter Try.func9, Try.ntmps9
  go_wp2_with (at_make; refine wpList_make_full _ rfl _ _ 57 rfl w.heap.size 80 i0 (.agg Z) 512 Try.underlying57 hi hz0 hz1 .i64 .i64 n n n rfl rfl (by omega) (by omega) (by rw [hz2]; omega) (by unfold maxLen; omega) (Nat.le_refl _) ?_)
  intro w2 hown hgrow
  have HO := hide hown
  have HB := hide ((Below.refl w.heap.size w).grown hgrow (Nat.le_refl _) (fun k hk => by cases hk))
  clear hown hgrow
  go_wp2
  go_ret2
  have bel : Below w.heap.size w (w2.alloc (.cells #[.slice (some ⟨w.heap.size, 0, none⟩) n n, .slice none 0 0, .map none, .bool false, .int .i64 0, .int .i64 0, .int .i64 0, .int .i64 0] 65)) := (unhide HB).alloc (unhide HB).size _
  have hown : w2.ownsRow w.heap.size 80 512 (.slice (some ⟨w.heap.size, 0, none⟩) n n) n (madeCells Z (n * 512)).toList := unhide HO
  obtain ⟨cur, hcur⟩ := row_kind hown w.heap.size rfl
  have hlt : w.heap.size < w2.heap.size := (Array.getElem?_eq_some_iff.1 hcur).1
  have hc := hown.cells (g := w.heap.size) rfl
  rw [unhide HZ, made_all _ _ _ (by omega)] at hc
  have hcs : cur.size = n * 512 := by
    rcases hown.2 with ⟨h', _⟩ | ⟨g', cap, cur', h', _, hh, _, _, hcs, _⟩
    · cases h'
    · simp only [Value.slice.injEq, Option.some.injEq, Addr.mk.injEq, and_true, true_and] at h'
      obtain ⟨rfl, rfl⟩ := h'
      rw [hcur] at hh
      cases hh
      exact hcs
  have hI : Imgs w2 w.heap.size n n (fun _ => blank) := by
    refine ⟨cur, hcur, hcs, Nat.le_refl _, by unfold maxLen; omega, fun a ha j v hv => ?_⟩
    have hj : j < 512 := by have := (List.getElem?_eq_some_iff.1 hv).1; rw [List.length_map, length_blank] at this; exact this
    have := hc (a * 512 + j) v (by
      rw [blank_B] at hv
      rw [List.getElem?_replicate] at hv ⊢
      rw [if_pos hj] at hv
      rw [if_pos (by omega)]
      exact hv)
    rw [Addr.add_lit, Nat.zero_add] at this
    exact this
  refine ⟨_, rfl, ⟨fun k => k = w.heap.size ∨ k = w2.heap.size, ⟨w2.heap.size, w.heap.size, n, .slice none 0 0, .map none, 0, rfl, ?_⟩, fun k h => ?_⟩, bel⟩
  · constructor
    · exact heap_alloc_new _ _
    · exact hI.stays (Below.heap_alloc _ _ _ hlt)
    · exact World.ownsRow_nil _ _ _ _
    · exact Or.inl ⟨rfl, rfl⟩
    · rfl
    · exact Or.inr rfl
    · exact Or.inl rfl
    · exact fun k hk => by cases hk
    · intro k hk
      rw [World.size_alloc]
      rcases hk with hk | hk <;> omega
    · exact DK.Ok.new h2
  · rcases h with h | h <;> omega

/-- One byte of a sector. -/
theorem Imgs.setByte {w : World} {kb n kc : Nat} {f : Nat → List UInt8} (h : Imgs w kb n kc f) (hf : ∀ k, (f k).length = 512) {a q : Nat} (ha : a < n) (hq : q < 512) (u : UInt8) :
    Imgs (w.setCell ⟨kb, a * 512 + q, none⟩ (B u)) kb n kc (keep1 f (a, (f a).set q u)) := by
  obtain ⟨C, h1, h2, h3, h4, h5⟩ := h
  have hb := heap_setCell_same w kb (a * 512 + q) C _ (B u) h1
  refine ⟨_, hb, by rw [Array.size_setIfInBounds]; exact h2, h3, h4, fun x hx j v hv => ?_⟩
  have hr := h5 x hx
  by_cases e : x = a
  · subst e
    have : keep1 f (x, (f x).set q u) x = (f x).set q u := by simp [keep1]
    rw [this] at hv
    by_cases hj : j = q
    · subst hj
      have hc := hr j (B ((f x)[j]'(by rw [hf]; exact hq))) (by rw [List.getElem?_map, List.getElem?_eq_getElem (by rw [hf]; exact hq)]; rfl)
      rw [World.cell?_setCell_same _ _ _ hc]
      rw [List.getElem?_map, List.getElem?_set_self (by rw [hf]; exact hq)] at hv
      exact hv
    · rw [World.cell?_setCell_other _ _ _ _ (by intro e'; have := congrArg Addr.off e'; simp at this; omega)]
      apply hr
      rw [List.getElem?_map, List.getElem?_set_ne (fun e => hj e.symm)] at hv
      rw [List.getElem?_map]
      exact hv
  · have : keep1 f (a, (f a).set q u) x = f x := by simp [keep1, e]
    rw [this] at hv
    have hj : j < 512 := by have := (List.getElem?_eq_some_iff.1 hv).1; rw [List.length_map, hf] at this; exact this
    rw [World.cell?_setCell_other _ _ _ _ (by intro e'; have := congrArg Addr.off e'; simp at this; omega)]
    exact hr j v hv

/-- A bit of a sector that is kept is turned, and counted. -/
theorem DAt.flips {F : Nat → Prop} {w : World} {g kb kc : Nat} {wv mv : Value} {s : DK} {hit : Int} (h : DAt F w g kb kc wv mv s hit) {a q : Nat} (ha : a < s.n) (hq : q < 512) (u : UInt8) :
    DAt F (w.setCell ⟨kb, a * 512 + q, none⟩ (B u)) g kb kc wv mv { s with kept := keep1 s.kept (a, (s.kept a).set q u) } hit ∧ Keep F w (w.setCell ⟨kb, a * 512 + q, none⟩ (B u)) := by
  have hK := keep_set w kb (a * 512 + q) (B u)
  have hk : ∀ k, k ≠ kb → k < w.heap.size → (w.setCell ⟨kb, a * 512 + q, none⟩ (B u)).heap[k]? = w.heap[k]? := fun k h1 h2 => hK.block k h2 h1
  refine ⟨⟨(hk g (fun e => h.kg e.symm) (h.lt g h.fg)).trans h.blk, h.kept.setByte h.ok.kept ha hq u, row_stays h.own fun k e => hk k (fun ek => h.wk (ek ▸ e)) (h.lt k (h.fw k e)), h.map.stays fun k hF hm => hk k (fun ek => ?_) (h.lt k hF), h.armed, h.fg, h.fk, h.fw, fun k hF => by rw [World.size_setCell]; exact h.lt k hF, ⟨h.ok.size, length_keep1 h.ok.kept (by rw [List.length_set]; exact h.ok.kept a), h.ok.waits, h.ok.armed⟩⟩, hK.weak (fun k e => e ▸ h.fk)⟩
  obtain ⟨es, c, hm⟩ := hm
  obtain ⟨C, hC, _⟩ := h.kept
  rw [ek, hC] at hm
  cases hm

set_option maxRecDepth 20000 in
set_option maxHeartbeats 1000000 in
theorem oflip_ok (F : Nat → Prop) (p : Value) (s : DK) (a bit : Nat) (w : World) (h : DRep F w p s) (ha : a < s.n) (hb : bit < 4096) (ht : s.turns ≤ 1048576) :
    Calls Try.prog 24 #[p, .int .i64 (a : Int), .int .i64 (bit : Int)] w fun e w' => e = .returned (.int .i64 0) ∧ ∃ F', DRep F' w' p { s with kept := keep1 s.kept (a, tog (s.kept a) bit), turns := s.turns + 1 } ∧ Moves F F' w w' := by
  have HH := hide (ohas_any F p s (a : Int) w h)
  rw [show s.noSuch (a : Int) = false by unfold DK.noSuch; simp; omega] at HH
  obtain ⟨g, kb, kc, wv, mv, hit, rfl, R⟩ := h
  obtain ⟨c0, c1, c2, c3, c4, c5, c6, c7, hfz⟩ := eight_cells R.blk
  have hq : bit / 8 < 512 := by omega
  obtain ⟨u0, hu0⟩ : ∃ u0 : UInt8, u0 = (s.kept a).getD (bit / 8) 0 := ⟨_, rfl⟩
  have hkl := R.ok.kept a
  have hcell : w.cell? ⟨kb, a * 512 + bit / 8, none⟩ = some (.int .u8 (u0.toNat : Int)) := by
    obtain ⟨C, _, _, _, _, h5⟩ := R.kept
    rw [h5 a ha (bit / 8) (B u0) (by
      rw [List.getElem?_map, List.getElem?_eq_getElem (by omega), hu0]
      simp [List.getD, List.getElem?_eq_getElem (show bit / 8 < (s.kept a).length by omega)])]
    rfl
  have hfzk : w.frozen? ⟨kb, a * 512 + bit / 8, none⟩ = false := by obtain ⟨C, hC, _⟩ := R.kept; exact frozen_of_block hC
  have hBB : B (u0 ^^^ UInt8.ofNat (2 ^ (bit % 8))) = .int .u8 (bits .xor .u8 (u0.toNat : Int) ((2 : Int) ^ (bit % 8) % 256)) := by unfold B; rw [turn_bit u0 (bit % 8) (by omega)]
  obtain ⟨w2, hw2⟩ : ∃ w2, w2 = (w.setCell ⟨kb, a * 512 + bit / 8, none⟩ (B (u0 ^^^ UInt8.ofNat (2 ^ (bit % 8))))).drew := ⟨_, rfl⟩
  have hF := R.flips ha hq (u0 ^^^ UInt8.ofNat (2 ^ (bit % 8)))
  have hF1 := hF.1.stays (w' := w2) (by rw [hw2]; exact Nat.le_refl _) (fun k _ => by rw [hw2]; rfl)
  have hk2 : Keep F w w2 := by rw [hw2]; exact ⟨hF.2.os, hF.2.tape, hF.2.output, hF.2.size, hF.2.block⟩
  have R2 : DAt F w2 g kb kc wv mv { s with kept := keep1 s.kept (a, tog (s.kept a) bit) } hit := by
    unfold tog
    rw [← hu0]
    exact hF1
  obtain ⟨d0, d1, d2, d3, d4, d5, d6, d7, dfz⟩ := eight_cells R2.blk
  have HC := hide (ocount_any g 6 (s.turns : Int) 0 w2 d6 d7 (dfz 6) (by omega) (by omega))
  have HK : Hid (DAt F (w2.setCell ⟨g, 6, none⟩ (.int .i64 ((s.turns : Int) + 1))).drew g kb kc wv mv { s with kept := keep1 s.kept (a, tog (s.kept a) bit), turns := s.turns + 1 } hit ∧ Keep F w (w2.setCell ⟨g, 6, none⟩ (.int .i64 ((s.turns : Int) + 1))).drew) := by
    have b1 := heap_setCell_same w2 g 6 _ _ (.int .i64 ((s.turns : Int) + 1)) R2.blk
    have hK := keep_set w2 g 6 (.int .i64 ((s.turns : Int) + 1))
    have hK2 := hk2.trans (hK.weak (G := F) (fun k e => e ▸ R.fg)) (fun x h => Or.inl h)
    refine ⟨R2.set ?_ hK.size (fun k h1 h2 => hK.block k h2 h1) rfl rfl rfl R2.armed ⟨R2.ok.size, R2.ok.kept, R2.ok.waits, R2.ok.armed⟩, ⟨hK2.os, hK2.tape, hK2.output, hK2.size, hK2.block⟩⟩
    show (w2.setCell ⟨g, 6, none⟩ (.int .i64 ((s.turns : Int) + 1))).heap[g]? = _
    rw [b1]
    show _ = some (Obj.cells #[_, _, _, _, _, _, .int .i64 ((s.turns + 1 : Nat) : Int), _] _ _)
    rw [Int.natCast_add]
    rfl
  rw [hBB] at hw2
  have hn := R.ok.size
  have hkc : s.n ≤ kc := by obtain ⟨C, _, _, h3, _⟩ := R.kept; exact h3
  have hb1 : ¬ (bit : Int) < 0 := by omega
  have hb2 : ¬ (4096 : Int) ≤ bit := by omega
  have ha2 : (a : Int) < s.n := by omega
  have hdiv : (bit : Int) / 8 < 512 := by omega
  have hbI : (bit : Int) < 4096 := by omega
  clear R R2 hF hF1 hk2 dfz hfz d0 d1 d2 d3 d4 d5 d6 d7 c1 c2 c3 c4 c5 c6 c7 hu0 hBB hkl
  go_enter Try.func24, Try.ntmps24
  go_wp2_with fail
  refine Calls.mono (unhide HH) ?_
  rintro e w' ⟨rfl, rfl⟩
  go_wp2_with fail
  go_region
  go_wp2_with fail
  rw [← hw2]
  refine Calls.mono (unhide HC) ?_
  rintro e w3 ⟨rfl, hw3⟩
  rw [← hw3] at HK
  clear hw3 hw2 HC
  go_wp2
  go_ret
  exact ⟨rfl, F, ⟨g, kb, kc, wv, mv, hit, rfl, (unhide HK).1⟩, ⟨(unhide HK).2, fun _ h => Or.inl h⟩⟩

set_option maxRecDepth 20000 in
theorem oflip_any (F : Nat → Prop) (p : Value) (s : DK) (a bit : Int) (w : World) (h : DRep F w p s) (ht : s.turns ≤ 1048576) :
    Calls Try.prog 24 #[p, .int .i64 a, .int .i64 bit] w fun e w' => e = .returned (.int .i64 (s.flipE a bit)) ∧ ∃ F', DRep F' w' p (s.flip a bit) ∧ Moves F F' w w' := by
  by_cases hn : s.noSuch a = true ∨ bit < 0 ∨ 4096 ≤ bit
  · have e1 : s.flipE a bit = 1 := by unfold DK.flipE; rw [if_pos hn]
    have e2 : s.flip a bit = s := by unfold DK.flip; rw [if_pos hn]
    rw [e1, e2]
    have HD := hide h
    have HH := hide (ohas_any F p s a w h)
    obtain ⟨g, kb, kc, wv, mv, hit, rfl, R⟩ := h
    clear R e1 e2 ht
    cases hs : s.noSuch a with
    | true =>
      rw [hs] at HH
      clear hn hs
      go_enter Try.func24, Try.ntmps24
      go_wp2_with fail
      refine Calls.mono (unhide HH) ?_
      rintro e w' ⟨rfl, rfl⟩
      go_wp2
      go_ret
      exact ⟨rfl, F, unhide HD, Moves.refl _ _⟩
    | false =>
      rw [hs] at HH
      have hn2 : bit < 0 ∨ 4096 ≤ bit := by
        rcases hn with hn | hn
        · rw [hs] at hn; cases hn
        · exact hn
      clear hn hs
      by_cases hb : bit < 0
      · clear hn2
        go_enter Try.func24, Try.ntmps24
        go_wp2_with fail
        refine Calls.mono (unhide HH) ?_
        rintro e w' ⟨rfl, rfl⟩
        go_wp2
        go_ret
        exact ⟨rfl, F, unhide HD, Moves.refl _ _⟩
      · have hb4 : (4096 : Int) ≤ bit := by omega
        clear hn2
        go_enter Try.func24, Try.ntmps24
        go_wp2_with fail
        refine Calls.mono (unhide HH) ?_
        rintro e w' ⟨rfl, rfl⟩
        go_wp2
        go_ret
        exact ⟨rfl, F, unhide HD, Moves.refl _ _⟩
  · have e1 : s.flipE a bit = 0 := by unfold DK.flipE; rw [if_neg hn]
    have e2 : s.flip a bit = { s with kept := keep1 s.kept (a.toNat, tog (s.kept a.toNat) bit.toNat), turns := s.turns + 1 } := by unfold DK.flip; rw [if_neg hn]
    rw [e1, e2]
    have hs : s.noSuch a = false := by
      cases h1 : s.noSuch a with
      | false => rfl
      | true => exact absurd (Or.inl h1) hn
    obtain ⟨h0, h1, h2⟩ := DK.noSuch_false hs
    obtain ⟨k, rfl⟩ := Int.eq_ofNat_of_zero_le h0
    obtain ⟨b, rfl⟩ := Int.eq_ofNat_of_zero_le (show 0 ≤ bit by omega)
    rw [Int.toNat_natCast, Int.toNat_natCast]
    exact oflip_ok F p s k b w h (by omega) (by omega) ht
end Go.Proofs.Ytkekikfiijbjmaa
