/- The landed package disk: New, Flip. -/
import Derived.Test.YtdpoiieblbmofaaDiskOwn4
import Derived.Test.YtdpoiieblbmofaaTurnBit
namespace Go.Proofs.Ytdpoiieblbmofaa
open Go.RowKit

theorem onew_arg (n : Int) (w : World) (h : n < 1 ∨ 65536 < n) : Calls Try.prog 33 #[.int .i64 n] w fun e w' => e = .returned (.tuple #[.pointer none, .int .i64 1]) ∧ Below w.heap.size w w' := by
  rcases h with h | h
  · go_enter Try.func33, Try.ntmps33
    go_wp2
    go_ret2
    exact ⟨rfl, Below.refl _ _⟩
  · have h' : ¬ n < 1 := by omega
    go_enter Try.func33, Try.ntmps33
    go_wp2
    go_ret2
    exact ⟨rfl, Below.refl _ _⟩

theorem Try.infoImage3 : (Try.prog.info? 117).map (fun i => (i.zero, i.size, i.bytes)) = some (some (.agg (List.replicate 512 (Value.int .u8 0)).toArray), 512, 512) := by kernel_rfl

theorem made_all (z : Value) (L m : Nat) (hL : 0 < L) : (madeCells (List.replicate L z).toArray m).toList = List.replicate m z := by
  apply List.ext_getElem?
  intro i
  unfold madeCells
  by_cases h : i < m
  · have h5 : i % L < L := Nat.mod_lt _ hL
    simp [h, getElem!_def, h5]
  · simp [h]

theorem blank_B : blank.map B = List.replicate 512 (Value.int .u8 0) := by
  unfold blank
  rw [List.map_replicate]
  rfl

set_option maxRecDepth 20000 in
theorem onew_ok (n : Nat) (w : World) (h1 : 1 ≤ n) (h2 : n ≤ 65536) : Calls Try.prog 33 #[.int .i64 (n : Int)] w fun e w' => ∃ p, e = .returned (.tuple #[p, .int .i64 0]) ∧ (∃ F, DRep F w' p (DK.new n) ∧ ∀ k, F k → w.heap.size ≤ k) ∧ Below w.heap.size w w' := by
  obtain ⟨i0, hi, hz0, hz1, hz2⟩ := info_parts Try.infoImage3
  obtain ⟨Z, hZ⟩ : ∃ Z : Array Value, Z = (List.replicate 512 (Value.int .u8 0)).toArray := ⟨_, rfl⟩
  rw [← hZ] at hz0
  have HZ := hide hZ
  clear hZ
  have i1 : ¬ (n : Int) < 1 := by omega
  have i2 : (n : Int) ≤ 65536 := by omega
  go_enter Try.func33, Try.ntmps33
  go_wp2_with (at_make; refine wpList_make_full _ rfl _ _ 73 rfl w.heap.size 117 i0 (.agg Z) 512 Try.underlying73 hi hz0 hz1 .i64 .i64 n n n rfl rfl (by omega) (by omega) (by rw [hz2]; omega) (by unfold maxLen; omega) (Nat.le_refl _) ?_)
  intro w2 hown hgrow
  have HO := hide hown
  have HB := hide ((Below.refl w.heap.size w).grown hgrow (Nat.le_refl _) (fun k hk => by cases hk))
  clear hown hgrow
  go_wp2
  go_ret2
  have bel : Below w.heap.size w (w2.alloc (.cells #[.slice (some ⟨w.heap.size, 0, none⟩) n n, .slice none 0 0, .map none, .bool false, .int .i64 0, .int .i64 0, .int .i64 0, .int .i64 0] 81)) := (unhide HB).alloc (unhide HB).size _
  have hown : w2.ownsRow w.heap.size 117 512 (.slice (some ⟨w.heap.size, 0, none⟩) n n) n (madeCells Z (n * 512)).toList := unhide HO
  obtain ⟨cur, hcur⟩ := row_kind hown w.heap.size rfl
  have hlt : w.heap.size < w2.heap.size := (Array.getElem?_eq_some_iff.1 hcur).1
  have hc := hown.cells (g := w.heap.size) rfl
  rw [unhide HZ, made_all _ _ _ (by omega)] at hc
  have hcs : cur.size = n * 512 := by
    rcases hown.2 with ⟨h', _⟩ | ⟨g', cap, cur', h', _, hh, _, _, hcs, _⟩
    · cases h'
    · simp only [Value.slice.injEq, Option.some.injEq, Addr.mk.injEq, and_true, true_and] at h'
      obtain ⟨rfl, rfl⟩ := h'
      rw [hcur] at hh
      cases hh
      exact hcs
  have hI : Imgs w2 w.heap.size n n (fun _ => blank) := by
    refine ⟨cur, hcur, hcs, Nat.le_refl _, by unfold maxLen; omega, fun a ha j v hv => ?_⟩
    have hj : j < 512 := by have := (List.getElem?_eq_some_iff.1 hv).1; rw [List.length_map, length_blank] at this; exact this
    have := hc (a * 512 + j) v (by
      rw [blank_B] at hv
      rw [List.getElem?_replicate] at hv ⊢
      rw [if_pos hj] at hv
      rw [if_pos (by omega)]
      exact hv)
    rw [Addr.add_lit, Nat.zero_add] at this
    exact this
  refine ⟨_, rfl, ⟨fun k => k = w.heap.size ∨ k = w2.heap.size, ⟨w2.heap.size, w.heap.size, n, .slice none 0 0, .map none, 0, rfl, ?_⟩, fun k h => ?_⟩, bel⟩
  · constructor
    · exact heap_alloc_new _ _
    · exact hI.stays (Below.heap_alloc _ _ _ hlt)
    · exact World.ownsRow_nil _ _ _ _
    · exact Or.inl ⟨rfl, rfl⟩
    · rfl
    · exact Or.inr rfl
    · exact Or.inl rfl
    · exact fun k hk => by cases hk
    · intro k hk
      rw [World.size_alloc]
      rcases hk with hk | hk <;> omega
    · exact DK.Ok.new h2
  · rcases h with h | h <;> omega

/-- One byte of a sector. -/
theorem Imgs.setByte {w : World} {kb n kc : Nat} {f : Nat → List UInt8} (h : Imgs w kb n kc f) (hf : ∀ k, (f k).length = 512) {a q : Nat} (ha : a < n) (hq : q < 512) (u : UInt8) :
    Imgs (w.setCell ⟨kb, a * 512 + q, none⟩ (B u)) kb n kc (keep1 f (a, (f a).set q u)) := by
  obtain ⟨C, h1, h2, h3, h4, h5⟩ := h
  have hb := heap_setCell_same w kb (a * 512 + q) C _ (B u) h1
  refine ⟨_, hb, by rw [Array.size_setIfInBounds]; exact h2, h3, h4, fun x hx j v hv => ?_⟩
  have hr := h5 x hx
  by_cases e : x = a
  · subst e
    have : keep1 f (x, (f x).set q u) x = (f x).set q u := by simp [keep1]
    rw [this] at hv
    by_cases hj : j = q
    · subst hj
      have hc := hr j (B ((f x)[j]'(by rw [hf]; exact hq))) (by rw [List.getElem?_map, List.getElem?_eq_getElem (by rw [hf]; exact hq)]; rfl)
      rw [World.cell?_setCell_same _ _ _ hc]
      rw [List.getElem?_map, List.getElem?_set_self (by rw [hf]; exact hq)] at hv
      exact hv
    · rw [World.cell?_setCell_other _ _ _ _ (by intro e'; have := congrArg Addr.off e'; simp at this; omega)]
      apply hr
      rw [List.getElem?_map, List.getElem?_set_ne (fun e => hj e.symm)] at hv
      rw [List.getElem?_map]
      exact hv
  · have : keep1 f (a, (f a).set q u) x = f x := by simp [keep1, e]
    rw [this] at hv
    have hj : j < 512 := by have := (List.getElem?_eq_some_iff.1 hv).1; rw [List.length_map, hf] at this; exact this
    rw [World.cell?_setCell_other _ _ _ _ (by intro e'; have := congrArg Addr.off e'; simp at this; omega)]
    exact hr j v hv

/-- A bit of a sector that is kept is turned, and counted. -/
theorem DAt.flips {F : Nat → Prop} {w : World} {g kb kc : Nat} {wv mv : Value} {s : DK} {hit : Int} (h : DAt F w g kb kc wv mv s hit) {a q : Nat} (ha : a < s.n) (hq : q < 512) (u : UInt8) :
    DAt F (w.setCell ⟨kb, a * 512 + q, none⟩ (B u)) g kb kc wv mv { s with kept := keep1 s.kept (a, (s.kept a).set q u) } hit ∧ Keep F w (w.setCell ⟨kb, a * 512 + q, none⟩ (B u)) := by
  have hK := keep_set w kb (a * 512 + q) (B u)
  have hk : ∀ k, k ≠ kb → k < w.heap.size → (w.setCell ⟨kb, a * 512 + q, none⟩ (B u)).heap[k]? = w.heap[k]? := fun k h1 h2 => hK.block k h2 h1
  refine ⟨⟨(hk g (fun e => h.kg e.symm) (h.lt g h.fg)).trans h.blk, h.kept.setByte h.ok.kept ha hq u, row_stays h.own fun k e => hk k (fun ek => h.wk (ek ▸ e)) (h.lt k (h.fw k e)), h.map.stays fun k hF hm => hk k (fun ek => ?_) (h.lt k hF), h.armed, h.fg, h.fk, h.fw, fun k hF => by rw [World.size_setCell]; exact h.lt k hF, ⟨h.ok.size, length_keep1 h.ok.kept (by rw [List.length_set]; exact h.ok.kept a), h.ok.waits, h.ok.armed⟩⟩, hK.weak (fun k e => e ▸ h.fk)⟩
  obtain ⟨es, c, hm⟩ := hm
  obtain ⟨C, hC, _⟩ := h.kept
  rw [ek, hC] at hm
  cases hm

end Go.Proofs.Ytdpoiieblbmofaa
