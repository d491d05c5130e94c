/- Texts of ours, one behind the other: SecOpen, SecOpen2. -/
import Derived.Test.YtpkpjmebkikgdaaG4
import Derived.Test.YtpkpjmebkikgdaaG25
import Derived.Deep.RegionHeld3
import Derived.Lib.SliceRun
/- What package sector does: number, read, Open, Good; and bytes.Clone. -/
namespace Go.Proofs.Ytpkpjmebkikgdaa
open Go.RowKit

theorem Row.cells_at {w : World} {g off n cap : Nat} {b : List UInt8} (hs : Row w (.slice (some ⟨g, off, none⟩) n cap) b) (hb : b.length = 512) : (∀ j (h : j < b.length), w.cell? ⟨g, off + j, none⟩ = some (B b[j])) ∧ cap ≤ maxLen := by
  obtain ⟨b', o', c', e', _, hm, hc'⟩ := hs.open (by intro e; rw [e] at hb; simp at hb)
  simp only [Value.slice.injEq, Option.some.injEq, Addr.mk.injEq, and_true] at e'
  obtain ⟨⟨rfl, rfl⟩, _, rfl⟩ := e'
  exact ⟨hc', hm⟩

set_option maxRecDepth 20000 in
theorem number_own (s : Value) (bs : List UInt8) (a b n : Nat) (w : World) (hs : Row w s bs) (h1 : 1 ≤ n) (h8 : n ≤ 8) (hb : b = a + n) (hl : b ≤ bs.length) (hl2 : b ≤ 512) :
    Calls Try.prog 77 #[s, .int .i64 a, .int .i64 b] w fun e w' => e = .returned (.int .u64 (numAt bs a n : Nat)) ∧ Below w.heap.size w w' := by
  have HG := hide (get_ok s bs a n w hs h1 h8 (by omega))
  have hsub : (b : Int) - a = n := by omega
  have hab : (a : Int) ≤ b := by omega
  have hb5 : (b : Int) ≤ 512 := by omega
  clear hb hl hs hl2
  go_enter Try.func77, Try.ntmps77
  go_wp2_with fail
  refine Calls.mono (unhide HG) ?_
  rintro e w1 ⟨rfl, hb1⟩
  clear HG
  go_wp2
  go_ret
  exact ⟨rfl, hb1⟩

set_option maxRecDepth 20000 in
theorem sclone_any (s : Value) (bs : List UInt8) (w : World) (hs : Row w s bs) (hroom : bs.length ≤ 140737488351232) :
    Calls Try.prog 80 #[s] w fun e w' => ∃ t, e = .returned t ∧ Mine w' w.heap.size t bs ∧ Below w.heap.size w w' := by
  obtain ⟨i0, hi, hz0, hz1, hz2⟩ := info_parts Try.info5
  have HS := hide hs
  have heq := fun (a : Option Addr) (n c : Nat) (w : World) => Lib.run_eql_slice_nil (P := Try.prog) w 31 5 a n c 0 0 Try.underlying31
  obtain ⟨a, cap, rfl, hc1, hc2, hc3, hc4⟩ := hs
  cases a with
  | none =>
    have h0 := hc3 rfl
    subst h0
    have hb0 : bs = [] := List.eq_nil_of_length_eq_zero (by omega)
    subst hb0
    go_enter Try.func80, Try.ntmps80
    go_wp2
    go_ret
    exact ⟨_, rfl, mine_nil _ _, Below.refl _ _⟩
  | some ad =>
    clear hc4 hc3
    have hown : (w.alloc (.cells #[] 5)).ownsRow w.heap.size 5 1 (.slice (some ⟨w.heap.size, 0, none⟩) 0 0) 0 [] :=
      owns_of_block (w := w.alloc (.cells #[] 5)) (bs := []) (g := w.heap.size) (heap_alloc_new _ _) (Nat.le_refl _) (by unfold maxLen; simp)
    have HO := hide hown
    have bel : Below w.heap.size w (w.alloc (.cells #[] 5)) := (Below.refl _ _).alloc (Nat.le_refl _) _
    have HB := hide bel
    have HS1 := hide ((unhide HS).below bel)
    clear hown bel
    go_enter Try.func80, Try.ntmps80
    go_wp2_with (at_builtin; refine wpList_append_row rfl _ _ 31 rfl w.heap.size 5 i0 (.int .u8 0) Try.underlying31 hi hz0 hz1 hz2 rfl _ 0 [] rfl (unhide HO) _ bs rfl (unhide HS1) (by omega) (by simp) ?_)
    intro v' w' hown' hgrow'
    have HB' := hide ((unhide HB).grown hgrow' (by simp) (fun k hk => by cases hk; exact Nat.le_refl _))
    have HO' : Hid (w'.ownsRow w.heap.size 5 1 v' bs.length (bs.map B)) := by unfold Hid; simpa using hown'
    clear hown' hgrow'
    go_wp2
    go_ret
    exact ⟨_, rfl, mine_of_owns (unhide HO'), unhide HB'⟩

theorem Mine.sset {w : World} {base : Nat} {t : Value} {bs : List UInt8} (h : Mine w base t bs) {a : Addr} (ha : a.block < base) (u : Value) : Mine (w.setCell a u) base t bs := by
  obtain ⟨⟨p, cap, ht, h1, h2, h3, h4⟩, h5⟩ := h
  rcases h5 with rfl | ⟨g, off, cap', e, cur, ht', hg, hh⟩
  · exact ⟨⟨p, cap, ht, h1, h2, h3, Or.inl rfl⟩, Or.inl rfl⟩
  · have hne : ¬ g = a.block := by omega
    have hk : (w.setCell a u).heap[g]? = w.heap[g]? := Below.heap_setCell _ _ _ _ hne
    refine ⟨⟨p, cap, ht, h1, h2, h3, ?_⟩, Or.inr ⟨g, off, cap', e, cur, ht', hg, hk.trans hh⟩⟩
    rcases h4 with h4 | ⟨b, o, hp, hc⟩
    · exact Or.inl h4
    · refine Or.inr ⟨b, o, hp, fun j hj => ?_⟩
      rw [ht, hp] at ht'
      simp only [Value.slice.injEq, Option.some.injEq, Addr.mk.injEq] at ht'
      obtain ⟨⟨rfl, _, _⟩, _, _⟩ := ht'
      exact (World.cell?_of_block (w := w) (a := ⟨b, o + j, none⟩) hk).trans (hc j hj)

theorem set3_cell {w : World} {g off h : Nat} {v1 v2 v3 : Value} (hne : ¬ g = h) : (((w.setCell ⟨h, 0, none⟩ v1).setCell ⟨h, 1, none⟩ v2).setCell ⟨h, 2, none⟩ v3).cell? ⟨g, off, none⟩ = w.cell? ⟨g, off, none⟩ := by
  refine World.cell?_of_block (w := w) ?_
  rw [Below.heap_setCell _ _ _ _ hne, Below.heap_setCell _ _ _ _ hne, Below.heap_setCell _ _ _ _ hne]

/-- What stands in a sector's first two bytes, and in the variable of the answer, wherever memory below is kept. -/
theorem head_cells {w w' : World} {g off : Nat} {b : List UInt8} (hB : ∀ j (h : j < b.length), w.cell? ⟨g, off + j, none⟩ = some (B b[j])) (hb : b.length = 512)
    (hw' : Below (w.heap.size + 1) (w.alloc (.cells #[.int .u8 0, .int .u64 0, .slice none 0 0] 74)) w') :
    w'.cell? ⟨g, off, none⟩ = some (.int .u8 ((b.getD 0 0).toNat : Int)) ∧ w'.cell? ⟨g, off + 1, none⟩ = some (.int .u8 ((b.getD 1 0).toNat : Int)) ∧ w'.heap[w.heap.size]? = some (.cells #[.int .u8 0, .int .u64 0, .slice none 0 0] 74 (0, 0)) := by
  have bel := (Below.refl w.heap.size w).alloc (Nat.le_refl _) (.cells #[.int .u8 0, .int .u64 0, .slice none 0 0] 74)
  have h0 := hB 0 (by omega)
  have h1 := hB 1 (by omega)
  rw [Nat.add_zero] at h0
  have hlt' : g < w.heap.size := World.block_lt_of_cell? w _ h0
  refine ⟨?_, ?_, ?_⟩
  · rw [hw'.cell (show g < w.heap.size + 1 by omega), bel.cell (p := ⟨g, off, none⟩) hlt', h0]
    simp [B, List.getD, List.getElem?_eq_getElem (show 0 < b.length by omega)]
  · rw [hw'.cell (show g < w.heap.size + 1 by omega), bel.cell (p := ⟨g, off + 1, none⟩) hlt', h1]
    simp [B, List.getD, List.getElem?_eq_getElem (show 1 < b.length by omega)]
  · rw [hw'.block _ (by omega)]
    exact heap_alloc_new _ _

set_option maxRecDepth 20000 in
set_option maxHeartbeats 1000000 in
theorem read_form (g off cap : Nat) (b : List UInt8) (w : World) (hs : Row w (.slice (some ⟨g, off, none⟩) 512 cap) b) (hb : b.length = 512) (hcap : 512 ≤ cap)
    (hf : knownB (b.getD 0 0) = false ∨ b.getD 1 0 ≠ 0 ∨ 496 < numAt b 2 2) :
    Calls Try.prog 78 #[.slice (some ⟨g, off, none⟩) 512 cap] w fun e w' => e = .returned (.tuple #[.agg #[.int .u8 0, .int .u64 0, .slice none 0 0], .bool false]) ∧ Below w.heap.size w w' := by
  have bel := (Below.refl w.heap.size w).alloc (Nat.le_refl _) (.cells #[.int .u8 0, .int .u64 0, .slice none 0 0] 74)
  have HG := hide (number_own _ b 2 4 2 _ (hs.below bel) (by omega) (by omega) rfl (by omega) (by omega))
  obtain ⟨hB, hm⟩ := hs.cells_at hb
  have hcA := fun w' => head_cells (w' := w') hB hb
  have HCA := hide hcA
  have n2 := numAt_lt b 2 2
  clear hs hB hcA
  generalize numAt b 2 2 = v2 at *
  generalize b.getD 0 0 = k0 at *
  generalize b.getD 1 0 = k1 at *
  have HBE := hide bel
  have hc1 : 0 < cap := by omega
  clear hb hm
  go_enter Try.func78, Try.ntmps78
  go_wp2_with fail
  refine Calls.mono (unhide HG) ?_
  rintro e w1 ⟨rfl, hb1⟩
  rw [World.size_alloc] at hb1
  obtain ⟨c0, c1, cx⟩ := unhide HCA _ hb1
  obtain ⟨x1, x2, x3, x4, x5, x6⟩ := three_cells cx
  have HB1 := hide (bel.trans (hb1.mono (by omega)))
  clear HG HCA cx hb1 bel
  go_wp2_with fail
  refine (known_own k0 _).mono ?_
  rintro e w1 ⟨rfl, rfl⟩
  cases hkn : knownB k0 with
  | false =>
    clear hf
    go_wp2
    refine bodyPost_ret (v := .tuple #[.agg #[.int .u8 0, .int .u64 0, .slice none 0 0], .bool false]) (by simp [results, Try.results78, go_sem, *]) rfl ⟨rfl, ?_⟩
    exact (((unhide HB1).setCell (Nat.le_refl _) _).setCell (Nat.le_refl _) _).setCell (Nat.le_refl _) _
  | true =>
    by_cases h1 : k1 = 0
    · have hd1 : ((k1.toNat : Int) != 0) = false := by rw [h1]; rfl
      have hv : (496 : Int) < v2 := by
        rcases hf with h | h | h
        · rw [hkn] at h; cases h
        · exact absurd h1 h
        · omega
      clear hf h1
      go_wp2
      refine bodyPost_ret (v := .tuple #[.agg #[.int .u8 0, .int .u64 0, .slice none 0 0], .bool false]) (by simp [results, Try.results78, go_sem, *]) rfl ⟨rfl, ?_⟩
      exact (((unhide HB1).setCell (Nat.le_refl _) _).setCell (Nat.le_refl _) _).setCell (Nat.le_refl _) _
    · have hd1 : ((k1.toNat : Int) != 0) = true := by rw [bne, beq_byte]; simp [h1]
      clear hf h1
      go_wp2
      refine bodyPost_ret (v := .tuple #[.agg #[.int .u8 0, .int .u64 0, .slice none 0 0], .bool false]) (by simp [results, Try.results78, go_sem, *]) rfl ⟨rfl, ?_⟩
      exact (((unhide HB1).setCell (Nat.le_refl _) _).setCell (Nat.le_refl _) _).setCell (Nat.le_refl _) _

set_option maxRecDepth 20000 in
set_option maxHeartbeats 1000000 in
theorem read_tail (g off cap : Nat) (b : List UInt8) (w : World) (hs : Row w (.slice (some ⟨g, off, none⟩) 512 cap) b) (hb : b.length = 512) (hcap : 512 ≤ cap)
    (hk : knownB (b.getD 0 0) = true) (h0 : b.getD 1 0 = 0) (hv : numAt b 2 2 ≤ 496) (hz : ((b.drop (12 + numAt b 2 2)).take (508 - (12 + numAt b 2 2))).all (· == 0) = false) :
    Calls Try.prog 78 #[.slice (some ⟨g, off, none⟩) 512 cap] w fun e w' => e = .returned (.tuple #[.agg #[.int .u8 0, .int .u64 0, .slice none 0 0], .bool false]) ∧ Below w.heap.size w w' := by
  have bel := (Below.refl w.heap.size w).alloc (Nat.le_refl _) (.cells #[.int .u8 0, .int .u64 0, .slice none 0 0] 74)
  have HG := hide (number_own _ b 2 4 2 _ (hs.below bel) (by omega) (by omega) rfl (by omega) (by omega))
  obtain ⟨hB, hm⟩ := hs.cells_at hb
  have hcA := fun w' => head_cells (w' := w') hB hb
  have HCA := hide hcA
  have HRT := hide (Row.cut hB (12 + numAt b 2 2) (508 - (12 + numAt b 2 2)) (cap - (12 + numAt b 2 2)) (by omega) (by omega) (by unfold maxLen at hm ⊢; omega))
  rw [h0] at HCA
  have hd1 : (((0 : UInt8).toNat : Int) != 0) = false := rfl
  have HZ := hide hz
  clear hs hB hcA h0 hz hb
  generalize numAt b 2 2 = v2 at *
  generalize b.getD 0 0 = k0 at *
  have HBE := hide bel
  have hc1 : 0 < cap := by omega
  have hv1 : ¬ (496 : Int) < v2 := by omega
  have hv3 : (v2 : Int) ≤ 496 := by omega
  go_enter Try.func78, Try.ntmps78
  go_wp2_with fail
  refine Calls.mono (unhide HG) ?_
  rintro e w1 ⟨rfl, hb1⟩
  rw [World.size_alloc] at hb1
  obtain ⟨c0, c1, cx⟩ := unhide HCA _ hb1
  have B1 := bel.trans (hb1.mono (by omega))
  have HR1 := hide ((unhide HRT).below B1)
  have HX := hide cx
  have HB1 := hide B1
  clear HG HCA cx bel HRT B1
  have hsz : w.heap.size < w1.heap.size := by have := hb1.size; simp at this; omega
  clear hb1
  go_wp2_with fail
  refine (known_own k0 _).mono ?_
  rintro e w1 ⟨rfl, rfl⟩
  rw [hk]
  go_wp2_with fail
  refine (zero_any _ _ w1 (unhide HR1)).mono ?_
  rintro e w2 ⟨rfl, hb2⟩
  rw [unhide HZ]
  have hx2 := (hb2.block _ hsz).trans (unhide HX)
  obtain ⟨x1, x2, x3, x4, x5, x6⟩ := three_cells hx2
  have HB2 := hide ((unhide HB1).trans (hb2.mono (by omega)))
  clear hx2 hb2 c0 c1 HX HB1 HR1
  go_wp2
  refine bodyPost_ret (v := .tuple #[.agg #[.int .u8 0, .int .u64 0, .slice none 0 0], .bool false]) (by simp [results, Try.results78, go_sem, *]) rfl ⟨rfl, ?_⟩
  exact (((unhide HB2).setCell (Nat.le_refl _) _).setCell (Nat.le_refl _) _).setCell (Nat.le_refl _) _

set_option maxRecDepth 20000 in
set_option maxHeartbeats 1000000 in
theorem read_yes (g off cap : Nat) (b : List UInt8) (w : World) (hs : Row w (.slice (some ⟨g, off, none⟩) 512 cap) b) (hb : b.length = 512) (hcap : 512 ≤ cap)
    (hk : knownB (b.getD 0 0) = true) (h0 : b.getD 1 0 = 0) (hv : numAt b 2 2 ≤ 496) (hz : ((b.drop (12 + numAt b 2 2)).take (508 - (12 + numAt b 2 2))).all (· == 0) = true) :
    Calls Try.prog 78 #[.slice (some ⟨g, off, none⟩) 512 cap] w fun e w' => ∃ t, e = .returned (.tuple #[.agg #[.int .u8 ((b.getD 0 0).toNat : Int), .int .u64 (numAt b 4 8 : Nat), t], .bool true]) ∧ Mine w' w.heap.size t ((b.drop 12).take (numAt b 2 2)) ∧ Below w.heap.size w w' := by
  have bel := (Below.refl w.heap.size w).alloc (Nat.le_refl _) (.cells #[.int .u8 0, .int .u64 0, .slice none 0 0] 74)
  have HG := hide (number_own _ b 2 4 2 _ (hs.below bel) (by omega) (by omega) rfl (by omega) (by omega))
  obtain ⟨hB, hm⟩ := hs.cells_at hb
  have hcA := fun w' => head_cells (w' := w') hB hb
  have HCA := hide hcA
  have HRT := hide (Row.cut hB (12 + numAt b 2 2) (508 - (12 + numAt b 2 2)) (cap - (12 + numAt b 2 2)) (by omega) (by omega) (by unfold maxLen at hm ⊢; omega))
  have HRP := hide (Row.cut hB 12 (numAt b 2 2) (cap - 12) (by omega) (by omega) (by unfold maxLen at hm ⊢; omega))
  have HRB := hide hs
  have HLB := hide hb
  rw [h0] at HCA
  have hd1 : (((0 : UInt8).toNat : Int) != 0) = false := rfl
  have HZ := hide hz
  clear hs hB hcA h0 hz hb
  generalize numAt b 2 2 = v2 at *
  generalize b.getD 0 0 = k0 at *
  generalize hpl : (b.drop 12).take v2 = pl at *
  have HPL := hide hpl
  clear hpl
  have HBE := hide bel
  have hc1 : 0 < cap := by omega
  have hv1 : ¬ (496 : Int) < v2 := by omega
  have hv3 : (v2 : Int) ≤ 496 := by omega
  go_enter Try.func78, Try.ntmps78
  go_wp2_with fail
  refine Calls.mono (unhide HG) ?_
  rintro e w1 ⟨rfl, hb1⟩
  rw [World.size_alloc] at hb1
  obtain ⟨c0, c1, cx⟩ := unhide HCA _ hb1
  have B1 := bel.trans (hb1.mono (by omega))
  have HR1 := hide ((unhide HRT).below B1)
  have HX := hide cx
  have HB1 := hide B1
  clear HG HCA cx bel HRT B1
  have hsz : w.heap.size < w1.heap.size := by have := hb1.size; simp at this; omega
  clear hb1
  go_wp2_with fail
  refine (known_own k0 _).mono ?_
  rintro e w1 ⟨rfl, rfl⟩
  rw [hk]
  go_wp2_with fail
  refine (zero_any _ _ w1 (unhide HR1)).mono ?_
  rintro e w2 ⟨rfl, hb2⟩
  rw [unhide HZ]
  have hx2 := (hb2.block _ hsz).trans (unhide HX)
  have HX2 := hide hx2
  have B2 := (unhide HB1).trans (hb2.mono (by omega))
  have hcc0 := (hb2.cell (p := ⟨g, off, none⟩) (World.block_lt_of_cell? w1 _ c0)).trans c0
  have hpl2 : pl.length = v2 := by rw [← unhide HPL]; have := unhide HLB; simp; omega
  have hgl : g < w.heap.size := by
    obtain ⟨hBB, _⟩ := (unhide HRB).cells_at (unhide HLB)
    have := World.block_lt_of_cell? w _ (hBB 0 (by rw [unhide HLB]; omega))
    exact this
  obtain ⟨K, K0, Kd, Kc, Kx1, Kx2, Kx3, Kf1, Kf2, Kf3, Kb, CN, CC⟩ : ∃ K : World → Prop, K w2 ∧ (∀ w', K w' → K w'.drew) ∧ (∀ w', K w' → w'.cell? ⟨g, off, none⟩ = some (.int .u8 (k0.toNat : Int)))
      ∧ (∀ w', K w' → w'.cell? ⟨w.heap.size, 0, none⟩ = some (.int .u8 0)) ∧ (∀ w', K w' → w'.cell? ⟨w.heap.size, 1, none⟩ = some (.int .u64 0)) ∧ (∀ w', K w' → w'.cell? ⟨w.heap.size, 2, none⟩ = some (.slice none 0 0))
      ∧ (∀ w', K w' → w'.frozen? ⟨w.heap.size, 0, none⟩ = false) ∧ (∀ w', K w' → w'.frozen? ⟨w.heap.size, 1, none⟩ = false) ∧ (∀ w', K w' → w'.frozen? ⟨w.heap.size, 2, none⟩ = false)
      ∧ Hid (∀ w', K w' → Below w.heap.size w w')
      ∧ Hid (∀ w', K w' → Calls Try.prog 77 #[.slice (some ⟨g, off, none⟩) 512 cap, .int .i64 4, .int .i64 12] w' fun e w'' => e = .returned (.int .u64 (numAt b 4 8 : Nat)) ∧ K w'')
      ∧ Hid (∀ w', K w' → Calls Try.prog 80 #[.slice (some ⟨g, off + 12, none⟩) v2 (cap - 12)] w' fun e w'' => ∃ t, e = .returned t ∧ Mine w'' (w.heap.size + 1) t pl ∧ K w'') := by
    refine ⟨fun w' => Below w.heap.size w w' ∧ w.heap.size < w'.heap.size ∧ w'.heap[w.heap.size]? = some (.cells #[.int .u8 0, .int .u64 0, .slice none 0 0] 74 (0, 0)) ∧ w'.cell? ⟨g, off, none⟩ = some (.int .u8 (k0.toNat : Int)), ⟨B2, Nat.lt_of_lt_of_le hsz hb2.size, hx2, hcc0⟩, ?_, fun w' h => h.2.2.2, fun w' h => (three_cells h.2.2.1).1, fun w' h => (three_cells h.2.2.1).2.1, fun w' h => (three_cells h.2.2.1).2.2.1, fun w' h => (three_cells h.2.2.1).2.2.2.1, fun w' h => (three_cells h.2.2.1).2.2.2.2.1, fun w' h => (three_cells h.2.2.1).2.2.2.2.2, fun w' h => h.1, ?_, ?_⟩
    · rintro w' ⟨h1, h2, h3, h4⟩
      exact ⟨h1.drew, h2, h3, h4⟩
    · rintro w' ⟨h1, h2, h3, h4⟩
      refine (number_own _ b 4 12 8 w' ((unhide HRB).below h1) (by omega) (by omega) rfl (by rw [unhide HLB]; omega) (by omega)).mono ?_
      rintro e w'' ⟨rfl, hd⟩
      exact ⟨rfl, h1.trans (hd.mono h1.size), Nat.lt_of_lt_of_le h2 hd.size, (hd.block _ h2).trans h3, (hd.cell (p := ⟨g, off, none⟩) (Nat.lt_of_lt_of_le hgl h1.size)).trans h4⟩
    · rintro w' ⟨h1, h2, h3, h4⟩
      have hr := (unhide HRP).below h1
      refine (sclone_any _ pl w' hr (by omega)).mono ?_
      rintro e w'' ⟨t, rfl, hmn, hd⟩
      exact ⟨t, rfl, hmn.base (by omega), h1.trans (hd.mono h1.size), Nat.lt_of_lt_of_le h2 hd.size, (hd.block _ h2).trans h3, (hd.cell (p := ⟨g, off, none⟩) (Nat.lt_of_lt_of_le hgl h1.size)).trans h4⟩
  obtain ⟨N, hN⟩ : ∃ N, N = 12 + v2 := ⟨_, rfl⟩
  have hN1 : N ≤ cap := by omega
  have hN2 : 12 ≤ N := by omega
  have hN3 : N - 12 = v2 := by omega
  have hN4 : ¬ cap = 12 := by omega
  have hN5 : (12 : Int) ≤ N := by omega
  have hN6 : (12 : Int) + v2 = N := by omega
  clear hN hx2 hb2 c0 c1 HX HB1 HR1 hcc0 B2 HX2
  go_wp2_with fail
  have hS := Kc _ K0
  have hgne : ¬ g = w.heap.size := by omega
  go_region_held3 (fun w' => w'.cell? ⟨g, off, none⟩ = some (.int .u8 (k0.toNat : Int))) (first | assumption | (rw [set3_cell hgne]; refine Kc _ ?_; assumption) | (refine Kc _ ?_; first | assumption | (refine Kd _ ?_; assumption)))
    (first
      | (go_at_call 77; refine Calls.mono (unhide CN _ (by first | assumption | (refine Kd _ ?_; assumption))) ?_; rintro e w3 ⟨rfl, k3⟩)
      | (go_at_call 80; refine Calls.mono (unhide CC _ (by first | assumption | (refine Kd _ ?_; assumption))) ?_; rintro e w4 ⟨t, rfl, m4, k4⟩; obtain ⟨pp, cc, ll, rfl, hll⟩ := m4.row.shape; have M4 := hide m4; clear hll m4; have x1 := Kx1 _ k4; have x2 := Kx2 _ k4; have x3 := Kx3 _ k4; have y1 := Kf1 _ k4; have y2 := Kf2 _ k4; have y3 := Kf3 _ k4))
  all_goals
    go_wp2
    refine bodyPost_ret (v := .tuple #[.agg #[.int .u8 (k0.toNat : Int), .int .u64 (numAt b 4 8 : Nat), .slice pp ll cc], .bool true]) (by simp [results, Try.results78, go_sem, *]) rfl ⟨.slice pp ll cc, rfl, ?_, ?_⟩
    · exact ((((unhide M4).sset (by simp) _).sset (by simp) _).sset (by simp) _).base (by omega)
    · exact (((unhide Kb _ k4).setCell (Nat.le_refl _) _).setCell (Nat.le_refl _) _).setCell (Nat.le_refl _) _
end Go.Proofs.Ytpkpjmebkikgdaa

/- What package sector does: Open, Good. -/
namespace Go.Proofs.Ytpkpjmebkikgdaa
open Go.RowKit

/-- What read answers of a sector whose sum is right, as Open has it. -/
theorem sread_any (g off cap : Nat) (b : List UInt8) (hb : b.length = 512) (hcap : 512 ≤ cap) (hz : b.all (· == 0) = false) (hsum : numAt b 508 4 = more 0 (b.take 508)) :
    ∃ (kk : UInt8) (tt : Nat) (pl : List UInt8) (ok : Bool), (ok = true → openR b = (kk, tt, pl, 0)) ∧ (ok = false → openR b = (0, 0, [], 11)) ∧
      Hid (∀ w, Row w (.slice (some ⟨g, off, none⟩) 512 cap) b → Calls Try.prog 78 #[.slice (some ⟨g, off, none⟩) 512 cap] w fun e w' => ∃ t, e = .returned (.tuple #[.agg #[.int .u8 (kk.toNat : Int), .int .u64 (tt : Nat), t], .bool ok]) ∧ Mine w' w.heap.size t pl ∧ Below w.heap.size w w') := by
  have HO : openR b = if knownB (b.getD 0 0) = false ∨ b.getD 1 0 ≠ 0 ∨ 496 < numAt b 2 2 then (0, 0, [], 11)
      else if ((b.drop (12 + numAt b 2 2)).take (496 - numAt b 2 2)).all (· == 0) = false then (0, 0, [], 11)
      else (b.getD 0 0, numAt b 4 8, (b.drop 12).take (numAt b 2 2), 0) := by
    unfold openR
    rw [if_neg (show ¬ b.length ≠ 512 by omega), hz, if_neg (show ¬ (false = true) by decide), if_neg (show ¬ numAt b 508 4 ≠ more 0 (b.take 508) by rw [hsum]; simp)]
  by_cases hf : knownB (b.getD 0 0) = false ∨ b.getD 1 0 ≠ 0 ∨ 496 < numAt b 2 2
  · rw [if_pos hf] at HO
    refine ⟨0, 0, [], false, (fun h => by cases h), fun _ => HO, fun w hs => ?_⟩
    refine (read_form g off cap b w hs hb hcap hf).mono ?_
    rintro e w' ⟨rfl, hb'⟩
    exact ⟨_, rfl, mine_nil _ _, hb'⟩
  · rw [if_neg hf] at HO
    have hk : knownB (b.getD 0 0) = true := by
      cases h : knownB (b.getD 0 0) with
      | true => rfl
      | false => exact absurd (Or.inl h) hf
    have h0 : b.getD 1 0 = 0 := Decidable.byContradiction fun h => hf (Or.inr (Or.inl h))
    have hv : numAt b 2 2 ≤ 496 := by omega
    rw [show 496 - numAt b 2 2 = 508 - (12 + numAt b 2 2) by omega] at HO
    cases hza : ((b.drop (12 + numAt b 2 2)).take (508 - (12 + numAt b 2 2))).all (· == 0) with
    | false =>
      rw [hza, if_pos rfl] at HO
      refine ⟨0, 0, [], false, (fun h => by cases h), fun _ => HO, fun w hs => ?_⟩
      refine (read_tail g off cap b w hs hb hcap hk h0 hv hza).mono ?_
      rintro e w' ⟨rfl, hb'⟩
      exact ⟨_, rfl, mine_nil _ _, hb'⟩
    | true =>
      rw [hza, if_neg (show ¬ (true = false) by decide)] at HO
      exact ⟨b.getD 0 0, numAt b 4 8, _, true, fun _ => HO, (fun h => by cases h), fun w hs => read_yes g off cap b w hs hb hcap hk h0 hv hza⟩

set_option maxRecDepth 20000 in
theorem open_arg (s : Value) (b : List UInt8) (w : World) (hs : Row w s b) (hl : b.length ≠ 512) :
    Calls Try.prog 65 #[s] w fun e w' => e = .returned (.tuple #[.agg #[.int .u8 0, .int .u64 0, .slice none 0 0], .int .i64 1]) ∧ Below w.heap.size w w' := by
  obtain ⟨q, c, l, rfl, hl2⟩ := hs.shape
  subst hl2
  clear hs
  have hd : ((b.length : Int) != 512) = true := by rw [bne_iff_ne]; omega
  go_enter Try.func65, Try.ntmps65
  go_wp2
  refine bodyPost_ret (v := .tuple #[.agg #[.int .u8 0, .int .u64 0, .slice none 0 0], .int .i64 1]) (by simp [results, Try.results65, go_sem]) rfl ⟨rfl, (Below.refl _ _).alloc (Nat.le_refl _) _⟩

set_option maxRecDepth 20000 in
theorem open_blank (g off cap : Nat) (b : List UInt8) (w : World) (hs : Row w (.slice (some ⟨g, off, none⟩) 512 cap) b) (hz : b.all (· == 0) = true) :
    Calls Try.prog 65 #[.slice (some ⟨g, off, none⟩) 512 cap] w fun e w' => e = .returned (.tuple #[.agg #[.int .u8 0, .int .u64 0, .slice none 0 0], .int .i64 0]) ∧ Below w.heap.size w w' := by
  have bel := (Below.refl w.heap.size w).alloc (Nat.le_refl _) (.cells #[.int .u8 0, .int .u64 0, .slice none 0 0] 74)
  have HZ := hide (zero_any _ b _ (hs.below bel))
  rw [hz] at HZ
  clear hs
  go_enter Try.func65, Try.ntmps65
  go_wp2_with fail
  refine Calls.mono (unhide HZ) ?_
  rintro e w1 ⟨rfl, hb1⟩
  rw [World.size_alloc] at hb1
  obtain ⟨x1, x2, x3, x4, x5, x6⟩ := three_cells ((hb1.block w.heap.size (by omega)).trans (heap_alloc_new _ _))
  have HB1 := hide (bel.trans (hb1.mono (by omega)))
  clear hb1 HZ
  go_wp2
  refine bodyPost_ret (v := .tuple #[.agg #[.int .u8 0, .int .u64 0, .slice none 0 0], .int .i64 0]) (by simp [results, Try.results65, go_sem, *]) rfl ⟨rfl, ?_⟩
  exact (((unhide HB1).setCell (Nat.le_refl _) _).setCell (Nat.le_refl _) _).setCell (Nat.le_refl _) _

set_option maxRecDepth 20000 in
set_option maxHeartbeats 1000000 in
theorem open_good (g off cap : Nat) (b : List UInt8) (w : World) (hs : Row w (.slice (some ⟨g, off, none⟩) 512 cap) b) (hb : b.length = 512) (hcap : 512 ≤ cap) (hz : b.all (· == 0) = false) :
    Calls Try.prog 65 #[.slice (some ⟨g, off, none⟩) 512 cap] w fun e w' => ∃ t, e = .returned (.tuple #[.agg #[.int .u8 ((openR b).1.toNat : Int), .int .u64 ((openR b).2.1 : Nat), t], .int .i64 (openR b).2.2.2]) ∧ Mine w' w.heap.size t (openR b).2.2.1 ∧ Below w.heap.size w w' := by
  have bel := (Below.refl w.heap.size w).alloc (Nat.le_refl _) (.cells #[.int .u8 0, .int .u64 0, .slice none 0 0] 74)
  have HZ := hide (zero_any _ b _ (hs.below bel))
  rw [hz] at HZ
  obtain ⟨hB, hm⟩ := hs.cells_at hb
  have HR508 := hide (Row.cut hB 0 508 cap (by omega) (by omega) hm)
  have HSB := hide hs
  have HLB := hide hb
  have hsl : more 0 (b.take 508) < 4294967296 := Nat.xor_lt_two_pow (n := 32) (raw_lt _ _ (by decide)) (by omega)
  have n4 := numAt_lt b 508 4
  have HO : Hid (openR b = if numAt b 508 4 ≠ more 0 (b.take 508) then (0, 0, [], 30)
      else if knownB (b.getD 0 0) = false ∨ b.getD 1 0 ≠ 0 ∨ 496 < numAt b 2 2 then (0, 0, [], 11)
      else if ((b.drop (12 + numAt b 2 2)).take (496 - numAt b 2 2)).all (· == 0) = false then (0, 0, [], 11)
      else (b.getD 0 0, numAt b 4 8, (b.drop 12).take (numAt b 2 2), 0)) := by
    unfold Hid openR
    rw [if_neg (show ¬ b.length ≠ 512 by omega), hz, if_neg (show ¬ (false = true) by decide)]
  clear hs hB hb
  go_enter Try.func65, Try.ntmps65
  go_wp2_with fail
  refine Calls.mono (unhide HZ) ?_
  rintro e w1 ⟨rfl, hb1⟩
  rw [World.size_alloc] at hb1
  have HX1 := hide ((hb1.block w.heap.size (by omega)).trans (heap_alloc_new _ _))
  have HB1 := hide (bel.trans (hb1.mono (by omega)))
  clear hb1 HZ
  go_wp2_with fail
  refine (sum_any _ (b.take 508) w1 ((unhide HR508).below (unhide HB1)) (by simp; omega)).mono ?_
  rintro e w2 ⟨rfl, hb2⟩
  have hsz1 : w.heap.size < w1.heap.size := (Array.getElem?_eq_some_iff.1 (unhide HX1)).1
  have HX2 := hide ((hb2.block w.heap.size hsz1).trans (unhide HX1))
  have HB2 := hide ((unhide HB1).trans (hb2.mono (by omega)))
  clear hb2 HX1 HB1
  go_wp2_with fail
  refine (number_own _ b 508 512 4 w2 ((unhide HSB).below (unhide HB2)) (by omega) (by omega) rfl (by rw [unhide HLB]; omega) (by omega)).mono ?_
  rintro e w3 ⟨rfl, hb3⟩
  have hsz2 : w.heap.size < w2.heap.size := (Array.getElem?_eq_some_iff.1 (unhide HX2)).1
  have HX3 := hide ((hb3.block w.heap.size hsz2).trans (unhide HX2))
  have HB3 := hide ((unhide HB2).trans (hb3.mono (by omega)))
  clear hb3 HX2 HB2 hsz1 hsz2
  by_cases hsum : numAt b 508 4 = more 0 (b.take 508)
  · have hd : (((more 0 (b.take 508) : Nat) : Int) != ((numAt b 508 4 : Nat) : Int)) = false := by rw [hsum]; simp
    obtain ⟨kk, tt, pl, ok, hy, hn, HRD⟩ := sread_any g off cap b (unhide HLB) hcap hz hsum
    have HY := hide hy
    have HN := hide hn
    clear hsum HO hy hn
    go_wp2_with fail
    refine Calls.mono (unhide HRD w3 ((unhide HSB).below (unhide HB3))) ?_
    rintro e w4 ⟨t, rfl, m4, hb4⟩
    have hsz3 : w.heap.size < w3.heap.size := (Array.getElem?_eq_some_iff.1 (unhide HX3)).1
    have hx4 := (hb4.block w.heap.size hsz3).trans (unhide HX3)
    have HX4 := hide hx4
    have hsz4 : w.heap.size < w4.heap.size := (Array.getElem?_eq_some_iff.1 hx4).1
    have HB4 := hide ((unhide HB3).trans (hb4.mono (by omega)))
    obtain ⟨pp, cc, ll, rfl, hll⟩ := m4.row.shape
    have M4 := hide (m4.base (base' := w.heap.size + 1) (by omega))
    have hne : ¬ w.heap.size = w4.heap.size := by omega
    obtain ⟨x1, x2, x3, x4, x5, x6⟩ := three_cells hx4
    clear hll m4 hx4 hb4 HX3 HB3 HRD
    cases ok with
    | false =>
      have HO := hide (unhide HN rfl)
      clear HN HY
      go_wp2
      refine bodyPost_ret (v := .tuple #[.agg #[.int .u8 0, .int .u64 0, .slice none 0 0], .int .i64 11]) (by simp [results, Try.results65, go_sem, *]) rfl ⟨.slice none 0 0, ?_, ?_, ?_⟩
      · rw [unhide HO]; rfl
      · rw [unhide HO]; exact mine_nil _ _
      · exact ((((unhide HB4).setCell (Nat.le_refl _) _).setCell (Nat.le_refl _) _).setCell (Nat.le_refl _) _).alloc (by simp; omega) _
    | true =>
      have HO := hide (unhide HY rfl)
      clear HN HY
      go_wp2
      refine bodyPost_ret (v := .tuple #[.agg #[.int .u8 (kk.toNat : Int), .int .u64 (tt : Nat), .slice pp ll cc], .int .i64 0]) (by simp [results, Try.results65, go_sem, *]) rfl ⟨.slice pp ll cc, ?_, ?_, ?_⟩
      · rw [unhide HO]
      · rw [unhide HO]
        have h := ((((unhide M4).sset (a := ⟨w.heap.size, 0, none⟩) (by simp) (.int .u8 (kk.toNat : Int))).sset (a := ⟨w.heap.size, 1, none⟩) (by simp) (.int .u64 (tt : Nat))).sset (a := ⟨w.heap.size, 2, none⟩) (by simp) (.slice pp ll cc)).base (base' := w.heap.size) (by omega)
        exact h.below ((Below.refl _ _).alloc (Nat.le_refl _) _)
      · exact ((((unhide HB4).setCell (Nat.le_refl _) _).setCell (Nat.le_refl _) _).setCell (Nat.le_refl _) _).alloc (by simp; omega) _
  · have hd : (((more 0 (b.take 508) : Nat) : Int) != ((numAt b 508 4 : Nat) : Int)) = true := by rw [bne_iff_ne]; omega
    rw [if_pos (by simpa using hsum)] at HO
    obtain ⟨x1, x2, x3, x4, x5, x6⟩ := three_cells (unhide HX3)
    clear hsum
    go_wp2
    refine bodyPost_ret (v := .tuple #[.agg #[.int .u8 0, .int .u64 0, .slice none 0 0], .int .i64 30]) (by simp [results, Try.results65, go_sem, *]) rfl ⟨.slice none 0 0, ?_, ?_, ?_⟩
    · rw [unhide HO]; rfl
    · rw [unhide HO]; exact mine_nil _ _
    · exact (((unhide HB3).setCell (Nat.le_refl _) _).setCell (Nat.le_refl _) _).setCell (Nat.le_refl _) _

theorem openC : OpenC := by
  intro s b w _ hs
  by_cases hl : b.length = 512
  · obtain ⟨g, off, cap, rfl, hcap, _, _⟩ := hs.open (by intro e; rw [e] at hl; simp at hl)
    have hs' := hs
    rw [hl] at hs' hcap ⊢
    cases hz : b.all (· == 0) with
    | true =>
      have ho : openR b = (0, 0, [], 0) := by unfold openR; rw [if_neg (by omega), if_pos hz]
      rw [ho]
      refine (open_blank g off cap b w hs' hz).mono ?_
      rintro e w' ⟨rfl, hb⟩
      exact ⟨_, rfl, mine_nil _ _, hb⟩
    | false => exact open_good g off cap b w hs' hl hcap hz
  · have ho : openR b = (0, 0, [], 1) := by unfold openR; rw [if_pos hl]
    rw [ho]
    refine (open_arg s b w hs hl).mono ?_
    rintro e w' ⟨rfl, hb⟩
    exact ⟨_, rfl, mine_nil _ _, hb⟩

end Go.Proofs.Ytpkpjmebkikgdaa
