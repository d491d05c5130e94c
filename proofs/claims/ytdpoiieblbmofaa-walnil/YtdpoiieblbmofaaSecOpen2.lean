/- What package sector does: Open, Good. -/
import Derived.Test.YtdpoiieblbmofaaSecOpen
namespace Go.Proofs.Ytdpoiieblbmofaa
open Go.RowKit

/-- What read answers of a sector whose sum is right, as Open has it. -/
theorem sread_any (g off cap : Nat) (b : List UInt8) (hb : b.length = 512) (hcap : 512 ≤ cap) (hz : b.all (· == 0) = false) (hsum : numAt b 508 4 = more 0 (b.take 508)) :
    ∃ (kk : UInt8) (tt : Nat) (pl : List UInt8) (ok : Bool), (ok = true → openR b = (kk, tt, pl, 0)) ∧ (ok = false → openR b = (0, 0, [], 11)) ∧
      Hid (∀ w, Row w (.slice (some ⟨g, off, none⟩) 512 cap) b → Calls Try.prog 108 #[.slice (some ⟨g, off, none⟩) 512 cap] w fun e w' => ∃ t, e = .returned (.tuple #[.agg #[.int .u8 (kk.toNat : Int), .int .u64 (tt : Nat), t], .bool ok]) ∧ Mine w' w.heap.size t pl ∧ Below w.heap.size w w') := by
  have HO : openR b = if knownB (b.getD 0 0) = false ∨ b.getD 1 0 ≠ 0 ∨ 496 < numAt b 2 2 then (0, 0, [], 11)
      else if ((b.drop (12 + numAt b 2 2)).take (496 - numAt b 2 2)).all (· == 0) = false then (0, 0, [], 11)
      else (b.getD 0 0, numAt b 4 8, (b.drop 12).take (numAt b 2 2), 0) := by
    unfold openR
    rw [if_neg (show ¬ b.length ≠ 512 by omega), hz, if_neg (show ¬ (false = true) by decide), if_neg (show ¬ numAt b 508 4 ≠ more 0 (b.take 508) by rw [hsum]; simp)]
  by_cases hf : knownB (b.getD 0 0) = false ∨ b.getD 1 0 ≠ 0 ∨ 496 < numAt b 2 2
  · rw [if_pos hf] at HO
    refine ⟨0, 0, [], false, (fun h => by cases h), fun _ => HO, fun w hs => ?_⟩
    refine (read_form g off cap b w hs hb hcap hf).mono ?_
    rintro e w' ⟨rfl, hb'⟩
    exact ⟨_, rfl, mine_nil _ _, hb'⟩
  · rw [if_neg hf] at HO
    have hk : knownB (b.getD 0 0) = true := by
      cases h : knownB (b.getD 0 0) with
      | true => rfl
      | false => exact absurd (Or.inl h) hf
    have h0 : b.getD 1 0 = 0 := Decidable.byContradiction fun h => hf (Or.inr (Or.inl h))
    have hv : numAt b 2 2 ≤ 496 := by omega
    rw [show 496 - numAt b 2 2 = 508 - (12 + numAt b 2 2) by omega] at HO
    cases hza : ((b.drop (12 + numAt b 2 2)).take (508 - (12 + numAt b 2 2))).all (· == 0) with
    | false =>
      rw [hza, if_pos rfl] at HO
      refine ⟨0, 0, [], false, (fun h => by cases h), fun _ => HO, fun w hs => ?_⟩
      refine (read_tail g off cap b w hs hb hcap hk h0 hv hza).mono ?_
      rintro e w' ⟨rfl, hb'⟩
      exact ⟨_, rfl, mine_nil _ _, hb'⟩
    | true =>
      rw [hza, if_neg (show ¬ (true = false) by decide)] at HO
      exact ⟨b.getD 0 0, numAt b 4 8, _, true, fun _ => HO, (fun h => by cases h), fun w hs => read_yes g off cap b w hs hb hcap hk h0 hv hza⟩

set_option maxRecDepth 20000 in
theorem open_arg (s : Value) (b : List UInt8) (w : World) (hs : Row w s b) (hl : b.length ≠ 512) :
    Calls Try.prog 95 #[s] w fun e w' => e = .returned (.tuple #[.agg #[.int .u8 0, .int .u64 0, .slice none 0 0], .int .i64 1]) ∧ Below w.heap.size w w' := by
  obtain ⟨q, c, l, rfl, hl2⟩ := hs.shape
  subst hl2
  clear hs
  have hd : ((b.length : Int) != 512) = true := by rw [bne_iff_ne]; omega
  go_enter Try.func95, Try.ntmps95
  go_wp2
  refine bodyPost_ret (v := .tuple #[.agg #[.int .u8 0, .int .u64 0, .slice none 0 0], .int .i64 1]) (by simp [results, Try.results95, go_sem]) rfl ⟨rfl, (Below.refl _ _).alloc (Nat.le_refl _) _⟩

set_option maxRecDepth 20000 in
theorem open_blank (g off cap : Nat) (b : List UInt8) (w : World) (hs : Row w (.slice (some ⟨g, off, none⟩) 512 cap) b) (hz : b.all (· == 0) = true) :
    Calls Try.prog 95 #[.slice (some ⟨g, off, none⟩) 512 cap] w fun e w' => e = .returned (.tuple #[.agg #[.int .u8 0, .int .u64 0, .slice none 0 0], .int .i64 0]) ∧ Below w.heap.size w w' := by
  have bel := (Below.refl w.heap.size w).alloc (Nat.le_refl _) (.cells #[.int .u8 0, .int .u64 0, .slice none 0 0] 93)
  have HZ := hide (zero_any _ b _ (hs.below bel))
  rw [hz] at HZ
  clear hs
  go_enter Try.func95, Try.ntmps95
  go_wp2_with fail
  refine Calls.mono (unhide HZ) ?_
  rintro e w1 ⟨rfl, hb1⟩
  rw [World.size_alloc] at hb1
  obtain ⟨x1, x2, x3, x4, x5, x6⟩ := three_cells ((hb1.block w.heap.size (by omega)).trans (heap_alloc_new _ _))
  have HB1 := hide (bel.trans (hb1.mono (by omega)))
  clear hb1 HZ
  go_wp2
  refine bodyPost_ret (v := .tuple #[.agg #[.int .u8 0, .int .u64 0, .slice none 0 0], .int .i64 0]) (by simp [results, Try.results95, go_sem, *]) rfl ⟨rfl, ?_⟩
  exact (((unhide HB1).setCell (Nat.le_refl _) _).setCell (Nat.le_refl _) _).setCell (Nat.le_refl _) _

set_option maxRecDepth 20000 in
set_option maxHeartbeats 1000000 in
theorem open_good (g off cap : Nat) (b : List UInt8) (w : World) (hs : Row w (.slice (some ⟨g, off, none⟩) 512 cap) b) (hb : b.length = 512) (hcap : 512 ≤ cap) (hz : b.all (· == 0) = false) :
    Calls Try.prog 95 #[.slice (some ⟨g, off, none⟩) 512 cap] w fun e w' => ∃ t, e = .returned (.tuple #[.agg #[.int .u8 ((openR b).1.toNat : Int), .int .u64 ((openR b).2.1 : Nat), t], .int .i64 (openR b).2.2.2]) ∧ Mine w' w.heap.size t (openR b).2.2.1 ∧ Below w.heap.size w w' := by
  have bel := (Below.refl w.heap.size w).alloc (Nat.le_refl _) (.cells #[.int .u8 0, .int .u64 0, .slice none 0 0] 93)
  have HZ := hide (zero_any _ b _ (hs.below bel))
  rw [hz] at HZ
  obtain ⟨hB, hm⟩ := hs.cells_at hb
  have HR508 := hide (Row.cut hB 0 508 cap (by omega) (by omega) hm)
  have HSB := hide hs
  have HLB := hide hb
  have hsl : more 0 (b.take 508) < 4294967296 := Nat.xor_lt_two_pow (n := 32) (raw_lt _ _ (by decide)) (by omega)
  have n4 := numAt_lt b 508 4
  have HO : Hid (openR b = if numAt b 508 4 ≠ more 0 (b.take 508) then (0, 0, [], 30)
      else if knownB (b.getD 0 0) = false ∨ b.getD 1 0 ≠ 0 ∨ 496 < numAt b 2 2 then (0, 0, [], 11)
      else if ((b.drop (12 + numAt b 2 2)).take (496 - numAt b 2 2)).all (· == 0) = false then (0, 0, [], 11)
      else (b.getD 0 0, numAt b 4 8, (b.drop 12).take (numAt b 2 2), 0)) := by
    unfold Hid openR
    rw [if_neg (show ¬ b.length ≠ 512 by omega), hz, if_neg (show ¬ (false = true) by decide)]
  clear hs hB hb
  go_enter Try.func95, Try.ntmps95
  go_wp2_with fail
  refine Calls.mono (unhide HZ) ?_
  rintro e w1 ⟨rfl, hb1⟩
  rw [World.size_alloc] at hb1
  have HX1 := hide ((hb1.block w.heap.size (by omega)).trans (heap_alloc_new _ _))
  have HB1 := hide (bel.trans (hb1.mono (by omega)))
  clear hb1 HZ
  go_wp2_with fail
  refine (sum_any _ (b.take 508) w1 ((unhide HR508).below (unhide HB1)) (by simp; omega)).mono ?_
  rintro e w2 ⟨rfl, hb2⟩
  have hsz1 : w.heap.size < w1.heap.size := (Array.getElem?_eq_some_iff.1 (unhide HX1)).1
  have HX2 := hide ((hb2.block w.heap.size hsz1).trans (unhide HX1))
  have HB2 := hide ((unhide HB1).trans (hb2.mono (by omega)))
  clear hb2 HX1 HB1
  go_wp2_with fail
  refine (number_own _ b 508 512 4 w2 ((unhide HSB).below (unhide HB2)) (by omega) (by omega) rfl (by rw [unhide HLB]; omega) (by omega)).mono ?_
  rintro e w3 ⟨rfl, hb3⟩
  have hsz2 : w.heap.size < w2.heap.size := (Array.getElem?_eq_some_iff.1 (unhide HX2)).1
  have HX3 := hide ((hb3.block w.heap.size hsz2).trans (unhide HX2))
  have HB3 := hide ((unhide HB2).trans (hb3.mono (by omega)))
  clear hb3 HX2 HB2 hsz1 hsz2
  by_cases hsum : numAt b 508 4 = more 0 (b.take 508)
  · have hd : (((more 0 (b.take 508) : Nat) : Int) != ((numAt b 508 4 : Nat) : Int)) = false := by rw [hsum]; simp
    obtain ⟨kk, tt, pl, ok, hy, hn, HRD⟩ := sread_any g off cap b (unhide HLB) hcap hz hsum
    have HY := hide hy
    have HN := hide hn
    clear hsum HO hy hn
    go_wp2_with fail
    refine Calls.mono (unhide HRD w3 ((unhide HSB).below (unhide HB3))) ?_
    rintro e w4 ⟨t, rfl, m4, hb4⟩
    have hsz3 : w.heap.size < w3.heap.size := (Array.getElem?_eq_some_iff.1 (unhide HX3)).1
    have hx4 := (hb4.block w.heap.size hsz3).trans (unhide HX3)
    have HX4 := hide hx4
    have hsz4 : w.heap.size < w4.heap.size := (Array.getElem?_eq_some_iff.1 hx4).1
    have HB4 := hide ((unhide HB3).trans (hb4.mono (by omega)))
    obtain ⟨pp, cc, ll, rfl, hll⟩ := m4.row.shape
    have M4 := hide (m4.base (base' := w.heap.size + 1) (by omega))
    have hne : ¬ w.heap.size = w4.heap.size := by omega
    obtain ⟨x1, x2, x3, x4, x5, x6⟩ := three_cells hx4
    clear hll m4 hx4 hb4 HX3 HB3 HRD
    cases ok with
    | false =>
      have HO := hide (unhide HN rfl)
      clear HN HY
      go_wp2
      refine bodyPost_ret (v := .tuple #[.agg #[.int .u8 0, .int .u64 0, .slice none 0 0], .int .i64 11]) (by simp [results, Try.results95, go_sem, *]) rfl ⟨.slice none 0 0, ?_, ?_, ?_⟩
      · rw [unhide HO]; rfl
      · rw [unhide HO]; exact mine_nil _ _
      · exact ((((unhide HB4).setCell (Nat.le_refl _) _).setCell (Nat.le_refl _) _).setCell (Nat.le_refl _) _).alloc (by simp; omega) _
    | true =>
      have HO := hide (unhide HY rfl)
      clear HN HY
      go_wp2
      refine bodyPost_ret (v := .tuple #[.agg #[.int .u8 (kk.toNat : Int), .int .u64 (tt : Nat), .slice pp ll cc], .int .i64 0]) (by simp [results, Try.results95, go_sem, *]) rfl ⟨.slice pp ll cc, ?_, ?_, ?_⟩
      · rw [unhide HO]
      · rw [unhide HO]
        have h := ((((unhide M4).sset (a := ⟨w.heap.size, 0, none⟩) (by simp) (.int .u8 (kk.toNat : Int))).sset (a := ⟨w.heap.size, 1, none⟩) (by simp) (.int .u64 (tt : Nat))).sset (a := ⟨w.heap.size, 2, none⟩) (by simp) (.slice pp ll cc)).base (base' := w.heap.size) (by omega)
        exact h.below ((Below.refl _ _).alloc (Nat.le_refl _) _)
      · exact ((((unhide HB4).setCell (Nat.le_refl _) _).setCell (Nat.le_refl _) _).setCell (Nat.le_refl _) _).alloc (by simp; omega) _
  · have hd : (((more 0 (b.take 508) : Nat) : Int) != ((numAt b 508 4 : Nat) : Int)) = true := by rw [bne_iff_ne]; omega
    rw [if_pos (by simpa using hsum)] at HO
    obtain ⟨x1, x2, x3, x4, x5, x6⟩ := three_cells (unhide HX3)
    clear hsum
    go_wp2
    refine bodyPost_ret (v := .tuple #[.agg #[.int .u8 0, .int .u64 0, .slice none 0 0], .int .i64 30]) (by simp [results, Try.results95, go_sem, *]) rfl ⟨.slice none 0 0, ?_, ?_, ?_⟩
    · rw [unhide HO]; rfl
    · rw [unhide HO]; exact mine_nil _ _
    · exact (((unhide HB3).setCell (Nat.le_refl _) _).setCell (Nat.le_refl _) _).setCell (Nat.le_refl _) _

theorem openC : OpenC := by
  intro s b w _ hs
  by_cases hl : b.length = 512
  · obtain ⟨g, off, cap, rfl, hcap, _, _⟩ := hs.open (by intro e; rw [e] at hl; simp at hl)
    have hs' := hs
    rw [hl] at hs' hcap ⊢
    cases hz : b.all (· == 0) with
    | true =>
      have ho : openR b = (0, 0, [], 0) := by unfold openR; rw [if_neg (by omega), if_pos hz]
      rw [ho]
      refine (open_blank g off cap b w hs' hz).mono ?_
      rintro e w' ⟨rfl, hb⟩
      exact ⟨_, rfl, mine_nil _ _, hb⟩
    | false => exact open_good g off cap b w hs' hl hcap hz
  · have ho : openR b = (0, 0, [], 1) := by unfold openR; rw [if_pos hl]
    rw [ho]
    refine (open_arg s b w hs hl).mono ?_
    rintro e w' ⟨rfl, hb⟩
    exact ⟨_, rfl, mine_nil _ _, hb⟩

end Go.Proofs.Ytdpoiieblbmofaa
