/- What package frame does: readHead, Read; and bytes.Clone. -/
import Derived.Test.YtdpoiieblbmofaaFrOwn
import Derived.Test.YtdpoiieblbmofaaRv
namespace Go.Proofs.Ytdpoiieblbmofaa
open Go.RowKit

set_option maxRecDepth 20000 in
theorem clone_any (s : Value) (bs : List UInt8) (w : World) (hs : Row w s bs) (hroom : bs.length ≤ 140737488351232) :
    Calls Try.prog 110 #[s] w fun e w' => ∃ t, e = .returned t ∧ Mine w' w.heap.size t bs ∧ Below w.heap.size w w' := by
  obtain ⟨i0, hi, hz0, hz1, hz2⟩ := info_parts Try.info5
  have HS := hide hs
  obtain ⟨q, c, rfl, c1, c2, c3, _⟩ := hs
  cases q with
  | none =>
    have hc := c3 rfl
    subst hc
    have hb : bs = [] := List.eq_nil_of_length_eq_zero (by omega)
    subst hb
    have he : ∀ w : World, (binOp .eql 27 (.slice none 0 0) (.slice none 0 0)).run Try.prog w = .ok (.bool true) w := fun _ => rfl
    go_enter Try.func110, Try.ntmps110
    go_wp2
    go_ret
    exact ⟨_, rfl, mine_nil _ _, Below.refl _ _⟩
  | some ad =>
    have he : ∀ w : World, (binOp .eql 27 (.slice (some ad) bs.length c) (.slice none 0 0)).run Try.prog w = .ok (.bool false) w := fun _ => rfl
    have hb0 : Below w.heap.size w (w.alloc (.cells #[] 5)) := (Below.refl _ _).alloc (Nat.le_refl _) _
    have hown : (w.alloc (.cells #[] 5)).ownsRow w.heap.size 5 1 (.slice (some ⟨w.heap.size, 0, none⟩) 0 0) 0 [] :=
      ⟨rfl, Or.inr ⟨w.heap.size, 0, #[], rfl, Nat.le_refl _, heap_alloc_new _ _, Nat.le_refl _, by unfold maxLen; omega, rfl, rfl⟩⟩
    have HS0 := hide ((unhide HS).below hb0)
    clear HS
    go_enter Try.func110, Try.ntmps110
    go_wp2_with (at_builtin; refine wpList_append_row rfl _ _ 27 rfl w.heap.size 5 i0 (.int .u8 0) Try.underlying27 hi hz0 hz1 hz2 rfl _ 0 [] rfl hown _ bs rfl (unhide HS0) (by omega) (by simp) ?_)
    intro v' w2 hown2 hgrow
    have hb2 : Below w.heap.size w w2 := hb0.grown hgrow hb0.size (fun j hj => by cases hj; exact Nat.le_refl _)
    clear hgrow
    go_wp2
    go_ret
    exact ⟨_, rfl, mine_of_owns (by simpa using hown2), hb2⟩

/-- What readHead answers: the three numbers, the place behind them, the error. -/
def headR (b : List UInt8) : (Nat × Nat × Nat) × Int × Int :=
  if readE b 0 ≠ 0 then ((0, 0, 0), 0, readE b 0)
  else if readE b (readN b 0) ≠ 0 then ((0, 0, 0), 0, readE b (readN b 0))
  else if readE b (readN b (readN b 0)) ≠ 0 then ((0, 0, 0), 0, readE b (readN b (readN b 0)))
  else ((readV b 0, readV b (readN b 0), readV b (readN b (readN b 0))), readN b (readN b (readN b 0)), 0)

/-- Three numbers in a block. -/
def At3 (w : World) (g : Nat) (t : TypeId) (x y z : Value) : Prop := w.heap[g]? = some (.cells #[x, y, z] t (0, 0))
theorem At3.below {w w' : World} {g t : Nat} {x y z : Value} (h : At3 w g t x y z) (hb : Below w.heap.size w w') : At3 w' g t x y z := (hb.block g (Array.getElem?_eq_some_iff.1 h).1).trans h
theorem At3.cells {w : World} {g t : Nat} {x y z : Value} (h : At3 w g t x y z) : w.cell? ⟨g, 0, none⟩ = some x ∧ w.cell? ⟨g, 1, none⟩ = some y ∧ w.cell? ⟨g, 2, none⟩ = some z ∧ ∀ j, w.frozen? ⟨g, j, none⟩ = false := by
  refine ⟨?_, ?_, ?_, fun j => frozen_of_block h⟩ <;> (rw [cell_of_row _ _ _ _ _ (0, 0) h]; rfl)
theorem At3.set0 {w : World} {g t : Nat} {x y z : Value} (h : At3 w g t x y z) (v : Value) : At3 (w.setCell ⟨g, 0, none⟩ v) g t v y z := heap_setCell_same w g 0 _ _ _ h
theorem At3.set1 {w : World} {g t : Nat} {x y z : Value} (h : At3 w g t x y z) (v : Value) : At3 (w.setCell ⟨g, 1, none⟩ v) g t x v z := heap_setCell_same w g 1 _ _ _ h
theorem At3.set2 {w : World} {g t : Nat} {x y z : Value} (h : At3 w g t x y z) (v : Value) : At3 (w.setCell ⟨g, 2, none⟩ v) g t x y v := heap_setCell_same w g 2 _ _ _ h
theorem At3.other {w : World} {g t k : Nat} {x y z : Value} (h : At3 w g t x y z) (j : Nat) (v : Value) (hne : g ≠ k) : At3 (w.setCell ⟨k, j, none⟩ v) g t x y z := by
  unfold At3
  unfold At3 at h
  rw [← h]
  exact Below.heap_setCell _ _ _ _ hne

set_option maxRecDepth 20000 in
set_option maxHeartbeats 1000000 in
theorem readHead_any (s : Value) (b : List UInt8) (w : World) (hs : Row w s b) (hroom : b.length ≤ 140737488351232) :
    Calls Try.prog 109 #[s] w fun e w' => e = .returned (.tuple #[.agg #[.int .u64 ((headR b).1.1 : Nat), .int .u64 ((headR b).1.2.1 : Nat), .int .u64 ((headR b).1.2.2 : Nat)], .int .i64 (headR b).2.1, .int .i64 (headR b).2.2]) ∧ Below w.heap.size w w' := by
  obtain ⟨W0, hW0⟩ : ∃ W0, W0 = (w.alloc (.cells #[.int .u64 0, .int .u64 0, .int .u64 0] 163)).alloc (.cells #[.int .u64 0, .int .u64 0, .int .u64 0] 163) := ⟨_, rfl⟩
  have hb0 : Below w.heap.size w W0 := by rw [hW0]; exact ((Below.refl _ _).alloc (Nat.le_refl _) _).alloc (by simp) _
  have HR := hide (fun (a : Int) w' (h : Below w.heap.size w w') => readvar_any s b a w' (hs.below h) hroom)
  have k0 : At3 W0 w.heap.size 163 (.int .u64 0) (.int .u64 0) (.int .u64 0) := by
    rw [hW0]
    exact At3.below (heap_alloc_new w _) ((Below.refl _ _).alloc (Nat.le_refl _) _)
  have k1 : At3 W0 (w.heap.size + 1) 163 (.int .u64 0) (.int .u64 0) (.int .u64 0) := by
    rw [hW0]
    have := heap_alloc_new (w.alloc (.cells #[.int .u64 0, .int .u64 0, .int .u64 0] 163)) (.cells #[.int .u64 0, .int .u64 0, .int .u64 0] 163)
    simpa [At3] using this
  unfold headR
  have HW0 := hide hW0
  have HB0 := hide hb0
  have HK0 := hide k0
  have HK1 := hide k1
  clear hW0 hb0 k0 k1 hs hroom
  obtain ⟨e1, he1⟩ : ∃ e1, Hid (readE b 0 = e1) := ⟨_, rfl⟩
  obtain ⟨v1, hv1⟩ : ∃ v1, Hid (readV b 0 = v1) := ⟨_, rfl⟩
  obtain ⟨n1, hn1⟩ : ∃ n1, Hid (readN b 0 = n1) := ⟨_, rfl⟩
  rw [unhide hn1, unhide he1, unhide hv1]
  obtain ⟨e2, he2⟩ : ∃ e2, Hid (readE b n1 = e2) := ⟨_, rfl⟩
  obtain ⟨v2, hv2⟩ : ∃ v2, Hid (readV b n1 = v2) := ⟨_, rfl⟩
  obtain ⟨n2, hn2⟩ : ∃ n2, Hid (readN b n1 = n2) := ⟨_, rfl⟩
  rw [unhide hn2, unhide he2, unhide hv2]
  obtain ⟨e3, he3⟩ : ∃ e3, Hid (readE b n2 = e3) := ⟨_, rfl⟩
  obtain ⟨v3, hv3⟩ : ∃ v3, Hid (readV b n2 = v3) := ⟨_, rfl⟩
  obtain ⟨n3, hn3⟩ : ∃ n3, Hid (readN b n2 = n3) := ⟨_, rfl⟩
  rw [unhide hn3, unhide he3, unhide hv3]
  by_cases z1 : e1 = 0
  · subst z1
    rw [if_neg (by simp)]
    by_cases z2 : e2 = 0
    · subst z2
      rw [if_neg (by simp)]
      by_cases z3 : e3 = 0
      · subst z3
        rw [if_neg (by simp)]
        go_enter Try.func109, Try.ntmps109
        go_wp2_with fail
        rw [← unhide HW0]
        refine wp_loop_rounds 4 ?_
        rw [rounds_succ]
        go_wp2_with fail
        refine Calls.mono (unhide HR _ _ (unhide HB0)) ?_
        rintro e w1 ⟨rfl, b1⟩
        rw [unhide he1, unhide hv1, unhide hn1]
        have HB1 := hide ((unhide HB0).trans (b1.mono (unhide HB0).size))
        have HK01 := hide ((unhide HK0).below b1)
        have HK11 := hide ((unhide HK1).below b1)
        clear b1 HB0 HK0 HK1 HW0
        obtain ⟨c0, c1, c2, fz⟩ := (unhide HK11).cells
        have f0 := fz 0
        have HKs := hide ((unhide HK11).set0 (.int .u64 (v1 : Nat)))
        have HKo := hide ((unhide HK01).other 0 (.int .u64 (v1 : Nat)) (k := w.heap.size + 1) (by omega))
        have HBs := hide ((unhide HB1).setCell (p := ⟨w.heap.size + 1, 0, none⟩) (by simp) (.int .u64 (v1 : Nat)))
        clear fz HK11 HK01 HB1
        go_wp2_with fail
        rw [rounds_succ]
        go_wp2_with fail
        generalize w1.setCell ⟨w.heap.size + 1, 0, none⟩ (.int .u64 (v1 : Nat)) = x1 at *
        clear c0 c1 c2 f0
        refine Calls.mono (unhide HR _ _ (unhide HBs)) ?_
        rintro e w2 ⟨rfl, b1⟩
        rw [unhide he2, unhide hv2, unhide hn2]
        have HB2 := hide ((unhide HBs).trans (b1.mono (unhide HBs).size))
        have HK02 := hide ((unhide HKo).below b1)
        have HK12 := hide ((unhide HKs).below b1)
        clear b1 HBs HKs HKo
        obtain ⟨c0, c1, c2, fz⟩ := (unhide HK12).cells
        have f0 := fz 1
        have HKs := hide ((unhide HK12).set1 (.int .u64 (v2 : Nat)))
        have HKo := hide ((unhide HK02).other 1 (.int .u64 (v2 : Nat)) (k := w.heap.size + 1) (by omega))
        have HBs := hide ((unhide HB2).setCell (p := ⟨w.heap.size + 1, 1, none⟩) (by simp) (.int .u64 (v2 : Nat)))
        clear fz HK12 HK02 HB2
        go_wp2_with fail
        rw [rounds_succ]
        go_wp2_with fail
        generalize w2.setCell ⟨w.heap.size + 1, 1, none⟩ (.int .u64 (v2 : Nat)) = x2 at *
        clear c0 c1 c2 f0
        refine Calls.mono (unhide HR _ _ (unhide HBs)) ?_
        rintro e w3 ⟨rfl, b1⟩
        rw [unhide he3, unhide hv3, unhide hn3]
        have HB3 := hide ((unhide HBs).trans (b1.mono (unhide HBs).size))
        have HK03 := hide ((unhide HKo).below b1)
        have HK13 := hide ((unhide HKs).below b1)
        clear b1 HBs HKs HKo
        obtain ⟨c0, c1, c2, fz⟩ := (unhide HK13).cells
        have f0 := fz 2
        have HKs := hide ((unhide HK13).set2 (.int .u64 (v3 : Nat)))
        have HKo := hide ((unhide HK03).other 2 (.int .u64 (v3 : Nat)) (k := w.heap.size + 1) (by omega))
        have HBs := hide ((unhide HB3).setCell (p := ⟨w.heap.size + 1, 2, none⟩) (by simp) (.int .u64 (v3 : Nat)))
        clear fz HK13 HK03 HB3
        go_wp2_with fail
        rw [rounds_succ]
        skip
        generalize w3.setCell ⟨w.heap.size + 1, 2, none⟩ (.int .u64 (v3 : Nat)) = x3 at *
        clear c0 c1 c2 f0
        obtain ⟨c0, c1, c2, _⟩ := (unhide HKs).cells
        obtain ⟨d0, d1, d2, fz⟩ := (unhide HKo).cells
        have f0 := fz 0
        have f1 := fz 1
        have f2 := fz 2
        clear fz
        go_wp2
        refine bodyPost_ret (v := .tuple #[.agg #[.int .u64 (v1 : Nat), .int .u64 (v2 : Nat), .int .u64 (v3 : Nat)], .int .i64 n3, .int .i64 0]) (by simp [results, Try.results109, go_sem, *]) rfl ⟨rfl, ?_⟩
        exact ((unhide HBs).setCell (p := ⟨w.heap.size, 0, none⟩) (Nat.le_refl _) _).setCell (p := ⟨w.heap.size, 1, none⟩) (Nat.le_refl _) _ |>.setCell (p := ⟨w.heap.size, 2, none⟩) (Nat.le_refl _) _
      · rw [if_pos z3]
        have z3' : (e3 == 0) = false := by simp [z3]
        go_enter Try.func109, Try.ntmps109
        go_wp2_with fail
        rw [← unhide HW0]
        refine wp_loop_rounds 4 ?_
        rw [rounds_succ]
        go_wp2_with fail
        refine Calls.mono (unhide HR _ _ (unhide HB0)) ?_
        rintro e w1 ⟨rfl, b1⟩
        rw [unhide he1, unhide hv1, unhide hn1]
        have HB1 := hide ((unhide HB0).trans (b1.mono (unhide HB0).size))
        have HK01 := hide ((unhide HK0).below b1)
        have HK11 := hide ((unhide HK1).below b1)
        clear b1 HB0 HK0 HK1 HW0
        obtain ⟨c0, c1, c2, fz⟩ := (unhide HK11).cells
        have f0 := fz 0
        have HKs := hide ((unhide HK11).set0 (.int .u64 (v1 : Nat)))
        have HKo := hide ((unhide HK01).other 0 (.int .u64 (v1 : Nat)) (k := w.heap.size + 1) (by omega))
        have HBs := hide ((unhide HB1).setCell (p := ⟨w.heap.size + 1, 0, none⟩) (by simp) (.int .u64 (v1 : Nat)))
        clear fz HK11 HK01 HB1
        go_wp2_with fail
        rw [rounds_succ]
        go_wp2_with fail
        generalize w1.setCell ⟨w.heap.size + 1, 0, none⟩ (.int .u64 (v1 : Nat)) = x1 at *
        clear c0 c1 c2 f0
        refine Calls.mono (unhide HR _ _ (unhide HBs)) ?_
        rintro e w2 ⟨rfl, b1⟩
        rw [unhide he2, unhide hv2, unhide hn2]
        have HB2 := hide ((unhide HBs).trans (b1.mono (unhide HBs).size))
        have HK02 := hide ((unhide HKo).below b1)
        have HK12 := hide ((unhide HKs).below b1)
        clear b1 HBs HKs HKo
        obtain ⟨c0, c1, c2, fz⟩ := (unhide HK12).cells
        have f0 := fz 1
        have HKs := hide ((unhide HK12).set1 (.int .u64 (v2 : Nat)))
        have HKo := hide ((unhide HK02).other 1 (.int .u64 (v2 : Nat)) (k := w.heap.size + 1) (by omega))
        have HBs := hide ((unhide HB2).setCell (p := ⟨w.heap.size + 1, 1, none⟩) (by simp) (.int .u64 (v2 : Nat)))
        clear fz HK12 HK02 HB2
        go_wp2_with fail
        rw [rounds_succ]
        go_wp2_with fail
        generalize w2.setCell ⟨w.heap.size + 1, 1, none⟩ (.int .u64 (v2 : Nat)) = x2 at *
        clear c0 c1 c2 f0
        refine Calls.mono (unhide HR _ _ (unhide HBs)) ?_
        rintro e w3 ⟨rfl, b1⟩
        rw [unhide he3, unhide hv3, unhide hn3]
        have HB3 := hide ((unhide HBs).trans (b1.mono (unhide HBs).size))
        have HK03 := hide ((unhide HKo).below b1)
        have HK13 := hide ((unhide HKs).below b1)
        clear b1 HBs HKs HKo
        obtain ⟨c0, c1, c2, fz⟩ := (unhide HK03).cells
        have f0 := fz 0
        have f1 := fz 1
        have f2 := fz 2
        clear fz
        go_wp2
        refine bodyPost_ret (v := .tuple #[.agg #[.int .u64 0, .int .u64 0, .int .u64 0], .int .i64 0, .int .i64 e3]) (by simp [results, Try.results109, go_sem, *]) rfl ⟨rfl, ?_⟩
        exact ((unhide HB3).setCell (p := ⟨w.heap.size, 0, none⟩) (Nat.le_refl _) _).setCell (p := ⟨w.heap.size, 1, none⟩) (Nat.le_refl _) _ |>.setCell (p := ⟨w.heap.size, 2, none⟩) (Nat.le_refl _) _
    · rw [if_pos z2]
      have z2' : (e2 == 0) = false := by simp [z2]
      go_enter Try.func109, Try.ntmps109
      go_wp2_with fail
      rw [← unhide HW0]
      refine wp_loop_rounds 4 ?_
      rw [rounds_succ]
      go_wp2_with fail
      refine Calls.mono (unhide HR _ _ (unhide HB0)) ?_
      rintro e w1 ⟨rfl, b1⟩
      rw [unhide he1, unhide hv1, unhide hn1]
      have HB1 := hide ((unhide HB0).trans (b1.mono (unhide HB0).size))
      have HK01 := hide ((unhide HK0).below b1)
      have HK11 := hide ((unhide HK1).below b1)
      clear b1 HB0 HK0 HK1 HW0
      obtain ⟨c0, c1, c2, fz⟩ := (unhide HK11).cells
      have f0 := fz 0
      have HKs := hide ((unhide HK11).set0 (.int .u64 (v1 : Nat)))
      have HKo := hide ((unhide HK01).other 0 (.int .u64 (v1 : Nat)) (k := w.heap.size + 1) (by omega))
      have HBs := hide ((unhide HB1).setCell (p := ⟨w.heap.size + 1, 0, none⟩) (by simp) (.int .u64 (v1 : Nat)))
      clear fz HK11 HK01 HB1
      go_wp2_with fail
      rw [rounds_succ]
      go_wp2_with fail
      generalize w1.setCell ⟨w.heap.size + 1, 0, none⟩ (.int .u64 (v1 : Nat)) = x1 at *
      clear c0 c1 c2 f0
      refine Calls.mono (unhide HR _ _ (unhide HBs)) ?_
      rintro e w2 ⟨rfl, b1⟩
      rw [unhide he2, unhide hv2, unhide hn2]
      have HB2 := hide ((unhide HBs).trans (b1.mono (unhide HBs).size))
      have HK02 := hide ((unhide HKo).below b1)
      have HK12 := hide ((unhide HKs).below b1)
      clear b1 HBs HKs HKo
      obtain ⟨c0, c1, c2, fz⟩ := (unhide HK02).cells
      have f0 := fz 0
      have f1 := fz 1
      have f2 := fz 2
      clear fz
      go_wp2
      refine bodyPost_ret (v := .tuple #[.agg #[.int .u64 0, .int .u64 0, .int .u64 0], .int .i64 0, .int .i64 e2]) (by simp [results, Try.results109, go_sem, *]) rfl ⟨rfl, ?_⟩
      exact ((unhide HB2).setCell (p := ⟨w.heap.size, 0, none⟩) (Nat.le_refl _) _).setCell (p := ⟨w.heap.size, 1, none⟩) (Nat.le_refl _) _ |>.setCell (p := ⟨w.heap.size, 2, none⟩) (Nat.le_refl _) _
  · rw [if_pos z1]
    have z1' : (e1 == 0) = false := by simp [z1]
    go_enter Try.func109, Try.ntmps109
    go_wp2_with fail
    rw [← unhide HW0]
    refine wp_loop_rounds 4 ?_
    rw [rounds_succ]
    go_wp2_with fail
    refine Calls.mono (unhide HR _ _ (unhide HB0)) ?_
    rintro e w1 ⟨rfl, b1⟩
    rw [unhide he1, unhide hv1, unhide hn1]
    have HB1 := hide ((unhide HB0).trans (b1.mono (unhide HB0).size))
    have HK01 := hide ((unhide HK0).below b1)
    have HK11 := hide ((unhide HK1).below b1)
    clear b1 HB0 HK0 HK1 HW0
    obtain ⟨c0, c1, c2, fz⟩ := (unhide HK01).cells
    have f0 := fz 0
    have f1 := fz 1
    have f2 := fz 2
    clear fz
    go_wp2
    refine bodyPost_ret (v := .tuple #[.agg #[.int .u64 0, .int .u64 0, .int .u64 0], .int .i64 0, .int .i64 e1]) (by simp [results, Try.results109, go_sem, *]) rfl ⟨rfl, ?_⟩
    exact ((unhide HB1).setCell (p := ⟨w.heap.size, 0, none⟩) (Nat.le_refl _) _).setCell (p := ⟨w.heap.size, 1, none⟩) (Nat.le_refl _) _ |>.setCell (p := ⟨w.heap.size, 2, none⟩) (Nat.le_refl _) _
end Go.Proofs.Ytdpoiieblbmofaa
