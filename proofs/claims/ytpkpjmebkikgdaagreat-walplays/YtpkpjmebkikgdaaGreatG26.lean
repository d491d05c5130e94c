/- Texts of ours, one behind the other: FrOwn2, FrOwn3, FrOwn4, FrRef1, FrRef2, FrRef3, WalRecs. -/
import Derived.Test.YtpkpjmebkikgdaaGreatG5
import Derived.Test.YtpkpjmebkikgdaaGreatG6
import Derived.Test.YtpkpjmebkikgdaaGreatG15
import Derived.Test.YtpkpjmebkikgdaaGreatG16
import Derived.Test.YtpkpjmebkikgdaaGreatG25
/- What package frame does: readHead, Read; and bytes.Clone. -/
namespace Go.Proofs.YtpkpjmebkikgdaaGreat
open Go.RowKit

set_option maxRecDepth 20000 in
theorem clone_any (s : Value) (bs : List UInt8) (w : World) (hs : Row w s bs) (hroom : bs.length ≤ 140737488351232) :
    Calls Tryz.prog 95 #[s] w fun e w' => ∃ t, e = .returned t ∧ Mine w' w.heap.size t bs ∧ Below w.heap.size w w' := by
  obtain ⟨i0, hi, hz0, hz1, hz2⟩ := info_parts Tryz.info5
  have HS := hide hs
  obtain ⟨q, c, rfl, c1, c2, c3, _⟩ := hs
  cases q with
  | none =>
    have hc := c3 rfl
    subst hc
    have hb : bs = [] := List.eq_nil_of_length_eq_zero (by omega)
    subst hb
    have he : ∀ w : World, (binOp .eql 27 (.slice none 0 0) (.slice none 0 0)).run Tryz.prog w = .ok (.bool true) w := fun _ => rfl
    go_enter Tryz.func95, Tryz.ntmps95
    go_wp2
    go_ret
    exact ⟨_, rfl, mine_nil _ _, Below.refl _ _⟩
  | some ad =>
    have he : ∀ w : World, (binOp .eql 27 (.slice (some ad) bs.length c) (.slice none 0 0)).run Tryz.prog w = .ok (.bool false) w := fun _ => rfl
    have hb0 : Below w.heap.size w (w.alloc (.cells #[] 5)) := (Below.refl _ _).alloc (Nat.le_refl _) _
    have hown : (w.alloc (.cells #[] 5)).ownsRow w.heap.size 5 1 (.slice (some ⟨w.heap.size, 0, none⟩) 0 0) 0 [] :=
      ⟨rfl, Or.inr ⟨w.heap.size, 0, #[], rfl, Nat.le_refl _, heap_alloc_new _ _, Nat.le_refl _, by unfold maxLen; omega, rfl, rfl⟩⟩
    have HS0 := hide ((unhide HS).below hb0)
    clear HS
    go_enter Tryz.func95, Tryz.ntmps95
    go_wp2_with (at_builtin; refine wpList_append_row rfl _ _ 27 rfl w.heap.size 5 i0 (.int .u8 0) Tryz.underlying27 hi hz0 hz1 hz2 rfl _ 0 [] rfl hown _ bs rfl (unhide HS0) (by omega) (by simp) ?_)
    intro v' w2 hown2 hgrow
    have hb2 : Below w.heap.size w w2 := hb0.grown hgrow hb0.size (fun j hj => by cases hj; exact Nat.le_refl _)
    clear hgrow
    go_wp2
    go_ret
    exact ⟨_, rfl, mine_of_owns (by simpa using hown2), hb2⟩

/-- What readHead answers: the three numbers, the place behind them, the error. -/
def headR (b : List UInt8) : (Nat × Nat × Nat) × Int × Int :=
  if readE b 0 ≠ 0 then ((0, 0, 0), 0, readE b 0)
  else if readE b (readN b 0) ≠ 0 then ((0, 0, 0), 0, readE b (readN b 0))
  else if readE b (readN b (readN b 0)) ≠ 0 then ((0, 0, 0), 0, readE b (readN b (readN b 0)))
  else ((readV b 0, readV b (readN b 0), readV b (readN b (readN b 0))), readN b (readN b (readN b 0)), 0)

/-- Three numbers in a block. -/
def At3 (w : World) (g : Nat) (t : TypeId) (x y z : Value) : Prop := w.heap[g]? = some (.cells #[x, y, z] t (0, 0))
theorem At3.below {w w' : World} {g t : Nat} {x y z : Value} (h : At3 w g t x y z) (hb : Below w.heap.size w w') : At3 w' g t x y z := (hb.block g (Array.getElem?_eq_some_iff.1 h).1).trans h
theorem At3.cells {w : World} {g t : Nat} {x y z : Value} (h : At3 w g t x y z) : w.cell? ⟨g, 0, none⟩ = some x ∧ w.cell? ⟨g, 1, none⟩ = some y ∧ w.cell? ⟨g, 2, none⟩ = some z ∧ ∀ j, w.frozen? ⟨g, j, none⟩ = false := by
  refine ⟨?_, ?_, ?_, fun j => frozen_of_block h⟩ <;> (rw [cell_of_row _ _ _ _ _ (0, 0) h]; rfl)
theorem At3.set0 {w : World} {g t : Nat} {x y z : Value} (h : At3 w g t x y z) (v : Value) : At3 (w.setCell ⟨g, 0, none⟩ v) g t v y z := heap_setCell_same w g 0 _ _ _ h
theorem At3.set1 {w : World} {g t : Nat} {x y z : Value} (h : At3 w g t x y z) (v : Value) : At3 (w.setCell ⟨g, 1, none⟩ v) g t x v z := heap_setCell_same w g 1 _ _ _ h
theorem At3.set2 {w : World} {g t : Nat} {x y z : Value} (h : At3 w g t x y z) (v : Value) : At3 (w.setCell ⟨g, 2, none⟩ v) g t x y v := heap_setCell_same w g 2 _ _ _ h
theorem At3.other {w : World} {g t k : Nat} {x y z : Value} (h : At3 w g t x y z) (j : Nat) (v : Value) (hne : g ≠ k) : At3 (w.setCell ⟨k, j, none⟩ v) g t x y z := by
  unfold At3
  unfold At3 at h
  rw [← h]
  exact Below.heap_setCell _ _ _ _ hne

set_option maxRecDepth 20000 in
set_option maxHeartbeats 1000000 in
theorem readHead_any (s : Value) (b : List UInt8) (w : World) (hs : Row w s b) (hroom : b.length ≤ 140737488351232) :
    Calls Tryz.prog 94 #[s] w fun e w' => e = .returned (.tuple #[.agg #[.int .u64 ((headR b).1.1 : Nat), .int .u64 ((headR b).1.2.1 : Nat), .int .u64 ((headR b).1.2.2 : Nat)], .int .i64 (headR b).2.1, .int .i64 (headR b).2.2]) ∧ Below w.heap.size w w' := by
  obtain ⟨W0, hW0⟩ : ∃ W0, W0 = (w.alloc (.cells #[.int .u64 0, .int .u64 0, .int .u64 0] 154)).alloc (.cells #[.int .u64 0, .int .u64 0, .int .u64 0] 154) := ⟨_, rfl⟩
  have hb0 : Below w.heap.size w W0 := by rw [hW0]; exact ((Below.refl _ _).alloc (Nat.le_refl _) _).alloc (by simp) _
  have HR := hide (fun (a : Int) w' (h : Below w.heap.size w w') => readvar_any s b a w' (hs.below h) hroom)
  have k0 : At3 W0 w.heap.size 154 (.int .u64 0) (.int .u64 0) (.int .u64 0) := by
    rw [hW0]
    exact At3.below (heap_alloc_new w _) ((Below.refl _ _).alloc (Nat.le_refl _) _)
  have k1 : At3 W0 (w.heap.size + 1) 154 (.int .u64 0) (.int .u64 0) (.int .u64 0) := by
    rw [hW0]
    have := heap_alloc_new (w.alloc (.cells #[.int .u64 0, .int .u64 0, .int .u64 0] 154)) (.cells #[.int .u64 0, .int .u64 0, .int .u64 0] 154)
    simpa [At3] using this
  unfold headR
  have HW0 := hide hW0
  have HB0 := hide hb0
  have HK0 := hide k0
  have HK1 := hide k1
  clear hW0 hb0 k0 k1 hs hroom
  obtain ⟨e1, he1⟩ : ∃ e1, Hid (readE b 0 = e1) := ⟨_, rfl⟩
  obtain ⟨v1, hv1⟩ : ∃ v1, Hid (readV b 0 = v1) := ⟨_, rfl⟩
  obtain ⟨n1, hn1⟩ : ∃ n1, Hid (readN b 0 = n1) := ⟨_, rfl⟩
  rw [unhide hn1, unhide he1, unhide hv1]
  obtain ⟨e2, he2⟩ : ∃ e2, Hid (readE b n1 = e2) := ⟨_, rfl⟩
  obtain ⟨v2, hv2⟩ : ∃ v2, Hid (readV b n1 = v2) := ⟨_, rfl⟩
  obtain ⟨n2, hn2⟩ : ∃ n2, Hid (readN b n1 = n2) := ⟨_, rfl⟩
  rw [unhide hn2, unhide he2, unhide hv2]
  obtain ⟨e3, he3⟩ : ∃ e3, Hid (readE b n2 = e3) := ⟨_, rfl⟩
  obtain ⟨v3, hv3⟩ : ∃ v3, Hid (readV b n2 = v3) := ⟨_, rfl⟩
  obtain ⟨n3, hn3⟩ : ∃ n3, Hid (readN b n2 = n3) := ⟨_, rfl⟩
  rw [unhide hn3, unhide he3, unhide hv3]
  by_cases z1 : e1 = 0
  · subst z1
    rw [if_neg (by simp)]
    by_cases z2 : e2 = 0
    · subst z2
      rw [if_neg (by simp)]
      by_cases z3 : e3 = 0
      · subst z3
        rw [if_neg (by simp)]
        go_enter Tryz.func94, Tryz.ntmps94
        go_wp2_with fail
        rw [← unhide HW0]
        refine wp_loop_rounds 4 ?_
        rw [rounds_succ]
        go_wp2_with fail
        refine Calls.mono (unhide HR _ _ (unhide HB0)) ?_
        rintro e w1 ⟨rfl, b1⟩
        rw [unhide he1, unhide hv1, unhide hn1]
        have HB1 := hide ((unhide HB0).trans (b1.mono (unhide HB0).size))
        have HK01 := hide ((unhide HK0).below b1)
        have HK11 := hide ((unhide HK1).below b1)
        clear b1 HB0 HK0 HK1 HW0
        obtain ⟨c0, c1, c2, fz⟩ := (unhide HK11).cells
        have f0 := fz 0
        have HKs := hide ((unhide HK11).set0 (.int .u64 (v1 : Nat)))
        have HKo := hide ((unhide HK01).other 0 (.int .u64 (v1 : Nat)) (k := w.heap.size + 1) (by omega))
        have HBs := hide ((unhide HB1).setCell (p := ⟨w.heap.size + 1, 0, none⟩) (by simp) (.int .u64 (v1 : Nat)))
        clear fz HK11 HK01 HB1
        go_wp2_with fail
        rw [rounds_succ]
        go_wp2_with fail
        generalize w1.setCell ⟨w.heap.size + 1, 0, none⟩ (.int .u64 (v1 : Nat)) = x1 at *
        clear c0 c1 c2 f0
        refine Calls.mono (unhide HR _ _ (unhide HBs)) ?_
        rintro e w2 ⟨rfl, b1⟩
        rw [unhide he2, unhide hv2, unhide hn2]
        have HB2 := hide ((unhide HBs).trans (b1.mono (unhide HBs).size))
        have HK02 := hide ((unhide HKo).below b1)
        have HK12 := hide ((unhide HKs).below b1)
        clear b1 HBs HKs HKo
        obtain ⟨c0, c1, c2, fz⟩ := (unhide HK12).cells
        have f0 := fz 1
        have HKs := hide ((unhide HK12).set1 (.int .u64 (v2 : Nat)))
        have HKo := hide ((unhide HK02).other 1 (.int .u64 (v2 : Nat)) (k := w.heap.size + 1) (by omega))
        have HBs := hide ((unhide HB2).setCell (p := ⟨w.heap.size + 1, 1, none⟩) (by simp) (.int .u64 (v2 : Nat)))
        clear fz HK12 HK02 HB2
        go_wp2_with fail
        rw [rounds_succ]
        go_wp2_with fail
        generalize w2.setCell ⟨w.heap.size + 1, 1, none⟩ (.int .u64 (v2 : Nat)) = x2 at *
        clear c0 c1 c2 f0
        refine Calls.mono (unhide HR _ _ (unhide HBs)) ?_
        rintro e w3 ⟨rfl, b1⟩
        rw [unhide he3, unhide hv3, unhide hn3]
        have HB3 := hide ((unhide HBs).trans (b1.mono (unhide HBs).size))
        have HK03 := hide ((unhide HKo).below b1)
        have HK13 := hide ((unhide HKs).below b1)
        clear b1 HBs HKs HKo
        obtain ⟨c0, c1, c2, fz⟩ := (unhide HK13).cells
        have f0 := fz 2
        have HKs := hide ((unhide HK13).set2 (.int .u64 (v3 : Nat)))
        have HKo := hide ((unhide HK03).other 2 (.int .u64 (v3 : Nat)) (k := w.heap.size + 1) (by omega))
        have HBs := hide ((unhide HB3).setCell (p := ⟨w.heap.size + 1, 2, none⟩) (by simp) (.int .u64 (v3 : Nat)))
        clear fz HK13 HK03 HB3
        go_wp2_with fail
        rw [rounds_succ]
        skip
        generalize w3.setCell ⟨w.heap.size + 1, 2, none⟩ (.int .u64 (v3 : Nat)) = x3 at *
        clear c0 c1 c2 f0
        obtain ⟨c0, c1, c2, _⟩ := (unhide HKs).cells
        obtain ⟨d0, d1, d2, fz⟩ := (unhide HKo).cells
        have f0 := fz 0
        have f1 := fz 1
        have f2 := fz 2
        clear fz
        go_wp2
        refine bodyPost_ret (v := .tuple #[.agg #[.int .u64 (v1 : Nat), .int .u64 (v2 : Nat), .int .u64 (v3 : Nat)], .int .i64 n3, .int .i64 0]) (by simp [results, Tryz.results94, go_sem, *]) rfl ⟨rfl, ?_⟩
        exact ((unhide HBs).setCell (p := ⟨w.heap.size, 0, none⟩) (Nat.le_refl _) _).setCell (p := ⟨w.heap.size, 1, none⟩) (Nat.le_refl _) _ |>.setCell (p := ⟨w.heap.size, 2, none⟩) (Nat.le_refl _) _
      · rw [if_pos z3]
        have z3' : (e3 == 0) = false := by simp [z3]
        go_enter Tryz.func94, Tryz.ntmps94
        go_wp2_with fail
        rw [← unhide HW0]
        refine wp_loop_rounds 4 ?_
        rw [rounds_succ]
        go_wp2_with fail
        refine Calls.mono (unhide HR _ _ (unhide HB0)) ?_
        rintro e w1 ⟨rfl, b1⟩
        rw [unhide he1, unhide hv1, unhide hn1]
        have HB1 := hide ((unhide HB0).trans (b1.mono (unhide HB0).size))
        have HK01 := hide ((unhide HK0).below b1)
        have HK11 := hide ((unhide HK1).below b1)
        clear b1 HB0 HK0 HK1 HW0
        obtain ⟨c0, c1, c2, fz⟩ := (unhide HK11).cells
        have f0 := fz 0
        have HKs := hide ((unhide HK11).set0 (.int .u64 (v1 : Nat)))
        have HKo := hide ((unhide HK01).other 0 (.int .u64 (v1 : Nat)) (k := w.heap.size + 1) (by omega))
        have HBs := hide ((unhide HB1).setCell (p := ⟨w.heap.size + 1, 0, none⟩) (by simp) (.int .u64 (v1 : Nat)))
        clear fz HK11 HK01 HB1
        go_wp2_with fail
        rw [rounds_succ]
        go_wp2_with fail
        generalize w1.setCell ⟨w.heap.size + 1, 0, none⟩ (.int .u64 (v1 : Nat)) = x1 at *
        clear c0 c1 c2 f0
        refine Calls.mono (unhide HR _ _ (unhide HBs)) ?_
        rintro e w2 ⟨rfl, b1⟩
        rw [unhide he2, unhide hv2, unhide hn2]
        have HB2 := hide ((unhide HBs).trans (b1.mono (unhide HBs).size))
        have HK02 := hide ((unhide HKo).below b1)
        have HK12 := hide ((unhide HKs).below b1)
        clear b1 HBs HKs HKo
        obtain ⟨c0, c1, c2, fz⟩ := (unhide HK12).cells
        have f0 := fz 1
        have HKs := hide ((unhide HK12).set1 (.int .u64 (v2 : Nat)))
        have HKo := hide ((unhide HK02).other 1 (.int .u64 (v2 : Nat)) (k := w.heap.size + 1) (by omega))
        have HBs := hide ((unhide HB2).setCell (p := ⟨w.heap.size + 1, 1, none⟩) (by simp) (.int .u64 (v2 : Nat)))
        clear fz HK12 HK02 HB2
        go_wp2_with fail
        rw [rounds_succ]
        go_wp2_with fail
        generalize w2.setCell ⟨w.heap.size + 1, 1, none⟩ (.int .u64 (v2 : Nat)) = x2 at *
        clear c0 c1 c2 f0
        refine Calls.mono (unhide HR _ _ (unhide HBs)) ?_
        rintro e w3 ⟨rfl, b1⟩
        rw [unhide he3, unhide hv3, unhide hn3]
        have HB3 := hide ((unhide HBs).trans (b1.mono (unhide HBs).size))
        have HK03 := hide ((unhide HKo).below b1)
        have HK13 := hide ((unhide HKs).below b1)
        clear b1 HBs HKs HKo
        obtain ⟨c0, c1, c2, fz⟩ := (unhide HK03).cells
        have f0 := fz 0
        have f1 := fz 1
        have f2 := fz 2
        clear fz
        go_wp2
        refine bodyPost_ret (v := .tuple #[.agg #[.int .u64 0, .int .u64 0, .int .u64 0], .int .i64 0, .int .i64 e3]) (by simp [results, Tryz.results94, go_sem, *]) rfl ⟨rfl, ?_⟩
        exact ((unhide HB3).setCell (p := ⟨w.heap.size, 0, none⟩) (Nat.le_refl _) _).setCell (p := ⟨w.heap.size, 1, none⟩) (Nat.le_refl _) _ |>.setCell (p := ⟨w.heap.size, 2, none⟩) (Nat.le_refl _) _
    · rw [if_pos z2]
      have z2' : (e2 == 0) = false := by simp [z2]
      go_enter Tryz.func94, Tryz.ntmps94
      go_wp2_with fail
      rw [← unhide HW0]
      refine wp_loop_rounds 4 ?_
      rw [rounds_succ]
      go_wp2_with fail
      refine Calls.mono (unhide HR _ _ (unhide HB0)) ?_
      rintro e w1 ⟨rfl, b1⟩
      rw [unhide he1, unhide hv1, unhide hn1]
      have HB1 := hide ((unhide HB0).trans (b1.mono (unhide HB0).size))
      have HK01 := hide ((unhide HK0).below b1)
      have HK11 := hide ((unhide HK1).below b1)
      clear b1 HB0 HK0 HK1 HW0
      obtain ⟨c0, c1, c2, fz⟩ := (unhide HK11).cells
      have f0 := fz 0
      have HKs := hide ((unhide HK11).set0 (.int .u64 (v1 : Nat)))
      have HKo := hide ((unhide HK01).other 0 (.int .u64 (v1 : Nat)) (k := w.heap.size + 1) (by omega))
      have HBs := hide ((unhide HB1).setCell (p := ⟨w.heap.size + 1, 0, none⟩) (by simp) (.int .u64 (v1 : Nat)))
      clear fz HK11 HK01 HB1
      go_wp2_with fail
      rw [rounds_succ]
      go_wp2_with fail
      generalize w1.setCell ⟨w.heap.size + 1, 0, none⟩ (.int .u64 (v1 : Nat)) = x1 at *
      clear c0 c1 c2 f0
      refine Calls.mono (unhide HR _ _ (unhide HBs)) ?_
      rintro e w2 ⟨rfl, b1⟩
      rw [unhide he2, unhide hv2, unhide hn2]
      have HB2 := hide ((unhide HBs).trans (b1.mono (unhide HBs).size))
      have HK02 := hide ((unhide HKo).below b1)
      have HK12 := hide ((unhide HKs).below b1)
      clear b1 HBs HKs HKo
      obtain ⟨c0, c1, c2, fz⟩ := (unhide HK02).cells
      have f0 := fz 0
      have f1 := fz 1
      have f2 := fz 2
      clear fz
      go_wp2
      refine bodyPost_ret (v := .tuple #[.agg #[.int .u64 0, .int .u64 0, .int .u64 0], .int .i64 0, .int .i64 e2]) (by simp [results, Tryz.results94, go_sem, *]) rfl ⟨rfl, ?_⟩
      exact ((unhide HB2).setCell (p := ⟨w.heap.size, 0, none⟩) (Nat.le_refl _) _).setCell (p := ⟨w.heap.size, 1, none⟩) (Nat.le_refl _) _ |>.setCell (p := ⟨w.heap.size, 2, none⟩) (Nat.le_refl _) _
  · rw [if_pos z1]
    have z1' : (e1 == 0) = false := by simp [z1]
    go_enter Tryz.func94, Tryz.ntmps94
    go_wp2_with fail
    rw [← unhide HW0]
    refine wp_loop_rounds 4 ?_
    rw [rounds_succ]
    go_wp2_with fail
    refine Calls.mono (unhide HR _ _ (unhide HB0)) ?_
    rintro e w1 ⟨rfl, b1⟩
    rw [unhide he1, unhide hv1, unhide hn1]
    have HB1 := hide ((unhide HB0).trans (b1.mono (unhide HB0).size))
    have HK01 := hide ((unhide HK0).below b1)
    have HK11 := hide ((unhide HK1).below b1)
    clear b1 HB0 HK0 HK1 HW0
    obtain ⟨c0, c1, c2, fz⟩ := (unhide HK01).cells
    have f0 := fz 0
    have f1 := fz 1
    have f2 := fz 2
    clear fz
    go_wp2
    refine bodyPost_ret (v := .tuple #[.agg #[.int .u64 0, .int .u64 0, .int .u64 0], .int .i64 0, .int .i64 e1]) (by simp [results, Tryz.results94, go_sem, *]) rfl ⟨rfl, ?_⟩
    exact ((unhide HB1).setCell (p := ⟨w.heap.size, 0, none⟩) (Nat.le_refl _) _).setCell (p := ⟨w.heap.size, 1, none⟩) (Nat.le_refl _) _ |>.setCell (p := ⟨w.heap.size, 2, none⟩) (Nat.le_refl _) _
end Go.Proofs.YtpkpjmebkikgdaaGreat

/- What package frame does: Read. -/
namespace Go.Proofs.YtpkpjmebkikgdaaGreat
open Go.RowKit

theorem read_head (b : List UInt8) : readF b = if (headR b).2.2 ≠ 0 then (zeroF, (headR b).2.2) else if 32 < (headR b).1.2.2 then (zeroF, 11)
    else if mayF ⟨(headR b).1.1, (headR b).1.2.1, ((headR b).1.2.2 : Nat), b.drop (headR b).2.1.toNat⟩ = true then (⟨(headR b).1.1, (headR b).1.2.1, ((headR b).1.2.2 : Nat), b.drop (headR b).2.1.toNat⟩, 0) else (zeroF, 11) := by
  unfold readF headR
  by_cases h1 : readE b 0 = 0
  · rw [if_neg (by simp [h1])]
    by_cases h2 : readE b (readN b 0) = 0
    · rw [if_neg (by simp [h2])]
      by_cases h3 : readE b (readN b (readN b 0)) = 0
      · rw [if_neg (by simp [h3])]
        simp [h1, h2, h3]
      · simp [h1, h2, h3]
    · simp [h1, h2]
  · simp [h1]
theorem head_ok (b : List UInt8) (h : (headR b).2.2 = 0) : 0 < (headR b).2.1 ∧ (headR b).2.1 ≤ b.length ∧ (headR b).1.1 < 18446744073709551616 ∧ (headR b).1.2.1 < 18446744073709551616 := by
  unfold headR at h ⊢
  by_cases h1 : readE b 0 = 0
  · rw [if_neg (by simp [h1])] at h ⊢
    by_cases h2 : readE b (readN b 0) = 0
    · rw [if_neg (by simp [h2])] at h ⊢
      by_cases h3 : readE b (readN b (readN b 0)) = 0
      · rw [if_neg (by simp [h3])]
        have a1 := read_ok b _ h1
        have a2 := read_ok b _ h2
        have a3 := read_ok b _ h3
        exact ⟨by simp only; omega, a3.2.2.1, a1.2.2.2, a2.2.2.2⟩
      · rw [if_pos h3] at h; exact absurd h h3
    · rw [if_pos h2] at h; exact absurd h h2
  · rw [if_pos h1] at h; exact absurd h h1

/-- Four cells that are a block. -/
def Blk4 (w : World) (g : Nat) (t : TypeId) (a b c d : Value) : Prop := w.heap[g]? = some (.cells #[a, b, c, d] t (0, 0))
theorem Blk4.below {w w' : World} {g t : Nat} {a b c d : Value} (h : Blk4 w g t a b c d) (hb : Below w.heap.size w w') : Blk4 w' g t a b c d := (hb.block g (Array.getElem?_eq_some_iff.1 h).1).trans h
theorem Blk4.cells {w : World} {g t : Nat} {a b c d : Value} (h : Blk4 w g t a b c d) : w.cell? ⟨g, 0, none⟩ = some a ∧ w.cell? ⟨g, 1, none⟩ = some b ∧ w.cell? ⟨g, 2, none⟩ = some c ∧ w.cell? ⟨g, 3, none⟩ = some d ∧ ∀ j, w.frozen? ⟨g, j, none⟩ = false := by
  refine ⟨?_, ?_, ?_, ?_, fun j => frozen_of_block h⟩ <;> (rw [cell_of_row _ _ _ _ _ (0, 0) h]; rfl)

theorem Mine.set {w : World} {base k : Nat} {t : Value} {bs : List UInt8} (h : Mine w base t bs) (hk : k < base) (j : Nat) (v : Value) : Mine (w.setCell ⟨k, j, none⟩ v) base t bs := by
  have hoth : ∀ g, base ≤ g → (w.setCell ⟨k, j, none⟩ v).heap[g]? = w.heap[g]? := fun g hg => Below.heap_setCell _ _ _ _ (by show g ≠ k; omega)
  obtain ⟨⟨a, cap, e, h1, h2, h3, h4⟩, h5⟩ := h
  rcases h5 with rfl | ⟨g, off, cap', e', cur, rfl, hg, hh⟩
  · exact ⟨⟨a, cap, e, h1, h2, h3, Or.inl rfl⟩, Or.inl rfl⟩
  · refine ⟨⟨a, cap, e, h1, h2, h3, ?_⟩, Or.inr ⟨g, off, cap', e', cur, rfl, hg, (hoth g hg).trans hh⟩⟩
    simp only [Value.slice.injEq, true_and] at e
    obtain ⟨rfl, rfl⟩ := e
    rcases h4 with h4 | ⟨b, off', e2, hc⟩
    · exact Or.inl h4
    · simp only [Option.some.injEq, Addr.mk.injEq, and_true] at e2
      obtain ⟨rfl, rfl⟩ := e2
      refine Or.inr ⟨g, off, rfl, fun i hi => ?_⟩
      rw [← hc i hi]
      exact World.cell?_of_block (w := w) (hoth g hg)

abbrev HeadC (s : Value) (w : World) (A C m : Nat) (n e0 : Int) : Prop := Calls Tryz.prog 94 #[s] w fun e w' => e = .returned (.tuple #[.agg #[.int .u64 (A : Int), .int .u64 (C : Int), .int .u64 (m : Int)], .int .i64 n, .int .i64 e0]) ∧ Below w.heap.size w w'
def rd0 (w : World) : World := w.alloc (.cells #[.int .u64 0, .int .u64 0, .int .i64 0, .slice none 0 0] 110)
theorem rd0_below (w : World) : Below w.heap.size w (rd0 w) := (Below.refl _ _).alloc (Nat.le_refl _) _
theorem rd0_blk (w : World) : Blk4 (rd0 w) w.heap.size 110 (.int .u64 0) (.int .u64 0) (.int .i64 0) (.slice none 0 0) := heap_alloc_new w _

set_option maxRecDepth 20000 in
set_option maxHeartbeats 2000000 in
theorem read_err (s : Value) (w : World) (A C m : Nat) (n e0 : Int) (hR : HeadC s (rd0 w) A C m n e0) (z : e0 ≠ 0) :
    Calls Tryz.prog 82 #[s] w fun e w' => e = .returned (.tuple #[.agg #[.int .u64 0, .int .u64 0, .int .i64 0, .slice none 0 0], .int .i64 e0]) ∧ Below w.heap.size w w' := by
  have z' : (e0 == 0) = false := by simp [z]
  unfold HeadC at hR
  have HR := hide hR
  have HW0 : Hid (w.alloc (.cells #[.int .u64 0, .int .u64 0, .int .i64 0, .slice none 0 0] 110) = rd0 w) := rfl
  have HB0 := hide (rd0_below w)
  have HK0 := hide (rd0_blk w)
  clear hR
  go_enter Tryz.func82, Tryz.ntmps82
  go_wp2_with fail
  rw [unhide HW0]
  refine Calls.mono (unhide HR) ?_
  rintro e w1 ⟨rfl, b1⟩
  have HB1 := hide ((unhide HB0).trans (b1.mono (unhide HB0).size))
  obtain ⟨c0, c1, c2, c3, fz⟩ := ((unhide HK0).below b1).cells
  have f0 := fz 0
  have f1 := fz 1
  have f2 := fz 2
  have f3 := fz 3
  have hlt : w.heap.size < w1.heap.size := World.block_lt_of_cell? w1 _ c0
  clear fz b1 HB0 HK0 HW0
  go_wp2
  refine bodyPost_ret (v := .tuple #[.agg #[.int .u64 0, .int .u64 0, .int .i64 0, .slice none 0 0], .int .i64 e0]) (by simp [results, Tryz.results82, go_sem, *]) rfl ⟨rfl, ?_⟩
  have := unhide HB1
  repeat' (first
      | assumption
      | exact unhide (by assumption)
      | refine Below.setCell ?_ (by first | exact Nat.le_refl _ | (simp; done) | (simp; omega) | omega) _
      | refine Below.alloc ?_ (by first | exact Nat.le_refl _ | (simp; done) | (simp; omega) | omega) _
      | refine Below.drew ?_)

set_option maxRecDepth 20000 in
set_option maxHeartbeats 2000000 in
theorem read_32 (s : Value) (w : World) (A C m : Nat) (n : Int) (hR : HeadC s (rd0 w) A C m n 0) (h32 : 32 < m) :
    Calls Tryz.prog 82 #[s] w fun e w' => e = .returned (.tuple #[.agg #[.int .u64 0, .int .u64 0, .int .i64 0, .slice none 0 0], .int .i64 11]) ∧ Below w.heap.size w w' := by
  have h32' : (32 : Int) < m := by omega
  unfold HeadC at hR
  have HR := hide hR
  have HW0 : Hid (w.alloc (.cells #[.int .u64 0, .int .u64 0, .int .i64 0, .slice none 0 0] 110) = rd0 w) := rfl
  have HB0 := hide (rd0_below w)
  have HK0 := hide (rd0_blk w)
  clear hR
  go_enter Tryz.func82, Tryz.ntmps82
  go_wp2_with fail
  rw [unhide HW0]
  refine Calls.mono (unhide HR) ?_
  rintro e w1 ⟨rfl, b1⟩
  have HB1 := hide ((unhide HB0).trans (b1.mono (unhide HB0).size))
  obtain ⟨c0, c1, c2, c3, fz⟩ := ((unhide HK0).below b1).cells
  have f0 := fz 0
  have f1 := fz 1
  have f2 := fz 2
  have f3 := fz 3
  have hlt : w.heap.size < w1.heap.size := World.block_lt_of_cell? w1 _ c0
  clear fz b1 HB0 HK0 HW0
  go_wp2
  refine bodyPost_ret (v := .tuple #[.agg #[.int .u64 0, .int .u64 0, .int .i64 0, .slice none 0 0], .int .i64 11]) (by simp [results, Tryz.results82, go_sem, *]) rfl ⟨rfl, ?_⟩
  have := unhide HB1
  repeat' (first
      | assumption
      | exact unhide (by assumption)
      | refine Below.setCell ?_ (by first | exact Nat.le_refl _ | (simp; done) | (simp; omega) | omega) _
      | refine Below.alloc ?_ (by first | exact Nat.le_refl _ | (simp; done) | (simp; omega) | omega) _
      | refine Below.drew ?_)

end Go.Proofs.YtpkpjmebkikgdaaGreat

/- What package frame does: Read, where bytes are a frame. -/
namespace Go.Proofs.YtpkpjmebkikgdaaGreat
open Go.RowKit

set_option maxRecDepth 20000 in
set_option maxHeartbeats 2000000 in
theorem read_eq (g off cap len k : Nat) (w : World) (A C m : Nat) (data : List UInt8) (hR : HeadC (.slice (some ⟨g, off, none⟩) len cap) (rd0 w) A C m (k : Nat) 0) (h32 : ¬ 32 < m) (hk : k ≤ len) (hlc : len ≤ cap) (_hcap : cap ≤ maxLen) (hcz : cap = k)
    (hD : Row w (.slice (some ⟨g, off, none⟩) 0 0) data) (hroom : data.length ≤ 140737488351232) (f f' : Fr) (e' : Int) (hf : f = ⟨A, C, (m : Int), data⟩) (hf' : f' = if mayF f = true then f else zeroF) (he' : e' = if mayF f = true then 0 else 11) :
    Calls Tryz.prog 82 #[.slice (some ⟨g, off, none⟩) len cap] w fun e w' => ∃ t, e = .returned (.tuple #[fv f' t, .int .i64 e']) ∧ Mine w' w.heap.size t f'.data ∧ Below w.heap.size w w' := by
  subst hcz
  have h32' : ¬ (32 : Int) < m := by omega
  have hwm : IntKind.i64.wrap (m : Int) = m := by rw [IntKind.wrap_i64]; omega
  have HWM := hide hwm
  clear hwm
  unfold maxLen at _hcap
  unfold HeadC at hR
  have HR := hide hR
  have HD := hide hD
  have HF := hide hf
  have HW0 : Hid (w.alloc (.cells #[.int .u64 0, .int .u64 0, .int .i64 0, .slice none 0 0] 110) = rd0 w) := rfl
  have HB0 := hide (rd0_below w)
  have HK0 := hide (rd0_blk w)
  clear hR hf hD
  cases hm : mayF f with
  | false =>
    rw [hm, if_neg (by simp)] at hf' he'
    subst hf' he'
    have HMF := hide hm
    clear hm
    go_enter Tryz.func82, Tryz.ntmps82
    go_wp2_with fail
    rw [unhide HW0]
    refine Calls.mono (unhide HR) ?_
    rintro e w1 ⟨rfl, b1⟩
    have HB1 := hide ((unhide HB0).trans (b1.mono (unhide HB0).size))
    have HK1 := hide ((unhide HK0).below b1)
    obtain ⟨W1, hW1⟩ : ∃ W1, W1 = w1.alloc (.cells #[.int .u64 (A : Int), .int .u64 (C : Int), .int .u64 (m : Int)] 154) := ⟨_, rfl⟩
    have HW1 := hide hW1
    have hal : Below w1.heap.size w1 W1 := by rw [hW1]; exact (Below.refl _ _).alloc (Nat.le_refl _) _
    have HK2 := hide ((unhide HK1).below hal)
    have HB2 := hide ((unhide HB1).trans (hal.mono (unhide HB1).size))
    have hat : At3 W1 w1.heap.size 154 (.int .u64 (A : Int)) (.int .u64 (C : Int)) (.int .u64 (m : Int)) := by rw [hW1]; exact heap_alloc_new w1 _
    obtain ⟨c0, c1, c2, _⟩ := (hat.below ((Below.refl _ W1).drew)).cells
    obtain ⟨d0, d1, d2, _⟩ := hat.cells
    have hn0 := World.new_ne W1 _ d0
    clear HB0 HW0 HK0 HK1 HB1 b1 hat hal hW1
    go_wp2_with fail
    rw [← unhide HW1]
    go_wp2_with fail
    go_region_held3 (fun w' => w'.cell? ⟨w1.heap.size, 0, none⟩ = some (.int .u64 (A : Int)) ∧ w'.cell? ⟨w1.heap.size, 1, none⟩ = some (.int .u64 (C : Int)) ∧ w'.cell? ⟨w1.heap.size, 2, none⟩ = some (.int .u64 (m : Int))) (first | assumption | go_keep) (fail)
    rw [unhide HWM]
    obtain ⟨W2, hW2⟩ : ∃ W2, W2 = (W1.alloc (.cells #[.int .u64 (A : Int), .int .u64 (C : Int), .int .i64 (m : Int), .slice (some ⟨g, off, none⟩) 0 0] 110)).drew := ⟨_, rfl⟩
    have HW2 := hide hW2
    have hb12 : Below W1.heap.size W1 W2 := by rw [hW2]; exact ((Below.refl _ _).alloc (Nat.le_refl _) _).drew
    have hKF : Blk4 W2 W1.heap.size 110 (.int .u64 (A : Int)) (.int .u64 (C : Int)) (.int .i64 (m : Int)) (.slice (some ⟨g, off, none⟩) 0 0) := by rw [hW2]; exact heap_alloc_new W1 _
    have HB3' := hide ((unhide HB2).trans (hb12.mono (unhide HB2).size))
    have HKR' := hide ((unhide HK2).below hb12)
    have HM := hide (mayBe_any f (.slice (some ⟨g, off, none⟩) 0 0) W2 (by rw [unhide HF]; exact (unhide HD).below (unhide HB3')))
    rw [unhide HMF] at HM
    rw [unhide HF] at HM
    unfold fv at HM
    have HKF' := hide hKF
    obtain ⟨k0, k1, k2, k3, _⟩ := hKF.cells
    have hWs : w.heap.size < W1.heap.size := World.block_lt_of_cell? W1 _ (unhide HK2).cells.1
    clear c0 c1 c2 d0 d1 d2 hn0 HK2 HB2 hb12 hKF hW2 HW1
    rw [← unhide HW2]
    go_wp2_with fail
    refine Calls.mono (unhide HM) ?_
    rintro e w3 ⟨rfl, b3⟩
    have HB3 := hide ((unhide HB3').trans (b3.mono (unhide HB3').size))
    have HKF := hide ((unhide HKF').below b3)
    have HKR := hide ((unhide HKR').below b3)
    clear b3 HB3' HKF' HKR' k0 k1 k2 k3 HM HW2
    obtain ⟨c0, c1, c2, c3, fz⟩ := (unhide HKR).cells
    have f0 := fz 0
    have f1 := fz 1
    have f2 := fz 2
    have f3 := fz 3
    clear fz
    go_wp2
    refine bodyPost_ret (v := .tuple #[.agg #[.int .u64 0, .int .u64 0, .int .i64 0, .slice none 0 0], .int .i64 11]) (by simp [results, Tryz.results82, go_sem, *]) rfl ⟨.slice none 0 0, rfl, mine_nil _ _, ?_⟩
    have := unhide HB3
    repeat' (first
        | assumption
        | exact unhide (by assumption)
        | refine Below.setCell ?_ (by first | exact Nat.le_refl _ | (simp; done) | (simp; omega) | omega) _
        | refine Below.alloc ?_ (by first | exact Nat.le_refl _ | (simp; done) | (simp; omega) | omega) _
        | refine Below.drew ?_)
  | true =>
    rw [hm, if_pos rfl] at hf' he'
    subst he'
    rw [hf']
    clear hf'
    have HMF := hide hm
    clear hm
    go_enter Tryz.func82, Tryz.ntmps82
    go_wp2_with fail
    rw [unhide HW0]
    refine Calls.mono (unhide HR) ?_
    rintro e w1 ⟨rfl, b1⟩
    have HB1 := hide ((unhide HB0).trans (b1.mono (unhide HB0).size))
    have HK1 := hide ((unhide HK0).below b1)
    obtain ⟨W1, hW1⟩ : ∃ W1, W1 = w1.alloc (.cells #[.int .u64 (A : Int), .int .u64 (C : Int), .int .u64 (m : Int)] 154) := ⟨_, rfl⟩
    have HW1 := hide hW1
    have hal : Below w1.heap.size w1 W1 := by rw [hW1]; exact (Below.refl _ _).alloc (Nat.le_refl _) _
    have HK2 := hide ((unhide HK1).below hal)
    have HB2 := hide ((unhide HB1).trans (hal.mono (unhide HB1).size))
    have hat : At3 W1 w1.heap.size 154 (.int .u64 (A : Int)) (.int .u64 (C : Int)) (.int .u64 (m : Int)) := by rw [hW1]; exact heap_alloc_new w1 _
    obtain ⟨c0, c1, c2, _⟩ := (hat.below ((Below.refl _ W1).drew)).cells
    obtain ⟨d0, d1, d2, _⟩ := hat.cells
    have hn0 := World.new_ne W1 _ d0
    clear HB0 HW0 HK0 HK1 HB1 b1 hat hal hW1
    go_wp2_with fail
    rw [← unhide HW1]
    go_wp2_with fail
    go_region_held3 (fun w' => w'.cell? ⟨w1.heap.size, 0, none⟩ = some (.int .u64 (A : Int)) ∧ w'.cell? ⟨w1.heap.size, 1, none⟩ = some (.int .u64 (C : Int)) ∧ w'.cell? ⟨w1.heap.size, 2, none⟩ = some (.int .u64 (m : Int))) (first | assumption | go_keep) (fail)
    rw [unhide HWM]
    obtain ⟨W2, hW2⟩ : ∃ W2, W2 = (W1.alloc (.cells #[.int .u64 (A : Int), .int .u64 (C : Int), .int .i64 (m : Int), .slice (some ⟨g, off, none⟩) 0 0] 110)).drew := ⟨_, rfl⟩
    have HW2 := hide hW2
    have hb12 : Below W1.heap.size W1 W2 := by rw [hW2]; exact ((Below.refl _ _).alloc (Nat.le_refl _) _).drew
    have hKF : Blk4 W2 W1.heap.size 110 (.int .u64 (A : Int)) (.int .u64 (C : Int)) (.int .i64 (m : Int)) (.slice (some ⟨g, off, none⟩) 0 0) := by rw [hW2]; exact heap_alloc_new W1 _
    have HB3' := hide ((unhide HB2).trans (hb12.mono (unhide HB2).size))
    have HKR' := hide ((unhide HK2).below hb12)
    have HM := hide (mayBe_any f (.slice (some ⟨g, off, none⟩) 0 0) W2 (by rw [unhide HF]; exact (unhide HD).below (unhide HB3')))
    rw [unhide HMF] at HM
    rw [unhide HF] at HM
    unfold fv at HM
    have HKF' := hide hKF
    obtain ⟨k0, k1, k2, k3, _⟩ := hKF.cells
    have hWs : w.heap.size < W1.heap.size := World.block_lt_of_cell? W1 _ (unhide HK2).cells.1
    clear c0 c1 c2 d0 d1 d2 hn0 HK2 HB2 hb12 hKF hW2 HW1
    rw [← unhide HW2]
    go_wp2_with fail
    refine Calls.mono (unhide HM) ?_
    rintro e w3 ⟨rfl, b3⟩
    have HB3 := hide ((unhide HB3').trans (b3.mono (unhide HB3').size))
    have HKF := hide ((unhide HKF').below b3)
    have HKR := hide ((unhide HKR').below b3)
    clear b3 HB3' HKF' HKR' k0 k1 k2 k3 HM HW2
    obtain ⟨c0, c1, c2, c3, fz⟩ := (unhide HKF).cells
    have HCL := hide (clone_any _ data w3 ((unhide HD).below (unhide HB3)) hroom)
    clear fz
    go_wp2_with fail
    refine Calls.mono (unhide HCL) ?_
    rintro e w4 ⟨t, rfl, x4, b4⟩
    obtain ⟨p4, q4, l4, rfl, hl4⟩ := x4.row.shape
    have HX4 := hide x4
    have HLT : Hid (W1.heap.size < w3.heap.size) := World.block_lt_of_cell? w3 _ c0
    have HKF4 := hide ((unhide HKF).below b4)
    have HKR4 := hide ((unhide HKR).below b4)
    have HB4 := hide ((unhide HB3).trans (b4.mono (unhide HB3).size))
    clear c0 c1 c2 c3 HKF HKR x4 hl4 HCL HD
    obtain ⟨c0, c1, c2, c3, fz⟩ := (unhide HKF4).cells
    have f3 := fz 3
    clear fz
    obtain ⟨d0, d1, d2, d3, fz⟩ := (unhide HKR4).cells
    have g0 := fz 0
    have g1 := fz 1
    have g2 := fz 2
    have g3 := fz 3
    clear fz
    have hn : (W1.heap.size == w.heap.size) = false := by rw [beq_eq_false_iff_ne]; omega
    have hn1 : ¬ W1.heap.size = w.heap.size := by omega
    have hn2 : ¬ w.heap.size = W1.heap.size := by omega
    have HFD : Hid (f = ⟨A, C, (m : Int), data⟩) := HF
    go_wp2
    refine bodyPost_ret (v := .tuple #[.agg #[.int .u64 (A : Int), .int .u64 (C : Int), .int .i64 (m : Int), .slice p4 l4 q4], .int .i64 0]) (by simp [results, Tryz.results82, go_sem, *]) rfl ⟨.slice p4 l4 q4, by rw [unhide HFD]; rfl, ?_, ?_⟩
    · rw [unhide HFD]
      have h3 : W1.heap.size < w3.heap.size := unhide HLT
      refine Mine.base ?_ (unhide HB3).size
      exact ((((unhide HX4).set h3 _ _).set (by omega) _ _ |>.set (by omega) _ _).set (by omega) _ _).set (by omega) _ _
    · have := unhide HB4
      repeat' (first
          | assumption
          | exact unhide (by assumption)
          | refine Below.setCell ?_ (by first | exact Nat.le_refl _ | (simp; done) | (simp; omega) | omega) _
          | refine Below.alloc ?_ (by first | exact Nat.le_refl _ | (simp; done) | (simp; omega) | omega) _
          | refine Below.drew ?_)

set_option maxRecDepth 20000 in
set_option maxHeartbeats 2000000 in
theorem read_lt (g off cap len k : Nat) (w : World) (A C m : Nat) (data : List UInt8) (hR : HeadC (.slice (some ⟨g, off, none⟩) len cap) (rd0 w) A C m (k : Nat) 0) (h32 : ¬ 32 < m) (hk : k ≤ len) (_hlc : len ≤ cap) (_hcap : cap ≤ maxLen) (hcz : k < cap)
    (hD : Row w (.slice (some ⟨g, off + k, none⟩) (len - k) (cap - k)) data) (hroom : data.length ≤ 140737488351232) (f f' : Fr) (e' : Int) (hf : f = ⟨A, C, (m : Int), data⟩) (hf' : f' = if mayF f = true then f else zeroF) (he' : e' = if mayF f = true then 0 else 11) :
    Calls Tryz.prog 82 #[.slice (some ⟨g, off, none⟩) len cap] w fun e w' => ∃ t, e = .returned (.tuple #[fv f' t, .int .i64 e']) ∧ Mine w' w.heap.size t f'.data ∧ Below w.heap.size w w' := by
  have hcz' : ¬ cap = k := by omega
  have h32' : ¬ (32 : Int) < m := by omega
  have hwm : IntKind.i64.wrap (m : Int) = m := by rw [IntKind.wrap_i64]; omega
  have HWM := hide hwm
  clear hwm
  unfold maxLen at _hcap
  unfold HeadC at hR
  have HR := hide hR
  have HD := hide hD
  have HF := hide hf
  have HW0 : Hid (w.alloc (.cells #[.int .u64 0, .int .u64 0, .int .i64 0, .slice none 0 0] 110) = rd0 w) := rfl
  have HB0 := hide (rd0_below w)
  have HK0 := hide (rd0_blk w)
  clear hR hf hD
  cases hm : mayF f with
  | false =>
    rw [hm, if_neg (by simp)] at hf' he'
    subst hf' he'
    have HMF := hide hm
    clear hm
    go_enter Tryz.func82, Tryz.ntmps82
    go_wp2_with fail
    rw [unhide HW0]
    refine Calls.mono (unhide HR) ?_
    rintro e w1 ⟨rfl, b1⟩
    have HB1 := hide ((unhide HB0).trans (b1.mono (unhide HB0).size))
    have HK1 := hide ((unhide HK0).below b1)
    obtain ⟨W1, hW1⟩ : ∃ W1, W1 = w1.alloc (.cells #[.int .u64 (A : Int), .int .u64 (C : Int), .int .u64 (m : Int)] 154) := ⟨_, rfl⟩
    have HW1 := hide hW1
    have hal : Below w1.heap.size w1 W1 := by rw [hW1]; exact (Below.refl _ _).alloc (Nat.le_refl _) _
    have HK2 := hide ((unhide HK1).below hal)
    have HB2 := hide ((unhide HB1).trans (hal.mono (unhide HB1).size))
    have hat : At3 W1 w1.heap.size 154 (.int .u64 (A : Int)) (.int .u64 (C : Int)) (.int .u64 (m : Int)) := by rw [hW1]; exact heap_alloc_new w1 _
    obtain ⟨c0, c1, c2, _⟩ := (hat.below ((Below.refl _ W1).drew)).cells
    obtain ⟨d0, d1, d2, _⟩ := hat.cells
    have hn0 := World.new_ne W1 _ d0
    clear HB0 HW0 HK0 HK1 HB1 b1 hat hal hW1
    go_wp2_with fail
    rw [← unhide HW1]
    go_wp2_with fail
    go_region_held3 (fun w' => w'.cell? ⟨w1.heap.size, 0, none⟩ = some (.int .u64 (A : Int)) ∧ w'.cell? ⟨w1.heap.size, 1, none⟩ = some (.int .u64 (C : Int)) ∧ w'.cell? ⟨w1.heap.size, 2, none⟩ = some (.int .u64 (m : Int))) (first | assumption | go_keep) (fail)
    rw [unhide HWM]
    obtain ⟨W2, hW2⟩ : ∃ W2, W2 = (W1.alloc (.cells #[.int .u64 (A : Int), .int .u64 (C : Int), .int .i64 (m : Int), .slice (some ⟨g, off + k, none⟩) (len - k) (cap - k)] 110)).drew := ⟨_, rfl⟩
    have HW2 := hide hW2
    have hb12 : Below W1.heap.size W1 W2 := by rw [hW2]; exact ((Below.refl _ _).alloc (Nat.le_refl _) _).drew
    have hKF : Blk4 W2 W1.heap.size 110 (.int .u64 (A : Int)) (.int .u64 (C : Int)) (.int .i64 (m : Int)) (.slice (some ⟨g, off + k, none⟩) (len - k) (cap - k)) := by rw [hW2]; exact heap_alloc_new W1 _
    have HB3' := hide ((unhide HB2).trans (hb12.mono (unhide HB2).size))
    have HKR' := hide ((unhide HK2).below hb12)
    have HM := hide (mayBe_any f (.slice (some ⟨g, off + k, none⟩) (len - k) (cap - k)) W2 (by rw [unhide HF]; exact (unhide HD).below (unhide HB3')))
    rw [unhide HMF] at HM
    rw [unhide HF] at HM
    unfold fv at HM
    have HKF' := hide hKF
    obtain ⟨k0, k1, k2, k3, _⟩ := hKF.cells
    have hWs : w.heap.size < W1.heap.size := World.block_lt_of_cell? W1 _ (unhide HK2).cells.1
    clear c0 c1 c2 d0 d1 d2 hn0 HK2 HB2 hb12 hKF hW2 HW1
    rw [← unhide HW2]
    go_wp2_with fail
    refine Calls.mono (unhide HM) ?_
    rintro e w3 ⟨rfl, b3⟩
    have HB3 := hide ((unhide HB3').trans (b3.mono (unhide HB3').size))
    have HKF := hide ((unhide HKF').below b3)
    have HKR := hide ((unhide HKR').below b3)
    clear b3 HB3' HKF' HKR' k0 k1 k2 k3 HM HW2
    obtain ⟨c0, c1, c2, c3, fz⟩ := (unhide HKR).cells
    have f0 := fz 0
    have f1 := fz 1
    have f2 := fz 2
    have f3 := fz 3
    clear fz
    go_wp2
    refine bodyPost_ret (v := .tuple #[.agg #[.int .u64 0, .int .u64 0, .int .i64 0, .slice none 0 0], .int .i64 11]) (by simp [results, Tryz.results82, go_sem, *]) rfl ⟨.slice none 0 0, rfl, mine_nil _ _, ?_⟩
    have := unhide HB3
    repeat' (first
        | assumption
        | exact unhide (by assumption)
        | refine Below.setCell ?_ (by first | exact Nat.le_refl _ | (simp; done) | (simp; omega) | omega) _
        | refine Below.alloc ?_ (by first | exact Nat.le_refl _ | (simp; done) | (simp; omega) | omega) _
        | refine Below.drew ?_)
  | true =>
    rw [hm, if_pos rfl] at hf' he'
    subst he'
    rw [hf']
    clear hf'
    have HMF := hide hm
    clear hm
    go_enter Tryz.func82, Tryz.ntmps82
    go_wp2_with fail
    rw [unhide HW0]
    refine Calls.mono (unhide HR) ?_
    rintro e w1 ⟨rfl, b1⟩
    have HB1 := hide ((unhide HB0).trans (b1.mono (unhide HB0).size))
    have HK1 := hide ((unhide HK0).below b1)
    obtain ⟨W1, hW1⟩ : ∃ W1, W1 = w1.alloc (.cells #[.int .u64 (A : Int), .int .u64 (C : Int), .int .u64 (m : Int)] 154) := ⟨_, rfl⟩
    have HW1 := hide hW1
    have hal : Below w1.heap.size w1 W1 := by rw [hW1]; exact (Below.refl _ _).alloc (Nat.le_refl _) _
    have HK2 := hide ((unhide HK1).below hal)
    have HB2 := hide ((unhide HB1).trans (hal.mono (unhide HB1).size))
    have hat : At3 W1 w1.heap.size 154 (.int .u64 (A : Int)) (.int .u64 (C : Int)) (.int .u64 (m : Int)) := by rw [hW1]; exact heap_alloc_new w1 _
    obtain ⟨c0, c1, c2, _⟩ := (hat.below ((Below.refl _ W1).drew)).cells
    obtain ⟨d0, d1, d2, _⟩ := hat.cells
    have hn0 := World.new_ne W1 _ d0
    clear HB0 HW0 HK0 HK1 HB1 b1 hat hal hW1
    go_wp2_with fail
    rw [← unhide HW1]
    go_wp2_with fail
    go_region_held3 (fun w' => w'.cell? ⟨w1.heap.size, 0, none⟩ = some (.int .u64 (A : Int)) ∧ w'.cell? ⟨w1.heap.size, 1, none⟩ = some (.int .u64 (C : Int)) ∧ w'.cell? ⟨w1.heap.size, 2, none⟩ = some (.int .u64 (m : Int))) (first | assumption | go_keep) (fail)
    rw [unhide HWM]
    obtain ⟨W2, hW2⟩ : ∃ W2, W2 = (W1.alloc (.cells #[.int .u64 (A : Int), .int .u64 (C : Int), .int .i64 (m : Int), .slice (some ⟨g, off + k, none⟩) (len - k) (cap - k)] 110)).drew := ⟨_, rfl⟩
    have HW2 := hide hW2
    have hb12 : Below W1.heap.size W1 W2 := by rw [hW2]; exact ((Below.refl _ _).alloc (Nat.le_refl _) _).drew
    have hKF : Blk4 W2 W1.heap.size 110 (.int .u64 (A : Int)) (.int .u64 (C : Int)) (.int .i64 (m : Int)) (.slice (some ⟨g, off + k, none⟩) (len - k) (cap - k)) := by rw [hW2]; exact heap_alloc_new W1 _
    have HB3' := hide ((unhide HB2).trans (hb12.mono (unhide HB2).size))
    have HKR' := hide ((unhide HK2).below hb12)
    have HM := hide (mayBe_any f (.slice (some ⟨g, off + k, none⟩) (len - k) (cap - k)) W2 (by rw [unhide HF]; exact (unhide HD).below (unhide HB3')))
    rw [unhide HMF] at HM
    rw [unhide HF] at HM
    unfold fv at HM
    have HKF' := hide hKF
    obtain ⟨k0, k1, k2, k3, _⟩ := hKF.cells
    have hWs : w.heap.size < W1.heap.size := World.block_lt_of_cell? W1 _ (unhide HK2).cells.1
    clear c0 c1 c2 d0 d1 d2 hn0 HK2 HB2 hb12 hKF hW2 HW1
    rw [← unhide HW2]
    go_wp2_with fail
    refine Calls.mono (unhide HM) ?_
    rintro e w3 ⟨rfl, b3⟩
    have HB3 := hide ((unhide HB3').trans (b3.mono (unhide HB3').size))
    have HKF := hide ((unhide HKF').below b3)
    have HKR := hide ((unhide HKR').below b3)
    clear b3 HB3' HKF' HKR' k0 k1 k2 k3 HM HW2
    obtain ⟨c0, c1, c2, c3, fz⟩ := (unhide HKF).cells
    have HCL := hide (clone_any _ data w3 ((unhide HD).below (unhide HB3)) hroom)
    clear fz
    go_wp2_with fail
    refine Calls.mono (unhide HCL) ?_
    rintro e w4 ⟨t, rfl, x4, b4⟩
    obtain ⟨p4, q4, l4, rfl, hl4⟩ := x4.row.shape
    have HX4 := hide x4
    have HLT : Hid (W1.heap.size < w3.heap.size) := World.block_lt_of_cell? w3 _ c0
    have HKF4 := hide ((unhide HKF).below b4)
    have HKR4 := hide ((unhide HKR).below b4)
    have HB4 := hide ((unhide HB3).trans (b4.mono (unhide HB3).size))
    clear c0 c1 c2 c3 HKF HKR x4 hl4 HCL HD
    obtain ⟨c0, c1, c2, c3, fz⟩ := (unhide HKF4).cells
    have f3 := fz 3
    clear fz
    obtain ⟨d0, d1, d2, d3, fz⟩ := (unhide HKR4).cells
    have g0 := fz 0
    have g1 := fz 1
    have g2 := fz 2
    have g3 := fz 3
    clear fz
    have hn : (W1.heap.size == w.heap.size) = false := by rw [beq_eq_false_iff_ne]; omega
    have hn1 : ¬ W1.heap.size = w.heap.size := by omega
    have hn2 : ¬ w.heap.size = W1.heap.size := by omega
    have HFD : Hid (f = ⟨A, C, (m : Int), data⟩) := HF
    go_wp2
    refine bodyPost_ret (v := .tuple #[.agg #[.int .u64 (A : Int), .int .u64 (C : Int), .int .i64 (m : Int), .slice p4 l4 q4], .int .i64 0]) (by simp [results, Tryz.results82, go_sem, *]) rfl ⟨.slice p4 l4 q4, by rw [unhide HFD]; rfl, ?_, ?_⟩
    · rw [unhide HFD]
      have h3 : W1.heap.size < w3.heap.size := unhide HLT
      refine Mine.base ?_ (unhide HB3).size
      exact ((((unhide HX4).set h3 _ _).set (by omega) _ _ |>.set (by omega) _ _).set (by omega) _ _).set (by omega) _ _
    · have := unhide HB4
      repeat' (first
          | assumption
          | exact unhide (by assumption)
          | refine Below.setCell ?_ (by first | exact Nat.le_refl _ | (simp; done) | (simp; omega) | omega) _
          | refine Below.alloc ?_ (by first | exact Nat.le_refl _ | (simp; done) | (simp; omega) | omega) _
          | refine Below.drew ?_)

theorem read_any (s : Value) (b : List UInt8) (w : World) (hs : Row w s b) (hroom : b.length ≤ 140737488351232) :
    Calls Tryz.prog 82 #[s] w fun e w' => ∃ t, e = .returned (.tuple #[fv (readF b).1 t, .int .i64 (readF b).2]) ∧ Mine w' w.heap.size t (readF b).1.data ∧ Below w.heap.size w w' := by
  have hR := readHead_any s b (rd0 w) (hs.below (rd0_below w)) hroom
  rw [read_head]
  have hho := head_ok b
  generalize headR b = R at *
  obtain ⟨⟨A, C, m⟩, n, e0⟩ := R
  simp only at hR hho ⊢
  by_cases z : e0 = 0
  · subst z
    obtain ⟨n0, n1, hA, hC⟩ := hho rfl
    rw [if_neg (by simp)]
    by_cases h32 : 32 < m
    · rw [if_pos h32]
      refine (read_32 s w A C m n hR h32).mono ?_
      rintro e w1 ⟨rfl, b1⟩
      exact ⟨.slice none 0 0, rfl, mine_nil _ _, b1⟩
    · rw [if_neg h32]
      have hne : b ≠ [] := by intro e; rw [e] at n1; simp at n1; omega
      obtain ⟨g, off, cap, rfl, hc1, hc2, hcell⟩ := hs.open hne
      obtain ⟨k, rfl⟩ := Int.eq_ofNat_of_zero_le (show 0 ≤ n by omega)
      rw [Int.toNat_natCast]
      have hl : (b.drop k).length = b.length - k := by simp
      have key : ∀ {e : Ending} {w' : World} {f f' : Fr} {e' : Int}, f = ⟨A, C, (m : Int), b.drop k⟩ → f' = (if mayF f = true then f else zeroF) → e' = (if mayF f = true then 0 else 11) →
          (∃ t, e = .returned (.tuple #[fv f' t, .int .i64 e']) ∧ Mine w' w.heap.size t f'.data ∧ Below w.heap.size w w') →
          ∃ t, e = .returned (.tuple #[fv (if mayF ⟨A, C, (m : Int), b.drop k⟩ = true then ((⟨A, C, (m : Int), b.drop k⟩ : Fr), (0 : Int)) else (zeroF, 11)).1 t, .int .i64 (if mayF ⟨A, C, (m : Int), b.drop k⟩ = true then ((⟨A, C, (m : Int), b.drop k⟩ : Fr), (0 : Int)) else (zeroF, 11)).2]) ∧
            Mine w' w.heap.size t (if mayF ⟨A, C, (m : Int), b.drop k⟩ = true then ((⟨A, C, (m : Int), b.drop k⟩ : Fr), (0 : Int)) else (zeroF, 11)).1.data ∧ Below w.heap.size w w' := by
        intro e w' f f' e' h1 h2 h3 h4
        subst h1
        subst h2 h3
        split at h4
        · rename_i hm; rw [if_pos hm]; exact h4
        · rename_i hm; rw [if_neg hm]; exact h4
      by_cases hcz : cap = k
      · refine (read_eq g off cap b.length k w A C m (b.drop k) hR h32 (by omega) hc1 hc2 hcz ?_ (by omega) _ _ _ rfl rfl rfl).mono (fun e w' h => key rfl rfl rfl h)
        have e0 : b.drop k = [] := List.eq_nil_of_length_eq_zero (by omega)
        rw [e0]
        exact ⟨_, 0, rfl, Nat.le_refl _, by unfold maxLen; omega, fun _ => rfl, Or.inl rfl⟩
      · refine (read_lt g off cap b.length k w A C m (b.drop k) hR h32 (by omega) hc1 hc2 (by omega) ?_ (by omega) _ _ _ rfl rfl rfl).mono (fun e w' h => key rfl rfl rfl h)
        refine ⟨_, cap - k, by rw [hl], by omega, by unfold maxLen at *; omega, by simp, Or.inr ⟨g, off + k, rfl, fun j hj => ?_⟩⟩
        rw [Nat.add_assoc, hcell (k + j) (by omega)]
        simp
  · rw [if_pos z]
    refine (read_err s w A C m n e0 hR z).mono ?_
    rintro e w1 ⟨rfl, b1⟩
    exact ⟨.slice none 0 0, rfl, mine_nil _ _, b1⟩

end Go.Proofs.YtpkpjmebkikgdaaGreat

/- The document's own answers of layer 6: May, Count, Write, Frames. -/
namespace Go.Proofs.YtpkpjmebkikgdaaGreat
open Go.RowKit

theorem Tryz.info110 : (Tryz.prog.info? 110).map (fun i => (i.zero, i.size, i.bytes)) = some (some (.agg #[.int .u64 0, .int .u64 0, .int .i64 0, .slice none 0 0]), 4, 48) := by kernel_rfl

set_option maxRecDepth 20000 in
theorem rcount_any (n : Int) (w : World) (h1 : -9223372036854775808 ≤ n) (h2 : n ≤ 9223372036854775807) :
    Calls Tryz.prog 51 #[.int .i64 n] w fun e w' => e = .returned (.int .i64 (countN n)) ∧ w' = w := by
  unfold countN
  by_cases h0 : n < 0
  · rw [if_pos h0]
    go_enter Tryz.func51, Tryz.ntmps51
    go_wp2
    go_ret
    exact ⟨rfl, rfl⟩
  · rw [if_neg h0]
    by_cases h3 : n = 0
    · subst h3
      rw [if_pos rfl]
      go_enter Tryz.func51, Tryz.ntmps51
      go_wp2
      go_ret
      exact ⟨rfl, rfl⟩
    · rw [if_neg h3]
      go_enter Tryz.func51, Tryz.ntmps51
      go_wp2
      go_ret
      exact ⟨rfl, rfl⟩

end Go.Proofs.YtpkpjmebkikgdaaGreat

/- The document's own answers of layer 6: Frames, Cut. -/
namespace Go.Proofs.YtpkpjmebkikgdaaGreat
open Go.RowKit

theorem frames_take (A C : Nat) (r : List UInt8) (k : Nat) (h : (k : Int) < countN r.length) : (framesN A C r).take (k + 1) = (framesN A C r).take k ++ [⟨A, C, countN r.length, partN r k⟩] := by
  have hl := length_frames A C r
  rw [List.take_succ_eq_append_getElem (by omega), frames_get]
theorem part_eq (r : List UInt8) (k h : Nat) (h1 : h = min r.length ((k + 1) * 440)) : (r.drop (k * 440)).take (h - k * 440) = partN r k := by
  unfold partN
  rcases Nat.le_total r.length ((k + 1) * 440) with h2 | h2
  · rw [List.take_of_length_le (by simp; omega), List.take_of_length_le (by simp; omega)]
  · congr 1
    omega

end Go.Proofs.YtpkpjmebkikgdaaGreat

/- The document's own answers of layer 6: Cut. -/
namespace Go.Proofs.YtpkpjmebkikgdaaGreat
open Go.RowKit

/-- Texts in a row of the call's own, to which texts are appended. -/
def ROwn (w : World) (base : Nat) (v : Value) (ls : List (List UInt8)) : Prop :=
  ∃ vs : List Value, vs.length = ls.length ∧ w.ownsRow base 27 1 v ls.length vs ∧ ∀ j (h : j < ls.length), ∃ t, vs[j]? = some t ∧ Row w t ls[j] ∧ ∀ b off n c, t = .slice (some ⟨b, off, none⟩) n c → ls[j] ≠ [] → v.ownBlock ≠ some b ∧ base ≤ b
theorem ROwn.nil (w : World) (base : Nat) : ROwn w base (.slice none 0 0) [] := ⟨[], rfl, World.ownsRow_nil _ _ _ _, fun j h => by simp at h⟩
theorem ROwn.below {w w' : World} {base : Nat} {v : Value} {ls : List (List UInt8)} (h : ROwn w base v ls) (hb : Below w.heap.size w w') : ROwn w' base v ls := by
  obtain ⟨vs, h1, h2, h3⟩ := h
  exact ⟨vs, h1, owns_below4 h2 hb, fun j hj => let ⟨t, a, b, c⟩ := h3 j hj; ⟨t, a, b.below hb, c⟩⟩
theorem ROwn.base {w : World} {base base' : Nat} {v : Value} {ls : List (List UInt8)} (h : ROwn w base v ls) (hb : base' ≤ base) : ROwn w base' v ls := by
  obtain ⟨vs, h1, h2, h3⟩ := h
  exact ⟨vs, h1, owns_base h2 hb, fun j hj => let ⟨t, a, b, c⟩ := h3 j hj; ⟨t, a, b, fun b off n c' e hne => ⟨(c b off n c' e hne).1, Nat.le_trans hb (c b off n c' e hne).2⟩⟩⟩
theorem ROwn.keep {F : Nat → Prop} {w w' : World} {base : Nat} {v : Value} {ls : List (List UInt8)} (h : ROwn w base v ls) (hk : Keep F w w') (hF : ∀ b, F b → b < base) : ROwn w' base v ls := by
  obtain ⟨vs, h1, h2, h3⟩ := h
  refine ⟨vs, h1, ⟨h2.1, ?_⟩, fun j hj => ?_⟩
  · rcases h2.2 with h2 | ⟨g, cap, cur, hv, hg, hh, r⟩
    · exact Or.inl h2
    · exact Or.inr ⟨g, cap, cur, hv, hg, (hk.block g (Array.getElem?_eq_some_iff.1 hh).1 (fun hf => by have := hF g hf; omega)).trans hh, r⟩
  · obtain ⟨t, a, b, c⟩ := h3 j hj
    exact ⟨t, a, b.keep hk (fun b' off c' e hne hf => by have := hF b' hf; have := (c b' off _ c' e hne).2; omega), c⟩
theorem ROwn.rows {w : World} {base : Nat} {v : Value} {ls : List (List UInt8)} (h : ROwn w base v ls) : Rows2 w v ls := by
  obtain ⟨vs, h1, h2, h3⟩ := h
  rcases h2.2 with ⟨rfl, e⟩ | ⟨g, cap, cur, rfl, hg, hh, k1, k2, k3, k4⟩
  · have : ls = [] := List.eq_nil_of_length_eq_zero e
    subst this
    exact Rows2.nil w
  · refine ⟨_, cap, rfl, k1, k2, by simp, Or.inr ⟨g, 0, rfl, fun j hj => ?_⟩⟩
    obtain ⟨t, a, b, _⟩ := h3 j hj
    refine ⟨t, ?_, b⟩
    rw [Nat.zero_add, cell_of_row w g j cur _ (0, 0) hh]
    rw [← k4] at a
    obtain ⟨hj2, rfl⟩ := List.getElem?_eq_some_iff.1 a
    simp only [List.length_take, Array.length_toList] at hj2
    rw [List.getElem_take, Array.getElem_toList]
    exact Array.getElem?_eq_getElem (by omega)
theorem ROwn.more {w1 W w2 : World} {base : Nat} {v v' t : Value} {ls : List (List UInt8)} {bs : List UInt8} (h : ROwn w1 base v ls) (hW : Below w1.heap.size w1 W) (hr : Row w1 t bs)
    (hap : ∀ b off n c, t = .slice (some ⟨b, off, none⟩) n c → bs ≠ [] → v.ownBlock ≠ some b ∧ base ≤ b)
    (hg : W.grownBy w2 v.ownBlock) (hv : v'.ownBlock = v.ownBlock ∨ v'.ownBlock = some W.heap.size) (hown : ∀ vs, w1.ownsRow base 27 1 v ls.length vs → w2.ownsRow base 27 1 v' (ls.length + 1) (vs ++ [t])) : ROwn w2 base v' (ls ++ [bs]) := by
  obtain ⟨vs, h1, h2, h3⟩ := h
  refine ⟨vs ++ [t], by simp [h1], by simpa using hown vs h2, fun j hj => ?_⟩
  have key : ∀ (t : Value) (bs : List UInt8), Row w1 t bs → (∀ b off n c, t = .slice (some ⟨b, off, none⟩) n c → bs ≠ [] → v.ownBlock ≠ some b ∧ base ≤ b) → Row w2 t bs ∧ ∀ b off n c, t = .slice (some ⟨b, off, none⟩) n c → bs ≠ [] → v'.ownBlock ≠ some b ∧ base ≤ b := by
    intro t bs hr ha
    refine ⟨(hr.below hW).grown hg (fun b off n c e hne => (ha b off n c e hne).1), fun b off n c e hne => ⟨?_, (ha b off n c e hne).2⟩⟩
    rcases hv with hv | hv
    · rw [hv]; exact (ha b off n c e hne).1
    · rw [hv]
      have := row_block_lt hr e hne
      have := hW.size
      intro e
      simp only [Option.some.injEq] at e
      omega
  by_cases hjl : j < ls.length
  · obtain ⟨t', a, b, c⟩ := h3 j hjl
    have e : (ls ++ [bs])[j] = ls[j] := List.getElem_append_left hjl
    rw [e]
    exact ⟨t', by rw [List.getElem?_append_left (by omega)]; exact a, key t' _ b c⟩
  · have hj' : j = ls.length := by simp at hj; omega
    subst hj'
    have e : (ls ++ [bs])[ls.length] = bs := by simp
    rw [e]
    exact ⟨t, by rw [← h1]; simp, key t bs hr hap⟩

end Go.Proofs.YtpkpjmebkikgdaaGreat

/- Texts in a row to which texts are appended, with all the memory that they lie in; nothing here speaks of what the program does. -/
namespace Go.Proofs.YtpkpjmebkikgdaaGreat
open Go.RowKit

/-- Texts in a row; H is all the memory of the row and of the texts. -/
def RecsAt (H : Nat → Prop) (w : World) (v : Value) (ls : List (List UInt8)) : Prop :=
  (∃ vs : List Value, vs.length = ls.length ∧ w.ownsRow 0 27 1 v ls.length vs ∧ ∀ j (h : j < ls.length), ∃ t, vs[j]? = some t ∧ Row w t ls[j] ∧ ∀ b off n c, t = .slice (some ⟨b, off, none⟩) n c → ls[j] ≠ [] → v.ownBlock ≠ some b ∧ H b) ∧
  (∀ k, v.ownBlock = some k → H k) ∧ ∀ k, H k → k < w.heap.size

theorem RecsAt.nil (w : World) : RecsAt (fun _ => False) w (.slice none 0 0) [] := ⟨⟨[], rfl, World.ownsRow_nil _ _ _ _, fun j h => by simp at h⟩, (fun k hk => by cases hk), fun k hk => hk.elim⟩
theorem RecsAt.keep {F H : Nat → Prop} {w w' : World} {v : Value} {ls : List (List UInt8)} (h : RecsAt H w v ls) (hk : Keep F w w') (ha : ∀ k, H k → ¬ F k) : RecsAt H w' v ls := by
  obtain ⟨⟨vs, h1, h2, h3⟩, h4, h5⟩ := h
  refine ⟨⟨vs, h1, ⟨h2.1, ?_⟩, fun j hj => ?_⟩, h4, fun k hH => Nat.lt_of_lt_of_le (h5 k hH) hk.size⟩
  · rcases h2.2 with h2 | ⟨g, cap, cur, rfl, hg, hh, r⟩
    · exact Or.inl h2
    · exact Or.inr ⟨g, cap, cur, rfl, hg, (hk.block g (Array.getElem?_eq_some_iff.1 hh).1 (ha g (h4 g rfl))).trans hh, r⟩
  · obtain ⟨t, a, b, c⟩ := h3 j hj
    exact ⟨t, a, b.keep hk (fun b' off c' e hne => ha b' (c b' off _ c' e hne).2), c⟩
theorem RecsAt.below {H : Nat → Prop} {w w' : World} {v : Value} {ls : List (List UInt8)} (h : RecsAt H w v ls) (hb : Below w.heap.size w w') : RecsAt H w' v ls :=
  h.keep (Keep.of_below (F := fun _ => False) hb) (fun _ _ hf => hf)
theorem RecsAt.weak {H H' : Nat → Prop} {w : World} {v : Value} {ls : List (List UInt8)} (h : RecsAt H w v ls) (hs : ∀ k, H k → H' k) (hl : ∀ k, H' k → k < w.heap.size) : RecsAt H' w v ls := by
  obtain ⟨⟨vs, h1, h2, h3⟩, h4, _⟩ := h
  exact ⟨⟨vs, h1, h2, fun j hj => let ⟨t, a, b, c⟩ := h3 j hj; ⟨t, a, b, fun b' off n c' e hne => ⟨(c b' off n c' e hne).1, hs _ (c b' off n c' e hne).2⟩⟩⟩, fun k hk => hs k (h4 k hk), hl⟩
theorem RecsAt.rows {H : Nat → Prop} {w : World} {v : Value} {ls : List (List UInt8)} (h : RecsAt H w v ls) : Rows2 w v ls := by
  obtain ⟨⟨vs, h1, h2, h3⟩, _⟩ := h
  exact ROwn.rows (base := 0) ⟨vs, h1, h2, fun j hj => let ⟨t, a, b, c⟩ := h3 j hj; ⟨t, a, b, fun b' off n c' e hne => ⟨(c b' off n c' e hne).1, Nat.zero_le _⟩⟩⟩
theorem RecsAt.owns {H : Nat → Prop} {w : World} {v : Value} {ls : List (List UInt8)} (h : RecsAt H w v ls) : ∃ vs, w.ownsRow 0 27 1 v ls.length vs := by
  obtain ⟨⟨vs, h1, h2, h3⟩, _⟩ := h
  exact ⟨vs, h2⟩
theorem owns_unique {w : World} {base e sz n : Nat} {v : Value} {xs ys : List Value} (h : w.ownsRow base e sz v n xs) (h' : w.ownsRow base e sz v n ys) : xs = ys := by
  have hl := h.1
  have hl' := h'.1
  rcases h.2 with ⟨_, e2⟩ | ⟨g, cap, cur, e1, _, hh, _, _, _, e6⟩
  · subst e2
    rw [Nat.zero_mul] at hl hl'
    rw [List.eq_nil_of_length_eq_zero hl, List.eq_nil_of_length_eq_zero hl']
  · rcases h'.2 with ⟨e1', _⟩ | ⟨g', cap', cur', e1', _, hh', _, _, _, e6'⟩
    · rw [e1] at e1'; cases e1'
    · rw [e1] at e1'
      simp only [Value.slice.injEq, Option.some.injEq, Addr.mk.injEq, and_true, true_and] at e1'
      obtain ⟨rfl, rfl⟩ := e1'
      rw [hh] at hh'
      cases hh'
      rw [← e6, ← e6']
/-- One text more. -/
theorem RecsAt.more {H : Nat → Prop} {w1 W w2 : World} {v v' t : Value} {ls : List (List UInt8)} {bs : List UInt8} {base : Nat} (h : RecsAt H w1 v ls) (hW : Below w1.heap.size w1 W) (hm : Mine w1 base t bs) (hbase : ∀ k, H k → k < base) (hbw : base ≤ w1.heap.size)
    (hg : W.grownBy w2 v.ownBlock) (hv : v'.ownBlock = v.ownBlock ∨ v'.ownBlock = some W.heap.size) (hown : ∀ vs, w1.ownsRow 0 27 1 v ls.length vs → w2.ownsRow 0 27 1 v' (ls.length + 1) (vs ++ [t])) :
    ∃ H', RecsAt H' w2 v' (ls ++ [bs]) ∧ ∀ k, H' k → H k ∨ base ≤ k := by
  obtain ⟨⟨vs, h1, h2, h3⟩, h4, h5⟩ := h
  have hmb : ∀ b off n c, t = .slice (some ⟨b, off, none⟩) n c → bs ≠ [] → base ≤ b ∧ b < w1.heap.size := by
    intro b off n c e hne
    refine ⟨?_, row_block_lt hm.row e hne⟩
    rcases hm.2 with h0 | ⟨g, off', cap, e', cur, ht, hg, _⟩
    · exact absurd h0 hne
    · rw [ht] at e
      simp only [Value.slice.injEq, Option.some.injEq, Addr.mk.injEq, and_true] at e
      omega
  have hR := ROwn.more (base := 0) (w1 := w1) (W := W) (w2 := w2) (v := v) (v' := v') (t := t) (ls := ls) (bs := bs) ⟨vs, h1, h2, fun j hj => let ⟨t, a, b, c⟩ := h3 j hj; ⟨t, a, b, fun b' off n c' e hne => ⟨(c b' off n c' e hne).1, Nat.zero_le _⟩⟩⟩ hW hm.row
    (fun b off n c e hne => ⟨fun hx => by have := hbase b (h4 b hx); have := (hmb b off n c e hne).1; omega, Nat.zero_le _⟩) hg hv hown
  obtain ⟨vs', r1, r2, r3⟩ := hR
  have hst : vs'.length = (ls ++ [bs]).length := r1
  have hw12 : w1.heap.size ≤ w2.heap.size := Nat.le_trans hW.size hg.size
  -- the cells are the old ones and the new one
  have hvs : vs' = vs ++ [t] := by
    have h6 := hown vs h2
    rcases r2.2 with ⟨e1, e2⟩ | ⟨g, cap, cur, e1, _, hh, _, _, _, e6⟩
    · simp at e2
    · rcases h6.2 with ⟨e1', _⟩ | ⟨g', cap', cur', e1', _, hh', _, _, _, e6'⟩
      · rw [e1] at e1'; cases e1'
      · rw [e1] at e1'
        simp only [Value.slice.injEq, Option.some.injEq, Addr.mk.injEq, and_true] at e1'
        obtain ⟨rfl, _, rfl⟩ := e1'
        rw [hh] at hh'
        cases hh'
        rw [← e6, ← e6']
        simp
  refine ⟨fun k => H k ∨ v'.ownBlock = some k ∨ ∃ off n c, t = .slice (some ⟨k, off, none⟩) n c ∧ bs ≠ [], ⟨⟨vs', r1, r2, fun j hj => ?_⟩, fun k hk => Or.inr (Or.inl hk), fun k hk => ?_⟩, fun k hk => ?_⟩
  · obtain ⟨t', a, b, c⟩ := r3 j hj
    refine ⟨t', a, b, fun b' off n c' e hne => ⟨(c b' off n c' e hne).1, ?_⟩⟩
    by_cases hjl : j < ls.length
    · obtain ⟨t'', a', _, c''⟩ := h3 j hjl
      have e1 : (ls ++ [bs])[j] = ls[j] := List.getElem_append_left hjl
      rw [e1] at hne
      rw [hvs, List.getElem?_append_left (by omega), a'] at a
      cases a
      exact Or.inl (c'' b' off n c' e hne).2
    · have hj' : j = ls.length := by simp at hj; omega
      subst hj'
      have e1 : (ls ++ [bs])[ls.length] = bs := by simp
      rw [e1] at hne
      rw [hvs, ← h1] at a
      simp only [List.getElem?_append_right (Nat.le_refl _), Nat.sub_self, List.getElem?_cons_zero, Option.some.injEq] at a
      subst a
      exact Or.inr (Or.inr ⟨off, n, c', e, hne⟩)
  · rcases hk with hk | hk | ⟨off, n, c, e, hne⟩
    · exact Nat.lt_of_lt_of_le (h5 k hk) hw12
    · rcases r2.2 with ⟨e1, _⟩ | ⟨g, cap, cur, e1, _, hh, _⟩
      · rw [e1] at hk; cases hk
      · rw [e1] at hk; cases hk; exact (Array.getElem?_eq_some_iff.1 hh).1
    · exact Nat.lt_of_lt_of_le (hmb k off n c e hne).2 hw12
  · rcases hk with hk | hk | ⟨off, n, c, e, hne⟩
    · exact Or.inl hk
    · rcases hv with hv | hv
      · exact Or.inl (h4 k (hv ▸ hk))
      · rw [hv] at hk
        simp only [Option.some.injEq] at hk
        right
        have h6 := hW.size
        omega
    · exact Or.inr (hmb k off n c e hne).1
end Go.Proofs.YtpkpjmebkikgdaaGreat
