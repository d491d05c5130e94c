/- Texts of ours, one behind the other: FrOwn2, FrRef5, FrRef1, FrOwn3, FrRef6, FrRef6b, FrRef2. -/
import Derived.Test.YtpkpjmebkikgdaaG4
import Derived.Test.YtpkpjmebkikgdaaG7
import Derived.Test.YtpkpjmebkikgdaaG11
import Derived.Test.YtpkpjmebkikgdaaG12
import Derived.Deep.RegionHeld3
/- What package frame does: readHead, Read; and bytes.Clone. -/
namespace Go.Proofs.Ytpkpjmebkikgdaa
open Go.RowKit

set_option maxRecDepth 20000 in
theorem clone_any (s : Value) (bs : List UInt8) (w : World) (hs : Row w s bs) (hroom : bs.length ≤ 140737488351232) :
    Calls Try.prog 80 #[s] w fun e w' => ∃ t, e = .returned t ∧ Mine w' w.heap.size t bs ∧ Below w.heap.size w w' := by
  obtain ⟨i0, hi, hz0, hz1, hz2⟩ := info_parts Try.info5
  have HS := hide hs
  obtain ⟨q, c, rfl, c1, c2, c3, _⟩ := hs
  cases q with
  | none =>
    have hc := c3 rfl
    subst hc
    have hb : bs = [] := List.eq_nil_of_length_eq_zero (by omega)
    subst hb
    have he : ∀ w : World, (binOp .eql 31 (.slice none 0 0) (.slice none 0 0)).run Try.prog w = .ok (.bool true) w := fun _ => rfl
    go_enter Try.func80, Try.ntmps80
    go_wp2
    go_ret
    exact ⟨_, rfl, mine_nil _ _, Below.refl _ _⟩
  | some ad =>
    have he : ∀ w : World, (binOp .eql 31 (.slice (some ad) bs.length c) (.slice none 0 0)).run Try.prog w = .ok (.bool false) w := fun _ => rfl
    have hb0 : Below w.heap.size w (w.alloc (.cells #[] 5)) := (Below.refl _ _).alloc (Nat.le_refl _) _
    have hown : (w.alloc (.cells #[] 5)).ownsRow w.heap.size 5 1 (.slice (some ⟨w.heap.size, 0, none⟩) 0 0) 0 [] :=
      ⟨rfl, Or.inr ⟨w.heap.size, 0, #[], rfl, Nat.le_refl _, heap_alloc_new _ _, Nat.le_refl _, by unfold maxLen; omega, rfl, rfl⟩⟩
    have HS0 := hide ((unhide HS).below hb0)
    clear HS
    go_enter Try.func80, Try.ntmps80
    go_wp2_with (at_builtin; refine wpList_append_row rfl _ _ 31 rfl w.heap.size 5 i0 (.int .u8 0) Try.underlying31 hi hz0 hz1 hz2 rfl _ 0 [] rfl hown _ bs rfl (unhide HS0) (by omega) (by simp) ?_)
    intro v' w2 hown2 hgrow
    have hb2 : Below w.heap.size w w2 := hb0.grown hgrow hb0.size (fun j hj => by cases hj; exact Nat.le_refl _)
    clear hgrow
    go_wp2
    go_ret
    exact ⟨_, rfl, mine_of_owns (by simpa using hown2), hb2⟩

/-- What readHead answers: the three numbers, the place behind them, the error. -/
def headR (b : List UInt8) : (Nat × Nat × Nat) × Int × Int :=
  if readE b 0 ≠ 0 then ((0, 0, 0), 0, readE b 0)
  else if readE b (readN b 0) ≠ 0 then ((0, 0, 0), 0, readE b (readN b 0))
  else if readE b (readN b (readN b 0)) ≠ 0 then ((0, 0, 0), 0, readE b (readN b (readN b 0)))
  else ((readV b 0, readV b (readN b 0), readV b (readN b (readN b 0))), readN b (readN b (readN b 0)), 0)

/-- Three numbers in a block. -/
def At3 (w : World) (g : Nat) (t : TypeId) (x y z : Value) : Prop := w.heap[g]? = some (.cells #[x, y, z] t (0, 0))
theorem At3.below {w w' : World} {g t : Nat} {x y z : Value} (h : At3 w g t x y z) (hb : Below w.heap.size w w') : At3 w' g t x y z := (hb.block g (Array.getElem?_eq_some_iff.1 h).1).trans h
theorem At3.cells {w : World} {g t : Nat} {x y z : Value} (h : At3 w g t x y z) : w.cell? ⟨g, 0, none⟩ = some x ∧ w.cell? ⟨g, 1, none⟩ = some y ∧ w.cell? ⟨g, 2, none⟩ = some z ∧ ∀ j, w.frozen? ⟨g, j, none⟩ = false := by
  refine ⟨?_, ?_, ?_, fun j => frozen_of_block h⟩ <;> (rw [cell_of_row _ _ _ _ _ (0, 0) h]; rfl)
theorem At3.set0 {w : World} {g t : Nat} {x y z : Value} (h : At3 w g t x y z) (v : Value) : At3 (w.setCell ⟨g, 0, none⟩ v) g t v y z := heap_setCell_same w g 0 _ _ _ h
theorem At3.set1 {w : World} {g t : Nat} {x y z : Value} (h : At3 w g t x y z) (v : Value) : At3 (w.setCell ⟨g, 1, none⟩ v) g t x v z := heap_setCell_same w g 1 _ _ _ h
theorem At3.set2 {w : World} {g t : Nat} {x y z : Value} (h : At3 w g t x y z) (v : Value) : At3 (w.setCell ⟨g, 2, none⟩ v) g t x y v := heap_setCell_same w g 2 _ _ _ h
theorem At3.other {w : World} {g t k : Nat} {x y z : Value} (h : At3 w g t x y z) (j : Nat) (v : Value) (hne : g ≠ k) : At3 (w.setCell ⟨k, j, none⟩ v) g t x y z := by
  unfold At3
  unfold At3 at h
  rw [← h]
  exact Below.heap_setCell _ _ _ _ hne

set_option maxRecDepth 20000 in
set_option maxHeartbeats 1000000 in
theorem readHead_any (s : Value) (b : List UInt8) (w : World) (hs : Row w s b) (hroom : b.length ≤ 140737488351232) :
    Calls Try.prog 79 #[s] w fun e w' => e = .returned (.tuple #[.agg #[.int .u64 ((headR b).1.1 : Nat), .int .u64 ((headR b).1.2.1 : Nat), .int .u64 ((headR b).1.2.2 : Nat)], .int .i64 (headR b).2.1, .int .i64 (headR b).2.2]) ∧ Below w.heap.size w w' := by
  obtain ⟨W0, hW0⟩ : ∃ W0, W0 = (w.alloc (.cells #[.int .u64 0, .int .u64 0, .int .u64 0] 140)).alloc (.cells #[.int .u64 0, .int .u64 0, .int .u64 0] 140) := ⟨_, rfl⟩
  have hb0 : Below w.heap.size w W0 := by rw [hW0]; exact ((Below.refl _ _).alloc (Nat.le_refl _) _).alloc (by simp) _
  have HR := hide (fun (a : Int) w' (h : Below w.heap.size w w') => readvar_any s b a w' (hs.below h) hroom)
  have k0 : At3 W0 w.heap.size 140 (.int .u64 0) (.int .u64 0) (.int .u64 0) := by
    rw [hW0]
    exact At3.below (heap_alloc_new w _) ((Below.refl _ _).alloc (Nat.le_refl _) _)
  have k1 : At3 W0 (w.heap.size + 1) 140 (.int .u64 0) (.int .u64 0) (.int .u64 0) := by
    rw [hW0]
    have := heap_alloc_new (w.alloc (.cells #[.int .u64 0, .int .u64 0, .int .u64 0] 140)) (.cells #[.int .u64 0, .int .u64 0, .int .u64 0] 140)
    simpa [At3] using this
  unfold headR
  have HW0 := hide hW0
  have HB0 := hide hb0
  have HK0 := hide k0
  have HK1 := hide k1
  clear hW0 hb0 k0 k1 hs hroom
  obtain ⟨e1, he1⟩ : ∃ e1, Hid (readE b 0 = e1) := ⟨_, rfl⟩
  obtain ⟨v1, hv1⟩ : ∃ v1, Hid (readV b 0 = v1) := ⟨_, rfl⟩
  obtain ⟨n1, hn1⟩ : ∃ n1, Hid (readN b 0 = n1) := ⟨_, rfl⟩
  rw [unhide hn1, unhide he1, unhide hv1]
  obtain ⟨e2, he2⟩ : ∃ e2, Hid (readE b n1 = e2) := ⟨_, rfl⟩
  obtain ⟨v2, hv2⟩ : ∃ v2, Hid (readV b n1 = v2) := ⟨_, rfl⟩
  obtain ⟨n2, hn2⟩ : ∃ n2, Hid (readN b n1 = n2) := ⟨_, rfl⟩
  rw [unhide hn2, unhide he2, unhide hv2]
  obtain ⟨e3, he3⟩ : ∃ e3, Hid (readE b n2 = e3) := ⟨_, rfl⟩
  obtain ⟨v3, hv3⟩ : ∃ v3, Hid (readV b n2 = v3) := ⟨_, rfl⟩
  obtain ⟨n3, hn3⟩ : ∃ n3, Hid (readN b n2 = n3) := ⟨_, rfl⟩
  rw [unhide hn3, unhide he3, unhide hv3]
  by_cases z1 : e1 = 0
  · subst z1
    rw [if_neg (by simp)]
    by_cases z2 : e2 = 0
    · subst z2
      rw [if_neg (by simp)]
      by_cases z3 : e3 = 0
      · subst z3
        rw [if_neg (by simp)]
        go_enter Try.func79, Try.ntmps79
        go_wp2_with fail
        rw [← unhide HW0]
        refine wp_loop_rounds 4 ?_
        rw [rounds_succ]
        go_wp2_with fail
        refine Calls.mono (unhide HR _ _ (unhide HB0)) ?_
        rintro e w1 ⟨rfl, b1⟩
        rw [unhide he1, unhide hv1, unhide hn1]
        have HB1 := hide ((unhide HB0).trans (b1.mono (unhide HB0).size))
        have HK01 := hide ((unhide HK0).below b1)
        have HK11 := hide ((unhide HK1).below b1)
        clear b1 HB0 HK0 HK1 HW0
        obtain ⟨c0, c1, c2, fz⟩ := (unhide HK11).cells
        have f0 := fz 0
        have HKs := hide ((unhide HK11).set0 (.int .u64 (v1 : Nat)))
        have HKo := hide ((unhide HK01).other 0 (.int .u64 (v1 : Nat)) (k := w.heap.size + 1) (by omega))
        have HBs := hide ((unhide HB1).setCell (p := ⟨w.heap.size + 1, 0, none⟩) (by simp) (.int .u64 (v1 : Nat)))
        clear fz HK11 HK01 HB1
        go_wp2_with fail
        rw [rounds_succ]
        go_wp2_with fail
        generalize w1.setCell ⟨w.heap.size + 1, 0, none⟩ (.int .u64 (v1 : Nat)) = x1 at *
        clear c0 c1 c2 f0
        refine Calls.mono (unhide HR _ _ (unhide HBs)) ?_
        rintro e w2 ⟨rfl, b1⟩
        rw [unhide he2, unhide hv2, unhide hn2]
        have HB2 := hide ((unhide HBs).trans (b1.mono (unhide HBs).size))
        have HK02 := hide ((unhide HKo).below b1)
        have HK12 := hide ((unhide HKs).below b1)
        clear b1 HBs HKs HKo
        obtain ⟨c0, c1, c2, fz⟩ := (unhide HK12).cells
        have f0 := fz 1
        have HKs := hide ((unhide HK12).set1 (.int .u64 (v2 : Nat)))
        have HKo := hide ((unhide HK02).other 1 (.int .u64 (v2 : Nat)) (k := w.heap.size + 1) (by omega))
        have HBs := hide ((unhide HB2).setCell (p := ⟨w.heap.size + 1, 1, none⟩) (by simp) (.int .u64 (v2 : Nat)))
        clear fz HK12 HK02 HB2
        go_wp2_with fail
        rw [rounds_succ]
        go_wp2_with fail
        generalize w2.setCell ⟨w.heap.size + 1, 1, none⟩ (.int .u64 (v2 : Nat)) = x2 at *
        clear c0 c1 c2 f0
        refine Calls.mono (unhide HR _ _ (unhide HBs)) ?_
        rintro e w3 ⟨rfl, b1⟩
        rw [unhide he3, unhide hv3, unhide hn3]
        have HB3 := hide ((unhide HBs).trans (b1.mono (unhide HBs).size))
        have HK03 := hide ((unhide HKo).below b1)
        have HK13 := hide ((unhide HKs).below b1)
        clear b1 HBs HKs HKo
        obtain ⟨c0, c1, c2, fz⟩ := (unhide HK13).cells
        have f0 := fz 2
        have HKs := hide ((unhide HK13).set2 (.int .u64 (v3 : Nat)))
        have HKo := hide ((unhide HK03).other 2 (.int .u64 (v3 : Nat)) (k := w.heap.size + 1) (by omega))
        have HBs := hide ((unhide HB3).setCell (p := ⟨w.heap.size + 1, 2, none⟩) (by simp) (.int .u64 (v3 : Nat)))
        clear fz HK13 HK03 HB3
        go_wp2_with fail
        rw [rounds_succ]
        skip
        generalize w3.setCell ⟨w.heap.size + 1, 2, none⟩ (.int .u64 (v3 : Nat)) = x3 at *
        clear c0 c1 c2 f0
        obtain ⟨c0, c1, c2, _⟩ := (unhide HKs).cells
        obtain ⟨d0, d1, d2, fz⟩ := (unhide HKo).cells
        have f0 := fz 0
        have f1 := fz 1
        have f2 := fz 2
        clear fz
        go_wp2
        refine bodyPost_ret (v := .tuple #[.agg #[.int .u64 (v1 : Nat), .int .u64 (v2 : Nat), .int .u64 (v3 : Nat)], .int .i64 n3, .int .i64 0]) (by simp [results, Try.results79, go_sem, *]) rfl ⟨rfl, ?_⟩
        exact ((unhide HBs).setCell (p := ⟨w.heap.size, 0, none⟩) (Nat.le_refl _) _).setCell (p := ⟨w.heap.size, 1, none⟩) (Nat.le_refl _) _ |>.setCell (p := ⟨w.heap.size, 2, none⟩) (Nat.le_refl _) _
      · rw [if_pos z3]
        have z3' : (e3 == 0) = false := by simp [z3]
        go_enter Try.func79, Try.ntmps79
        go_wp2_with fail
        rw [← unhide HW0]
        refine wp_loop_rounds 4 ?_
        rw [rounds_succ]
        go_wp2_with fail
        refine Calls.mono (unhide HR _ _ (unhide HB0)) ?_
        rintro e w1 ⟨rfl, b1⟩
        rw [unhide he1, unhide hv1, unhide hn1]
        have HB1 := hide ((unhide HB0).trans (b1.mono (unhide HB0).size))
        have HK01 := hide ((unhide HK0).below b1)
        have HK11 := hide ((unhide HK1).below b1)
        clear b1 HB0 HK0 HK1 HW0
        obtain ⟨c0, c1, c2, fz⟩ := (unhide HK11).cells
        have f0 := fz 0
        have HKs := hide ((unhide HK11).set0 (.int .u64 (v1 : Nat)))
        have HKo := hide ((unhide HK01).other 0 (.int .u64 (v1 : Nat)) (k := w.heap.size + 1) (by omega))
        have HBs := hide ((unhide HB1).setCell (p := ⟨w.heap.size + 1, 0, none⟩) (by simp) (.int .u64 (v1 : Nat)))
        clear fz HK11 HK01 HB1
        go_wp2_with fail
        rw [rounds_succ]
        go_wp2_with fail
        generalize w1.setCell ⟨w.heap.size + 1, 0, none⟩ (.int .u64 (v1 : Nat)) = x1 at *
        clear c0 c1 c2 f0
        refine Calls.mono (unhide HR _ _ (unhide HBs)) ?_
        rintro e w2 ⟨rfl, b1⟩
        rw [unhide he2, unhide hv2, unhide hn2]
        have HB2 := hide ((unhide HBs).trans (b1.mono (unhide HBs).size))
        have HK02 := hide ((unhide HKo).below b1)
        have HK12 := hide ((unhide HKs).below b1)
        clear b1 HBs HKs HKo
        obtain ⟨c0, c1, c2, fz⟩ := (unhide HK12).cells
        have f0 := fz 1
        have HKs := hide ((unhide HK12).set1 (.int .u64 (v2 : Nat)))
        have HKo := hide ((unhide HK02).other 1 (.int .u64 (v2 : Nat)) (k := w.heap.size + 1) (by omega))
        have HBs := hide ((unhide HB2).setCell (p := ⟨w.heap.size + 1, 1, none⟩) (by simp) (.int .u64 (v2 : Nat)))
        clear fz HK12 HK02 HB2
        go_wp2_with fail
        rw [rounds_succ]
        go_wp2_with fail
        generalize w2.setCell ⟨w.heap.size + 1, 1, none⟩ (.int .u64 (v2 : Nat)) = x2 at *
        clear c0 c1 c2 f0
        refine Calls.mono (unhide HR _ _ (unhide HBs)) ?_
        rintro e w3 ⟨rfl, b1⟩
        rw [unhide he3, unhide hv3, unhide hn3]
        have HB3 := hide ((unhide HBs).trans (b1.mono (unhide HBs).size))
        have HK03 := hide ((unhide HKo).below b1)
        have HK13 := hide ((unhide HKs).below b1)
        clear b1 HBs HKs HKo
        obtain ⟨c0, c1, c2, fz⟩ := (unhide HK03).cells
        have f0 := fz 0
        have f1 := fz 1
        have f2 := fz 2
        clear fz
        go_wp2
        refine bodyPost_ret (v := .tuple #[.agg #[.int .u64 0, .int .u64 0, .int .u64 0], .int .i64 0, .int .i64 e3]) (by simp [results, Try.results79, go_sem, *]) rfl ⟨rfl, ?_⟩
        exact ((unhide HB3).setCell (p := ⟨w.heap.size, 0, none⟩) (Nat.le_refl _) _).setCell (p := ⟨w.heap.size, 1, none⟩) (Nat.le_refl _) _ |>.setCell (p := ⟨w.heap.size, 2, none⟩) (Nat.le_refl _) _
    · rw [if_pos z2]
      have z2' : (e2 == 0) = false := by simp [z2]
      go_enter Try.func79, Try.ntmps79
      go_wp2_with fail
      rw [← unhide HW0]
      refine wp_loop_rounds 4 ?_
      rw [rounds_succ]
      go_wp2_with fail
      refine Calls.mono (unhide HR _ _ (unhide HB0)) ?_
      rintro e w1 ⟨rfl, b1⟩
      rw [unhide he1, unhide hv1, unhide hn1]
      have HB1 := hide ((unhide HB0).trans (b1.mono (unhide HB0).size))
      have HK01 := hide ((unhide HK0).below b1)
      have HK11 := hide ((unhide HK1).below b1)
      clear b1 HB0 HK0 HK1 HW0
      obtain ⟨c0, c1, c2, fz⟩ := (unhide HK11).cells
      have f0 := fz 0
      have HKs := hide ((unhide HK11).set0 (.int .u64 (v1 : Nat)))
      have HKo := hide ((unhide HK01).other 0 (.int .u64 (v1 : Nat)) (k := w.heap.size + 1) (by omega))
      have HBs := hide ((unhide HB1).setCell (p := ⟨w.heap.size + 1, 0, none⟩) (by simp) (.int .u64 (v1 : Nat)))
      clear fz HK11 HK01 HB1
      go_wp2_with fail
      rw [rounds_succ]
      go_wp2_with fail
      generalize w1.setCell ⟨w.heap.size + 1, 0, none⟩ (.int .u64 (v1 : Nat)) = x1 at *
      clear c0 c1 c2 f0
      refine Calls.mono (unhide HR _ _ (unhide HBs)) ?_
      rintro e w2 ⟨rfl, b1⟩
      rw [unhide he2, unhide hv2, unhide hn2]
      have HB2 := hide ((unhide HBs).trans (b1.mono (unhide HBs).size))
      have HK02 := hide ((unhide HKo).below b1)
      have HK12 := hide ((unhide HKs).below b1)
      clear b1 HBs HKs HKo
      obtain ⟨c0, c1, c2, fz⟩ := (unhide HK02).cells
      have f0 := fz 0
      have f1 := fz 1
      have f2 := fz 2
      clear fz
      go_wp2
      refine bodyPost_ret (v := .tuple #[.agg #[.int .u64 0, .int .u64 0, .int .u64 0], .int .i64 0, .int .i64 e2]) (by simp [results, Try.results79, go_sem, *]) rfl ⟨rfl, ?_⟩
      exact ((unhide HB2).setCell (p := ⟨w.heap.size, 0, none⟩) (Nat.le_refl _) _).setCell (p := ⟨w.heap.size, 1, none⟩) (Nat.le_refl _) _ |>.setCell (p := ⟨w.heap.size, 2, none⟩) (Nat.le_refl _) _
  · rw [if_pos z1]
    have z1' : (e1 == 0) = false := by simp [z1]
    go_enter Try.func79, Try.ntmps79
    go_wp2_with fail
    rw [← unhide HW0]
    refine wp_loop_rounds 4 ?_
    rw [rounds_succ]
    go_wp2_with fail
    refine Calls.mono (unhide HR _ _ (unhide HB0)) ?_
    rintro e w1 ⟨rfl, b1⟩
    rw [unhide he1, unhide hv1, unhide hn1]
    have HB1 := hide ((unhide HB0).trans (b1.mono (unhide HB0).size))
    have HK01 := hide ((unhide HK0).below b1)
    have HK11 := hide ((unhide HK1).below b1)
    clear b1 HB0 HK0 HK1 HW0
    obtain ⟨c0, c1, c2, fz⟩ := (unhide HK01).cells
    have f0 := fz 0
    have f1 := fz 1
    have f2 := fz 2
    clear fz
    go_wp2
    refine bodyPost_ret (v := .tuple #[.agg #[.int .u64 0, .int .u64 0, .int .u64 0], .int .i64 0, .int .i64 e1]) (by simp [results, Try.results79, go_sem, *]) rfl ⟨rfl, ?_⟩
    exact ((unhide HB1).setCell (p := ⟨w.heap.size, 0, none⟩) (Nat.le_refl _) _).setCell (p := ⟨w.heap.size, 1, none⟩) (Nat.le_refl _) _ |>.setCell (p := ⟨w.heap.size, 2, none⟩) (Nat.le_refl _) _
end Go.Proofs.Ytpkpjmebkikgdaa

/- The document's own answers: the reader of layer 1 (Num, Most). -/
namespace Go.Proofs.Ytpkpjmebkikgdaa
open Go.RowKit

/-- What Num answers at a place with an error, and the place and the error then. -/
def numF (b : List UInt8) (p e : Int) : Nat × Int × Int := if e ≠ 0 then (0, p, e) else if readE b p ≠ 0 then (0, p, readE b p) else (readV b p, readN b p, 0)
def mostF (b : List UInt8) (m : Nat) (p e : Int) : Nat × Int × Int :=
  if (numF b p e).2.2 ≠ 0 then (0, (numF b p e).2) else if m < (numF b p e).1 then (0, (numF b p e).2.1, 11) else numF b p e

set_option maxRecDepth 20000 in
set_option maxHeartbeats 1000000 in
theorem num_any (g : Nat) (p e : Int) (s : Value) (b : List UInt8) (w0 w : World) (hs : Row w0 s b) (hroom : b.length ≤ 140737488351232) (hb : Below w0.heap.size w0 w) (hg : w0.heap.size ≤ g)
    (h3 : At3 w g 105 s (.int .i64 p) (.int .i64 e)) :
    Calls Try.prog 42 #[.pointer (some ⟨g, 0, none⟩)] w fun x w' => x = .returned (.int .u64 ((numF b p e).1 : Int)) ∧ At3 w' g 105 s (.int .i64 (numF b p e).2.1) (.int .i64 (numF b p e).2.2) ∧ Below w0.heap.size w0 w' := by
  obtain ⟨q0, l0, cc0, hs0⟩ : ∃ q l c, s = .slice q l c := by obtain ⟨p, c, l, e, _⟩ := hs.shape; exact ⟨p, l, c, e⟩
  subst hs0
  obtain ⟨c0, c1, c2, fz⟩ := h3.cells
  unfold numF
  by_cases he : e = 0
  · subst he
    rw [if_neg (by simp)]
    have hdw : Below w.heap.size w w.drew := (Below.refl _ _).drew
    have HRV := hide (rrv_any (.slice q0 l0 cc0) b p w.drew ((hs.below hb).below hdw) hroom)
    obtain ⟨k0, k1, k2, fz'⟩ := (h3.below hdw).cells
    have H3 := hide (h3.below hdw)
    have HB := hide (hb.drew)
    have d0 := c0
    have d1 := c1
    by_cases hE : readE b p = 0
    · rw [if_neg (by simp [hE])]
      rw [hE] at HRV
      have f1 := fz 1
      clear fz fz' h3 hb hs hdw hE
      generalize readV b p = V at *
      generalize readN b p = N at *
      go_enter Try.func42, Try.ntmps42
      go_wp2_with fail
      go_region_held3 (fun w' => w'.cell? ⟨g, 0, none⟩ = some (.slice q0 l0 cc0) ∧ w'.cell? ⟨g, 1, none⟩ = some (.int .i64 p)) (first | assumption | go_keep)
        (first | (go_at_call 56; refine Calls.mono (unhide HRV) ?_; rintro x w1 ⟨rfl, rfl⟩))
      obtain ⟨k0, k1, k2, fz⟩ := (unhide H3).cells
      have f1' := fz 1
      clear fz
      go_wp2
      go_ret
      exact ⟨rfl, (unhide H3).set1 _, (unhide HB).setCell (p := ⟨g, 1, none⟩) hg _⟩
    · rw [if_pos hE]
      have hE' : (readE b p == 0) = false := by simp [hE]
      have f2 := fz 2
      clear fz fz' h3 hb hs hdw
      generalize readE b p = E at *
      generalize readV b p = V at *
      generalize readN b p = N at *
      go_enter Try.func42, Try.ntmps42
      go_wp2_with fail
      go_region_held3 (fun w' => w'.cell? ⟨g, 0, none⟩ = some (.slice q0 l0 cc0) ∧ w'.cell? ⟨g, 1, none⟩ = some (.int .i64 p)) (first | assumption | go_keep)
        (first | (go_at_call 56; refine Calls.mono (unhide HRV) ?_; rintro x w1 ⟨rfl, rfl⟩))
      obtain ⟨k0, k1, k2, fz⟩ := (unhide H3).cells
      have f2' := fz 2
      clear fz
      go_wp2
      go_ret
      exact ⟨rfl, (unhide H3).set2 _, (unhide HB).setCell (p := ⟨g, 2, none⟩) hg _⟩
  · rw [if_pos he]
    have he' : (e == 0) = false := by simp [he]
    clear fz
    go_enter Try.func42, Try.ntmps42
    go_wp2
    go_ret
    exact ⟨rfl, h3, hb⟩

theorem num_err (b : List UInt8) (p e : Int) : (numF b p e).1 < 18446744073709551616 := by
  unfold numF
  split
  · simp
  · split
    · simp
    · rename_i h1 h2
      exact (read_ok b p (by simpa using h2)).2.2.2

set_option maxRecDepth 20000 in
set_option maxHeartbeats 1000000 in
theorem most_any (g : Nat) (p e : Int) (s : Value) (b : List UInt8) (w0 w : World) (hs : Row w0 s b) (hroom : b.length ≤ 140737488351232) (hb : Below w0.heap.size w0 w) (hg : w0.heap.size ≤ g)
    (h3 : At3 w g 105 s (.int .i64 p) (.int .i64 e)) :
    Calls Try.prog 43 #[.pointer (some ⟨g, 0, none⟩), .int .u64 32] w fun x w' => x = .returned (.int .i64 ((mostF b 32 p e).1 : Int)) ∧ At3 w' g 105 s (.int .i64 (mostF b 32 p e).2.1) (.int .i64 (mostF b 32 p e).2.2) ∧ Below w0.heap.size w0 w' := by
  have HN := hide (num_any g p e s b w0 w hs hroom hb hg h3)
  have hv := num_err b p e
  unfold mostF
  generalize numF b p e = R at *
  obtain ⟨V, P, E⟩ := R
  simp only at HN hv ⊢
  clear h3 hb
  by_cases hE : E = 0
  · subst hE
    rw [if_neg (by simp)]
    by_cases hV : 32 < V
    · rw [if_pos hV]
      have hV' : (32 : Int) < V := by omega
      go_enter Try.func43, Try.ntmps43
      go_wp2_with fail
      refine Calls.mono (unhide HN) ?_
      rintro x w1 ⟨rfl, k3, b1⟩
      have H3 := hide k3
      have HB := hide b1
      obtain ⟨c0, c1, c2, fz⟩ := k3.cells
      have f2 := fz 2
      clear fz k3 b1
      go_wp2
      go_ret
      exact ⟨rfl, (unhide H3).set2 _, (unhide HB).setCell (p := ⟨g, 2, none⟩) hg _⟩
    · rw [if_neg hV]
      have hV' : ¬ (32 : Int) < V := by omega
      have hwv : IntKind.i64.wrap (V : Int) = V := by rw [IntKind.wrap_i64]; omega
      go_enter Try.func43, Try.ntmps43
      go_wp2_with fail
      refine Calls.mono (unhide HN) ?_
      rintro x w1 ⟨rfl, k3, b1⟩
      have H3 := hide k3
      have HB := hide b1
      obtain ⟨c0, c1, c2, fz⟩ := k3.cells
      clear fz k3 b1
      go_wp2
      go_ret
      exact ⟨rfl, unhide H3, unhide HB⟩
  · rw [if_pos hE]
    have hE' : (E == 0) = false := by simp [hE]
    go_enter Try.func43, Try.ntmps43
    go_wp2_with fail
    refine Calls.mono (unhide HN) ?_
    rintro x w1 ⟨rfl, k3, b1⟩
    have H3 := hide k3
    have HB := hide b1
    obtain ⟨c0, c1, c2, fz⟩ := k3.cells
    clear fz k3 b1
    go_wp2
    go_ret
    exact ⟨rfl, unhide H3, unhide HB⟩
end Go.Proofs.Ytpkpjmebkikgdaa

/- The document's own answers of layer 6: May, Count, Write, Frames. -/
namespace Go.Proofs.Ytpkpjmebkikgdaa
open Go.RowKit

theorem Try.info72 : (Try.prog.info? 72).map (fun i => (i.zero, i.size, i.bytes)) = some (some (.agg #[.int .u64 0, .int .u64 0, .int .i64 0, .slice none 0 0]), 4, 48) := by kernel_rfl

set_option maxRecDepth 20000 in
theorem rmay_any (f : Fr) (s : Value) (w : World) (hs : Row w s f.data) :
    Calls Try.prog 45 #[fv f s] w fun e w' => e = .returned (.bool (mayF f)) ∧ Below w.heap.size w w' := by
  obtain ⟨q, c, l, rfl, hl⟩ := hs.shape
  unfold fv mayF
  rw [hl]
  clear hs hl
  generalize f.of = m
  by_cases h1 : 1 ≤ m
  · by_cases h2 : m ≤ 32
    · have e : (decide (1 ≤ m ∧ m ≤ 32 ∧ (l : Int) ≤ 440)) = decide ((l : Int) ≤ 440) := by simp [h1, h2]
      rw [e]
      go_enter Try.func45, Try.ntmps45
      go_wp2
      go_ret
      exact ⟨rfl, (Below.refl _ _).alloc (Nat.le_refl _) _⟩
    · have e : (decide (1 ≤ m ∧ m ≤ 32 ∧ (l : Int) ≤ 440)) = false := by simp [h2]
      rw [e]
      go_enter Try.func45, Try.ntmps45
      go_wp2
      go_ret
      exact ⟨rfl, (Below.refl _ _).alloc (Nat.le_refl _) _⟩
  · have e : (decide (1 ≤ m ∧ m ≤ 32 ∧ (l : Int) ≤ 440)) = false := by simp [h1]
    rw [e]
    go_enter Try.func45, Try.ntmps45
    go_wp2
    go_ret
    exact ⟨rfl, (Below.refl _ _).alloc (Nat.le_refl _) _⟩

set_option maxRecDepth 20000 in
theorem rcount_any (n : Int) (w : World) (h1 : -9223372036854775808 ≤ n) (h2 : n ≤ 9223372036854775807) :
    Calls Try.prog 57 #[.int .i64 n] w fun e w' => e = .returned (.int .i64 (countN n)) ∧ w' = w := by
  unfold countN
  by_cases h0 : n < 0
  · rw [if_pos h0]
    go_enter Try.func57, Try.ntmps57
    go_wp2
    go_ret
    exact ⟨rfl, rfl⟩
  · rw [if_neg h0]
    by_cases h3 : n = 0
    · subst h3
      rw [if_pos rfl]
      go_enter Try.func57, Try.ntmps57
      go_wp2
      go_ret
      exact ⟨rfl, rfl⟩
    · rw [if_neg h3]
      go_enter Try.func57, Try.ntmps57
      go_wp2
      go_ret
      exact ⟨rfl, rfl⟩

end Go.Proofs.Ytpkpjmebkikgdaa

/- What package frame does: Read. -/
namespace Go.Proofs.Ytpkpjmebkikgdaa
open Go.RowKit

theorem read_head (b : List UInt8) : readF b = if (headR b).2.2 ≠ 0 then (zeroF, (headR b).2.2) else if 32 < (headR b).1.2.2 then (zeroF, 11)
    else if mayF ⟨(headR b).1.1, (headR b).1.2.1, ((headR b).1.2.2 : Nat), b.drop (headR b).2.1.toNat⟩ = true then (⟨(headR b).1.1, (headR b).1.2.1, ((headR b).1.2.2 : Nat), b.drop (headR b).2.1.toNat⟩, 0) else (zeroF, 11) := by
  unfold readF headR
  by_cases h1 : readE b 0 = 0
  · rw [if_neg (by simp [h1])]
    by_cases h2 : readE b (readN b 0) = 0
    · rw [if_neg (by simp [h2])]
      by_cases h3 : readE b (readN b (readN b 0)) = 0
      · rw [if_neg (by simp [h3])]
        simp [h1, h2, h3]
      · simp [h1, h2, h3]
    · simp [h1, h2]
  · simp [h1]
theorem head_ok (b : List UInt8) (h : (headR b).2.2 = 0) : 0 < (headR b).2.1 ∧ (headR b).2.1 ≤ b.length ∧ (headR b).1.1 < 18446744073709551616 ∧ (headR b).1.2.1 < 18446744073709551616 := by
  unfold headR at h ⊢
  by_cases h1 : readE b 0 = 0
  · rw [if_neg (by simp [h1])] at h ⊢
    by_cases h2 : readE b (readN b 0) = 0
    · rw [if_neg (by simp [h2])] at h ⊢
      by_cases h3 : readE b (readN b (readN b 0)) = 0
      · rw [if_neg (by simp [h3])]
        have a1 := read_ok b _ h1
        have a2 := read_ok b _ h2
        have a3 := read_ok b _ h3
        exact ⟨by simp only; omega, a3.2.2.1, a1.2.2.2, a2.2.2.2⟩
      · rw [if_pos h3] at h; exact absurd h h3
    · rw [if_pos h2] at h; exact absurd h h2
  · rw [if_pos h1] at h; exact absurd h h1

/-- Four cells that are a block. -/
def Blk4 (w : World) (g : Nat) (t : TypeId) (a b c d : Value) : Prop := w.heap[g]? = some (.cells #[a, b, c, d] t (0, 0))
theorem Blk4.below {w w' : World} {g t : Nat} {a b c d : Value} (h : Blk4 w g t a b c d) (hb : Below w.heap.size w w') : Blk4 w' g t a b c d := (hb.block g (Array.getElem?_eq_some_iff.1 h).1).trans h
theorem Blk4.cells {w : World} {g t : Nat} {a b c d : Value} (h : Blk4 w g t a b c d) : w.cell? ⟨g, 0, none⟩ = some a ∧ w.cell? ⟨g, 1, none⟩ = some b ∧ w.cell? ⟨g, 2, none⟩ = some c ∧ w.cell? ⟨g, 3, none⟩ = some d ∧ ∀ j, w.frozen? ⟨g, j, none⟩ = false := by
  refine ⟨?_, ?_, ?_, ?_, fun j => frozen_of_block h⟩ <;> (rw [cell_of_row _ _ _ _ _ (0, 0) h]; rfl)

theorem Mine.set {w : World} {base k : Nat} {t : Value} {bs : List UInt8} (h : Mine w base t bs) (hk : k < base) (j : Nat) (v : Value) : Mine (w.setCell ⟨k, j, none⟩ v) base t bs := by
  have hoth : ∀ g, base ≤ g → (w.setCell ⟨k, j, none⟩ v).heap[g]? = w.heap[g]? := fun g hg => Below.heap_setCell _ _ _ _ (by show g ≠ k; omega)
  obtain ⟨⟨a, cap, e, h1, h2, h3, h4⟩, h5⟩ := h
  rcases h5 with rfl | ⟨g, off, cap', e', cur, rfl, hg, hh⟩
  · exact ⟨⟨a, cap, e, h1, h2, h3, Or.inl rfl⟩, Or.inl rfl⟩
  · refine ⟨⟨a, cap, e, h1, h2, h3, ?_⟩, Or.inr ⟨g, off, cap', e', cur, rfl, hg, (hoth g hg).trans hh⟩⟩
    simp only [Value.slice.injEq, true_and] at e
    obtain ⟨rfl, rfl⟩ := e
    rcases h4 with h4 | ⟨b, off', e2, hc⟩
    · exact Or.inl h4
    · simp only [Option.some.injEq, Addr.mk.injEq, and_true] at e2
      obtain ⟨rfl, rfl⟩ := e2
      refine Or.inr ⟨g, off, rfl, fun i hi => ?_⟩
      rw [← hc i hi]
      exact World.cell?_of_block (w := w) (hoth g hg)

abbrev HeadC (s : Value) (w : World) (A C m : Nat) (n e0 : Int) : Prop := Calls Try.prog 79 #[s] w fun e w' => e = .returned (.tuple #[.agg #[.int .u64 (A : Int), .int .u64 (C : Int), .int .u64 (m : Int)], .int .i64 n, .int .i64 e0]) ∧ Below w.heap.size w w'
def rd0 (w : World) : World := w.alloc (.cells #[.int .u64 0, .int .u64 0, .int .i64 0, .slice none 0 0] 72)
theorem rd0_below (w : World) : Below w.heap.size w (rd0 w) := (Below.refl _ _).alloc (Nat.le_refl _) _
theorem rd0_blk (w : World) : Blk4 (rd0 w) w.heap.size 72 (.int .u64 0) (.int .u64 0) (.int .i64 0) (.slice none 0 0) := heap_alloc_new w _

set_option maxRecDepth 20000 in
set_option maxHeartbeats 2000000 in
theorem read_err (s : Value) (w : World) (A C m : Nat) (n e0 : Int) (hR : HeadC s (rd0 w) A C m n e0) (z : e0 ≠ 0) :
    Calls Try.prog 66 #[s] w fun e w' => e = .returned (.tuple #[.agg #[.int .u64 0, .int .u64 0, .int .i64 0, .slice none 0 0], .int .i64 e0]) ∧ Below w.heap.size w w' := by
  have z' : (e0 == 0) = false := by simp [z]
  unfold HeadC at hR
  have HR := hide hR
  have HW0 : Hid (w.alloc (.cells #[.int .u64 0, .int .u64 0, .int .i64 0, .slice none 0 0] 72) = rd0 w) := rfl
  have HB0 := hide (rd0_below w)
  have HK0 := hide (rd0_blk w)
  clear hR
  go_enter Try.func66, Try.ntmps66
  go_wp2_with fail
  rw [unhide HW0]
  refine Calls.mono (unhide HR) ?_
  rintro e w1 ⟨rfl, b1⟩
  have HB1 := hide ((unhide HB0).trans (b1.mono (unhide HB0).size))
  obtain ⟨c0, c1, c2, c3, fz⟩ := ((unhide HK0).below b1).cells
  have f0 := fz 0
  have f1 := fz 1
  have f2 := fz 2
  have f3 := fz 3
  have hlt : w.heap.size < w1.heap.size := World.block_lt_of_cell? w1 _ c0
  clear fz b1 HB0 HK0 HW0
  go_wp2
  refine bodyPost_ret (v := .tuple #[.agg #[.int .u64 0, .int .u64 0, .int .i64 0, .slice none 0 0], .int .i64 e0]) (by simp [results, Try.results66, go_sem, *]) rfl ⟨rfl, ?_⟩
  have := unhide HB1
  repeat' (first
      | assumption
      | exact unhide (by assumption)
      | refine Below.setCell ?_ (by first | exact Nat.le_refl _ | (simp; done) | (simp; omega) | omega) _
      | refine Below.alloc ?_ (by first | exact Nat.le_refl _ | (simp; done) | (simp; omega) | omega) _
      | refine Below.drew ?_)

set_option maxRecDepth 20000 in
set_option maxHeartbeats 2000000 in
theorem read_32 (s : Value) (w : World) (A C m : Nat) (n : Int) (hR : HeadC s (rd0 w) A C m n 0) (h32 : 32 < m) :
    Calls Try.prog 66 #[s] w fun e w' => e = .returned (.tuple #[.agg #[.int .u64 0, .int .u64 0, .int .i64 0, .slice none 0 0], .int .i64 11]) ∧ Below w.heap.size w w' := by
  have h32' : (32 : Int) < m := by omega
  unfold HeadC at hR
  have HR := hide hR
  have HW0 : Hid (w.alloc (.cells #[.int .u64 0, .int .u64 0, .int .i64 0, .slice none 0 0] 72) = rd0 w) := rfl
  have HB0 := hide (rd0_below w)
  have HK0 := hide (rd0_blk w)
  clear hR
  go_enter Try.func66, Try.ntmps66
  go_wp2_with fail
  rw [unhide HW0]
  refine Calls.mono (unhide HR) ?_
  rintro e w1 ⟨rfl, b1⟩
  have HB1 := hide ((unhide HB0).trans (b1.mono (unhide HB0).size))
  obtain ⟨c0, c1, c2, c3, fz⟩ := ((unhide HK0).below b1).cells
  have f0 := fz 0
  have f1 := fz 1
  have f2 := fz 2
  have f3 := fz 3
  have hlt : w.heap.size < w1.heap.size := World.block_lt_of_cell? w1 _ c0
  clear fz b1 HB0 HK0 HW0
  go_wp2
  refine bodyPost_ret (v := .tuple #[.agg #[.int .u64 0, .int .u64 0, .int .i64 0, .slice none 0 0], .int .i64 11]) (by simp [results, Try.results66, go_sem, *]) rfl ⟨rfl, ?_⟩
  have := unhide HB1
  repeat' (first
      | assumption
      | exact unhide (by assumption)
      | refine Below.setCell ?_ (by first | exact Nat.le_refl _ | (simp; done) | (simp; omega) | omega) _
      | refine Below.alloc ?_ (by first | exact Nat.le_refl _ | (simp; done) | (simp; omega) | omega) _
      | refine Below.drew ?_)

end Go.Proofs.Ytpkpjmebkikgdaa

/- The document's own answers of layer 6: Read. -/
namespace Go.Proofs.Ytpkpjmebkikgdaa
open Go.RowKit

/-- The three numbers of a frame's head, by the reader. -/
def hd1 (b : List UInt8) : Nat × Int × Int := numF b 0 0
def hd2 (b : List UInt8) : Nat × Int × Int := numF b (hd1 b).2.1 (hd1 b).2.2
def hd3 (b : List UInt8) : Nat × Int × Int := mostF b 32 (hd2 b).2.1 (hd2 b).2.2
theorem read_reader (b : List UInt8) : readF b = if (hd3 b).2.2 ≠ 0 then (zeroF, (hd3 b).2.2) else if mayF ⟨(hd1 b).1, (hd2 b).1, ((hd3 b).1 : Nat), b.drop (hd3 b).2.1.toNat⟩ = true then (⟨(hd1 b).1, (hd2 b).1, ((hd3 b).1 : Nat), b.drop (hd3 b).2.1.toNat⟩, 0) else (zeroF, 11) := by
  unfold readF hd3 mostF hd2 hd1 numF
  by_cases h1 : readE b 0 = 0
  · by_cases h2 : readE b (readN b 0) = 0
    · by_cases h3 : readE b (readN b (readN b 0)) = 0
      · by_cases h4 : 32 < readV b (readN b (readN b 0))
        · simp [h1, h2, h3, h4]
        · simp [h1, h2, h3, h4]
      · simp [h1, h2, h3]
    · simp [h1, h2]
  · simp [h1]
theorem reader_ok (b : List UInt8) (h : (hd3 b).2.2 = 0) : 0 < (hd3 b).2.1 ∧ (hd3 b).2.1 ≤ b.length ∧ (hd1 b).1 < 18446744073709551616 ∧ (hd2 b).1 < 18446744073709551616 ∧ (hd3 b).1 ≤ 32 := by
  unfold hd3 mostF hd2 hd1 numF at h ⊢
  by_cases h1 : readE b 0 = 0
  · have a1 := read_ok b _ h1
    by_cases h2 : readE b (readN b 0) = 0
    · have a2 := read_ok b _ h2
      by_cases h3 : readE b (readN b (readN b 0)) = 0
      · have a3 := read_ok b _ h3
        by_cases h4 : 32 < readV b (readN b (readN b 0))
        · simp [h1, h2, h3, h4] at h
        · simp [h1, h2, h3, h4]
          omega
      · simp [h1, h2, h3] at h
    · simp [h1, h2] at h
  · simp [h1] at h

def rdr (w : World) (s : Value) : World := (rd0 w).alloc (.cells #[s, .int .i64 0, .int .i64 0] 105)

set_option maxRecDepth 20000 in
set_option maxHeartbeats 2000000 in
theorem rread_any (s : Value) (b : List UInt8) (w : World) (hs : Row w s b) (hroom : b.length ≤ 140737488351232) :
    Calls Try.prog 26 #[s] w fun x w' => ∃ t, x = .returned (.tuple #[fv (readF b).1 t, .int .i64 (readF b).2]) ∧ Row w' t (readF b).1.data ∧ Below w.heap.size w w' := by
  obtain ⟨q0, l0, cc0, hs0⟩ := slice_of_row hs
  subst hs0
  have HS := hide hs
  have hs1 := hs.below (rd0_below w)
  obtain ⟨W1, hW1⟩ : ∃ W1, W1 = rdr w (.slice q0 l0 cc0) := ⟨_, rfl⟩
  obtain ⟨W0, hW0⟩ : ∃ W0, W0 = rd0 w := ⟨_, rfl⟩
  rw [← hW0] at hs1
  have hb01 : Below W0.heap.size W0 W1 := by rw [hW1, hW0]; exact (Below.refl _ _).alloc (Nat.le_refl _) _
  have h31 : At3 W1 W0.heap.size 105 (.slice q0 l0 cc0) (.int .i64 0) (.int .i64 0) := by rw [hW1, hW0]; exact heap_alloc_new _ _
  have hsz0 : W0.heap.size = w.heap.size + 1 := by rw [hW0]; simp [rd0]
  have HN := hide (fun p e w' (hb : Below W0.heap.size W0 w') h3 => num_any W0.heap.size p e (.slice q0 l0 cc0) b W0 w' hs1 hroom hb (Nat.le_refl _) h3)
  have HM := hide (fun p e w' (hb : Below W0.heap.size W0 w') h3 => most_any W0.heap.size p e (.slice q0 l0 cc0) b W0 w' hs1 hroom hb (Nat.le_refl _) h3)
  have k0 : Blk4 W0 w.heap.size 72 (.int .u64 0) (.int .u64 0) (.int .i64 0) (.slice none 0 0) := by rw [hW0]; exact rd0_blk w
  have HK0 := hide (fun w' (hb : Below W0.heap.size W0 w') => k0.below hb)
  have HWB : Hid (∀ w', Below W0.heap.size W0 w' → Below w.heap.size w w') := fun w' hb => by
    have h1 := rd0_below w
    rw [← hW0] at h1
    exact h1.trans (hb.mono h1.size)
  have HW1 : Hid ((w.alloc (.cells #[.int .u64 0, .int .u64 0, .int .i64 0, .slice none 0 0] 72)).alloc (.cells #[.slice q0 l0 cc0, .int .i64 0, .int .i64 0] 105) = W1) := by unfold Hid; rw [hW1]; rfl
  have H31 := hide h31
  have HB01 := hide hb01
  have hro := reader_ok b
  rw [read_reader]
  have D1 : Hid (numF b 0 0 = hd1 b) := rfl
  have D2 : Hid (numF b (hd1 b).2.1 (hd1 b).2.2 = hd2 b) := rfl
  have D3 : Hid (mostF b 32 (hd2 b).2.1 (hd2 b).2.2 = hd3 b) := rfl
  generalize hd1 b = R1 at *
  generalize hd2 b = R2 at *
  generalize hd3 b = R3 at *
  obtain ⟨V1, P1, E1⟩ := R1
  obtain ⟨V2, P2, E2⟩ := R2
  obtain ⟨V3, P3, E3⟩ := R3
  simp only at D1 D2 D3 hro ⊢
  clear hs hs1 hW1 hb01 h31 k0 hW0
  rw [hsz0] at HN HM HK0 HWB H31 HB01
  clear hsz0
  by_cases hE : E3 = 0
  · subst hE
    rw [if_neg (by simp)]
    obtain ⟨r1, r2, r3, r4, r5⟩ := hro rfl
    obtain ⟨f, hf⟩ : ∃ f : Fr, f = ⟨V1, V2, (V3 : Int), b.drop P3.toNat⟩ := ⟨_, rfl⟩
    rw [← hf]
    have HF := hide hf
    have hmb : ∀ t w', Row w' t (b.drop P3.toNat) → Calls Try.prog 45 #[.agg #[.int .u64 (V1 : Int), .int .u64 (V2 : Int), .int .i64 (V3 : Int), t]] w' fun e w'' => e = .returned (.bool (mayF f)) ∧ Below w'.heap.size w' w'' := fun t w' hr => by
      have h := rmay_any f t w' (by rw [hf]; exact hr)
      rw [hf] at h
      unfold fv at h
      rw [hf]
      exact h
    have HMB := hide hmb
    clear hmb hf
    generalize hR : (if mayF f = true then (f, (0 : Int)) else (zeroF, 11)) = R
    have HRR := hide hR
    clear hR
    go_enter Try.func26, Try.ntmps26
    go_wp2_with fail
    rw [unhide HW1]
    refine Calls.mono (unhide HN _ _ _ (unhide HB01) (unhide H31)) ?_
    rintro x w1 ⟨rfl, k1, b1⟩
    rw [unhide D1] at k1 ⊢
    simp only at k1 ⊢
    have HK1 := hide k1
    have HB1 := hide b1
    clear k1 b1 HB01 H31 HW1
    go_wp2_with fail
    refine Calls.mono (unhide HN _ _ _ (unhide HB1) (unhide HK1)) ?_
    rintro x w2 ⟨rfl, k2, b2⟩
    rw [unhide D2] at k2 ⊢
    simp only at k2 ⊢
    have HK2 := hide k2
    have HB2 := hide b2
    clear k2 b2 HB1 HK1
    go_wp2_with fail
    refine Calls.mono (unhide HM _ _ _ (unhide HB2) (unhide HK2)) ?_
    rintro x w3 ⟨rfl, k3, b3⟩
    rw [unhide D3] at k3 ⊢
    simp only at k3 ⊢
    obtain ⟨W4, hW4⟩ : ∃ W4, W4 = w3.alloc (.cells #[.int .u64 (V1 : Int), .int .u64 (V2 : Int), .int .i64 (V3 : Int), .slice none 0 0] 72) := ⟨_, rfl⟩
    have hb34 : Below w3.heap.size w3 W4 := by rw [hW4]; exact (Below.refl _ _).alloc (Nat.le_refl _) _
    have hkF : Blk4 W4 w3.heap.size 72 (.int .u64 (V1 : Int)) (.int .u64 (V2 : Int)) (.int .i64 (V3 : Int)) (.slice none 0 0) := by rw [hW4]; exact heap_alloc_new _ _
    have hk4 := k3.below hb34
    have hkR := (unhide HK0 w3 b3).below hb34
    have hB4 : Below w.heap.size w W4 := (unhide HWB w3 b3).trans (hb34.mono (unhide HWB w3 b3).size)
    have HB4 := hide hB4
    have hlt3 : w.heap.size + 1 < w3.heap.size := World.block_lt_of_cell? w3 _ k3.cells.1
    have HW4 := hide hW4
    obtain ⟨y0, y1, y2, _⟩ := k3.cells
    have hn3 := World.new_ne w3 _ y2
    clear HB2 HK2 b3 k3 hb34 hW4
    obtain ⟨c0, c1, c2, _⟩ := hk4.cells
    have HKF := hide hkF
    have HKR := hide hkR
    have hrow := (unhide HS).below hB4
    rw [unhide HW4] at hrow
    have HCB := hide (fun t (hr : Row W4 t (b.drop P3.toNat)) => copyBytes_any t (b.drop P3.toNat) W4 hr (by simp; omega))
    clear hk4 hkR hkF hB4
    go_wp2_with (refine wpList_slice_l rfl 31 5 _ _ rfl Try.underlying31 Try.size5 _ b P3 .i64 rfl rfl hrow (by omega) (by omega) ?_)
    intro t1 hr1
    rw [← unhide HW4] at hr1 ⊢
    clear y0 y1 y2 hn3
    have HC1 := hide (unhide HCB t1 hr1)
    obtain ⟨p1, l1, q1, rfl⟩ := slice_of_row hr1
    clear hr1 hrow HCB
    go_wp2_with fail
    refine Calls.mono (unhide HC1) ?_
    rintro x w5 ⟨t2, rfl, x5, b5⟩
    have hm5 := mine_of_owns x5
    obtain ⟨p2, l2, q2, rfl⟩ := slice_of_row hm5.row
    have hkF5 := (unhide HKF).below b5
    have hkR5 := (unhide HKR).below b5
    have hB5 := (unhide HB4).trans (b5.mono (unhide HB4).size)
    have hs4 : w3.heap.size < W4.heap.size := World.block_lt_of_cell? W4 _ (unhide HKF).cells.1
    obtain ⟨e0, e1, e2, e3, fz⟩ := hkF5.cells
    have g3 := fz 3
    obtain ⟨W6, hW6⟩ : ∃ W6, W6 = w5.setCell ⟨w3.heap.size, 3, none⟩ (.slice p2 l2 q2) := ⟨_, rfl⟩
    have HW6 := hide hW6
    have hkF6 : Blk4 W6 w3.heap.size 72 (.int .u64 (V1 : Int)) (.int .u64 (V2 : Int)) (.int .i64 (V3 : Int)) (.slice p2 l2 q2) := by rw [hW6]; exact heap_setCell_same w5 _ 3 _ _ _ hkF5
    have hkR6 : Blk4 W6 w.heap.size 72 (.int .u64 0) (.int .u64 0) (.int .i64 0) (.slice none 0 0) := by
      rw [hW6]
      unfold Blk4
      rw [Below.heap_setCell _ _ _ _ (by show w.heap.size ≠ w3.heap.size; omega)]
      exact hkR5
    have hm6 : Mine W6 W4.heap.size (.slice p2 l2 q2) (b.drop P3.toNat) := by rw [hW6]; exact hm5.set hs4 _ _
    have hB6 : Below w.heap.size w W6 := by rw [hW6]; exact hB5.setCell (p := ⟨w3.heap.size, 3, none⟩) (by show w.heap.size ≤ w3.heap.size; omega) _
    have HMB6 := hide (unhide HMB (.slice p2 l2 q2) W6 hm6.row)
    have HKF6 := hide hkF6
    have HKR6 := hide hkR6
    have HM6 := hide hm6
    have HB6 := hide hB6
    obtain ⟨a0, a1, a2, a3, _⟩ := hkF6.cells
    clear fz hm5 hkF5 hkR5 hB5 hW6 hkF6 hkR6 hm6 hB6 x5 b5 HKF HKR HB4 HC1
    go_wp2_with fail
    rw [← unhide HW6]
    go_wp2_with fail
    clear e0 e1 e2 e3 g3
    refine Calls.mono (unhide HMB6) ?_
    rintro x w7 ⟨rfl, b7⟩
    have hB7 := (unhide HB6).trans (b7.mono (unhide HB6).size)
    have hm7 := (unhide HM6).below b7
    have hn7 : ∀ v0 v1 v2 v3, Row ((((w7.setCell ⟨w.heap.size, 0, none⟩ v0).setCell ⟨w.heap.size, 1, none⟩ v1).setCell ⟨w.heap.size, 2, none⟩ v2).setCell ⟨w.heap.size, 3, none⟩ v3) (.slice p2 l2 q2) (b.drop P3.toNat) := fun v0 v1 v2 v3 => ((((hm7.set (by omega) 0 v0).set (by omega) 1 v1).set (by omega) 2 v2).set (by omega) 3 v3).row
    clear hm7
    obtain ⟨e0, e1, e2, e3, _⟩ := ((unhide HKF6).below b7).cells
    obtain ⟨d0, d1, d2, d3, fz⟩ := ((unhide HKR6).below b7).cells
    have g0 := fz 0
    have g1 := fz 1
    have g2 := fz 2
    have g3 := fz 3
    have HB7 := hide hB7
    clear fz b7 hB7 a0 a1 a2 a3 HKF6 HKR6 HM6 HB6 HMB6 HMB
    cases hm : mayF f with
    | false =>
      have HRE : Hid (R = (zeroF, 11)) := by unfold Hid; rw [← unhide HRR, hm, if_neg (by simp)]
      clear hm hn7
      go_wp2
      refine bodyPost_ret (v := .tuple #[.agg #[.int .u64 0, .int .u64 0, .int .i64 0, .slice none 0 0], .int .i64 11]) (by simp [results, Try.results26, go_sem, *]) rfl ⟨.slice none 0 0, by rw [unhide HRE]; rfl, by rw [unhide HRE]; exact Row.nil _, ?_⟩
      exact ((((unhide HB7).setCell (p := ⟨w.heap.size, 0, none⟩) (Nat.le_refl _) _).setCell (p := ⟨w.heap.size, 1, none⟩) (Nat.le_refl _) _).setCell (p := ⟨w.heap.size, 2, none⟩) (Nat.le_refl _) _).setCell (p := ⟨w.heap.size, 3, none⟩) (Nat.le_refl _) _
    | true =>
      have HRE : Hid (R = (f, 0)) := by unfold Hid; rw [← unhide HRR, hm, if_pos rfl]
      have HN7 := hide hn7
      clear hm hn7
      go_wp2
      refine bodyPost_ret (v := .tuple #[.agg #[.int .u64 (V1 : Int), .int .u64 (V2 : Int), .int .i64 (V3 : Int), .slice p2 l2 q2], .int .i64 0]) (by simp [results, Try.results26, go_sem, *]) rfl ⟨.slice p2 l2 q2, by rw [unhide HRE, unhide HF]; rfl, ?_, ?_⟩
      · rw [unhide HRE, unhide HF]
        exact unhide HN7 _ _ _ _
      · exact ((((unhide HB7).setCell (p := ⟨w.heap.size, 0, none⟩) (Nat.le_refl _) _).setCell (p := ⟨w.heap.size, 1, none⟩) (Nat.le_refl _) _).setCell (p := ⟨w.heap.size, 2, none⟩) (Nat.le_refl _) _).setCell (p := ⟨w.heap.size, 3, none⟩) (Nat.le_refl _) _
  · rw [if_pos hE]
    have hE' : (E3 == 0) = false := by simp [hE]
    clear hro
    go_enter Try.func26, Try.ntmps26
    go_wp2_with fail
    rw [unhide HW1]
    refine Calls.mono (unhide HN _ _ _ (unhide HB01) (unhide H31)) ?_
    rintro x w1 ⟨rfl, k1, b1⟩
    rw [unhide D1] at k1 ⊢
    simp only at k1 ⊢
    have HK1 := hide k1
    have HB1 := hide b1
    clear k1 b1 HB01 H31 HW1
    go_wp2_with fail
    refine Calls.mono (unhide HN _ _ _ (unhide HB1) (unhide HK1)) ?_
    rintro x w2 ⟨rfl, k2, b2⟩
    rw [unhide D2] at k2 ⊢
    simp only at k2 ⊢
    have HK2 := hide k2
    have HB2 := hide b2
    clear k2 b2 HB1 HK1
    go_wp2_with fail
    refine Calls.mono (unhide HM _ _ _ (unhide HB2) (unhide HK2)) ?_
    rintro x w3 ⟨rfl, k3, b3⟩
    rw [unhide D3] at k3 ⊢
    simp only at k3 ⊢
    obtain ⟨W4, hW4⟩ : ∃ W4, W4 = w3.alloc (.cells #[.int .u64 (V1 : Int), .int .u64 (V2 : Int), .int .i64 (V3 : Int), .slice none 0 0] 72) := ⟨_, rfl⟩
    have hb34 : Below w3.heap.size w3 W4 := by rw [hW4]; exact (Below.refl _ _).alloc (Nat.le_refl _) _
    have hkF : Blk4 W4 w3.heap.size 72 (.int .u64 (V1 : Int)) (.int .u64 (V2 : Int)) (.int .i64 (V3 : Int)) (.slice none 0 0) := by rw [hW4]; exact heap_alloc_new _ _
    have hk4 := k3.below hb34
    have hkR := (unhide HK0 w3 b3).below hb34
    have hB4 : Below w.heap.size w W4 := (unhide HWB w3 b3).trans (hb34.mono (unhide HWB w3 b3).size)
    have HB4 := hide hB4
    have hlt3 : w.heap.size + 1 < w3.heap.size := World.block_lt_of_cell? w3 _ k3.cells.1
    have HW4 := hide hW4
    obtain ⟨y0, y1, y2, _⟩ := k3.cells
    have hn3 := World.new_ne w3 _ y2
    clear HB2 HK2 b3 k3 hb34 hW4
    have hbd : Below W4.heap.size W4 W4.drew := (Below.refl _ _).drew
    obtain ⟨c0, c1, c2, _⟩ := hk4.cells
    obtain ⟨d0, d1, d2, d3, fz⟩ := hkR.cells
    have f0 := fz 0
    have f1 := fz 1
    have f2 := fz 2
    have f3 := fz 3
    have hne1 : ¬ w.heap.size + 1 = w.heap.size := by omega
    clear fz hk4 hkR hkF hbd
    go_wp2_with fail
    rw [← unhide HW4]
    clear y0 y1 y2 hn3
    go_region
    go_wp2
    refine bodyPost_ret (v := .tuple #[.agg #[.int .u64 0, .int .u64 0, .int .i64 0, .slice none 0 0], .int .i64 E3]) (by simp [results, Try.results26, go_sem, *]) rfl ⟨.slice none 0 0, rfl, Row.nil _, ?_⟩
    have := unhide HB4
    repeat' (first
      | assumption
      | refine Below.setCell ?_ (by first | exact Nat.le_refl _ | (simp; done) | (simp; omega) | omega) _
      | refine Below.alloc ?_ (by first | exact Nat.le_refl _ | (simp; done) | (simp; omega) | omega) _
      | refine Below.drew ?_)
end Go.Proofs.Ytpkpjmebkikgdaa

/- The document's own answers of layer 6: Read, and that what it tells lies in memory of its own. -/
namespace Go.Proofs.Ytpkpjmebkikgdaa
open Go.RowKit

set_option maxRecDepth 20000 in
set_option maxHeartbeats 2000000 in
theorem rread_own (s : Value) (b : List UInt8) (w : World) (hs : Row w s b) (hroom : b.length ≤ 140737488351232) :
    Calls Try.prog 26 #[s] w fun x w' => ∃ t, x = .returned (.tuple #[fv (readF b).1 t, .int .i64 (readF b).2]) ∧ Mine w' w.heap.size t (readF b).1.data ∧ Below w.heap.size w w' := by
  obtain ⟨q0, l0, cc0, hs0⟩ := slice_of_row hs
  subst hs0
  have HS := hide hs
  have hs1 := hs.below (rd0_below w)
  obtain ⟨W1, hW1⟩ : ∃ W1, W1 = rdr w (.slice q0 l0 cc0) := ⟨_, rfl⟩
  obtain ⟨W0, hW0⟩ : ∃ W0, W0 = rd0 w := ⟨_, rfl⟩
  rw [← hW0] at hs1
  have hb01 : Below W0.heap.size W0 W1 := by rw [hW1, hW0]; exact (Below.refl _ _).alloc (Nat.le_refl _) _
  have h31 : At3 W1 W0.heap.size 105 (.slice q0 l0 cc0) (.int .i64 0) (.int .i64 0) := by rw [hW1, hW0]; exact heap_alloc_new _ _
  have hsz0 : W0.heap.size = w.heap.size + 1 := by rw [hW0]; simp [rd0]
  have HN := hide (fun p e w' (hb : Below W0.heap.size W0 w') h3 => num_any W0.heap.size p e (.slice q0 l0 cc0) b W0 w' hs1 hroom hb (Nat.le_refl _) h3)
  have HM := hide (fun p e w' (hb : Below W0.heap.size W0 w') h3 => most_any W0.heap.size p e (.slice q0 l0 cc0) b W0 w' hs1 hroom hb (Nat.le_refl _) h3)
  have k0 : Blk4 W0 w.heap.size 72 (.int .u64 0) (.int .u64 0) (.int .i64 0) (.slice none 0 0) := by rw [hW0]; exact rd0_blk w
  have HK0 := hide (fun w' (hb : Below W0.heap.size W0 w') => k0.below hb)
  have HWB : Hid (∀ w', Below W0.heap.size W0 w' → Below w.heap.size w w') := fun w' hb => by
    have h1 := rd0_below w
    rw [← hW0] at h1
    exact h1.trans (hb.mono h1.size)
  have HW1 : Hid ((w.alloc (.cells #[.int .u64 0, .int .u64 0, .int .i64 0, .slice none 0 0] 72)).alloc (.cells #[.slice q0 l0 cc0, .int .i64 0, .int .i64 0] 105) = W1) := by unfold Hid; rw [hW1]; rfl
  have H31 := hide h31
  have HB01 := hide hb01
  have hro := reader_ok b
  rw [read_reader]
  have D1 : Hid (numF b 0 0 = hd1 b) := rfl
  have D2 : Hid (numF b (hd1 b).2.1 (hd1 b).2.2 = hd2 b) := rfl
  have D3 : Hid (mostF b 32 (hd2 b).2.1 (hd2 b).2.2 = hd3 b) := rfl
  generalize hd1 b = R1 at *
  generalize hd2 b = R2 at *
  generalize hd3 b = R3 at *
  obtain ⟨V1, P1, E1⟩ := R1
  obtain ⟨V2, P2, E2⟩ := R2
  obtain ⟨V3, P3, E3⟩ := R3
  simp only at D1 D2 D3 hro ⊢
  clear hs hs1 hW1 hb01 h31 k0 hW0
  rw [hsz0] at HN HM HK0 HWB H31 HB01
  clear hsz0
  by_cases hE : E3 = 0
  · subst hE
    rw [if_neg (by simp)]
    obtain ⟨r1, r2, r3, r4, r5⟩ := hro rfl
    obtain ⟨f, hf⟩ : ∃ f : Fr, f = ⟨V1, V2, (V3 : Int), b.drop P3.toNat⟩ := ⟨_, rfl⟩
    rw [← hf]
    have HF := hide hf
    have hmb : ∀ t w', Row w' t (b.drop P3.toNat) → Calls Try.prog 45 #[.agg #[.int .u64 (V1 : Int), .int .u64 (V2 : Int), .int .i64 (V3 : Int), t]] w' fun e w'' => e = .returned (.bool (mayF f)) ∧ Below w'.heap.size w' w'' := fun t w' hr => by
      have h := rmay_any f t w' (by rw [hf]; exact hr)
      rw [hf] at h
      unfold fv at h
      rw [hf]
      exact h
    have HMB := hide hmb
    clear hmb hf
    generalize hR : (if mayF f = true then (f, (0 : Int)) else (zeroF, 11)) = R
    have HRR := hide hR
    clear hR
    go_enter Try.func26, Try.ntmps26
    go_wp2_with fail
    rw [unhide HW1]
    refine Calls.mono (unhide HN _ _ _ (unhide HB01) (unhide H31)) ?_
    rintro x w1 ⟨rfl, k1, b1⟩
    rw [unhide D1] at k1 ⊢
    simp only at k1 ⊢
    have HK1 := hide k1
    have HB1 := hide b1
    clear k1 b1 HB01 H31 HW1
    go_wp2_with fail
    refine Calls.mono (unhide HN _ _ _ (unhide HB1) (unhide HK1)) ?_
    rintro x w2 ⟨rfl, k2, b2⟩
    rw [unhide D2] at k2 ⊢
    simp only at k2 ⊢
    have HK2 := hide k2
    have HB2 := hide b2
    clear k2 b2 HB1 HK1
    go_wp2_with fail
    refine Calls.mono (unhide HM _ _ _ (unhide HB2) (unhide HK2)) ?_
    rintro x w3 ⟨rfl, k3, b3⟩
    rw [unhide D3] at k3 ⊢
    simp only at k3 ⊢
    obtain ⟨W4, hW4⟩ : ∃ W4, W4 = w3.alloc (.cells #[.int .u64 (V1 : Int), .int .u64 (V2 : Int), .int .i64 (V3 : Int), .slice none 0 0] 72) := ⟨_, rfl⟩
    have hb34 : Below w3.heap.size w3 W4 := by rw [hW4]; exact (Below.refl _ _).alloc (Nat.le_refl _) _
    have hkF : Blk4 W4 w3.heap.size 72 (.int .u64 (V1 : Int)) (.int .u64 (V2 : Int)) (.int .i64 (V3 : Int)) (.slice none 0 0) := by rw [hW4]; exact heap_alloc_new _ _
    have hk4 := k3.below hb34
    have hkR := (unhide HK0 w3 b3).below hb34
    have hB4 : Below w.heap.size w W4 := (unhide HWB w3 b3).trans (hb34.mono (unhide HWB w3 b3).size)
    have HB4 := hide hB4
    have hlt3 : w.heap.size + 1 < w3.heap.size := World.block_lt_of_cell? w3 _ k3.cells.1
    have HW4 := hide hW4
    obtain ⟨y0, y1, y2, _⟩ := k3.cells
    have hn3 := World.new_ne w3 _ y2
    clear HB2 HK2 b3 k3 hb34 hW4
    obtain ⟨c0, c1, c2, _⟩ := hk4.cells
    have HKF := hide hkF
    have HKR := hide hkR
    have hrow := (unhide HS).below hB4
    rw [unhide HW4] at hrow
    have HCB := hide (fun t (hr : Row W4 t (b.drop P3.toNat)) => copyBytes_any t (b.drop P3.toNat) W4 hr (by simp; omega))
    clear hk4 hkR hkF hB4
    go_wp2_with (refine wpList_slice_l rfl 31 5 _ _ rfl Try.underlying31 Try.size5 _ b P3 .i64 rfl rfl hrow (by omega) (by omega) ?_)
    intro t1 hr1
    rw [← unhide HW4] at hr1 ⊢
    clear y0 y1 y2 hn3
    have HC1 := hide (unhide HCB t1 hr1)
    obtain ⟨p1, l1, q1, rfl⟩ := slice_of_row hr1
    clear hr1 hrow HCB
    go_wp2_with fail
    refine Calls.mono (unhide HC1) ?_
    rintro x w5 ⟨t2, rfl, x5, b5⟩
    have hm5 := mine_of_owns x5
    obtain ⟨p2, l2, q2, rfl⟩ := slice_of_row hm5.row
    have hkF5 := (unhide HKF).below b5
    have hkR5 := (unhide HKR).below b5
    have hB5 := (unhide HB4).trans (b5.mono (unhide HB4).size)
    have hs4 : w3.heap.size < W4.heap.size := World.block_lt_of_cell? W4 _ (unhide HKF).cells.1
    obtain ⟨e0, e1, e2, e3, fz⟩ := hkF5.cells
    have g3 := fz 3
    obtain ⟨W6, hW6⟩ : ∃ W6, W6 = w5.setCell ⟨w3.heap.size, 3, none⟩ (.slice p2 l2 q2) := ⟨_, rfl⟩
    have HW6 := hide hW6
    have hkF6 : Blk4 W6 w3.heap.size 72 (.int .u64 (V1 : Int)) (.int .u64 (V2 : Int)) (.int .i64 (V3 : Int)) (.slice p2 l2 q2) := by rw [hW6]; exact heap_setCell_same w5 _ 3 _ _ _ hkF5
    have hkR6 : Blk4 W6 w.heap.size 72 (.int .u64 0) (.int .u64 0) (.int .i64 0) (.slice none 0 0) := by
      rw [hW6]
      unfold Blk4
      rw [Below.heap_setCell _ _ _ _ (by show w.heap.size ≠ w3.heap.size; omega)]
      exact hkR5
    have hm6 : Mine W6 W4.heap.size (.slice p2 l2 q2) (b.drop P3.toNat) := by rw [hW6]; exact hm5.set hs4 _ _
    have hB6 : Below w.heap.size w W6 := by rw [hW6]; exact hB5.setCell (p := ⟨w3.heap.size, 3, none⟩) (by show w.heap.size ≤ w3.heap.size; omega) _
    have HMB6 := hide (unhide HMB (.slice p2 l2 q2) W6 hm6.row)
    have HKF6 := hide hkF6
    have HKR6 := hide hkR6
    have HM6 := hide hm6
    have HB6 := hide hB6
    obtain ⟨a0, a1, a2, a3, _⟩ := hkF6.cells
    clear fz hm5 hkF5 hkR5 hB5 hW6 hkF6 hkR6 hm6 hB6 x5 b5 HKF HKR HB4 HC1
    go_wp2_with fail
    rw [← unhide HW6]
    go_wp2_with fail
    clear e0 e1 e2 e3 g3
    refine Calls.mono (unhide HMB6) ?_
    rintro x w7 ⟨rfl, b7⟩
    have hB7 := (unhide HB6).trans (b7.mono (unhide HB6).size)
    have hm7 := (unhide HM6).below b7
    have hn7 : ∀ v0 v1 v2 v3, Mine ((((w7.setCell ⟨w.heap.size, 0, none⟩ v0).setCell ⟨w.heap.size, 1, none⟩ v1).setCell ⟨w.heap.size, 2, none⟩ v2).setCell ⟨w.heap.size, 3, none⟩ v3) w.heap.size (.slice p2 l2 q2) (b.drop P3.toNat) := fun v0 v1 v2 v3 => ((((hm7.set (by omega) 0 v0).set (by omega) 1 v1).set (by omega) 2 v2).set (by omega) 3 v3).base (by omega)
    clear hm7
    obtain ⟨e0, e1, e2, e3, _⟩ := ((unhide HKF6).below b7).cells
    obtain ⟨d0, d1, d2, d3, fz⟩ := ((unhide HKR6).below b7).cells
    have g0 := fz 0
    have g1 := fz 1
    have g2 := fz 2
    have g3 := fz 3
    have HB7 := hide hB7
    clear fz b7 hB7 a0 a1 a2 a3 HKF6 HKR6 HM6 HB6 HMB6 HMB
    cases hm : mayF f with
    | false =>
      have HRE : Hid (R = (zeroF, 11)) := by unfold Hid; rw [← unhide HRR, hm, if_neg (by simp)]
      clear hm hn7
      go_wp2
      refine bodyPost_ret (v := .tuple #[.agg #[.int .u64 0, .int .u64 0, .int .i64 0, .slice none 0 0], .int .i64 11]) (by simp [results, Try.results26, go_sem, *]) rfl ⟨.slice none 0 0, by rw [unhide HRE]; rfl, by rw [unhide HRE]; exact mine_nil _ _, ?_⟩
      exact ((((unhide HB7).setCell (p := ⟨w.heap.size, 0, none⟩) (Nat.le_refl _) _).setCell (p := ⟨w.heap.size, 1, none⟩) (Nat.le_refl _) _).setCell (p := ⟨w.heap.size, 2, none⟩) (Nat.le_refl _) _).setCell (p := ⟨w.heap.size, 3, none⟩) (Nat.le_refl _) _
    | true =>
      have HRE : Hid (R = (f, 0)) := by unfold Hid; rw [← unhide HRR, hm, if_pos rfl]
      have HN7 := hide hn7
      clear hm hn7
      go_wp2
      refine bodyPost_ret (v := .tuple #[.agg #[.int .u64 (V1 : Int), .int .u64 (V2 : Int), .int .i64 (V3 : Int), .slice p2 l2 q2], .int .i64 0]) (by simp [results, Try.results26, go_sem, *]) rfl ⟨.slice p2 l2 q2, by rw [unhide HRE, unhide HF]; rfl, ?_, ?_⟩
      · rw [unhide HRE, unhide HF]
        exact unhide HN7 _ _ _ _
      · exact ((((unhide HB7).setCell (p := ⟨w.heap.size, 0, none⟩) (Nat.le_refl _) _).setCell (p := ⟨w.heap.size, 1, none⟩) (Nat.le_refl _) _).setCell (p := ⟨w.heap.size, 2, none⟩) (Nat.le_refl _) _).setCell (p := ⟨w.heap.size, 3, none⟩) (Nat.le_refl _) _
  · rw [if_pos hE]
    have hE' : (E3 == 0) = false := by simp [hE]
    clear hro
    go_enter Try.func26, Try.ntmps26
    go_wp2_with fail
    rw [unhide HW1]
    refine Calls.mono (unhide HN _ _ _ (unhide HB01) (unhide H31)) ?_
    rintro x w1 ⟨rfl, k1, b1⟩
    rw [unhide D1] at k1 ⊢
    simp only at k1 ⊢
    have HK1 := hide k1
    have HB1 := hide b1
    clear k1 b1 HB01 H31 HW1
    go_wp2_with fail
    refine Calls.mono (unhide HN _ _ _ (unhide HB1) (unhide HK1)) ?_
    rintro x w2 ⟨rfl, k2, b2⟩
    rw [unhide D2] at k2 ⊢
    simp only at k2 ⊢
    have HK2 := hide k2
    have HB2 := hide b2
    clear k2 b2 HB1 HK1
    go_wp2_with fail
    refine Calls.mono (unhide HM _ _ _ (unhide HB2) (unhide HK2)) ?_
    rintro x w3 ⟨rfl, k3, b3⟩
    rw [unhide D3] at k3 ⊢
    simp only at k3 ⊢
    obtain ⟨W4, hW4⟩ : ∃ W4, W4 = w3.alloc (.cells #[.int .u64 (V1 : Int), .int .u64 (V2 : Int), .int .i64 (V3 : Int), .slice none 0 0] 72) := ⟨_, rfl⟩
    have hb34 : Below w3.heap.size w3 W4 := by rw [hW4]; exact (Below.refl _ _).alloc (Nat.le_refl _) _
    have hkF : Blk4 W4 w3.heap.size 72 (.int .u64 (V1 : Int)) (.int .u64 (V2 : Int)) (.int .i64 (V3 : Int)) (.slice none 0 0) := by rw [hW4]; exact heap_alloc_new _ _
    have hk4 := k3.below hb34
    have hkR := (unhide HK0 w3 b3).below hb34
    have hB4 : Below w.heap.size w W4 := (unhide HWB w3 b3).trans (hb34.mono (unhide HWB w3 b3).size)
    have HB4 := hide hB4
    have hlt3 : w.heap.size + 1 < w3.heap.size := World.block_lt_of_cell? w3 _ k3.cells.1
    have HW4 := hide hW4
    obtain ⟨y0, y1, y2, _⟩ := k3.cells
    have hn3 := World.new_ne w3 _ y2
    clear HB2 HK2 b3 k3 hb34 hW4
    have hbd : Below W4.heap.size W4 W4.drew := (Below.refl _ _).drew
    obtain ⟨c0, c1, c2, _⟩ := hk4.cells
    obtain ⟨d0, d1, d2, d3, fz⟩ := hkR.cells
    have f0 := fz 0
    have f1 := fz 1
    have f2 := fz 2
    have f3 := fz 3
    have hne1 : ¬ w.heap.size + 1 = w.heap.size := by omega
    clear fz hk4 hkR hkF hbd
    go_wp2_with fail
    rw [← unhide HW4]
    clear y0 y1 y2 hn3
    go_region
    go_wp2
    refine bodyPost_ret (v := .tuple #[.agg #[.int .u64 0, .int .u64 0, .int .i64 0, .slice none 0 0], .int .i64 E3]) (by simp [results, Try.results26, go_sem, *]) rfl ⟨.slice none 0 0, rfl, mine_nil _ _, ?_⟩
    have := unhide HB4
    repeat' (first
      | assumption
      | refine Below.setCell ?_ (by first | exact Nat.le_refl _ | (simp; done) | (simp; omega) | omega) _
      | refine Below.alloc ?_ (by first | exact Nat.le_refl _ | (simp; done) | (simp; omega) | omega) _
      | refine Below.drew ?_)
end Go.Proofs.Ytpkpjmebkikgdaa

/- The document's own answers of layer 6: Frames, Cut. -/
namespace Go.Proofs.Ytpkpjmebkikgdaa
open Go.RowKit

theorem frames_take (A C : Nat) (r : List UInt8) (k : Nat) (h : (k : Int) < countN r.length) : (framesN A C r).take (k + 1) = (framesN A C r).take k ++ [⟨A, C, countN r.length, partN r k⟩] := by
  have hl := length_frames A C r
  rw [List.take_succ_eq_append_getElem (by omega), frames_get]
theorem part_eq (r : List UInt8) (k h : Nat) (h1 : h = min r.length ((k + 1) * 440)) : (r.drop (k * 440)).take (h - k * 440) = partN r k := by
  unfold partN
  rcases Nat.le_total r.length ((k + 1) * 440) with h2 | h2
  · rw [List.take_of_length_le (by simp; omega), List.take_of_length_le (by simp; omega)]
  · congr 1
    omega

set_option maxRecDepth 20000 in
set_option maxHeartbeats 1000000 in
theorem rframes_any (A C : Nat) (hA : A < 18446744073709551616) (hC : C < 18446744073709551616) (s : Value) (r : List UInt8) (w : World) (hs : Row w s r) (hroom : r.length ≤ 8192) :
    Calls Try.prog 46 #[.int .u64 (A : Int), .int .u64 (C : Int), s] w fun e w' => ∃ v l, e = .returned v ∧ FOwn w' w.heap.size v l ∧ frs l = framesN A C r ∧ Below w.heap.size w w' := by
  obtain ⟨i0, hi, hz0, hz1, hz2⟩ := info_parts Try.info72
  have hn1 := count_pos (n := r.length) (by omega)
  have hn2 := count_le (n := r.length) (by omega)
  obtain ⟨N, hN⟩ := Int.eq_ofNat_of_zero_le (show 0 ≤ countN r.length by omega)
  have HCN := hide (rcount_any (r.length : Int) w (by omega) (by omega))
  rw [hN] at HCN hn1 hn2
  have hcd : ∀ k, k < N → k * 440 ≤ r.length := by
    intro k hk
    have h1 : (k : Int) < countN r.length := by omega
    unfold countN at h1
    repeat' split at h1
    all_goals omega
  have HCD := hide hcd
  have HFT := hide (fun k (hk : k < N) => frames_take A C r k (by omega))
  rw [hN] at HFT
  have HALL : Hid ((framesN A C r).take N = framesN A C r) := by
    have := length_frames A C r
    unfold Hid
    rw [List.take_of_length_le (by omega)]
  have HR := hide (fun w' (hb : Below w.heap.size w w') => hs.below hb)
  obtain ⟨q, c, l, rfl, hl⟩ := hs.shape
  have HL := hide hl
  rw [hl] at HCN
  have hl8 : (l : Int) ≤ 8192 := by omega
  clear hs hcd hN hl
  go_enter Try.func46, Try.ntmps46
  go_wp2_with fail
  refine Calls.mono (unhide HCN) ?_
  rintro e w0 ⟨rfl, rfl⟩
  go_wp2_with fail
  go_loopw [8, 9] (fun v i wr => ∃ (k : Nat) (L : List (Fr × Value)), k ≤ N ∧ i = .int .i64 k ∧ Hid (FOwn wr w0.heap.size v L) ∧ Hid (frs L = (framesN A C r).take k) ∧ L.length = k ∧ Hid (Below w0.heap.size w0 wr)) (fun _ i _ => N - (intOf i).toNat)
  case atStart => exact ⟨0, [], Nat.zero_le _, rfl, FOwn.nil _ _, by simp [frs, Hid], rfl, Below.refl _ _⟩
  case round =>
    obtain ⟨k, L, hk, rfl, hF, hfr, hLk, hbel⟩ := hrel
    by_cases hlt : k < N
    · have hck := unhide HCD k hlt
      have hrow := unhide HR wr (unhide hbel)
      have hkl : (k : Int) < N := by omega
      have hll := unhide HL
      have hk0 : (k : Int) * 440 ≤ l := by omega
      by_cases hto : (l : Int) ≤ ((k : Int) + 1) * 440
      · have hto2 : ¬ ((k : Int) + 1) * 440 < l := by omega
        have hpe := part_eq r k r.length (by omega)
        have HCC : Hid (∀ t', Row wr t' ((r.drop ((k : Int) * 440).toNat).take (((l : Int) : Int).toNat - ((k : Int) * 440).toNat)) → Row wr t' (partN r k)) := by
          intro t' ht
          have e1 : ((k : Int) * 440).toNat = k * 440 := by omega
          have e2 : ((l : Int) : Int).toNat = r.length := by omega
          rw [e1, e2, hpe] at ht
          exact ht
        have hhl : ((l : Int) : Int) ≤ r.length := by omega
        have hkh : (k : Int) * 440 ≤ (l : Int) := by omega
        clear hpe hck
        go_wp2_with (refine wpList_slice_lh rfl 31 5 _ _ _ rfl Try.underlying31 Try.size5 _ r ((k : Int) * 440) ((l : Int)) .i64 .i64 rfl rfl rfl hrow (by omega) hkh hhl ?_)
        intro t1 hr1
        have hr1' := unhide HCC t1 hr1
        have HCB := hide (copyBytes_any t1 (partN r k) wr hr1' (by rw [length_part]; omega))
        obtain ⟨p1, l1, c1, rfl⟩ := slice_of_row hr1'
        clear hr1 hr1' hrow HCC hhl hkh
        go_wp2_with fail
        refine Calls.mono (unhide HCB) ?_
        rintro e w1 ⟨t2, rfl, x2, b2⟩
        obtain ⟨W, hW⟩ : ∃ W, W = w1.alloc (.cells #[.int .u64 (A : Int), .int .u64 (C : Int), .int .i64 (N : Int), t2] 72) := ⟨_, rfl⟩
        have hbW : Below w1.heap.size w1 W := by rw [hW]; exact (Below.refl _ _).alloc (Nat.le_refl _) _
        have h4 : At4 W w1.heap.size 0 (.int .u64 (A : Int)) (.int .u64 (C : Int)) (.int .i64 (N : Int)) t2 := by rw [hW]; exact at4_new _ _ _ _ _ _
        have hF1 := (unhide hF).below b2
        have hFW := hF1.below hbW
        have hB1 : Below w0.heap.size w0 w1 := (unhide hbel).trans (b2.mono (unhide hbel).size)
        have hBW : Below w0.heap.size w0 W := hB1.trans (hbW.mono hB1.size)
        have hr2 := row_of_owns x2
        have hap : ∀ b off n c, t2 = .slice (some ⟨b, off, none⟩) n c → partN r k ≠ [] → u8.ownBlock ≠ some b := by
          intro b off n c e _ hb
          have h1 := ((unhide hF).1.lt b hb).2
          rw [e] at x2
          have h2 := (x2.lt b rfl).1
          omega
        obtain ⟨p2, l2, c2, e2⟩ := slice_of_row hr2
        subst e2
        have HMORE := hide (fun v' w2 => hF1.more (v' := v') (w2 := w2) (m := [(⟨A, C, (N : Int), partN r k⟩, .slice p2 l2 c2)]) hbW (fun p hp => by
          simp only [List.mem_singleton] at hp
          subst hp
          exact ⟨⟨hA, hC, by simp only; omega, by simp only; omega, by simp only [length_part]; omega⟩, hr2, hap⟩))
        have HWW := hide hW
        have HOWN := hide hFW.1
        have HBW := hide hBW
        have hszW := hBW.size
        have HLTB := hide (fun j hj => (hFW.1.lt j hj).1)
        clear hW hbW hF hF1 hFW hB1 hBW hr2 hap x2 b2 HCB
        go_wp2_with (at_builtin; rw [← unhide HWW]; refine wpList_append_gen rfl _ _ 70 rfl w0.heap.size 72 i0 _ Try.underlying70 hi hz0 4 48 (by omega) hz1 hz2 rfl u8 L.length (cellsL L) rfl (unhide HOWN) ⟨w1.heap.size, 0, none⟩ 1 1 (cellsL [(⟨A, C, (N : Int), partN r k⟩, .slice p2 l2 c2)]) rfl rfl ?c1 ?c2 ?c3 ?c4 hszW ?_)
        case c1 =>
          intro j u hj
          obtain ⟨a0, a1, a2, a3⟩ := h4
          match j, hj with
          | 0, hj => simp [cellsL, frC] at hj; subst hj; simpa [Addr.add] using a0
          | 1, hj => simp [cellsL, frC] at hj; subst hj; simpa [Addr.add] using a1
          | 2, hj => simp [cellsL, frC] at hj; subst hj; simpa [Addr.add] using a2
          | 3, hj => simp [cellsL, frC] at hj; subst hj; simpa [Addr.add] using a3
          | j + 4, hj => simp [cellsL, frC] at hj
        case c2 => exact oneCell_L _ (fun p hp => by simp only [List.mem_singleton] at hp; subst hp; exact ⟨_, _, _, rfl⟩)
        case c3 => unfold maxLen; omega
        case c4 => omega
        intro v' w2 hown2 hgrow hvb
        have hF2 := unhide HMORE v' w2 (by rw [hLk]; exact hown2) hgrow hvb
        have HF2 := hide hF2
        have HB2 := hide ((unhide HBW).grown hgrow hszW (fun j hj => unhide HLTB j hj))
        clear hown2 hgrow hvb hF2 HMORE HOWN HBW HLTB h4
        go_wp2
        go_roundw
        case rel => exact ⟨k + 1, _, by omega, by go_num, unhide HF2, by unfold Hid; rw [frs_append, unhide hfr, unhide HFT k hlt]; rfl, by simp; omega, unhide HB2⟩
        case measure => simp [intOf]; omega
      · have hto2 : ((k : Int) + 1) * 440 < l := by omega
        have hpe := part_eq r k ((k + 1) * 440) (by omega)
        have HCC : Hid (∀ t', Row wr t' ((r.drop ((k : Int) * 440).toNat).take ((((k : Int) + 1) * 440 : Int).toNat - ((k : Int) * 440).toNat)) → Row wr t' (partN r k)) := by
          intro t' ht
          have e1 : ((k : Int) * 440).toNat = k * 440 := by omega
          have e2 : (((k : Int) + 1) * 440 : Int).toNat = ((k + 1) * 440) := by omega
          rw [e1, e2, hpe] at ht
          exact ht
        have hhl : (((k : Int) + 1) * 440 : Int) ≤ r.length := by omega
        have hkh : (k : Int) * 440 ≤ ((k : Int) + 1) * 440 := by omega
        clear hpe hck
        go_wp2_with (refine wpList_slice_lh rfl 31 5 _ _ _ rfl Try.underlying31 Try.size5 _ r ((k : Int) * 440) (((k : Int) + 1) * 440) .i64 .i64 rfl rfl rfl hrow (by omega) hkh hhl ?_)
        intro t1 hr1
        have hr1' := unhide HCC t1 hr1
        have HCB := hide (copyBytes_any t1 (partN r k) wr hr1' (by rw [length_part]; omega))
        obtain ⟨p1, l1, c1, rfl⟩ := slice_of_row hr1'
        clear hr1 hr1' hrow HCC hhl hkh
        go_wp2_with fail
        refine Calls.mono (unhide HCB) ?_
        rintro e w1 ⟨t2, rfl, x2, b2⟩
        obtain ⟨W, hW⟩ : ∃ W, W = w1.alloc (.cells #[.int .u64 (A : Int), .int .u64 (C : Int), .int .i64 (N : Int), t2] 72) := ⟨_, rfl⟩
        have hbW : Below w1.heap.size w1 W := by rw [hW]; exact (Below.refl _ _).alloc (Nat.le_refl _) _
        have h4 : At4 W w1.heap.size 0 (.int .u64 (A : Int)) (.int .u64 (C : Int)) (.int .i64 (N : Int)) t2 := by rw [hW]; exact at4_new _ _ _ _ _ _
        have hF1 := (unhide hF).below b2
        have hFW := hF1.below hbW
        have hB1 : Below w0.heap.size w0 w1 := (unhide hbel).trans (b2.mono (unhide hbel).size)
        have hBW : Below w0.heap.size w0 W := hB1.trans (hbW.mono hB1.size)
        have hr2 := row_of_owns x2
        have hap : ∀ b off n c, t2 = .slice (some ⟨b, off, none⟩) n c → partN r k ≠ [] → u8.ownBlock ≠ some b := by
          intro b off n c e _ hb
          have h1 := ((unhide hF).1.lt b hb).2
          rw [e] at x2
          have h2 := (x2.lt b rfl).1
          omega
        obtain ⟨p2, l2, c2, e2⟩ := slice_of_row hr2
        subst e2
        have HMORE := hide (fun v' w2 => hF1.more (v' := v') (w2 := w2) (m := [(⟨A, C, (N : Int), partN r k⟩, .slice p2 l2 c2)]) hbW (fun p hp => by
          simp only [List.mem_singleton] at hp
          subst hp
          exact ⟨⟨hA, hC, by simp only; omega, by simp only; omega, by simp only [length_part]; omega⟩, hr2, hap⟩))
        have HWW := hide hW
        have HOWN := hide hFW.1
        have HBW := hide hBW
        have hszW := hBW.size
        have HLTB := hide (fun j hj => (hFW.1.lt j hj).1)
        clear hW hbW hF hF1 hFW hB1 hBW hr2 hap x2 b2 HCB
        go_wp2_with (at_builtin; rw [← unhide HWW]; refine wpList_append_gen rfl _ _ 70 rfl w0.heap.size 72 i0 _ Try.underlying70 hi hz0 4 48 (by omega) hz1 hz2 rfl u8 L.length (cellsL L) rfl (unhide HOWN) ⟨w1.heap.size, 0, none⟩ 1 1 (cellsL [(⟨A, C, (N : Int), partN r k⟩, .slice p2 l2 c2)]) rfl rfl ?c1 ?c2 ?c3 ?c4 hszW ?_)
        case c1 =>
          intro j u hj
          obtain ⟨a0, a1, a2, a3⟩ := h4
          match j, hj with
          | 0, hj => simp [cellsL, frC] at hj; subst hj; simpa [Addr.add] using a0
          | 1, hj => simp [cellsL, frC] at hj; subst hj; simpa [Addr.add] using a1
          | 2, hj => simp [cellsL, frC] at hj; subst hj; simpa [Addr.add] using a2
          | 3, hj => simp [cellsL, frC] at hj; subst hj; simpa [Addr.add] using a3
          | j + 4, hj => simp [cellsL, frC] at hj
        case c2 => exact oneCell_L _ (fun p hp => by simp only [List.mem_singleton] at hp; subst hp; exact ⟨_, _, _, rfl⟩)
        case c3 => unfold maxLen; omega
        case c4 => omega
        intro v' w2 hown2 hgrow hvb
        have hF2 := unhide HMORE v' w2 (by rw [hLk]; exact hown2) hgrow hvb
        have HF2 := hide hF2
        have HB2 := hide ((unhide HBW).grown hgrow hszW (fun j hj => unhide HLTB j hj))
        clear hown2 hgrow hvb hF2 HMORE HOWN HBW HLTB h4
        go_wp2
        go_roundw
        case rel => exact ⟨k + 1, _, by omega, by go_num, unhide HF2, by unfold Hid; rw [frs_append, unhide hfr, unhide HFT k hlt]; rfl, by simp; omega, unhide HB2⟩
        case measure => simp [intOf]; omega
    · have hkn : k = N := by omega
      subst hkn
      go_wp2
      go_ret
      exact ⟨_, L, rfl, unhide hF, by rw [unhide hfr, unhide HALL], unhide hbel⟩
end Go.Proofs.Ytpkpjmebkikgdaa
