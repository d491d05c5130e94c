/- The walk of the statement 'QueueNil'. -/
import Derived.Test.YtbannlomemkjbaaG11
import Derived.Test.YtbannlomemkjbaaG13
namespace Go.Proofs.Ytbannlomemkjbaa
open Go.RowKit Go.Shelf
attribute [local go_sem] Oper.semAt_some

/-- A range over what a nil queue drains: nothing. -/
theorem wpIn_drain_nil {g : Operand} {p : Tmp} {body : Code} {Q : Exit → Act → World → Prop} {a : Act} {w : World} {Bn : Nat} (hg : a.eval g = .func (.func 48) #[] #[.pointer (some ⟨Bn, 0, none⟩)]) (hB : w.cell? ⟨Bn, 0, none⟩ = some (.pointer none))
    (hdone : ∀ (D : Nat) (W : World), w.heap.size ≤ D → Below w.heap.size w W → W.heap[D]? = some (.deferred (some [])) → Q .normal { a with defers := { target := .collected D, args := #[] } :: a.defers } W) :
    (Code.rangeFunc g #[p] Code.skip body).wpIn Fence.wide 3 Try.prog Q a w := by
  refine wpIn_rangeFunc_ownF rfl (by decide) hg trivial (fun _ _ => by kernel_rfl) (nil_stops 2 Bn w hB) belowK_t (belowK_b (Nat.le_refl _)) (Below.refl _ _) (fun _ => rfl)
    (fun _ W => Below w.heap.size w W) (fun _ _ _ => False) (ownFrom_below (Nat.le_refl _) (Nat.le_refl _)) (fun _ _ _ _ _ h _ _ => h) (Below.refl _ _)
    (fun x => { tmps := ((#[p] : Array Tmp).zip #[.agg #[.int .i64 x.1, .string x.2]]).foldl (fun t (p, v) => t.setIfInBounds p v) a.tmps, defers := [] }) ?assign ?body ?done ?stop
  case assign =>
    intro l x W K hK
    exact wpIn_skip hK
  case body => intro l pre x W _ h; omega
  case done =>
    rintro D xs W hD rfl hb hK
    exact hdone D W hD hb hK
  case stop =>
    rintro D c pre W _ h
    exact h.elim

set_option maxRecDepth 20000 in
set_option maxHeartbeats 2000000 in
theorem qnil_any (x : It) (w : World) : Calls Try.prog 7 #[.agg #[.int .i64 x.1, .string x.2]] w fun e w' => e = .returned (.bool true) ∧ Below w.heap.size w w' := by
  refine (callsIn_wide (n := 3)).1 ?_
  refine callsIn_of_wp_marks Try.func7 rfl trivial ?_ rfl
  simp only [Try.ntmps7, List.size_toArray, List.length_cons, List.length_nil, Nat.reduceAdd, Nat.reduceSub, Array.replicate_succ, Array.replicate_zero, List.push_toArray, List.append_toArray, List.nil_append, List.cons_append]
  have hq : ∀ W : World, (binOp .eql 26 (.agg #[.int .i64 0, .string ⟨#[]⟩]) (.agg #[.int .i64 0, .string ⟨#[]⟩])).run Try.prog W = .ok (.bool true) W := fun W => by
    have h := it_eql (0, ⟨#[]⟩) (0, ⟨#[]⟩) W
    rw [itEq_refl] at h
    exact h
  have hnf : ∀ (k : Nat) (a b : Array Value) (W : World), (binOp .eql 67 (.func (.func k) a b) .nilFunc).run Try.prog W = .ok (.bool false) W := fun _ _ _ _ => rfl
  have hb0 : Below w.heap.size w ((w.alloc (.cells #[.int .i64 x.1, .string x.2] 26)).alloc (.cells #[.bool false] 4)) := ((Below.refl _ _).alloc (Nat.le_refl _) _).alloc (by simp) _
  have z0 := (Below.heap_alloc (w.alloc (.cells #[.int .i64 x.1, .string x.2] 26)) (.cells #[.bool false] 4) w.heap.size (by simp)).trans (heap_alloc_new w (.cells #[.int .i64 x.1, .string x.2] 26))
  have z1 := heap_alloc_new (w.alloc (.cells #[.int .i64 x.1, .string x.2] 26)) (.cells #[.bool false] 4)
  rw [World.size_alloc] at z1
  have HB0 := hide hb0
  have HZ0 := hide z0
  have HZ1 := hide z1
  clear hb0 z0 z1
  gi_wp2_with fail
  obtain ⟨W0, hW0⟩ : ∃ W0, ((w.alloc (.cells #[.int .i64 x.1, .string x.2] 26)).alloc (.cells #[.bool false] 4)) = W0 := ⟨_, rfl⟩
  rw [hW0] at HB0 HZ0 HZ1 ⊢
  clear hW0
  refine ⟨trivial, (callsIn_wide.2 (npop_any _)).mono ?_⟩
  rintro e w1 ⟨rfl, b1⟩
  have hb1 : Below W0.heap.size W0 (w1.alloc (.cells #[.int .i64 0, .string ⟨#[]⟩] 26)) := b1.alloc b1.size _
  have HA := hide (heap_alloc_new w1 (.cells #[.int .i64 0, .string ⟨#[]⟩] 26))
  have HB1 := hide hb1
  clear b1 hb1
  gi_wp2_with fail
  obtain ⟨W1, hW1⟩ : ∃ W1, (w1.alloc (.cells #[.int .i64 0, .string ⟨#[]⟩] 26)) = W1 := ⟨_, rfl⟩
  rw [hW1] at HA HB1 ⊢
  clear hW1
  refine ⟨trivial, (callsIn_wide.2 (npeek_any _)).mono ?_⟩
  rintro e w2 ⟨rfl, b2⟩
  have hb2 : Below W1.heap.size W1 (w2.alloc (.cells #[.int .i64 0, .string ⟨#[]⟩] 26)) := b2.alloc b2.size _
  have HA2 := hide (heap_alloc_new w2 (.cells #[.int .i64 0, .string ⟨#[]⟩] 26))
  have HB2 := hide hb2
  clear b2 hb2
  gi_wp2_with fail
  obtain ⟨W2, hW2⟩ : ∃ W2, (w2.alloc (.cells #[.int .i64 0, .string ⟨#[]⟩] 26)) = W2 := ⟨_, rfl⟩
  rw [hW2] at HA2 HB2 ⊢
  clear hW2
  refine ⟨trivial, (callsIn_wide.2 (qdrain_any _ none)).mono ?_⟩
  rintro e w3 ⟨rfl, hBn, b3⟩
  have HB3 := hide b3
  have HBN := hide hBn
  clear b3 hBn
  gi_wp2_with fail
  refine ⟨trivial, (callsIn_wide.2 (awake_any _)).mono ?_⟩
  rintro e w4 ⟨rfl, b4⟩
  -- all that counts, at the loop
  have B24 : Below W2.heap.size W2 w4 := (unhide HB3).trans (b4.mono (unhide HB3).size)
  have B14 : Below W1.heap.size W1 w4 := (unhide HB2).trans (B24.mono (unhide HB2).size)
  have B04 : Below W0.heap.size W0 w4 := (unhide HB1).trans (B14.mono (unhide HB1).size)
  have l2 := (Array.getElem?_eq_some_iff.1 (unhide HA2)).1
  have l1 := (Array.getElem?_eq_some_iff.1 (unhide HA)).1
  have l0 := (Array.getElem?_eq_some_iff.1 (unhide HZ0)).1
  have l01 := (Array.getElem?_eq_some_iff.1 (unhide HZ1)).1
  have y2 := (B24.block _ l2).trans (unhide HA2)
  have y1 := (B14.block _ l1).trans (unhide HA)
  have y0 := (B04.block _ l0).trans (unhide HZ0)
  have y01 := (B04.block _ l01).trans (unhide HZ1)
  have hBn4 := (b4.cell (p := ⟨W2.heap.size, 0, none⟩) (World.block_lt_of_cell? w3 _ (unhide HBN))).trans (unhide HBN)
  have Bw : Below w.heap.size w w4 := (unhide HB0).trans (B04.mono (unhide HB0).size)
  have HY := hide (And.intro y2 (And.intro y1 (And.intro y0 y01)))
  have HBW := hide Bw
  have hlw := Bw.size
  have hl4 := Nat.lt_of_lt_of_le l01 B04.size
  clear B24 B14 B04 l2 l1 l0 l01 y2 y1 y0 y01 b4 HB3 HBN HB2 HB1 HB0 HA HA2 HZ0 HZ1 Bw
  gi_wp2_with fail
  refine wpIn_drain_nil (Bn := W2.heap.size) rfl hBn4 ?_
  intro D W hD hb hK
  obtain ⟨y2, y1, y0, y01⟩ := unhide HY
  have y2' := (hb.block _ (Array.getElem?_eq_some_iff.1 y2).1).trans y2
  have y1' := (hb.block _ (Array.getElem?_eq_some_iff.1 y1).1).trans y1
  have y0' := (hb.block _ (Array.getElem?_eq_some_iff.1 y0).1).trans y0
  have y01' := (hb.block _ (Array.getElem?_eq_some_iff.1 y01).1).trans y01
  have c0 : W.cell? ⟨w.heap.size, 0, none⟩ = some (.int .i64 x.1) := by rw [cell_of_row W w.heap.size _ _ _ (0, 0) y0']; rfl
  have c1 : W.cell? ⟨w.heap.size, 1, none⟩ = some (.string x.2) := by rw [cell_of_row W w.heap.size _ _ _ (0, 0) y0']; rfl
  have HY' := hide (And.intro y2' (And.intro y1' y01'))
  have HBW' := hide ((unhide HBW).trans (hb.mono hlw))
  have HK := hide hK
  have hl4' := Nat.lt_of_lt_of_le (Array.getElem?_eq_some_iff.1 y01).1 hb.size
  clear y2 y1 y0 y01 y2' y1' y0' y01' hb hK HY HBW hBn4
  gi_wp2_with fail
  refine ⟨trivial, (callsIn_wide.2 (npush_any x _)).mono ?_⟩
  rintro e w5 ⟨rfl, b5⟩
  obtain ⟨y2, y1, y01⟩ := unhide HY'
  have y2' := (b5.block _ (Array.getElem?_eq_some_iff.1 y2).1).trans y2
  have y1' := (b5.block _ (Array.getElem?_eq_some_iff.1 y1).1).trans y1
  have y01' := (b5.block _ (Array.getElem?_eq_some_iff.1 y01).1).trans y01
  have hK5 := (b5.block _ (Array.getElem?_eq_some_iff.1 (unhide HK)).1).trans (unhide HK)
  have d0 : w5.cell? ⟨w1.heap.size, 0, none⟩ = some (.int .i64 0) := by rw [cell_of_row w5 w1.heap.size _ _ _ (0, 0) y1']; rfl
  have d1 : w5.cell? ⟨w1.heap.size, 1, none⟩ = some (.string ⟨#[]⟩) := by rw [cell_of_row w5 w1.heap.size _ _ _ (0, 0) y1']; rfl
  have e0 : w5.cell? ⟨w2.heap.size, 0, none⟩ = some (.int .i64 0) := by rw [cell_of_row w5 w2.heap.size _ _ _ (0, 0) y2']; rfl
  have e1 : w5.cell? ⟨w2.heap.size, 1, none⟩ = some (.string ⟨#[]⟩) := by rw [cell_of_row w5 w2.heap.size _ _ _ (0, 0) y2']; rfl
  have HK5 := hide hK5
  have HR5 := hide y01'
  have HB5 := hide ((unhide HBW').trans (b5.mono (unhide HBW').size))
  clear y2 y1 y01 y2' y1' y01' hK5 b5 HK HBW' HY' c0 c1
  gi_wp2_with fail
  refine ⟨trivial, (callsIn_wide.2 (nlen_any _)).mono ?_⟩
  rintro e w6 ⟨rfl, b6⟩
  have HK6 := hide ((b6.block _ (Array.getElem?_eq_some_iff.1 (unhide HK5)).1).trans (unhide HK5))
  have HR6 := hide ((b6.block _ (Array.getElem?_eq_some_iff.1 (unhide HR5)).1).trans (unhide HR5))
  have HB6 := hide ((unhide HB5).trans (b6.mono (unhide HB5).size))
  clear b6 HK5 HR5 HB5 d0 d1 e0 e1
  gi_wp2_with fail
  refine ⟨trivial, (callsIn_wide.2 (nfork_any _)).mono ?_⟩
  rintro e w7 ⟨rfl, b7⟩
  have HK7 := hide ((b7.block _ (Array.getElem?_eq_some_iff.1 (unhide HK6)).1).trans (unhide HK6))
  have HR7 := hide ((b7.block _ (Array.getElem?_eq_some_iff.1 (unhide HR6)).1).trans (unhide HR6))
  have HB7 := hide ((unhide HB6).trans (b7.mono (unhide HB6).size))
  clear b7 HK6 HR6 HB6
  gi_wp2_with fail
  refine ⟨trivial, (callsIn_wide.2 (qsorted_any lowI _ below_C (.slice none 0 0) [] _ (TI.nil _) (by simp))).mono ?_⟩
  rintro e w8 ⟨v8, rfl, o8, _, b8⟩
  obtain ⟨p8, c8, rfl⟩ : ∃ p c, v8 = .slice p 0 c := by
    rcases o8.2 with ⟨h', _⟩ | ⟨g', cap', cur, h', _⟩
    · exact ⟨_, _, h'⟩
    · exact ⟨_, _, h'⟩
  have hK8 := (b8.block _ (Array.getElem?_eq_some_iff.1 (unhide HK7)).1).trans (unhide HK7)
  have hR8 := (b8.block _ (Array.getElem?_eq_some_iff.1 (unhide HR7)).1).trans (unhide HR7)
  have r0 : w8.cell? ⟨w.heap.size + 1, 0, none⟩ = some (.bool false) := by rw [cell_of_row w8 (w.heap.size + 1) _ _ _ (0, 0) hR8]; rfl
  have r1 : w8.frozen? ⟨w.heap.size + 1, 0, none⟩ = false := frozen_of_block hR8
  have HK8 := hide hK8
  have HR8 := hide hR8
  have HB8 := hide ((unhide HB7).trans (b8.mono (unhide HB7).size))
  clear b8 o8 hK8 hR8 HK7 HR7 HB7
  gi_wp2_with fail
  have hne : D ≠ w.heap.size + 1 := by omega
  have hK9 : (w8.setCell ⟨w.heap.size + 1, 0, none⟩ (.bool true)).heap[D]? = some (.deferred (some [])) := (heap_setCell_other w8 ⟨w.heap.size + 1, 0, none⟩ D _ (fun e => hne (by simpa using e))).trans (unhide HK8)
  have hR9 := heap_setCell_same w8 (w.heap.size + 1) 0 _ _ (.bool true) (unhide HR8)
  have hR10 : ((w8.setCell ⟨w.heap.size + 1, 0, none⟩ (.bool true)).putObj D (.deferred none)).heap[w.heap.size + 1]? = some (.cells #[.bool true] 4 (0, 0)) := (World.putObj_heap_other (by omega)).trans hR9
  have c10 : ((w8.setCell ⟨w.heap.size + 1, 0, none⟩ (.bool true)).putObj D (.deferred none)).cell? ⟨w.heap.size + 1, 0, none⟩ = some (.bool true) := by rw [cell_of_row _ (w.heap.size + 1) _ _ _ (0, 0) hR10]; rfl
  refine ⟨by simp, .inl ⟨_, _, rfl, run_takeDeferred hK9, ?_⟩⟩
  refine ⟨.bool true, ?_, rfl, ?_⟩
  · simp [results, Try.results7, go_sem, c10]
  · have hb8 := (unhide HB8).setCell (p := ⟨w.heap.size + 1, 0, none⟩) (Nat.le_succ _) (.bool true)
    have hp := keep_putObj (w8.setCell ⟨w.heap.size + 1, 0, none⟩ (.bool true)) D (.deferred none)
    exact hb8.trans (hp.below hb8.size (fun k e => by omega))

theorem walk_QueueNil (cs : Array Value) (d0 : Dt) (w : World) (h0 : Reads limSaid w itSh cs.toList d0) :
    Calls Try.prog 7 #[.agg cs] w fun e w' => e = .returned (.bool true) ∧ Below w.heap.size w w' := by
  obtain ⟨x, hx⟩ := it_of_reads h0
  have : cs = #[.int .i64 x.1, .string x.2] := by cases cs; simpa [iC] using hx
  subst this
  exact qnil_any x w
end Go.Proofs.Ytbannlomemkjbaa
