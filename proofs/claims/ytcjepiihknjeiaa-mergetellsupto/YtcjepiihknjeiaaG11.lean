/- Texts of ours, one behind the other: QhOwn7. -/
import Derived.Test.YtcjepiihknjeiaaG10
import Derived.StillTailTactics
/- The landed package queue: New, Push, Len, Peek, Pop. -/
namespace Go.Proofs.Ytcjepiihknjeiaa.QH
open Go.RowKit

theorem qp_mem {lt : It → It → Bool} {L : List (It × Nat)} {Z : List It} {n : Nat} (h : QP lt L Z n) : ∀ p ∈ L, p.1 ∈ Z := by
  obtain ⟨T, rfl, _, _, hp, _⟩ := h
  exact fun p hq => List.mem_map.2 ⟨p, hp.mem_iff.1 hq, rfl⟩
theorem qp_from {lt : It → It → Bool} {L : List (It × Nat)} {Z : List It} {n : Nat} (h : QP lt L Z n) : ∀ x ∈ Z, ∃ p ∈ L, p.1 = x := by
  obtain ⟨T, rfl, _, _, hp, _⟩ := h
  intro x hx
  obtain ⟨p, hq, e⟩ := List.mem_map.1 hx
  exact ⟨p, hp.mem_iff.2 hq, e⟩
theorem QAt.keep {F G : Nat → Prop} {w w' : World} {q n : Nat} {f : Value} {lt : It → It → Bool} {Z : List It} (h : QAt F w q f lt Z n) (hk : Keep G w w') (hn : ∀ k, F k → ¬ G k) (hd : ∀ x ∈ Z, ∀ k, x.blk k → ¬ G k) : QAt F w' q f lt Z n := by
  obtain ⟨hC, L, v, hL, hQ, hF⟩ := h
  exact ⟨hC, L, v, hL.keep hk (fun k hf => hn k ((hF k).2 hf)) (fun p hp => hd p.1 (qp_mem hQ p hp)), hQ, hF⟩
theorem QAt.heads {F : Nat → Prop} {w : World} {q n : Nat} {f : Value} {lt : It → It → Bool} {Z : List It} (h : QAt F w q f lt Z n) : ∀ x ∈ Z, HdE w x ∧ ∀ k, x.blk k → ¬ F k := by
  obtain ⟨hC, L, v, hL, hQ, hF⟩ := h
  intro x hx
  obtain ⟨p, hp, rfl⟩ := qp_from hQ x hx
  exact ⟨(hL.hds p hp).1, fun k hk hf => (hL.hds p hp).2 k hk ((hF k).1 hf)⟩
theorem QAt.below {F : Nat → Prop} {w w' : World} {q n : Nat} {f : Value} {lt : It → It → Bool} {Z : List It} (h : QAt F w q f lt Z n) (hb : Below w.heap.size w w') : QAt F w' q f lt Z n := h.keep (G := fun _ => False) (Keep.of_below hb) (fun _ _ => id) (fun _ _ _ _ => id)
theorem QAt.lt {F : Nat → Prop} {w : World} {q n : Nat} {f : Value} {lt : It → It → Bool} {Z : List It} (h : QAt F w q f lt Z n) : ∀ k, F k → k < w.heap.size := by
  obtain ⟨hC, L, v, hL, hQ, hF⟩ := h
  exact fun k hk => hL.lt k ((hF k).1 hk)
theorem QAt.mem {F : Nat → Prop} {w : World} {q n : Nat} {f : Value} {lt : It → It → Bool} {Z : List It} (h : QAt F w q f lt Z n) : F q := by
  obtain ⟨hC, L, v, hL, hQ, hF⟩ := h
  exact (hF q).2 (Or.inl rfl)
theorem QAt.small {F : Nat → Prop} {w : World} {q n : Nat} {f : Value} {lt : It → It → Bool} {Z : List It} (h : QAt F w q f lt Z n) : Z.length * 40 ≤ 140737488355328 := by
  obtain ⟨hC, L, v, hL, hQ, hF⟩ := h
  rw [← hQ.length]; exact hL.small
theorem QAt.sorted {F : Nat → Prop} {w : World} {q n : Nat} {f : Value} {lt : It → It → Bool} {Z : List It} (h : QAt F w q f lt Z n) : Z.Pairwise fun a b => lt b a = false := by
  obtain ⟨hC, L, v, hL, hQ, hF⟩ := h
  exact hQ.sorted hC.ord

set_option maxRecDepth 20000 in
theorem qnew_any (lt : It → It → Bool) (f : Value) (hC : LessC f lt) (w : World) :
    Calls Try.prog 36 #[f] w fun e w' => e = .returned (.pointer (some ⟨w.heap.size, 0, none⟩)) ∧ QAt (fun k => k = w.heap.size) w' w.heap.size f lt [] 0 ∧ Below w.heap.size w w' := by
  have H : Hid (QAt (fun k => k = w.heap.size) (w.alloc (.cells #[f, .slice none 0 0, .int .u64 0] 87)) w.heap.size f lt [] 0) := hide ⟨hC, [], .slice none 0 0, ⟨⟨heap_alloc_new w _, World.ownsRow_nil _ _ _ _, by simp [Value.ownBlock], by simp⟩, fun p hp => (by cases hp)⟩, QP.nil lt, fun k => ⟨Or.inl, fun h => by
    rcases h with h | h
    · exact h
    · simp [Value.ownBlock] at h⟩⟩
  obtain ⟨k, rfl, _, _⟩ := hC.calls
  all_goals
    go_enter Try.func36, Try.ntmps36
    go_wp2
    go_ret
    exact ⟨rfl, unhide H, (Below.refl _ _).alloc (Nat.le_refl _) _⟩

theorem qlen_any (lt : It → It → Bool) (F : Nat → Prop) (w : World) (q n : Nat) (f : Value) (Z : List It) (h : QAt F w q f lt Z n) :
    Calls Try.prog 42 #[.pointer (some ⟨q, 0, none⟩)] w fun e w' => e = .returned (.int .i64 (Z.length : Int)) ∧ Below w.heap.size w w' := by
  obtain ⟨hC, L, v, hL, hQ, hF⟩ := h
  rw [← hQ.length]
  clear hQ hF
  go_enter Try.func42, Try.ntmps42
  go_wp2_with (first | (go_at_call 47; refine Calls.mono (llen_any _ q n f v L hL) ?_; rintro e w1 ⟨rfl, b1⟩))
  go_ret
  exact ⟨rfl, b1⟩

set_option maxRecDepth 20000 in
set_option maxHeartbeats 1000000 in
theorem qpush_any (lt : It → It → Bool) (F : Nat → Prop) (w : World) (q n : Nat) (x : It) (f : Value) (Z : List It) (h : QAt F w q f lt Z n) (hx : HdE w x ∧ ∀ k, x.blk k → ¬ F k) (hs : (Z.length + 1) * 40 ≤ 140737488355328) (hn : n < 4611686018427387904) :
    Calls Try.prog 45 #[.pointer (some ⟨q, 0, none⟩), .agg #[.int .i64 x.of, .slice x.p x.n x.c]] w fun e w' => e = .returned (.int .i64 0) ∧ ∃ F', QAt F' w' q f lt (ins lt x Z) (n + 1) ∧ Moves F F' w w' := by
  have hb0 : Below w.heap.size w (w.alloc (.cells #[.int .i64 x.of, .slice x.p x.n x.c] 71)) := (Below.refl _ _).alloc (Nat.le_refl _) _
  have x1 : (w.alloc (.cells #[.int .i64 x.of, .slice x.p x.n x.c] 71)).cell? ⟨w.heap.size, 0, none⟩ = some (.int .i64 x.of) := by simp
  have x2 : (w.alloc (.cells #[.int .i64 x.of, .slice x.p x.n x.c] 71)).cell? ⟨w.heap.size, 1, none⟩ = some (.slice x.p x.n x.c) := by simp
  have H := hide (h.below hb0)
  have HX : Hid (∀ W, Below w.heap.size w W → HdE W x ∧ ∀ k, x.blk k → ¬ F k) := hide (fun W hb => ⟨hx.1.below hb, hx.2⟩)
  have HB := hide hb0
  have HS := hide hs
  have HN := hide hn
  clear h hb0 hs hn hx
  go_enter Try.func45, Try.ntmps45
  go_wp2_with fail
  obtain ⟨W0, hW0⟩ : ∃ W0, (w.alloc (.cells #[.int .i64 x.of, .slice x.p x.n x.c] 71)) = W0 := ⟨_, rfl⟩
  rw [hW0] at H HB x1 x2 ⊢
  clear hW0
  go_still_tail 4, (by kernel_rfl)
  go_wp2_with fail
  refine Calls.mono (add_any lt F _ q n x f Z ((unhide H).below (Below.refl _ _).drew) (unhide HX _ (unhide HB).drew) (unhide HS) (unhide HN)) ?_
  rintro e w1 ⟨rfl, F', q1, m1⟩
  have HE : Hid (QAt F' w1 q f lt (ins lt x Z) (n + 1) ∧ Moves F F' w w1) := hide ⟨q1, (Moves.of_below (unhide HB).drew).trans m1⟩
  clear q1 m1
  go_wp2_with fail
  go_ret
  exact ⟨rfl, F', unhide HE⟩

/-- A result of two cells, behind what only makes memory. -/
theorem res2 {w w1 : World} {x y : Value} {t : TypeId} (hb : Below (w.alloc (.cells #[x, y] t)).heap.size (w.alloc (.cells #[x, y] t)) w1) :
    w1.cell? ⟨w.heap.size, 0, none⟩ = some x ∧ w1.cell? ⟨w.heap.size, 1, none⟩ = some y ∧ w1.frozen? ⟨w.heap.size, 0, none⟩ = false ∧ w1.frozen? ⟨w.heap.size, 1, none⟩ = false ∧ w.heap.size < w1.heap.size ∧ Below w.heap.size w w1 := by
  have hh := (hb.block w.heap.size (by simp)).trans (heap_alloc_new w _)
  have hs := hb.size
  simp at hs
  refine ⟨?_, ?_, by simp [World.frozen?, hh], by simp [World.frozen?, hh], by omega, ((Below.refl _ w).alloc (Nat.le_refl _) _).trans (hb.mono (by simp))⟩
  all_goals (rw [cell_of_row w1 w.heap.size _ _ _ (0, 0) hh]; rfl)

set_option maxRecDepth 20000 in
set_option maxHeartbeats 1000000 in
theorem qpeek_none (lt : It → It → Bool) (F : Nat → Prop) (w : World) (q n : Nat) (f : Value) (h : QAt F w q f lt [] n) :
    Calls Try.prog 48 #[.pointer (some ⟨q, 0, none⟩)] w fun e w' => e = .returned (.tuple #[.agg #[.int .i64 0, .slice none 0 0], .bool false]) ∧ Below w.heap.size w w' := by
  have H := hide h
  clear h
  go_enter Try.func48, Try.ntmps48
  go_wp2_with fail
  refine Calls.mono (qlen_any lt F _ q n f [] ((unhide H).below ((Below.refl _ _).alloc (Nat.le_refl _) _))) ?_
  rintro e w1 ⟨rfl, b1⟩
  obtain ⟨r0, r1, g0, g1, hlt, hB⟩ := res2 b1
  have HB := hide hB
  have ne1 : ¬ w1.heap.size = w.heap.size := by omega
  clear b1 hB
  go_wp2_with fail
  refine bodyPost_ret (v := .tuple #[.agg #[.int .i64 0, .slice none 0 0], .bool false]) (by simp [results, Try.results48, go_sem, r0, r1, hlt]) rfl ⟨rfl, ?_⟩
  have hB := unhide HB
  exact ((hB.setCell (p := ⟨w.heap.size, 0, none⟩) (Nat.le_refl _) _).setCell (p := ⟨w.heap.size, 1, none⟩) (Nat.le_refl _) _).alloc (by simp [World.setCell]; omega) _

set_option maxRecDepth 20000 in
set_option maxHeartbeats 1000000 in
theorem qpeek_some (lt : It → It → Bool) (F : Nat → Prop) (w : World) (q n : Nat) (f : Value) (z : It) (Z : List It) (h : QAt F w q f lt (z :: Z) n) :
    Calls Try.prog 48 #[.pointer (some ⟨q, 0, none⟩)] w fun e w' => e = .returned (.tuple #[.agg #[.int .i64 z.of, .slice z.p z.n z.c], .bool true]) ∧ Below w.heap.size w w' := by
  have H := hide h
  have hlen : ¬ (((z :: Z).length : Nat) : Int) = 0 := by simp only [List.length_cons]; omega
  generalize hN : ((z :: Z).length : Int) = N at *
  have HN := hide hN
  clear h hN
  go_enter Try.func48, Try.ntmps48
  go_wp2_with fail
  refine Calls.mono (qlen_any lt F _ q n f (z :: Z) ((unhide H).below ((Below.refl _ _).alloc (Nat.le_refl _) _))) ?_
  rintro e w1 ⟨rfl, b1⟩
  rw [unhide HN]
  obtain ⟨r0, r1, g0, g1, hlt, hB⟩ := res2 b1
  have HB := hide hB
  obtain ⟨hC, L, v, hL, hQ, hF⟩ := (unhide H).below hB
  obtain ⟨h0, hz⟩ := hQ.first hC.ord
  obtain ⟨g, cap, rfl, hgq, hgl, k1, k2, fzg, hc⟩ := hL.open h0
  obtain ⟨c0, c1, c2, fz⟩ := hL.cells
  obtain ⟨a1, a2, a3⟩ := hc 0 h0
  rw [hz] at a1 a2
  simp only [Nat.zero_mul, Nat.zero_add] at a1 a2
  have h0I : (0 : Int) < (L.length : Int) := by omega
  clear b1 hB hL hQ hF hc hz hgq c0 c2 fz a3 HN
  go_wp2_with fail
  refine bodyPost_ret (v := .tuple #[.agg #[.int .i64 z.of, .slice z.p z.n z.c], .bool true]) (by simp [results, Try.results48, go_sem, r0, r1]) rfl ⟨rfl, ?_⟩
  have hB := unhide HB
  exact (hB.setCell (p := ⟨w.heap.size, 0, none⟩) (Nat.le_refl _) _).setCell (p := ⟨w.heap.size, 1, none⟩) (Nat.le_refl _) _

set_option maxRecDepth 20000 in
set_option maxHeartbeats 1000000 in
theorem qpop_none (lt : It → It → Bool) (F : Nat → Prop) (w : World) (q n : Nat) (f : Value) (h : QAt F w q f lt [] n) :
    Calls Try.prog 49 #[.pointer (some ⟨q, 0, none⟩)] w fun e w' => e = .returned (.tuple #[.agg #[.int .i64 0, .slice none 0 0], .bool false]) ∧ Below w.heap.size w w' := by
  have H := hide h
  clear h
  go_enter Try.func49, Try.ntmps49
  go_wp2_with fail
  refine Calls.mono (qpeek_none lt F _ q n f ((unhide H).below ((Below.refl _ _).alloc (Nat.le_refl _) _))) ?_
  rintro e w1 ⟨rfl, b1⟩
  obtain ⟨r0, r1, g0, g1, hlt, hB⟩ := res2 b1
  have HB := hide hB
  have ne1 : ¬ w1.heap.size = w.heap.size := by omega
  clear b1 hB
  go_wp2_with fail
  refine bodyPost_ret (v := .tuple #[.agg #[.int .i64 0, .slice none 0 0], .bool false]) (by simp [results, Try.results49, go_sem, r0, r1, hlt]) rfl ⟨rfl, ?_⟩
  have hB := unhide HB
  exact ((hB.setCell (p := ⟨w.heap.size, 0, none⟩) (Nat.le_refl _) _).setCell (p := ⟨w.heap.size, 1, none⟩) (Nat.le_refl _) _).alloc (by simp [World.setCell]; omega) _

/-- Two cells of a block that is not among those that move. -/
theorem two_keep {F : Nat → Prop} {w w' : World} {b : Nat} {x y : Value} (hk : Keep F w w') (hn : ¬ F b) (c0 : w.cell? ⟨b, 0, none⟩ = some x) (c1 : w.cell? ⟨b, 1, none⟩ = some y) (f0 : w.frozen? ⟨b, 0, none⟩ = false) (f1 : w.frozen? ⟨b, 1, none⟩ = false) :
    w'.cell? ⟨b, 0, none⟩ = some x ∧ w'.cell? ⟨b, 1, none⟩ = some y ∧ w'.frozen? ⟨b, 0, none⟩ = false ∧ w'.frozen? ⟨b, 1, none⟩ = false ∧ b < w'.heap.size := by
  have hl := World.block_lt_of_cell? w _ c0
  have hb := hk.block b hl hn
  exact ⟨(World.cell?_of_block (w := w) hb).trans c0, (World.cell?_of_block (w := w) hb).trans c1, (World.frozen?_of_block (w := w) hb).trans f0, (World.frozen?_of_block (w := w) hb).trans f1, Nat.lt_of_lt_of_le hl hk.size⟩

set_option maxRecDepth 20000 in
set_option maxHeartbeats 1000000 in
theorem qpop_some (lt : It → It → Bool) (F : Nat → Prop) (w : World) (q n : Nat) (f : Value) (z : It) (Z : List It) (h : QAt F w q f lt (z :: Z) n) :
    Calls Try.prog 49 #[.pointer (some ⟨q, 0, none⟩)] w fun e w' => e = .returned (.tuple #[.agg #[.int .i64 z.of, .slice z.p z.n z.c], .bool true]) ∧ ∃ F', QAt F' w' q f lt Z n ∧ Moves F F' w w' := by
  have H := hide h
  have hFl := h.lt
  have hHl : ∀ x ∈ z :: Z, ∀ k, x.blk k → k < w.heap.size := fun x hx k hk => (h.heads x hx).1.lt k hk
  clear h
  go_enter Try.func49, Try.ntmps49
  go_wp2_with fail
  refine Calls.mono (qpeek_some lt F _ q n f z Z ((unhide H).below ((Below.refl _ _).alloc (Nat.le_refl _) _))) ?_
  rintro e w1 ⟨rfl, b1⟩
  obtain ⟨r0, r1, g0, g1, hlt, hB⟩ := res2 b1
  have HB := hide hB
  have ne1 : ¬ w1.heap.size = w.heap.size := by omega
  clear b1 hB
  go_wp2_with fail
  have hB2 : Below w.heap.size w (w1.alloc (.cells #[.int .i64 z.of, .slice z.p z.n z.c] 71)) := (unhide HB).alloc (unhide HB).size _
  refine Calls.mono (drop_any lt F _ q n z f Z ((unhide H).below hB2)) ?_
  rintro e w2 ⟨rfl, F', q2, m2⟩
  have hs1 := (unhide HB).size
  obtain ⟨s0, s1, s2, s3, s4⟩ := two_keep (b := w.heap.size) m2.keep (fun hf => by have := hFl _ hf; omega) (x := .int .i64 0) (y := .slice none 0 0) (by rw [← r0]; exact World.cell?_alloc_past _ _ _ hlt) (by rw [← r1]; exact World.cell?_alloc_past _ _ _ hlt) ((World.frozen?_of_block (w := w1) (Below.heap_alloc _ _ _ hlt)).trans g0) ((World.frozen?_of_block (w := w1) (Below.heap_alloc _ _ _ hlt)).trans g1)
  obtain ⟨t0, t1, t2, t3, t4⟩ := two_keep (b := w1.heap.size) m2.keep (fun hf => by have := hFl _ hf; omega) (x := .int .i64 z.of) (y := .slice z.p z.n z.c) (by simp) (by simp) (frozen_of_block (heap_alloc_new w1 _)) (frozen_of_block (heap_alloc_new w1 _))
  have HE : Hid (QAt F' w2 q f lt Z n ∧ Moves F F' w w2) := hide ⟨q2, (Moves.of_below hB2).trans m2⟩
  have HNF : Hid (¬ F' w.heap.size) := hide (fun hf => by
    rcases m2.sub _ hf with h | h
    · have := hFl _ h; omega
    · simp at h; omega)
  have HNB : Hid (∀ x ∈ Z, ∀ k, x.blk k → ¬ k = w.heap.size) := hide (fun x hx k hk e => by
    have := hHl x (List.mem_cons_of_mem _ hx) k hk; omega)
  clear q2 m2 r0 r1 g0 g1 hB2 hs1 hFl hHl
  go_wp2_with fail
  refine bodyPost_ret (v := .tuple #[.agg #[.int .i64 z.of, .slice z.p z.n z.c], .bool true]) (by simp [results, Try.results49, go_sem, s0, s1]) rfl ⟨rfl, F', ?_⟩
  obtain ⟨hq, hm⟩ := unhide HE
  have hk : ∀ (W : World) (j : Nat) (u : Value), Keep (fun k => k = w.heap.size) W (W.setCell ⟨w.heap.size, j, none⟩ u) := fun W j u => ⟨rfl, rfl, rfl, by simp [World.setCell], fun k _ hk => heap_setCell_other W ⟨w.heap.size, j, none⟩ k _ (fun e => hk (by simp at e; exact e.symm ▸ rfl))⟩
  have hk2 := (hk w2 0 (.int .i64 z.of)).trans (hk _ 1 (.slice z.p z.n z.c)) (fun _ h => Or.inl h)
  refine ⟨hq.keep hk2 (fun k hf e => unhide HNF (e ▸ hf)) (fun x hx k hk e => unhide HNB x hx k hk e), hm.keep.trans hk2 (fun k e => Or.inr (by omega)), hm.sub⟩

end Go.Proofs.Ytcjepiihknjeiaa.QH
