/- Texts of ours, one behind the other: QOwn7, QLaw1, QHelp. -/
import Derived.Test.YtbannlomemkjbabG5
import Derived.Test.YtbannlomemkjbabG8
import Derived.StillTailTactics
import Derived.Laws.StructEq
import Derived.Deep.RegionHeld3
/- The landed package queue: New, Push, Len, Peek, Pop. -/
namespace Go.Proofs.Ytbannlomemkjbab
open Go.RowKit

theorem QAt.keep {F G : Nat → Prop} {w w' : World} {q n : Nat} {f : Value} {lt : It → It → Bool} {Z : List It} (h : QAt F w q f lt Z n) (hk : Keep G w w') (hn : ∀ k, F k → ¬ G k) : QAt F w' q f lt Z n := by
  obtain ⟨hC, L, v, hL, hQ, hF⟩ := h
  exact ⟨hC, L, v, hL.keep hk (fun k hf => hn k ((hF k).2 hf)), hQ, hF⟩
theorem QAt.below {F : Nat → Prop} {w w' : World} {q n : Nat} {f : Value} {lt : It → It → Bool} {Z : List It} (h : QAt F w q f lt Z n) (hb : Below w.heap.size w w') : QAt F w' q f lt Z n := h.keep (G := fun _ => False) (Keep.of_below hb) (fun _ _ => id)
theorem QAt.lt {F : Nat → Prop} {w : World} {q n : Nat} {f : Value} {lt : It → It → Bool} {Z : List It} (h : QAt F w q f lt Z n) : ∀ k, F k → k < w.heap.size := by
  obtain ⟨hC, L, v, hL, hQ, hF⟩ := h
  exact fun k hk => hL.lt k ((hF k).1 hk)
theorem QAt.mem {F : Nat → Prop} {w : World} {q n : Nat} {f : Value} {lt : It → It → Bool} {Z : List It} (h : QAt F w q f lt Z n) : F q := by
  obtain ⟨hC, L, v, hL, hQ, hF⟩ := h
  exact (hF q).2 (Or.inl rfl)
theorem QAt.small {F : Nat → Prop} {w : World} {q n : Nat} {f : Value} {lt : It → It → Bool} {Z : List It} (h : QAt F w q f lt Z n) : Z.length * 32 ≤ 140737488355328 := by
  obtain ⟨hC, L, v, hL, hQ, hF⟩ := h
  rw [← hQ.length]; exact hL.small
theorem QAt.sorted {F : Nat → Prop} {w : World} {q n : Nat} {f : Value} {lt : It → It → Bool} {Z : List It} (h : QAt F w q f lt Z n) : Z.Pairwise fun a b => lt b a = false := by
  obtain ⟨hC, L, v, hL, hQ, hF⟩ := h
  exact hQ.sorted hC.ord

set_option maxRecDepth 20000 in
theorem qnew_any (lt : It → It → Bool) (f : Value) (hC : LessC f lt) (w : World) :
    Calls Try.prog 4 #[f] w fun e w' => e = .returned (.pointer (some ⟨w.heap.size, 0, none⟩)) ∧ QAt (fun k => k = w.heap.size) w' w.heap.size f lt [] 0 ∧ Below w.heap.size w w' := by
  have H : Hid (QAt (fun k => k = w.heap.size) (w.alloc (.cells #[f, .slice none 0 0, .int .u64 0] 46)) w.heap.size f lt [] 0) := hide ⟨hC, [], .slice none 0 0, ⟨heap_alloc_new w _, World.ownsRow_nil _ _ _ _, by simp [Value.ownBlock], by simp⟩, QP.nil lt, fun k => ⟨Or.inl, fun h => by
    rcases h with h | h
    · exact h
    · simp [Value.ownBlock] at h⟩⟩
  rcases hC.calls with ⟨rfl, _⟩ | ⟨k, rfl, _, _⟩
  all_goals
    go_enter Try.func4, Try.ntmps4
    go_wp2
    go_ret
    exact ⟨rfl, unhide H, (Below.refl _ _).alloc (Nat.le_refl _) _⟩

theorem qlen_any (lt : It → It → Bool) (F : Nat → Prop) (w : World) (q n : Nat) (f : Value) (Z : List It) (h : QAt F w q f lt Z n) :
    Calls Try.prog 13 #[.pointer (some ⟨q, 0, none⟩)] w fun e w' => e = .returned (.int .i64 (Z.length : Int)) ∧ Below w.heap.size w w' := by
  obtain ⟨hC, L, v, hL, hQ, hF⟩ := h
  rw [← hQ.length]
  clear hQ hF
  go_enter Try.func13, Try.ntmps13
  go_wp2_with (first | (go_at_call 21; refine Calls.mono (llen_any _ q n f v L hL) ?_; rintro e w1 ⟨rfl, b1⟩))
  go_ret
  exact ⟨rfl, b1⟩

set_option maxRecDepth 20000 in
set_option maxHeartbeats 1000000 in
theorem qpush_any (lt : It → It → Bool) (F : Nat → Prop) (w : World) (q n : Nat) (x : It) (f : Value) (Z : List It) (h : QAt F w q f lt Z n) (hs : (Z.length + 1) * 32 ≤ 140737488355328) (hn : n < 4611686018427387904) :
    Calls Try.prog 7 #[.pointer (some ⟨q, 0, none⟩), .agg #[.int .i64 x.1, .string x.2]] w fun e w' => e = .returned (.int .i64 0) ∧ ∃ F', QAt F' w' q f lt (ins lt x Z) (n + 1) ∧ Moves F F' w w' := by
  have hb0 : Below w.heap.size w (w.alloc (.cells #[.int .i64 x.1, .string x.2] 26)) := (Below.refl _ _).alloc (Nat.le_refl _) _
  have x1 : (w.alloc (.cells #[.int .i64 x.1, .string x.2] 26)).cell? ⟨w.heap.size, 0, none⟩ = some (.int .i64 x.1) := by simp
  have x2 : (w.alloc (.cells #[.int .i64 x.1, .string x.2] 26)).cell? ⟨w.heap.size, 1, none⟩ = some (.string x.2) := by simp
  have H := hide (h.below hb0)
  have HB := hide hb0
  have HS := hide hs
  have HN := hide hn
  clear h hb0 hs hn
  go_enter Try.func7, Try.ntmps7
  go_wp2_with fail
  obtain ⟨W0, hW0⟩ : ∃ W0, (w.alloc (.cells #[.int .i64 x.1, .string x.2] 26)) = W0 := ⟨_, rfl⟩
  rw [hW0] at H HB x1 x2 ⊢
  clear hW0
  go_still_tail 4, (by kernel_rfl)
  go_wp2_with fail
  refine Calls.mono (add_any lt F _ q n x f Z ((unhide H).below (Below.refl _ _).drew) (unhide HS) (unhide HN)) ?_
  rintro e w1 ⟨rfl, F', q1, m1⟩
  have HE : Hid (QAt F' w1 q f lt (ins lt x Z) (n + 1) ∧ Moves F F' w w1) := hide ⟨q1, (Moves.of_below (unhide HB).drew).trans m1⟩
  clear q1 m1
  go_wp2_with fail
  go_ret
  exact ⟨rfl, F', unhide HE⟩

/-- A result of two cells, behind what only makes memory. -/
theorem res2 {w w1 : World} {x y : Value} {t : TypeId} (hb : Below (w.alloc (.cells #[x, y] t)).heap.size (w.alloc (.cells #[x, y] t)) w1) :
    w1.cell? ⟨w.heap.size, 0, none⟩ = some x ∧ w1.cell? ⟨w.heap.size, 1, none⟩ = some y ∧ w1.frozen? ⟨w.heap.size, 0, none⟩ = false ∧ w1.frozen? ⟨w.heap.size, 1, none⟩ = false ∧ w.heap.size < w1.heap.size ∧ Below w.heap.size w w1 := by
  have hh := (hb.block w.heap.size (by simp)).trans (heap_alloc_new w _)
  have hs := hb.size
  simp at hs
  refine ⟨?_, ?_, by simp [World.frozen?, hh], by simp [World.frozen?, hh], by omega, ((Below.refl _ w).alloc (Nat.le_refl _) _).trans (hb.mono (by simp))⟩
  all_goals (rw [cell_of_row w1 w.heap.size _ _ _ (0, 0) hh]; rfl)

set_option maxRecDepth 20000 in
set_option maxHeartbeats 1000000 in
theorem qpeek_none (lt : It → It → Bool) (F : Nat → Prop) (w : World) (q n : Nat) (f : Value) (h : QAt F w q f lt [] n) :
    Calls Try.prog 16 #[.pointer (some ⟨q, 0, none⟩)] w fun e w' => e = .returned (.tuple #[.agg #[.int .i64 0, .string ⟨#[]⟩], .bool false]) ∧ Below w.heap.size w w' := by
  have H := hide h
  clear h
  go_enter Try.func16, Try.ntmps16
  go_wp2_with fail
  refine Calls.mono (qlen_any lt F _ q n f [] ((unhide H).below ((Below.refl _ _).alloc (Nat.le_refl _) _))) ?_
  rintro e w1 ⟨rfl, b1⟩
  obtain ⟨r0, r1, g0, g1, hlt, hB⟩ := res2 b1
  have HB := hide hB
  have ne1 : ¬ w1.heap.size = w.heap.size := by omega
  clear b1 hB
  go_wp2_with fail
  refine bodyPost_ret (v := .tuple #[.agg #[.int .i64 0, .string ⟨#[]⟩], .bool false]) (by simp [results, Try.results16, go_sem, r0, r1, hlt]) rfl ⟨rfl, ?_⟩
  have hB := unhide HB
  exact ((hB.setCell (p := ⟨w.heap.size, 0, none⟩) (Nat.le_refl _) _).setCell (p := ⟨w.heap.size, 1, none⟩) (Nat.le_refl _) _).alloc (by simp [World.setCell]; omega) _

set_option maxRecDepth 20000 in
set_option maxHeartbeats 1000000 in
theorem qpeek_some (lt : It → It → Bool) (F : Nat → Prop) (w : World) (q n : Nat) (f : Value) (z : It) (Z : List It) (h : QAt F w q f lt (z :: Z) n) :
    Calls Try.prog 16 #[.pointer (some ⟨q, 0, none⟩)] w fun e w' => e = .returned (.tuple #[.agg #[.int .i64 z.1, .string z.2], .bool true]) ∧ Below w.heap.size w w' := by
  have H := hide h
  have hlen : ¬ (((z :: Z).length : Nat) : Int) = 0 := by simp only [List.length_cons]; omega
  generalize hN : ((z :: Z).length : Int) = N at *
  have HN := hide hN
  clear h hN
  go_enter Try.func16, Try.ntmps16
  go_wp2_with fail
  refine Calls.mono (qlen_any lt F _ q n f (z :: Z) ((unhide H).below ((Below.refl _ _).alloc (Nat.le_refl _) _))) ?_
  rintro e w1 ⟨rfl, b1⟩
  rw [unhide HN]
  obtain ⟨r0, r1, g0, g1, hlt, hB⟩ := res2 b1
  have HB := hide hB
  obtain ⟨hC, L, v, hL, hQ, hF⟩ := (unhide H).below hB
  obtain ⟨h0, hz⟩ := hQ.first hC.ord
  obtain ⟨g, cap, rfl, hgq, hgl, k1, k2, fzg, hc⟩ := hL.open h0
  obtain ⟨c0, c1, c2, fz⟩ := hL.cells
  obtain ⟨a1, a2, a3⟩ := hc 0 h0
  rw [hz] at a1 a2
  simp only [Nat.zero_mul, Nat.zero_add] at a1 a2
  have h0I : (0 : Int) < (L.length : Int) := by omega
  clear b1 hB hL hQ hF hc hz hgq c0 c2 fz a3 HN
  go_wp2_with fail
  refine bodyPost_ret (v := .tuple #[.agg #[.int .i64 z.1, .string z.2], .bool true]) (by simp [results, Try.results16, go_sem, r0, r1]) rfl ⟨rfl, ?_⟩
  have hB := unhide HB
  exact (hB.setCell (p := ⟨w.heap.size, 0, none⟩) (Nat.le_refl _) _).setCell (p := ⟨w.heap.size, 1, none⟩) (Nat.le_refl _) _

set_option maxRecDepth 20000 in
set_option maxHeartbeats 1000000 in
theorem qpop_none (lt : It → It → Bool) (F : Nat → Prop) (w : World) (q n : Nat) (f : Value) (h : QAt F w q f lt [] n) :
    Calls Try.prog 9 #[.pointer (some ⟨q, 0, none⟩)] w fun e w' => e = .returned (.tuple #[.agg #[.int .i64 0, .string ⟨#[]⟩], .bool false]) ∧ Below w.heap.size w w' := by
  have H := hide h
  clear h
  go_enter Try.func9, Try.ntmps9
  go_wp2_with fail
  refine Calls.mono (qpeek_none lt F _ q n f ((unhide H).below ((Below.refl _ _).alloc (Nat.le_refl _) _))) ?_
  rintro e w1 ⟨rfl, b1⟩
  obtain ⟨r0, r1, g0, g1, hlt, hB⟩ := res2 b1
  have HB := hide hB
  have ne1 : ¬ w1.heap.size = w.heap.size := by omega
  clear b1 hB
  go_wp2_with fail
  refine bodyPost_ret (v := .tuple #[.agg #[.int .i64 0, .string ⟨#[]⟩], .bool false]) (by simp [results, Try.results9, go_sem, r0, r1, hlt]) rfl ⟨rfl, ?_⟩
  have hB := unhide HB
  exact ((hB.setCell (p := ⟨w.heap.size, 0, none⟩) (Nat.le_refl _) _).setCell (p := ⟨w.heap.size, 1, none⟩) (Nat.le_refl _) _).alloc (by simp [World.setCell]; omega) _

/-- Two cells of a block that is not among those that move. -/
theorem two_keep {F : Nat → Prop} {w w' : World} {b : Nat} {x y : Value} (hk : Keep F w w') (hn : ¬ F b) (c0 : w.cell? ⟨b, 0, none⟩ = some x) (c1 : w.cell? ⟨b, 1, none⟩ = some y) (f0 : w.frozen? ⟨b, 0, none⟩ = false) (f1 : w.frozen? ⟨b, 1, none⟩ = false) :
    w'.cell? ⟨b, 0, none⟩ = some x ∧ w'.cell? ⟨b, 1, none⟩ = some y ∧ w'.frozen? ⟨b, 0, none⟩ = false ∧ w'.frozen? ⟨b, 1, none⟩ = false ∧ b < w'.heap.size := by
  have hl := World.block_lt_of_cell? w _ c0
  have hb := hk.block b hl hn
  exact ⟨(World.cell?_of_block (w := w) hb).trans c0, (World.cell?_of_block (w := w) hb).trans c1, (World.frozen?_of_block (w := w) hb).trans f0, (World.frozen?_of_block (w := w) hb).trans f1, Nat.lt_of_lt_of_le hl hk.size⟩

set_option maxRecDepth 20000 in
set_option maxHeartbeats 1000000 in
theorem qpop_some (lt : It → It → Bool) (F : Nat → Prop) (w : World) (q n : Nat) (f : Value) (z : It) (Z : List It) (h : QAt F w q f lt (z :: Z) n) :
    Calls Try.prog 9 #[.pointer (some ⟨q, 0, none⟩)] w fun e w' => e = .returned (.tuple #[.agg #[.int .i64 z.1, .string z.2], .bool true]) ∧ ∃ F', QAt F' w' q f lt Z n ∧ Moves F F' w w' := by
  have H := hide h
  have hFl := h.lt
  clear h
  go_enter Try.func9, Try.ntmps9
  go_wp2_with fail
  refine Calls.mono (qpeek_some lt F _ q n f z Z ((unhide H).below ((Below.refl _ _).alloc (Nat.le_refl _) _))) ?_
  rintro e w1 ⟨rfl, b1⟩
  obtain ⟨r0, r1, g0, g1, hlt, hB⟩ := res2 b1
  have HB := hide hB
  have ne1 : ¬ w1.heap.size = w.heap.size := by omega
  clear b1 hB
  go_wp2_with fail
  have hB2 : Below w.heap.size w (w1.alloc (.cells #[.int .i64 z.1, .string z.2] 26)) := (unhide HB).alloc (unhide HB).size _
  refine Calls.mono (drop_any lt F _ q n z f Z ((unhide H).below hB2)) ?_
  rintro e w2 ⟨rfl, F', q2, m2⟩
  have hs1 := (unhide HB).size
  obtain ⟨s0, s1, s2, s3, s4⟩ := two_keep (b := w.heap.size) m2.keep (fun hf => by have := hFl _ hf; omega) (x := .int .i64 0) (y := .string ⟨#[]⟩) (by rw [← r0]; exact World.cell?_alloc_past _ _ _ hlt) (by rw [← r1]; exact World.cell?_alloc_past _ _ _ hlt) ((World.frozen?_of_block (w := w1) (Below.heap_alloc _ _ _ hlt)).trans g0) ((World.frozen?_of_block (w := w1) (Below.heap_alloc _ _ _ hlt)).trans g1)
  obtain ⟨t0, t1, t2, t3, t4⟩ := two_keep (b := w1.heap.size) m2.keep (fun hf => by have := hFl _ hf; omega) (x := .int .i64 z.1) (y := .string z.2) (by simp) (by simp) (frozen_of_block (heap_alloc_new w1 _)) (frozen_of_block (heap_alloc_new w1 _))
  have HE : Hid (QAt F' w2 q f lt Z n ∧ Moves F F' w w2) := hide ⟨q2, (Moves.of_below hB2).trans m2⟩
  have HNF : Hid (¬ F' w.heap.size) := hide (fun hf => by
    rcases m2.sub _ hf with h | h
    · have := hFl _ h; omega
    · simp at h; omega)
  clear q2 m2 r0 r1 g0 g1 hB2 hs1 hFl
  go_wp2_with fail
  refine bodyPost_ret (v := .tuple #[.agg #[.int .i64 z.1, .string z.2], .bool true]) (by simp [results, Try.results9, go_sem, s0, s1]) rfl ⟨rfl, F', ?_⟩
  obtain ⟨hq, hm⟩ := unhide HE
  have hk : ∀ (W : World) (j : Nat) (u : Value), Keep (fun k => k = w.heap.size) W (W.setCell ⟨w.heap.size, j, none⟩ u) := fun W j u => ⟨rfl, rfl, rfl, by simp [World.setCell], fun k _ hk => heap_setCell_other W ⟨w.heap.size, j, none⟩ k _ (fun e => hk (by simp at e; exact e.symm ▸ rfl))⟩
  have hk2 := (hk w2 0 (.int .i64 z.1)).trans (hk _ 1 (.string z.2)) (fun _ h => Or.inl h)
  refine ⟨hq.keep hk2 (fun k hf e => unhide HNF (e ▸ hf)), hm.keep.trans hk2 (fun k e => Or.inr (by omega)), hm.sub⟩

end Go.Proofs.Ytbannlomemkjbab

/- Layer 8's statements: items held against each other, below, awake. -/
namespace Go.Proofs.Ytbannlomemkjbab
open Go.RowKit

theorem Try.itemHeld : Try.prog.stoodInHeld 26 = false := by kernel_rfl
def itEq (x y : It) : Bool := (x.1 == y.1) && (x.2.toList == y.2.toList)
theorem toList_inj {a b : ByteArray} (h : a.toList = b.toList) : a = b := by
  rw [ByteArray.toList_eq, ByteArray.toList_eq] at h
  obtain ⟨⟨x⟩⟩ := a
  obtain ⟨⟨y⟩⟩ := b
  simp only at h
  rw [h]
theorem itEq_iff {x y : It} : itEq x y = true ↔ x = y := by
  unfold itEq
  constructor
  · intro h
    simp only [Bool.and_eq_true, beq_iff_eq] at h
    exact Prod.ext h.1 (toList_inj h.2)
  · rintro rfl; simp
theorem itEq_refl (x : It) : itEq x x = true := itEq_iff.2 rfl
theorem it_eql (x y : It) (w : World) : (binOp .eql 26 (.agg #[.int .i64 x.1, .string x.2]) (.agg #[.int .i64 y.1, .string y.2])).run Try.prog w = .ok (.bool (itEq x y)) w := by
  rw [run_eql_struct, run_equalIn_agg]
  · simp [go_sem, itEq]
    by_cases h1 : x.1 = y.1 <;> by_cases h2 : x.2.toList = y.2.toList <;> simp [h1, h2]
  · kernel_rfl
  · exact Try.itemHeld

def lowI (a b : It) : Bool := decide (a.1 < b.1)
theorem lowI_order : Order lowI := ⟨fun a => by simp [lowI], fun a b c h k => by simp [lowI] at *; omega, fun a b c h k => by simp [lowI] at *; omega⟩
theorem below_any (x y : It) (w : World) : Calls Try.prog 5 #[itV x, itV y] w fun e w' => e = .returned (.bool (lowI x y)) ∧ Below w.heap.size w w' := by
  unfold itV lowI
  go_enter Try.func5, Try.ntmps5
  go_wp2
  go_ret
  exact ⟨rfl, ((Below.refl _ _).alloc (Nat.le_refl _) _).alloc (by simp) _⟩
theorem below_ent (args : Array Value) (w : World) : (callFunc 5 args).run Try.prog w = .ok (.enter 5 args) w := by
  kernel_rfl
theorem below_C : LessC (.func (.func 5) #[] #[]) lowI := ⟨lowI_order, Or.inr ⟨_, rfl, below_ent, below_any⟩⟩

theorem ins_nil (x : It) : ins lowI x [] = [x] := rfl

set_option maxRecDepth 20000 in
set_option maxHeartbeats 1000000 in
theorem awake_any (w : World) : Calls Try.prog 6 #[] w fun e w' => e = .returned (.bool true) ∧ Below w.heap.size w w' := by
  have E1 : ins lowI (1, ⟨#[97]⟩) (ins lowI (2, ⟨#[98]⟩) []) = [(1, ⟨#[97]⟩), (2, ⟨#[98]⟩)] := by simp [ins, lowI]
  have hq : ∀ W : World, (binOp .eql 26 (.agg #[.int .i64 1, .string ⟨#[97]⟩]) (.agg #[.int .i64 1, .string ⟨#[97]⟩])).run Try.prog W = .ok (.bool true) W := fun W => by
    have h := it_eql (1, ⟨#[97]⟩) (1, ⟨#[97]⟩) W
    rw [itEq_refl] at h
    exact h
  have HE1 := hide E1
  clear E1
  go_enter Try.func6, Try.ntmps6
  go_wp2_with fail
  refine Calls.mono (qnew_any lowI _ below_C _) ?_
  rintro e w1 ⟨rfl, q1, b1⟩
  have hs1 := b1.size
  go_wp2_with fail
  refine Calls.mono (qpush_any lowI _ _ _ 0 (2, ⟨#[98]⟩) _ [] q1 (by simp) (by omega)) ?_
  rintro e w2 ⟨rfl, F2, q2, m2⟩
  go_wp2_with fail
  refine Calls.mono (qpush_any lowI _ _ _ 1 (1, ⟨#[97]⟩) _ _ q2 (by simp [length_ins]) (by omega)) ?_
  rintro e w3 ⟨rfl, F3, q3, m3⟩
  have q3' : QAt F3 w3 w.heap.size (.func (.func 5) #[] #[]) lowI [(1, ⟨#[97]⟩), (2, ⟨#[98]⟩)] 2 := by rw [← unhide HE1]; exact q3
  clear q3
  go_wp2_with fail
  refine Calls.mono (qpop_some lowI _ _ _ 2 _ (1, ⟨#[97]⟩) _ q3') ?_
  rintro e w4 ⟨rfl, F4, q4, m4⟩
  go_wp2_with fail
  refine Calls.mono (qlen_any lowI F4 _ _ 2 _ _ (q4.below ((Below.refl _ _).alloc (Nat.le_refl _) _))) ?_
  rintro e w5 ⟨rfl, b5⟩
  have M := ((m2.trans m3).trans m4)
  have HB : Hid (Below w.heap.size w w5) := hide (by
    have k1 : Below w.heap.size w w4 := b1.trans (M.keep.below hs1 (fun k hk => Nat.le_of_eq hk.symm))
    exact (k1.alloc k1.size _).trans (b5.mono (Nat.le_trans k1.size (by simp))))
  clear M b5 m4 m3 m2 b1 hs1 q4 q3' q2 q1
  go_wp2_with fail
  go_ret
  exact ⟨rfl, unhide HB⟩
end Go.Proofs.Ytbannlomemkjbab

/- The helpers of layer 8's statements: Plain over items that are the same. -/
namespace Go.Proofs.Ytbannlomemkjbab
open Go.RowKit

theorem pone_any (x : It) (w : World) : Calls Try.prog 20 #[.agg #[.int .i64 x.1, .string x.2], .agg #[.int .i64 x.1, .string x.2]] w fun e w' => e = .returned (.bool true) ∧ Below w.heap.size w w' := by
  have hq : ∀ W : World, (binOp .eql 26 (.agg #[.int .i64 x.1, .string x.2]) (.agg #[.int .i64 x.1, .string x.2])).run Try.prog W = .ok (.bool true) W := fun W => by
    have h := it_eql x x W
    rw [itEq_refl] at h
    exact h
  go_enter Try.func20, Try.ntmps20
  go_wp2
  go_ret
  exact ⟨rfl, ((Below.refl _ _).alloc (Nat.le_refl _) _).alloc (by simp) _⟩
theorem pone_ent (args : Array Value) (w : World) : (callFunc 20 args).run Try.prog w = .ok (.enter 20 args) w := by
  kernel_rfl
theorem four_cells {w w' : World} {p2 p3 p4 p5 : Addr} {x1 x2 y1 y2 : Value} (hb : Below w.heap.size w w') (h : w.cell? p2 = some x1 ∧ w.cell? p3 = some x2 ∧ w.cell? p4 = some y1 ∧ w.cell? p5 = some y2) :
    w'.cell? p2 = some x1 ∧ w'.cell? p3 = some x2 ∧ w'.cell? p4 = some y1 ∧ w'.cell? p5 = some y2 := by
  have hc : ∀ (p : Addr) (v : Value), w.cell? p = some v → w'.cell? p = some v := fun p v e => (hb.cell (World.block_lt_of_cell? w p e)).trans e
  exact ⟨hc _ _ h.1, hc _ _ h.2.1, hc _ _ h.2.2.1, hc _ _ h.2.2.2⟩

set_option maxRecDepth 20000 in
set_option maxHeartbeats 2000000 in
theorem same_true (a b : Value) (l : List It) (w : World) (ha : TI w a l) (hb : TI w b l) (hl : l.length ≤ 4398046511104) :
    Calls Try.prog 19 #[a, b, .func (.func 20) #[] #[]] w fun e w' => e = .returned (.bool true) ∧ Below w.heap.size w w' := by
  have HA := hide ha
  have HB := hide hb
  obtain ⟨p1, c1, rfl, k1, k2⟩ := ha.shape
  obtain ⟨p2, c2, rfl, k3, k4⟩ := hb.shape
  have hlI : (l.length : Int) ≤ 4398046511104 := by omega
  have hent := pone_ent
  clear ha hb k1 k2 k3 k4 hl
  go_enter Try.func19, Try.ntmps19
  go_wp2_with fail
  go_loopw [7] (fun i wr => ∃ k : Nat, k ≤ l.length ∧ i = .int .i64 (k : Int) ∧ Below w.heap.size w wr) (fun i _ => l.length - (intOf i).toNat)
  case atStart => exact ⟨0, Nat.zero_le _, rfl, Below.refl _ _⟩
  case round =>
    obtain ⟨k, hk, rfl, hB⟩ := hrel
    by_cases hlt : k < l.length
    · have hkI : (k : Int) < (l.length : Int) := by omega
      obtain ⟨X, b1, o1, b2, o2, rfl, rfl, x1, x2, y1, y2⟩ : ∃ (X : It) (b1 o1 b2 o2 : Nat), p1 = some ⟨b1, o1, none⟩ ∧ p2 = some ⟨b2, o2, none⟩ ∧ wr.cell? ⟨b1, o1 + k * 2, none⟩ = some (.int .i64 X.1) ∧ wr.cell? ⟨b1, o1 + k * 2 + 1, none⟩ = some (.string X.2) ∧ wr.cell? ⟨b2, o2 + k * 2, none⟩ = some (.int .i64 X.1) ∧ wr.cell? ⟨b2, o2 + k * 2 + 1, none⟩ = some (.string X.2) := by
        obtain ⟨b1, o1, c, e, _, _, _, h1, _⟩ := ((unhide HA).below hB).at (by omega)
        obtain ⟨b2, o2, c', e', _, _, _, h2, _⟩ := ((unhide HB).below hB).at (by omega)
        simp only [Value.slice.injEq] at e e'
        exact ⟨l[k], b1, o1, b2, o2, e.1, e'.1, (h1 k hlt).1, (h1 k hlt).2, (h2 k hlt).1, (h2 k hlt).2⟩
      have HLT := hide hlt
      have HBW := hide hB
      have hdd : decide (k < l.length) = true := decide_eq_true hlt
      clear hk hlt hB
      go_wp2_with fail
      go_region_held3 (fun w' => w'.cell? ⟨b1, o1 + k * 2, none⟩ = some (.int .i64 X.1) ∧ w'.cell? ⟨b1, o1 + k * 2 + 1, none⟩ = some (.string X.2) ∧ w'.cell? ⟨b2, o2 + k * 2, none⟩ = some (.int .i64 X.1) ∧ w'.cell? ⟨b2, o2 + k * 2 + 1, none⟩ = some (.string X.2)) (first | assumption | go_keep)
        (first
          | (go_at_call 20; refine Calls.mono (pone_any X _) ?_; rintro e w1 ⟨rfl, bb1⟩; have hk1 := four_cells bb1 ⟨x1, x2, y1, y2⟩))
      have HB1 := hide ((unhide HBW).drew.trans (bb1.mono (unhide HBW).size))
      clear bb1 hk1 x1 x2 y1 y2
      go_wp2_with fail
      go_roundw
      case rel => exact ⟨k + 1, unhide HLT, by go_num, unhide HB1⟩
      case measure => (have := unhide HLT; simp [intOf]; omega)
    · have hke : k = l.length := by omega
      subst hke
      have HBW := hide hB
      clear hk hlt hB
      go_wp2_with fail
      go_ret
      exact ⟨rfl, unhide HBW⟩
theorem plain_true (a b : Value) (l : List It) (w : World) (ha : TI w a l) (hb : TI w b l) (hl : l.length ≤ 4398046511104) :
    Calls Try.prog 11 #[a, b] w fun e w' => e = .returned (.bool true) ∧ Below w.heap.size w w' := by
  have HS := hide (same_true a b l w ha hb hl)
  obtain ⟨p1, c1, rfl, k1, k2⟩ := ha.shape
  obtain ⟨p2, c2, rfl, k3, k4⟩ := hb.shape
  clear ha hb hl k1 k2 k3 k4
  go_enter Try.func11, Try.ntmps11
  go_wp2_with fail
  refine Calls.mono (unhide HS) ?_
  rintro e w1 ⟨rfl, b1⟩
  go_wp2_with fail
  go_ret
  exact ⟨rfl, b1⟩
end Go.Proofs.Ytbannlomemkjbab
