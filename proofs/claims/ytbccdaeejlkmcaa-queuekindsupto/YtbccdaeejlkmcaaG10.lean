/- Texts of ours, one behind the other: QOwn7, QLaw1, Q1Own7, Q2Own7, QKinds1. -/
import Derived.Test.YtbccdaeejlkmcaaG3
import Derived.Test.YtbccdaeejlkmcaaG4
import Derived.Test.YtbccdaeejlkmcaaG9
import Derived.Test.YtbccdaeejlkmcaaG11
import Derived.StillTailTactics
import Derived.Laws.StructEq
/- The landed package queue: New, Push, Len, Peek, Pop. -/
namespace Go.Proofs.Ytbccdaeejlkmcaa
open Go.RowKit

theorem QAt.keep {F G : Nat → Prop} {w w' : World} {q n : Nat} {f : Value} {lt : It → It → Bool} {Z : List It} (h : QAt F w q f lt Z n) (hk : Keep G w w') (hn : ∀ k, F k → ¬ G k) : QAt F w' q f lt Z n := by
  obtain ⟨hC, L, v, hL, hQ, hF⟩ := h
  exact ⟨hC, L, v, hL.keep hk (fun k hf => hn k ((hF k).2 hf)), hQ, hF⟩
theorem QAt.below {F : Nat → Prop} {w w' : World} {q n : Nat} {f : Value} {lt : It → It → Bool} {Z : List It} (h : QAt F w q f lt Z n) (hb : Below w.heap.size w w') : QAt F w' q f lt Z n := h.keep (G := fun _ => False) (Keep.of_below hb) (fun _ _ => id)
theorem QAt.lt {F : Nat → Prop} {w : World} {q n : Nat} {f : Value} {lt : It → It → Bool} {Z : List It} (h : QAt F w q f lt Z n) : ∀ k, F k → k < w.heap.size := by
  obtain ⟨hC, L, v, hL, hQ, hF⟩ := h
  exact fun k hk => hL.lt k ((hF k).1 hk)
theorem QAt.mem {F : Nat → Prop} {w : World} {q n : Nat} {f : Value} {lt : It → It → Bool} {Z : List It} (h : QAt F w q f lt Z n) : F q := by
  obtain ⟨hC, L, v, hL, hQ, hF⟩ := h
  exact (hF q).2 (Or.inl rfl)
theorem QAt.small {F : Nat → Prop} {w : World} {q n : Nat} {f : Value} {lt : It → It → Bool} {Z : List It} (h : QAt F w q f lt Z n) : Z.length * 32 ≤ 140737488355328 := by
  obtain ⟨hC, L, v, hL, hQ, hF⟩ := h
  rw [← hQ.length]; exact hL.small
theorem QAt.sorted {F : Nat → Prop} {w : World} {q n : Nat} {f : Value} {lt : It → It → Bool} {Z : List It} (h : QAt F w q f lt Z n) : Z.Pairwise fun a b => lt b a = false := by
  obtain ⟨hC, L, v, hL, hQ, hF⟩ := h
  exact hQ.sorted hC.ord

set_option maxRecDepth 20000 in
theorem qnew_any (lt : It → It → Bool) (f : Value) (hC : LessC f lt) (w : World) :
    Calls Try.prog 8 #[f] w fun e w' => e = .returned (.pointer (some ⟨w.heap.size, 0, none⟩)) ∧ QAt (fun k => k = w.heap.size) w' w.heap.size f lt [] 0 ∧ Below w.heap.size w w' := by
  have H : Hid (QAt (fun k => k = w.heap.size) (w.alloc (.cells #[f, .slice none 0 0, .int .u64 0] 63)) w.heap.size f lt [] 0) := hide ⟨hC, [], .slice none 0 0, ⟨heap_alloc_new w _, World.ownsRow_nil _ _ _ _, by simp [Value.ownBlock], by simp⟩, QP.nil lt, fun k => ⟨Or.inl, fun h => by
    rcases h with h | h
    · exact h
    · simp [Value.ownBlock] at h⟩⟩
  rcases hC.calls with ⟨rfl, _⟩ | ⟨k, rfl, _, _⟩
  all_goals
    go_enter Try.func8, Try.ntmps8
    go_wp2
    go_ret
    exact ⟨rfl, unhide H, (Below.refl _ _).alloc (Nat.le_refl _) _⟩

theorem qlen_any (lt : It → It → Bool) (F : Nat → Prop) (w : World) (q n : Nat) (f : Value) (Z : List It) (h : QAt F w q f lt Z n) :
    Calls Try.prog 17 #[.pointer (some ⟨q, 0, none⟩)] w fun e w' => e = .returned (.int .i64 (Z.length : Int)) ∧ Below w.heap.size w w' := by
  obtain ⟨hC, L, v, hL, hQ, hF⟩ := h
  rw [← hQ.length]
  clear hQ hF
  go_enter Try.func17, Try.ntmps17
  go_wp2_with (first | (go_at_call 27; refine Calls.mono (llen_any _ q n f v L hL) ?_; rintro e w1 ⟨rfl, b1⟩))
  go_ret
  exact ⟨rfl, b1⟩

set_option maxRecDepth 20000 in
set_option maxHeartbeats 1000000 in
theorem qpush_any (lt : It → It → Bool) (F : Nat → Prop) (w : World) (q n : Nat) (x : It) (f : Value) (Z : List It) (h : QAt F w q f lt Z n) (hs : (Z.length + 1) * 32 ≤ 140737488355328) (hn : n < 4611686018427387904) :
    Calls Try.prog 12 #[.pointer (some ⟨q, 0, none⟩), .agg #[.int .i64 x.1, .string x.2]] w fun e w' => e = .returned (.int .i64 0) ∧ ∃ F', QAt F' w' q f lt (ins lt x Z) (n + 1) ∧ Moves F F' w w' := by
  have hb0 : Below w.heap.size w (w.alloc (.cells #[.int .i64 x.1, .string x.2] 33)) := (Below.refl _ _).alloc (Nat.le_refl _) _
  have x1 : (w.alloc (.cells #[.int .i64 x.1, .string x.2] 33)).cell? ⟨w.heap.size, 0, none⟩ = some (.int .i64 x.1) := by simp
  have x2 : (w.alloc (.cells #[.int .i64 x.1, .string x.2] 33)).cell? ⟨w.heap.size, 1, none⟩ = some (.string x.2) := by simp
  have H := hide (h.below hb0)
  have HB := hide hb0
  have HS := hide hs
  have HN := hide hn
  clear h hb0 hs hn
  go_enter Try.func12, Try.ntmps12
  go_wp2_with fail
  obtain ⟨W0, hW0⟩ : ∃ W0, (w.alloc (.cells #[.int .i64 x.1, .string x.2] 33)) = W0 := ⟨_, rfl⟩
  rw [hW0] at H HB x1 x2 ⊢
  clear hW0
  go_still_tail 4, (by kernel_rfl)
  go_wp2_with fail
  refine Calls.mono (add_any lt F _ q n x f Z ((unhide H).below (Below.refl _ _).drew) (unhide HS) (unhide HN)) ?_
  rintro e w1 ⟨rfl, F', q1, m1⟩
  have HE : Hid (QAt F' w1 q f lt (ins lt x Z) (n + 1) ∧ Moves F F' w w1) := hide ⟨q1, (Moves.of_below (unhide HB).drew).trans m1⟩
  clear q1 m1
  go_wp2_with fail
  go_ret
  exact ⟨rfl, F', unhide HE⟩

/-- A result of two cells, behind what only makes memory. -/
theorem res2 {w w1 : World} {x y : Value} {t : TypeId} (hb : Below (w.alloc (.cells #[x, y] t)).heap.size (w.alloc (.cells #[x, y] t)) w1) :
    w1.cell? ⟨w.heap.size, 0, none⟩ = some x ∧ w1.cell? ⟨w.heap.size, 1, none⟩ = some y ∧ w1.frozen? ⟨w.heap.size, 0, none⟩ = false ∧ w1.frozen? ⟨w.heap.size, 1, none⟩ = false ∧ w.heap.size < w1.heap.size ∧ Below w.heap.size w w1 := by
  have hh := (hb.block w.heap.size (by simp)).trans (heap_alloc_new w _)
  have hs := hb.size
  simp at hs
  refine ⟨?_, ?_, by simp [World.frozen?, hh], by simp [World.frozen?, hh], by omega, ((Below.refl _ w).alloc (Nat.le_refl _) _).trans (hb.mono (by simp))⟩
  all_goals (rw [cell_of_row w1 w.heap.size _ _ _ (0, 0) hh]; rfl)

set_option maxRecDepth 20000 in
set_option maxHeartbeats 1000000 in
theorem qpeek_none (lt : It → It → Bool) (F : Nat → Prop) (w : World) (q n : Nat) (f : Value) (h : QAt F w q f lt [] n) :
    Calls Try.prog 25 #[.pointer (some ⟨q, 0, none⟩)] w fun e w' => e = .returned (.tuple #[.agg #[.int .i64 0, .string ⟨#[]⟩], .bool false]) ∧ Below w.heap.size w w' := by
  have H := hide h
  clear h
  go_enter Try.func25, Try.ntmps25
  go_wp2_with fail
  refine Calls.mono (qlen_any lt F _ q n f [] ((unhide H).below ((Below.refl _ _).alloc (Nat.le_refl _) _))) ?_
  rintro e w1 ⟨rfl, b1⟩
  obtain ⟨r0, r1, g0, g1, hlt, hB⟩ := res2 b1
  have HB := hide hB
  have ne1 : ¬ w1.heap.size = w.heap.size := by omega
  clear b1 hB
  go_wp2_with fail
  refine bodyPost_ret (v := .tuple #[.agg #[.int .i64 0, .string ⟨#[]⟩], .bool false]) (by simp [results, Try.results25, go_sem, r0, r1, hlt]) rfl ⟨rfl, ?_⟩
  have hB := unhide HB
  exact ((hB.setCell (p := ⟨w.heap.size, 0, none⟩) (Nat.le_refl _) _).setCell (p := ⟨w.heap.size, 1, none⟩) (Nat.le_refl _) _).alloc (by simp [World.setCell]; omega) _

set_option maxRecDepth 20000 in
set_option maxHeartbeats 1000000 in
theorem qpeek_some (lt : It → It → Bool) (F : Nat → Prop) (w : World) (q n : Nat) (f : Value) (z : It) (Z : List It) (h : QAt F w q f lt (z :: Z) n) :
    Calls Try.prog 25 #[.pointer (some ⟨q, 0, none⟩)] w fun e w' => e = .returned (.tuple #[.agg #[.int .i64 z.1, .string z.2], .bool true]) ∧ Below w.heap.size w w' := by
  have H := hide h
  have hlen : ¬ (((z :: Z).length : Nat) : Int) = 0 := by simp only [List.length_cons]; omega
  generalize hN : ((z :: Z).length : Int) = N at *
  have HN := hide hN
  clear h hN
  go_enter Try.func25, Try.ntmps25
  go_wp2_with fail
  refine Calls.mono (qlen_any lt F _ q n f (z :: Z) ((unhide H).below ((Below.refl _ _).alloc (Nat.le_refl _) _))) ?_
  rintro e w1 ⟨rfl, b1⟩
  rw [unhide HN]
  obtain ⟨r0, r1, g0, g1, hlt, hB⟩ := res2 b1
  have HB := hide hB
  obtain ⟨hC, L, v, hL, hQ, hF⟩ := (unhide H).below hB
  obtain ⟨h0, hz⟩ := hQ.first hC.ord
  obtain ⟨g, cap, rfl, hgq, hgl, k1, k2, fzg, hc⟩ := hL.open h0
  obtain ⟨c0, c1, c2, fz⟩ := hL.cells
  obtain ⟨a1, a2, a3⟩ := hc 0 h0
  rw [hz] at a1 a2
  simp only [Nat.zero_mul, Nat.zero_add] at a1 a2
  have h0I : (0 : Int) < (L.length : Int) := by omega
  clear b1 hB hL hQ hF hc hz hgq c0 c2 fz a3 HN
  go_wp2_with fail
  refine bodyPost_ret (v := .tuple #[.agg #[.int .i64 z.1, .string z.2], .bool true]) (by simp [results, Try.results25, go_sem, r0, r1]) rfl ⟨rfl, ?_⟩
  have hB := unhide HB
  exact (hB.setCell (p := ⟨w.heap.size, 0, none⟩) (Nat.le_refl _) _).setCell (p := ⟨w.heap.size, 1, none⟩) (Nat.le_refl _) _

set_option maxRecDepth 20000 in
set_option maxHeartbeats 1000000 in
theorem qpop_none (lt : It → It → Bool) (F : Nat → Prop) (w : World) (q n : Nat) (f : Value) (h : QAt F w q f lt [] n) :
    Calls Try.prog 15 #[.pointer (some ⟨q, 0, none⟩)] w fun e w' => e = .returned (.tuple #[.agg #[.int .i64 0, .string ⟨#[]⟩], .bool false]) ∧ Below w.heap.size w w' := by
  have H := hide h
  clear h
  go_enter Try.func15, Try.ntmps15
  go_wp2_with fail
  refine Calls.mono (qpeek_none lt F _ q n f ((unhide H).below ((Below.refl _ _).alloc (Nat.le_refl _) _))) ?_
  rintro e w1 ⟨rfl, b1⟩
  obtain ⟨r0, r1, g0, g1, hlt, hB⟩ := res2 b1
  have HB := hide hB
  have ne1 : ¬ w1.heap.size = w.heap.size := by omega
  clear b1 hB
  go_wp2_with fail
  refine bodyPost_ret (v := .tuple #[.agg #[.int .i64 0, .string ⟨#[]⟩], .bool false]) (by simp [results, Try.results15, go_sem, r0, r1, hlt]) rfl ⟨rfl, ?_⟩
  have hB := unhide HB
  exact ((hB.setCell (p := ⟨w.heap.size, 0, none⟩) (Nat.le_refl _) _).setCell (p := ⟨w.heap.size, 1, none⟩) (Nat.le_refl _) _).alloc (by simp [World.setCell]; omega) _

/-- Two cells of a block that is not among those that move. -/
theorem two_keep {F : Nat → Prop} {w w' : World} {b : Nat} {x y : Value} (hk : Keep F w w') (hn : ¬ F b) (c0 : w.cell? ⟨b, 0, none⟩ = some x) (c1 : w.cell? ⟨b, 1, none⟩ = some y) (f0 : w.frozen? ⟨b, 0, none⟩ = false) (f1 : w.frozen? ⟨b, 1, none⟩ = false) :
    w'.cell? ⟨b, 0, none⟩ = some x ∧ w'.cell? ⟨b, 1, none⟩ = some y ∧ w'.frozen? ⟨b, 0, none⟩ = false ∧ w'.frozen? ⟨b, 1, none⟩ = false ∧ b < w'.heap.size := by
  have hl := World.block_lt_of_cell? w _ c0
  have hb := hk.block b hl hn
  exact ⟨(World.cell?_of_block (w := w) hb).trans c0, (World.cell?_of_block (w := w) hb).trans c1, (World.frozen?_of_block (w := w) hb).trans f0, (World.frozen?_of_block (w := w) hb).trans f1, Nat.lt_of_lt_of_le hl hk.size⟩

set_option maxRecDepth 20000 in
set_option maxHeartbeats 1000000 in
theorem qpop_some (lt : It → It → Bool) (F : Nat → Prop) (w : World) (q n : Nat) (f : Value) (z : It) (Z : List It) (h : QAt F w q f lt (z :: Z) n) :
    Calls Try.prog 15 #[.pointer (some ⟨q, 0, none⟩)] w fun e w' => e = .returned (.tuple #[.agg #[.int .i64 z.1, .string z.2], .bool true]) ∧ ∃ F', QAt F' w' q f lt Z n ∧ Moves F F' w w' := by
  have H := hide h
  have hFl := h.lt
  clear h
  go_enter Try.func15, Try.ntmps15
  go_wp2_with fail
  refine Calls.mono (qpeek_some lt F _ q n f z Z ((unhide H).below ((Below.refl _ _).alloc (Nat.le_refl _) _))) ?_
  rintro e w1 ⟨rfl, b1⟩
  obtain ⟨r0, r1, g0, g1, hlt, hB⟩ := res2 b1
  have HB := hide hB
  have ne1 : ¬ w1.heap.size = w.heap.size := by omega
  clear b1 hB
  go_wp2_with fail
  have hB2 : Below w.heap.size w (w1.alloc (.cells #[.int .i64 z.1, .string z.2] 33)) := (unhide HB).alloc (unhide HB).size _
  refine Calls.mono (drop_any lt F _ q n z f Z ((unhide H).below hB2)) ?_
  rintro e w2 ⟨rfl, F', q2, m2⟩
  have hs1 := (unhide HB).size
  obtain ⟨s0, s1, s2, s3, s4⟩ := two_keep (b := w.heap.size) m2.keep (fun hf => by have := hFl _ hf; omega) (x := .int .i64 0) (y := .string ⟨#[]⟩) (by rw [← r0]; exact World.cell?_alloc_past _ _ _ hlt) (by rw [← r1]; exact World.cell?_alloc_past _ _ _ hlt) ((World.frozen?_of_block (w := w1) (Below.heap_alloc _ _ _ hlt)).trans g0) ((World.frozen?_of_block (w := w1) (Below.heap_alloc _ _ _ hlt)).trans g1)
  obtain ⟨t0, t1, t2, t3, t4⟩ := two_keep (b := w1.heap.size) m2.keep (fun hf => by have := hFl _ hf; omega) (x := .int .i64 z.1) (y := .string z.2) (by simp) (by simp) (frozen_of_block (heap_alloc_new w1 _)) (frozen_of_block (heap_alloc_new w1 _))
  have HE : Hid (QAt F' w2 q f lt Z n ∧ Moves F F' w w2) := hide ⟨q2, (Moves.of_below hB2).trans m2⟩
  have HNF : Hid (¬ F' w.heap.size) := hide (fun hf => by
    rcases m2.sub _ hf with h | h
    · have := hFl _ h; omega
    · simp at h; omega)
  clear q2 m2 r0 r1 g0 g1 hB2 hs1 hFl
  go_wp2_with fail
  refine bodyPost_ret (v := .tuple #[.agg #[.int .i64 z.1, .string z.2], .bool true]) (by simp [results, Try.results15, go_sem, s0, s1]) rfl ⟨rfl, F', ?_⟩
  obtain ⟨hq, hm⟩ := unhide HE
  have hk : ∀ (W : World) (j : Nat) (u : Value), Keep (fun k => k = w.heap.size) W (W.setCell ⟨w.heap.size, j, none⟩ u) := fun W j u => ⟨rfl, rfl, rfl, by simp [World.setCell], fun k _ hk => heap_setCell_other W ⟨w.heap.size, j, none⟩ k _ (fun e => hk (by simp at e; exact e.symm ▸ rfl))⟩
  have hk2 := (hk w2 0 (.int .i64 z.1)).trans (hk _ 1 (.string z.2)) (fun _ h => Or.inl h)
  refine ⟨hq.keep hk2 (fun k hf e => unhide HNF (e ▸ hf)), hm.keep.trans hk2 (fun k e => Or.inr (by omega)), hm.sub⟩

end Go.Proofs.Ytbccdaeejlkmcaa

/- Layer 8's statements: items held against each other, below, awake. -/
namespace Go.Proofs.Ytbccdaeejlkmcaa
open Go.RowKit

theorem Try.itemHeld : Try.prog.stoodInHeld 33 = false := by kernel_rfl
def itEq (x y : It) : Bool := (x.1 == y.1) && (x.2.toList == y.2.toList)
theorem toList_inj {a b : ByteArray} (h : a.toList = b.toList) : a = b := by
  rw [ByteArray.toList_eq, ByteArray.toList_eq] at h
  obtain ⟨⟨x⟩⟩ := a
  obtain ⟨⟨y⟩⟩ := b
  simp only at h
  rw [h]
theorem itEq_iff {x y : It} : itEq x y = true ↔ x = y := by
  unfold itEq
  constructor
  · intro h
    simp only [Bool.and_eq_true, beq_iff_eq] at h
    exact Prod.ext h.1 (toList_inj h.2)
  · rintro rfl; simp
theorem itEq_refl (x : It) : itEq x x = true := itEq_iff.2 rfl
theorem it_eql (x y : It) (w : World) : (binOp .eql 33 (.agg #[.int .i64 x.1, .string x.2]) (.agg #[.int .i64 y.1, .string y.2])).run Try.prog w = .ok (.bool (itEq x y)) w := by
  rw [run_eql_struct, run_equalIn_agg]
  · simp [go_sem, itEq]
    by_cases h1 : x.1 = y.1 <;> by_cases h2 : x.2.toList = y.2.toList <;> simp [h1, h2]
  · kernel_rfl
  · exact Try.itemHeld

def lowI (a b : It) : Bool := decide (a.1 < b.1)
theorem lowI_order : Order lowI := ⟨fun a => by simp [lowI], fun a b c h k => by simp [lowI] at *; omega, fun a b c h k => by simp [lowI] at *; omega⟩
theorem below_any (x y : It) (w : World) : Calls Try.prog 16 #[itV x, itV y] w fun e w' => e = .returned (.bool (lowI x y)) ∧ Below w.heap.size w w' := by
  unfold itV lowI
  go_enter Try.func16, Try.ntmps16
  go_wp2
  go_ret
  exact ⟨rfl, ((Below.refl _ _).alloc (Nat.le_refl _) _).alloc (by simp) _⟩
theorem below_ent (args : Array Value) (w : World) : (callFunc 16 args).run Try.prog w = .ok (.enter 16 args) w := by
  kernel_rfl
theorem below_C : LessC (.func (.func 16) #[] #[]) lowI := ⟨lowI_order, Or.inr ⟨_, rfl, below_ent, below_any⟩⟩

theorem ins_nil (x : It) : ins lowI x [] = [x] := rfl

set_option maxRecDepth 20000 in
set_option maxHeartbeats 1000000 in
theorem awake_any (w : World) : Calls Try.prog 9 #[] w fun e w' => e = .returned (.bool true) ∧ Below w.heap.size w w' := by
  have E1 : ins lowI (1, ⟨#[97]⟩) (ins lowI (2, ⟨#[98]⟩) []) = [(1, ⟨#[97]⟩), (2, ⟨#[98]⟩)] := by simp [ins, lowI]
  have hq : ∀ W : World, (binOp .eql 33 (.agg #[.int .i64 1, .string ⟨#[97]⟩]) (.agg #[.int .i64 1, .string ⟨#[97]⟩])).run Try.prog W = .ok (.bool true) W := fun W => by
    have h := it_eql (1, ⟨#[97]⟩) (1, ⟨#[97]⟩) W
    rw [itEq_refl] at h
    exact h
  have HE1 := hide E1
  clear E1
  go_enter Try.func9, Try.ntmps9
  go_wp2_with fail
  refine Calls.mono (qnew_any lowI _ below_C _) ?_
  rintro e w1 ⟨rfl, q1, b1⟩
  have hs1 := b1.size
  go_wp2_with fail
  refine Calls.mono (qpush_any lowI _ _ _ 0 (2, ⟨#[98]⟩) _ [] q1 (by simp) (by omega)) ?_
  rintro e w2 ⟨rfl, F2, q2, m2⟩
  go_wp2_with fail
  refine Calls.mono (qpush_any lowI _ _ _ 1 (1, ⟨#[97]⟩) _ _ q2 (by simp [length_ins]) (by omega)) ?_
  rintro e w3 ⟨rfl, F3, q3, m3⟩
  have q3' : QAt F3 w3 w.heap.size (.func (.func 16) #[] #[]) lowI [(1, ⟨#[97]⟩), (2, ⟨#[98]⟩)] 2 := by rw [← unhide HE1]; exact q3
  clear q3
  go_wp2_with fail
  refine Calls.mono (qpop_some lowI _ _ _ 2 _ (1, ⟨#[97]⟩) _ q3') ?_
  rintro e w4 ⟨rfl, F4, q4, m4⟩
  go_wp2_with fail
  refine Calls.mono (qlen_any lowI F4 _ _ 2 _ _ (q4.below ((Below.refl _ _).alloc (Nat.le_refl _) _))) ?_
  rintro e w5 ⟨rfl, b5⟩
  have M := ((m2.trans m3).trans m4)
  have HB : Hid (Below w.heap.size w w5) := hide (by
    have k1 : Below w.heap.size w w4 := b1.trans (M.keep.below hs1 (fun k hk => Nat.le_of_eq hk.symm))
    exact (k1.alloc k1.size _).trans (b5.mono (Nat.le_trans k1.size (by simp))))
  clear M b5 m4 m3 m2 b1 hs1 q4 q3' q2 q1
  go_wp2_with fail
  go_ret
  exact ⟨rfl, unhide HB⟩
end Go.Proofs.Ytbccdaeejlkmcaa

/- The landed package queue: New, Push, Len, Peek, Pop. -/
namespace Go.Proofs.Ytbccdaeejlkmcaa.K1
open Go.RowKit

theorem QAt.keep {F G : Nat → Prop} {w w' : World} {q n : Nat} {f : Value} {lt : It → It → Bool} {Z : List It} (h : QAt F w q f lt Z n) (hk : Keep G w w') (hn : ∀ k, F k → ¬ G k) : QAt F w' q f lt Z n := by
  obtain ⟨hC, L, v, hL, hQ, hF⟩ := h
  exact ⟨hC, L, v, hL.keep hk (fun k hf => hn k ((hF k).2 hf)), hQ, hF⟩
theorem QAt.below {F : Nat → Prop} {w w' : World} {q n : Nat} {f : Value} {lt : It → It → Bool} {Z : List It} (h : QAt F w q f lt Z n) (hb : Below w.heap.size w w') : QAt F w' q f lt Z n := h.keep (G := fun _ => False) (Keep.of_below hb) (fun _ _ => id)
theorem QAt.lt {F : Nat → Prop} {w : World} {q n : Nat} {f : Value} {lt : It → It → Bool} {Z : List It} (h : QAt F w q f lt Z n) : ∀ k, F k → k < w.heap.size := by
  obtain ⟨hC, L, v, hL, hQ, hF⟩ := h
  exact fun k hk => hL.lt k ((hF k).1 hk)
theorem QAt.mem {F : Nat → Prop} {w : World} {q n : Nat} {f : Value} {lt : It → It → Bool} {Z : List It} (h : QAt F w q f lt Z n) : F q := by
  obtain ⟨hC, L, v, hL, hQ, hF⟩ := h
  exact (hF q).2 (Or.inl rfl)
theorem QAt.small {F : Nat → Prop} {w : World} {q n : Nat} {f : Value} {lt : It → It → Bool} {Z : List It} (h : QAt F w q f lt Z n) : Z.length * 24 ≤ 140737488355328 := by
  obtain ⟨hC, L, v, hL, hQ, hF⟩ := h
  rw [← hQ.length]; exact hL.small
theorem QAt.sorted {F : Nat → Prop} {w : World} {q n : Nat} {f : Value} {lt : It → It → Bool} {Z : List It} (h : QAt F w q f lt Z n) : Z.Pairwise fun a b => lt b a = false := by
  obtain ⟨hC, L, v, hL, hQ, hF⟩ := h
  exact hQ.sorted hC.ord

set_option maxRecDepth 20000 in
theorem qnew_any (lt : It → It → Bool) (f : Value) (hC : LessC f lt) (w : World) :
    Calls Try.prog 4 #[f] w fun e w' => e = .returned (.pointer (some ⟨w.heap.size, 0, none⟩)) ∧ QAt (fun k => k = w.heap.size) w' w.heap.size f lt [] 0 ∧ Below w.heap.size w w' := by
  have H : Hid (QAt (fun k => k = w.heap.size) (w.alloc (.cells #[f, .slice none 0 0, .int .u64 0] 52)) w.heap.size f lt [] 0) := hide ⟨hC, [], .slice none 0 0, ⟨heap_alloc_new w _, World.ownsRow_nil _ _ _ _, by simp [Value.ownBlock], by simp⟩, QP.nil lt, fun k => ⟨Or.inl, fun h => by
    rcases h with h | h
    · exact h
    · simp [Value.ownBlock] at h⟩⟩
  rcases hC.calls with ⟨rfl, _⟩ | ⟨k, rfl, _, _⟩
  all_goals
    go_enter Try.func4, Try.ntmps4
    go_wp2
    go_ret
    exact ⟨rfl, unhide H, (Below.refl _ _).alloc (Nat.le_refl _) _⟩

theorem qlen_any (lt : It → It → Bool) (F : Nat → Prop) (w : World) (q n : Nat) (f : Value) (Z : List It) (h : QAt F w q f lt Z n) :
    Calls Try.prog 32 #[.pointer (some ⟨q, 0, none⟩)] w fun e w' => e = .returned (.int .i64 (Z.length : Int)) ∧ Below w.heap.size w w' := by
  obtain ⟨hC, L, v, hL, hQ, hF⟩ := h
  rw [← hQ.length]
  clear hQ hF
  go_enter Try.func32, Try.ntmps32
  go_wp2_with (first | (go_at_call 35; refine Calls.mono (llen_any _ q n f v L hL) ?_; rintro e w1 ⟨rfl, b1⟩))
  go_ret
  exact ⟨rfl, b1⟩

set_option maxRecDepth 20000 in
set_option maxHeartbeats 1000000 in
theorem qpush_any (lt : It → It → Bool) (F : Nat → Prop) (w : World) (q n : Nat) (x : It) (f : Value) (Z : List It) (h : QAt F w q f lt Z n) (hs : (Z.length + 1) * 24 ≤ 140737488355328) (hn : n < 4611686018427387904) :
    Calls Try.prog 10 #[.pointer (some ⟨q, 0, none⟩), .string x] w fun e w' => e = .returned (.int .i64 0) ∧ ∃ F', QAt F' w' q f lt (ins lt x Z) (n + 1) ∧ Moves F F' w w' := by
  have H := hide h
  have HS := hide hs
  have HN := hide hn
  clear h hs hn
  go_enter Try.func10, Try.ntmps10
  go_wp2_with fail
  refine Calls.mono (add_any lt F _ q n x f Z (unhide H) (unhide HS) (unhide HN)) ?_
  rintro e w1 ⟨rfl, F', q1, m1⟩
  have HE : Hid (QAt F' w1 q f lt (ins lt x Z) (n + 1) ∧ Moves F F' w w1) := hide ⟨q1, m1⟩
  clear q1 m1
  go_wp2_with fail
  go_ret
  exact ⟨rfl, F', unhide HE⟩

set_option maxRecDepth 20000 in
set_option maxHeartbeats 1000000 in
theorem qpeek_some (lt : It → It → Bool) (F : Nat → Prop) (w : World) (q n : Nat) (f : Value) (z : It) (Z : List It) (h : QAt F w q f lt (z :: Z) n) :
    Calls Try.prog 21 #[.pointer (some ⟨q, 0, none⟩)] w fun e w' => e = .returned (.tuple #[.string z, .bool true]) ∧ Below w.heap.size w w' := by
  have H := hide h
  have hlen : ¬ (((z :: Z).length : Nat) : Int) = 0 := by simp only [List.length_cons]; omega
  generalize hN : ((z :: Z).length : Int) = N at *
  have HN := hide hN
  clear h hN
  go_enter Try.func21, Try.ntmps21
  go_wp2_with fail
  refine Calls.mono (qlen_any lt F _ q n f (z :: Z) (unhide H)) ?_
  rintro e w1 ⟨rfl, b1⟩
  rw [unhide HN]
  have HB := hide b1
  obtain ⟨hC, L, v, hL, hQ, hF⟩ := (unhide H).below b1
  obtain ⟨h0, hz⟩ := hQ.first hC.ord
  obtain ⟨g, cap, rfl, hgq, hgl, k1, k2, fzg, hc⟩ := hL.open h0
  obtain ⟨c0, c1, c2, fz⟩ := hL.cells
  obtain ⟨a1, a2⟩ := hc 0 h0
  rw [hz] at a1
  simp only [Nat.zero_mul, Nat.zero_add] at a1 a2
  have h0I : (0 : Int) < (L.length : Int) := by omega
  clear b1 hL hQ hF hc hz hgq c0 c2 fz a2 HN
  go_wp2_with fail
  go_ret2
  exact ⟨rfl, unhide HB⟩

set_option maxRecDepth 20000 in
set_option maxHeartbeats 1000000 in
theorem qpop_some (lt : It → It → Bool) (F : Nat → Prop) (w : World) (q n : Nat) (f : Value) (z : It) (Z : List It) (h : QAt F w q f lt (z :: Z) n) :
    Calls Try.prog 13 #[.pointer (some ⟨q, 0, none⟩)] w fun e w' => e = .returned (.tuple #[.string z, .bool true]) ∧ ∃ F', QAt F' w' q f lt Z n ∧ Moves F F' w w' := by
  have H := hide h
  clear h
  go_enter Try.func13, Try.ntmps13
  go_wp2_with fail
  refine Calls.mono (qpeek_some lt F _ q n f z Z (unhide H)) ?_
  rintro e w1 ⟨rfl, b1⟩
  have HB := hide b1
  clear b1
  go_wp2_with fail
  refine Calls.mono (drop_any lt F _ q n z f Z ((unhide H).below (unhide HB))) ?_
  rintro e w2 ⟨rfl, F', q2, m2⟩
  have HE : Hid (QAt F' w2 q f lt Z n ∧ Moves F F' w w2) := hide ⟨q2, (Moves.of_below (unhide HB)).trans m2⟩
  clear q2 m2
  go_wp2_with fail
  go_ret2
  exact ⟨rfl, F', unhide HE⟩
end Go.Proofs.Ytbccdaeejlkmcaa.K1

/- The landed package queue: New, Push, Len, Peek, Pop. -/
namespace Go.Proofs.Ytbccdaeejlkmcaa.K2
open Go.RowKit

theorem QAt.keep {F G : Nat → Prop} {w w' : World} {q n : Nat} {f : Value} {lt : It → It → Bool} {Z : List It} (h : QAt F w q f lt Z n) (hk : Keep G w w') (hn : ∀ k, F k → ¬ G k) : QAt F w' q f lt Z n := by
  obtain ⟨hC, L, v, hL, hQ, hF⟩ := h
  exact ⟨hC, L, v, hL.keep hk (fun k hf => hn k ((hF k).2 hf)), hQ, hF⟩
theorem QAt.below {F : Nat → Prop} {w w' : World} {q n : Nat} {f : Value} {lt : It → It → Bool} {Z : List It} (h : QAt F w q f lt Z n) (hb : Below w.heap.size w w') : QAt F w' q f lt Z n := h.keep (G := fun _ => False) (Keep.of_below hb) (fun _ _ => id)
theorem QAt.lt {F : Nat → Prop} {w : World} {q n : Nat} {f : Value} {lt : It → It → Bool} {Z : List It} (h : QAt F w q f lt Z n) : ∀ k, F k → k < w.heap.size := by
  obtain ⟨hC, L, v, hL, hQ, hF⟩ := h
  exact fun k hk => hL.lt k ((hF k).1 hk)
theorem QAt.mem {F : Nat → Prop} {w : World} {q n : Nat} {f : Value} {lt : It → It → Bool} {Z : List It} (h : QAt F w q f lt Z n) : F q := by
  obtain ⟨hC, L, v, hL, hQ, hF⟩ := h
  exact (hF q).2 (Or.inl rfl)
theorem QAt.small {F : Nat → Prop} {w : World} {q n : Nat} {f : Value} {lt : It → It → Bool} {Z : List It} (h : QAt F w q f lt Z n) : Z.length * 40 ≤ 140737488355328 := by
  obtain ⟨hC, L, v, hL, hQ, hF⟩ := h
  rw [← hQ.length]; exact hL.small
theorem QAt.sorted {F : Nat → Prop} {w : World} {q n : Nat} {f : Value} {lt : It → It → Bool} {Z : List It} (h : QAt F w q f lt Z n) : Z.Pairwise fun a b => lt b a = false := by
  obtain ⟨hC, L, v, hL, hQ, hF⟩ := h
  exact hQ.sorted hC.ord

set_option maxRecDepth 20000 in
theorem qnew_any (lt : It → It → Bool) (f : Value) (hC : LessC f lt) (w : World) :
    Calls Try.prog 6 #[f] w fun e w' => e = .returned (.pointer (some ⟨w.heap.size, 0, none⟩)) ∧ QAt (fun k => k = w.heap.size) w' w.heap.size f lt [] 0 ∧ Below w.heap.size w w' := by
  have H : Hid (QAt (fun k => k = w.heap.size) (w.alloc (.cells #[f, .slice none 0 0, .int .u64 0] 57)) w.heap.size f lt [] 0) := hide ⟨hC, [], .slice none 0 0, ⟨heap_alloc_new w _, World.ownsRow_nil _ _ _ _, by simp [Value.ownBlock], by simp⟩, QP.nil lt, fun k => ⟨Or.inl, fun h => by
    rcases h with h | h
    · exact h
    · simp [Value.ownBlock] at h⟩⟩
  rcases hC.calls with ⟨rfl, _⟩ | ⟨k, rfl, _, _⟩
  all_goals
    go_enter Try.func6, Try.ntmps6
    go_wp2
    go_ret
    exact ⟨rfl, unhide H, (Below.refl _ _).alloc (Nat.le_refl _) _⟩

theorem qlen_any (lt : It → It → Bool) (F : Nat → Prop) (w : World) (q n : Nat) (f : Value) (Z : List It) (h : QAt F w q f lt Z n) :
    Calls Try.prog 38 #[.pointer (some ⟨q, 0, none⟩)] w fun e w' => e = .returned (.int .i64 (Z.length : Int)) ∧ Below w.heap.size w w' := by
  obtain ⟨hC, L, v, hL, hQ, hF⟩ := h
  rw [← hQ.length]
  clear hQ hF
  go_enter Try.func38, Try.ntmps38
  go_wp2_with (first | (go_at_call 41; refine Calls.mono (llen_any _ q n f v L hL) ?_; rintro e w1 ⟨rfl, b1⟩))
  go_ret
  exact ⟨rfl, b1⟩

set_option maxRecDepth 20000 in
set_option maxHeartbeats 1000000 in
theorem qpush_any (lt : It → It → Bool) (F : Nat → Prop) (w : World) (q n : Nat) (x : It) (f : Value) (Z : List It) (h : QAt F w q f lt Z n) (hs : (Z.length + 1) * 40 ≤ 140737488355328) (hn : n < 4611686018427387904) :
    Calls Try.prog 11 #[.pointer (some ⟨q, 0, none⟩), .agg #[.string x.1, .string x.2]] w fun e w' => e = .returned (.int .i64 0) ∧ ∃ F', QAt F' w' q f lt (ins lt x Z) (n + 1) ∧ Moves F F' w w' := by
  have hb0 : Below w.heap.size w (w.alloc (.cells #[.string x.1, .string x.2] 28)) := (Below.refl _ _).alloc (Nat.le_refl _) _
  have x1 : (w.alloc (.cells #[.string x.1, .string x.2] 28)).cell? ⟨w.heap.size, 0, none⟩ = some (.string x.1) := by simp
  have x2 : (w.alloc (.cells #[.string x.1, .string x.2] 28)).cell? ⟨w.heap.size, 1, none⟩ = some (.string x.2) := by simp
  have H := hide (h.below hb0)
  have HB := hide hb0
  have HS := hide hs
  have HN := hide hn
  clear h hb0 hs hn
  go_enter Try.func11, Try.ntmps11
  go_wp2_with fail
  obtain ⟨W0, hW0⟩ : ∃ W0, (w.alloc (.cells #[.string x.1, .string x.2] 28)) = W0 := ⟨_, rfl⟩
  rw [hW0] at H HB x1 x2 ⊢
  clear hW0
  go_still_tail 4, (by kernel_rfl)
  go_wp2_with fail
  refine Calls.mono (add_any lt F _ q n x f Z ((unhide H).below (Below.refl _ _).drew) (unhide HS) (unhide HN)) ?_
  rintro e w1 ⟨rfl, F', q1, m1⟩
  have HE : Hid (QAt F' w1 q f lt (ins lt x Z) (n + 1) ∧ Moves F F' w w1) := hide ⟨q1, (Moves.of_below (unhide HB).drew).trans m1⟩
  clear q1 m1
  go_wp2_with fail
  go_ret
  exact ⟨rfl, F', unhide HE⟩

/-- A result of two cells, behind what only makes memory. -/
theorem res2 {w w1 : World} {x y : Value} {t : TypeId} (hb : Below (w.alloc (.cells #[x, y] t)).heap.size (w.alloc (.cells #[x, y] t)) w1) :
    w1.cell? ⟨w.heap.size, 0, none⟩ = some x ∧ w1.cell? ⟨w.heap.size, 1, none⟩ = some y ∧ w1.frozen? ⟨w.heap.size, 0, none⟩ = false ∧ w1.frozen? ⟨w.heap.size, 1, none⟩ = false ∧ w.heap.size < w1.heap.size ∧ Below w.heap.size w w1 := by
  have hh := (hb.block w.heap.size (by simp)).trans (heap_alloc_new w _)
  have hs := hb.size
  simp at hs
  refine ⟨?_, ?_, by simp [World.frozen?, hh], by simp [World.frozen?, hh], by omega, ((Below.refl _ w).alloc (Nat.le_refl _) _).trans (hb.mono (by simp))⟩
  all_goals (rw [cell_of_row w1 w.heap.size _ _ _ (0, 0) hh]; rfl)

set_option maxRecDepth 20000 in
set_option maxHeartbeats 1000000 in
theorem qpeek_none (lt : It → It → Bool) (F : Nat → Prop) (w : World) (q n : Nat) (f : Value) (h : QAt F w q f lt [] n) :
    Calls Try.prog 23 #[.pointer (some ⟨q, 0, none⟩)] w fun e w' => e = .returned (.tuple #[.agg #[.string ⟨#[]⟩, .string ⟨#[]⟩], .bool false]) ∧ Below w.heap.size w w' := by
  have H := hide h
  clear h
  go_enter Try.func23, Try.ntmps23
  go_wp2_with fail
  refine Calls.mono (qlen_any lt F _ q n f [] ((unhide H).below ((Below.refl _ _).alloc (Nat.le_refl _) _))) ?_
  rintro e w1 ⟨rfl, b1⟩
  obtain ⟨r0, r1, g0, g1, hlt, hB⟩ := res2 b1
  have HB := hide hB
  have ne1 : ¬ w1.heap.size = w.heap.size := by omega
  clear b1 hB
  go_wp2_with fail
  refine bodyPost_ret (v := .tuple #[.agg #[.string ⟨#[]⟩, .string ⟨#[]⟩], .bool false]) (by simp [results, Try.results23, go_sem, r0, r1, hlt]) rfl ⟨rfl, ?_⟩
  have hB := unhide HB
  exact ((hB.setCell (p := ⟨w.heap.size, 0, none⟩) (Nat.le_refl _) _).setCell (p := ⟨w.heap.size, 1, none⟩) (Nat.le_refl _) _).alloc (by simp [World.setCell]; omega) _

set_option maxRecDepth 20000 in
set_option maxHeartbeats 1000000 in
theorem qpeek_some (lt : It → It → Bool) (F : Nat → Prop) (w : World) (q n : Nat) (f : Value) (z : It) (Z : List It) (h : QAt F w q f lt (z :: Z) n) :
    Calls Try.prog 23 #[.pointer (some ⟨q, 0, none⟩)] w fun e w' => e = .returned (.tuple #[.agg #[.string z.1, .string z.2], .bool true]) ∧ Below w.heap.size w w' := by
  have H := hide h
  have hlen : ¬ (((z :: Z).length : Nat) : Int) = 0 := by simp only [List.length_cons]; omega
  generalize hN : ((z :: Z).length : Int) = N at *
  have HN := hide hN
  clear h hN
  go_enter Try.func23, Try.ntmps23
  go_wp2_with fail
  refine Calls.mono (qlen_any lt F _ q n f (z :: Z) ((unhide H).below ((Below.refl _ _).alloc (Nat.le_refl _) _))) ?_
  rintro e w1 ⟨rfl, b1⟩
  rw [unhide HN]
  obtain ⟨r0, r1, g0, g1, hlt, hB⟩ := res2 b1
  have HB := hide hB
  obtain ⟨hC, L, v, hL, hQ, hF⟩ := (unhide H).below hB
  obtain ⟨h0, hz⟩ := hQ.first hC.ord
  obtain ⟨g, cap, rfl, hgq, hgl, k1, k2, fzg, hc⟩ := hL.open h0
  obtain ⟨c0, c1, c2, fz⟩ := hL.cells
  obtain ⟨a1, a2, a3⟩ := hc 0 h0
  rw [hz] at a1 a2
  simp only [Nat.zero_mul, Nat.zero_add] at a1 a2
  have h0I : (0 : Int) < (L.length : Int) := by omega
  clear b1 hB hL hQ hF hc hz hgq c0 c2 fz a3 HN
  go_wp2_with fail
  refine bodyPost_ret (v := .tuple #[.agg #[.string z.1, .string z.2], .bool true]) (by simp [results, Try.results23, go_sem, r0, r1]) rfl ⟨rfl, ?_⟩
  have hB := unhide HB
  exact (hB.setCell (p := ⟨w.heap.size, 0, none⟩) (Nat.le_refl _) _).setCell (p := ⟨w.heap.size, 1, none⟩) (Nat.le_refl _) _

set_option maxRecDepth 20000 in
set_option maxHeartbeats 1000000 in
theorem qpop_none (lt : It → It → Bool) (F : Nat → Prop) (w : World) (q n : Nat) (f : Value) (h : QAt F w q f lt [] n) :
    Calls Try.prog 14 #[.pointer (some ⟨q, 0, none⟩)] w fun e w' => e = .returned (.tuple #[.agg #[.string ⟨#[]⟩, .string ⟨#[]⟩], .bool false]) ∧ Below w.heap.size w w' := by
  have H := hide h
  clear h
  go_enter Try.func14, Try.ntmps14
  go_wp2_with fail
  refine Calls.mono (qpeek_none lt F _ q n f ((unhide H).below ((Below.refl _ _).alloc (Nat.le_refl _) _))) ?_
  rintro e w1 ⟨rfl, b1⟩
  obtain ⟨r0, r1, g0, g1, hlt, hB⟩ := res2 b1
  have HB := hide hB
  have ne1 : ¬ w1.heap.size = w.heap.size := by omega
  clear b1 hB
  go_wp2_with fail
  refine bodyPost_ret (v := .tuple #[.agg #[.string ⟨#[]⟩, .string ⟨#[]⟩], .bool false]) (by simp [results, Try.results14, go_sem, r0, r1, hlt]) rfl ⟨rfl, ?_⟩
  have hB := unhide HB
  exact ((hB.setCell (p := ⟨w.heap.size, 0, none⟩) (Nat.le_refl _) _).setCell (p := ⟨w.heap.size, 1, none⟩) (Nat.le_refl _) _).alloc (by simp [World.setCell]; omega) _

/-- Two cells of a block that is not among those that move. -/
theorem two_keep {F : Nat → Prop} {w w' : World} {b : Nat} {x y : Value} (hk : Keep F w w') (hn : ¬ F b) (c0 : w.cell? ⟨b, 0, none⟩ = some x) (c1 : w.cell? ⟨b, 1, none⟩ = some y) (f0 : w.frozen? ⟨b, 0, none⟩ = false) (f1 : w.frozen? ⟨b, 1, none⟩ = false) :
    w'.cell? ⟨b, 0, none⟩ = some x ∧ w'.cell? ⟨b, 1, none⟩ = some y ∧ w'.frozen? ⟨b, 0, none⟩ = false ∧ w'.frozen? ⟨b, 1, none⟩ = false ∧ b < w'.heap.size := by
  have hl := World.block_lt_of_cell? w _ c0
  have hb := hk.block b hl hn
  exact ⟨(World.cell?_of_block (w := w) hb).trans c0, (World.cell?_of_block (w := w) hb).trans c1, (World.frozen?_of_block (w := w) hb).trans f0, (World.frozen?_of_block (w := w) hb).trans f1, Nat.lt_of_lt_of_le hl hk.size⟩

set_option maxRecDepth 20000 in
set_option maxHeartbeats 1000000 in
theorem qpop_some (lt : It → It → Bool) (F : Nat → Prop) (w : World) (q n : Nat) (f : Value) (z : It) (Z : List It) (h : QAt F w q f lt (z :: Z) n) :
    Calls Try.prog 14 #[.pointer (some ⟨q, 0, none⟩)] w fun e w' => e = .returned (.tuple #[.agg #[.string z.1, .string z.2], .bool true]) ∧ ∃ F', QAt F' w' q f lt Z n ∧ Moves F F' w w' := by
  have H := hide h
  have hFl := h.lt
  clear h
  go_enter Try.func14, Try.ntmps14
  go_wp2_with fail
  refine Calls.mono (qpeek_some lt F _ q n f z Z ((unhide H).below ((Below.refl _ _).alloc (Nat.le_refl _) _))) ?_
  rintro e w1 ⟨rfl, b1⟩
  obtain ⟨r0, r1, g0, g1, hlt, hB⟩ := res2 b1
  have HB := hide hB
  have ne1 : ¬ w1.heap.size = w.heap.size := by omega
  clear b1 hB
  go_wp2_with fail
  have hB2 : Below w.heap.size w (w1.alloc (.cells #[.string z.1, .string z.2] 28)) := (unhide HB).alloc (unhide HB).size _
  refine Calls.mono (drop_any lt F _ q n z f Z ((unhide H).below hB2)) ?_
  rintro e w2 ⟨rfl, F', q2, m2⟩
  have hs1 := (unhide HB).size
  obtain ⟨s0, s1, s2, s3, s4⟩ := two_keep (b := w.heap.size) m2.keep (fun hf => by have := hFl _ hf; omega) (x := .string ⟨#[]⟩) (y := .string ⟨#[]⟩) (by rw [← r0]; exact World.cell?_alloc_past _ _ _ hlt) (by rw [← r1]; exact World.cell?_alloc_past _ _ _ hlt) ((World.frozen?_of_block (w := w1) (Below.heap_alloc _ _ _ hlt)).trans g0) ((World.frozen?_of_block (w := w1) (Below.heap_alloc _ _ _ hlt)).trans g1)
  obtain ⟨t0, t1, t2, t3, t4⟩ := two_keep (b := w1.heap.size) m2.keep (fun hf => by have := hFl _ hf; omega) (x := .string z.1) (y := .string z.2) (by simp) (by simp) (frozen_of_block (heap_alloc_new w1 _)) (frozen_of_block (heap_alloc_new w1 _))
  have HE : Hid (QAt F' w2 q f lt Z n ∧ Moves F F' w w2) := hide ⟨q2, (Moves.of_below hB2).trans m2⟩
  have HNF : Hid (¬ F' w.heap.size) := hide (fun hf => by
    rcases m2.sub _ hf with h | h
    · have := hFl _ h; omega
    · simp at h; omega)
  clear q2 m2 r0 r1 g0 g1 hB2 hs1 hFl
  go_wp2_with fail
  refine bodyPost_ret (v := .tuple #[.agg #[.string z.1, .string z.2], .bool true]) (by simp [results, Try.results14, go_sem, s0, s1]) rfl ⟨rfl, F', ?_⟩
  obtain ⟨hq, hm⟩ := unhide HE
  have hk : ∀ (W : World) (j : Nat) (u : Value), Keep (fun k => k = w.heap.size) W (W.setCell ⟨w.heap.size, j, none⟩ u) := fun W j u => ⟨rfl, rfl, rfl, by simp [World.setCell], fun k _ hk => heap_setCell_other W ⟨w.heap.size, j, none⟩ k _ (fun e => hk (by simp at e; exact e.symm ▸ rfl))⟩
  have hk2 := (hk w2 0 (.string z.1)).trans (hk _ 1 (.string z.2)) (fun _ h => Or.inl h)
  refine ⟨hq.keep hk2 (fun k hf e => unhide HNF (e ▸ hf)), hm.keep.trans hk2 (fun k e => Or.inr (by omega)), hm.sub⟩

end Go.Proofs.Ytbccdaeejlkmcaa.K2

/- For 'QueueKinds': the orders of strings and of pairs, lists sorted by them, three queues of unlike things beside blocks of the call's own. -/
namespace Go.Proofs.Ytbccdaeejlkmcaa
open Go.RowKit

theorem tl_ntr (a b c : List UInt8) (h : tl b a = false) (k : tl c b = false) : tl c a = false := by
  cases h1 : tl c a with
  | false => rfl
  | true =>
    cases h2 : tl a b with
    | true => rw [tl_trans c a b h1 h2] at k; cases k
    | false => have := tl_total a b h2 h; subst this; rw [k] at h1; cases h1
def lowS (a b : ByteArray) : Bool := tl a.toList b.toList
def lowP (a b : ByteArray × ByteArray) : Bool := tl a.2.toList b.2.toList
def never (_ _ : It) : Bool := false
theorem lowS_order : Order lowS := ⟨fun _ => tl_irr _, fun _ _ _ => tl_trans _ _ _, fun _ _ _ => tl_ntr _ _ _⟩
theorem lowP_order : Order lowP := ⟨fun _ => tl_irr _, fun _ _ _ => tl_trans _ _ _, fun _ _ _ => tl_ntr _ _ _⟩
theorem never_order : Order never := ⟨fun _ => rfl, fun _ _ _ h => (nomatch h), fun _ _ _ _ _ => rfl⟩
theorem below1_any (x y : ByteArray) (w : World) : Calls Try.prog 5 #[K1.itV x, K1.itV y] w fun e w' => e = .returned (.bool (lowS x y)) ∧ Below w.heap.size w w' := by
  unfold K1.itV lowS
  go_enter Try.func5, Try.ntmps5
  go_wp2
  go_ret
  exact ⟨rfl, Below.refl _ _⟩
theorem below2_any (x y : ByteArray × ByteArray) (w : World) : Calls Try.prog 7 #[K2.itV x, K2.itV y] w fun e w' => e = .returned (.bool (lowP x y)) ∧ Below w.heap.size w w' := by
  unfold K2.itV lowP
  go_enter Try.func7, Try.ntmps7
  go_wp2
  go_ret
  exact ⟨rfl, ((Below.refl _ _).alloc (Nat.le_refl _) _).alloc (by simp) _⟩
theorem below1_ent (args : Array Value) (w : World) : (callFunc 5 args).run Try.prog w = .ok (.enter 5 args) w := by
  kernel_rfl
theorem below2_ent (args : Array Value) (w : World) : (callFunc 7 args).run Try.prog w = .ok (.enter 7 args) w := by
  kernel_rfl
def fS : Value := .func (.func 5) #[] #[]
def fP : Value := .func (.func 7) #[] #[]
theorem below1_C : K1.LessC fS lowS := ⟨lowS_order, Or.inr ⟨_, rfl, below1_ent, below1_any⟩⟩
theorem below2_C : K2.LessC fP lowP := ⟨lowP_order, Or.inr ⟨_, rfl, below2_ent, below2_any⟩⟩
theorem never_C : LessC .nilFunc never := ⟨never_order, Or.inl ⟨rfl, fun _ _ => rfl⟩⟩

/-- A name as a pair. -/
def prS (s : ByteArray) : ByteArray × ByteArray := (⟨#[]⟩, s)
theorem ins_pr (s : ByteArray) (Z : List ByteArray) : ins lowP (prS s) (Z.map prS) = (ins lowS s Z).map prS := by
  induction Z with
  | nil => rfl
  | cons y Z ih =>
    rw [List.map_cons, ins, ins, ih]
    by_cases h : lowS s y = true
    · rw [if_pos h, if_pos (show lowP (prS s) (prS y) = true from h)]; rfl
    · rw [if_neg h, if_neg (show ¬ lowP (prS s) (prS y) = true from h)]; rfl
theorem ins_never (x : It) (Z : List It) : ins never x Z = Z ++ [x] := by
  induction Z with
  | nil => rfl
  | cons y Z ih => rw [ins, ih]; rfl

section
variable {F F' G K : Nat → Prop} {b : Nat} {w w' : World}
theorem disj_step (hd : ∀ k, F k → ¬ G k) (m : Moves F F' w w') (hG : ∀ k, G k → k < w.heap.size) : ∀ k, F' k → ¬ G k := fun k hf hg => by
  rcases m.sub k hf with e | e
  · exact hd k e hg
  · have := hG k hg; omega
theorem disj_flip (hd : ∀ k, F k → ¬ G k) : ∀ k, G k → ¬ F k := fun k h h' => hd k h' h
theorem own_step (ho : ∀ k, F k → b ≤ k ∧ ¬ K k) (m : Moves F F' w w') (hs : b ≤ w.heap.size) (hK : ∀ k, K k → k < w.heap.size) : ∀ k, F' k → b ≤ k ∧ ¬ K k := fun k hf => by
  rcases m.sub k hf with e | e
  · exact ho k e
  · exact ⟨Nat.le_trans hs e, fun hk => by have := hK k hk; omega⟩
end

/-- Three queues apart from each other and from the blocks K, all from b on. -/
structure T3 (K : Nat → Prop) (b : Nat) (w wr : World) (q r p n m l : Nat) (X : List ByteArray) (Y : List (ByteArray × ByteArray)) (Z : List It) : Prop where
  all : ∃ F G H, K1.QAt F wr q fS lowS X n ∧ K2.QAt G wr r fP lowP Y m ∧ QAt H wr p .nilFunc never Z l ∧ (∀ k, F k → ¬ G k) ∧ (∀ k, F k → ¬ H k) ∧ (∀ k, G k → ¬ H k) ∧ (∀ k, F k → b ≤ k ∧ ¬ K k) ∧ (∀ k, G k → b ≤ k ∧ ¬ K k) ∧ (∀ k, H k → b ≤ k ∧ ¬ K k)
  own : ∀ k, K k → b ≤ k ∧ k < wr.heap.size
  bel : Below b w wr
  size : b ≤ wr.heap.size
def SameB (K : Nat → Prop) (w w' : World) : Prop := ∀ k, K k → w'.heap[k]? = w.heap[k]?
section
variable {K K' : Nat → Prop} {b : Nat} {w wr wx : World} {q r p n m l : Nat} {X : List ByteArray} {Y : List (ByteArray × ByteArray)} {Z : List It}
theorem T3.more (h : T3 K b w wr q r p n m l X Y Z) (hb : Below wr.heap.size wr wx) (hK : ∀ k, K' k → K k ∨ (wr.heap.size ≤ k ∧ k < wx.heap.size)) : T3 K' b w wx q r p n m l X Y Z := by
  obtain ⟨F, G, H, h1, h2, h3, d1, d2, d3, o1, o2, o3⟩ := h.all
  refine ⟨⟨F, G, H, h1.below hb, h2.below hb, h3.below hb, d1, d2, d3, fun k hk => ⟨(o1 k hk).1, fun hk' => ?_⟩, fun k hk => ⟨(o2 k hk).1, fun hk' => ?_⟩, fun k hk => ⟨(o3 k hk).1, fun hk' => ?_⟩⟩, fun k hk => ?_, h.bel.trans (hb.mono h.size), Nat.le_trans h.size hb.size⟩
  · rcases hK k hk' with e | e
    · exact (o1 k hk).2 e
    · have := h1.lt k hk; omega
  · rcases hK k hk' with e | e
    · exact (o2 k hk).2 e
    · have := h2.lt k hk; omega
  · rcases hK k hk' with e | e
    · exact (o3 k hk).2 e
    · have := h3.lt k hk; omega
  · rcases hK k hk with e | e
    · exact ⟨(h.own k e).1, Nat.lt_of_lt_of_le (h.own k e).2 hb.size⟩
    · have := h.size; omega
theorem T3.below (h : T3 K b w wr q r p n m l X Y Z) (hb : Below wr.heap.size wr wx) : T3 K b w wx q r p n m l X Y Z := h.more hb (fun _ hk => Or.inl hk)
theorem T3.less (h : T3 K b w wr q r p n m l X Y Z) : T3 (fun _ => False) b w wr q r p n m l X Y Z := h.more (Below.refl _ _) (fun _ hk => hk.elim)
theorem t3_push1 (s : ByteArray) (h : T3 K b w wr q r p n m l X Y Z) (hs : (X.length + 1) * 24 ≤ 140737488355328) (hn : n < 4611686018427387904) :
    Calls Try.prog 10 #[.pointer (some ⟨q, 0, none⟩), .string s] wr fun e w' => e = .returned (.int .i64 0) ∧ T3 K b w w' q r p (n + 1) m l (ins lowS s X) Y Z ∧ SameB K wr w' := by
  obtain ⟨F, G, H, h1, h2, h3, d1, d2, d3, o1, o2, o3⟩ := h.all
  refine (K1.qpush_any lowS F wr q n s _ X h1 hs hn).mono ?_
  rintro e w' ⟨rfl, F', g1, m1⟩
  exact ⟨rfl, ⟨⟨F', G, H, g1, h2.keep m1.keep (disj_flip d1), h3.keep m1.keep (disj_flip d2), disj_step d1 m1 h2.lt, disj_step d2 m1 h3.lt, d3, own_step o1 m1 h.size (fun k hk => (h.own k hk).2), o2, o3⟩, fun k hk => ⟨(h.own k hk).1, Nat.lt_of_lt_of_le (h.own k hk).2 m1.keep.size⟩, h.bel.trans (m1.keep.below h.size (fun k hk => (o1 k hk).1)), Nat.le_trans h.size m1.keep.size⟩, fun k hk => m1.keep.block k (h.own k hk).2 (fun hf => (o1 k hf).2 hk)⟩
theorem t3_push2 (s : ByteArray × ByteArray) (h : T3 K b w wr q r p n m l X Y Z) (hs : (Y.length + 1) * 40 ≤ 140737488355328) (hn : m < 4611686018427387904) :
    Calls Try.prog 11 #[.pointer (some ⟨r, 0, none⟩), .agg #[.string s.1, .string s.2]] wr fun e w' => e = .returned (.int .i64 0) ∧ T3 K b w w' q r p n (m + 1) l X (ins lowP s Y) Z ∧ SameB K wr w' := by
  obtain ⟨F, G, H, h1, h2, h3, d1, d2, d3, o1, o2, o3⟩ := h.all
  refine (K2.qpush_any lowP G wr r m s _ Y h2 hs hn).mono ?_
  rintro e w' ⟨rfl, G', g1, m1⟩
  exact ⟨rfl, ⟨⟨F, G', H, h1.keep m1.keep d1, g1, h3.keep m1.keep (disj_flip d3), disj_flip (disj_step (disj_flip d1) m1 h1.lt), d2, disj_step d3 m1 h3.lt, o1, own_step o2 m1 h.size (fun k hk => (h.own k hk).2), o3⟩, fun k hk => ⟨(h.own k hk).1, Nat.lt_of_lt_of_le (h.own k hk).2 m1.keep.size⟩, h.bel.trans (m1.keep.below h.size (fun k hk => (o2 k hk).1)), Nat.le_trans h.size m1.keep.size⟩, fun k hk => m1.keep.block k (h.own k hk).2 (fun hf => (o2 k hf).2 hk)⟩
theorem t3_push3 (x : It) (h : T3 K b w wr q r p n m l X Y Z) (hs : (Z.length + 1) * 32 ≤ 140737488355328) (hn : l < 4611686018427387904) :
    Calls Try.prog 12 #[.pointer (some ⟨p, 0, none⟩), .agg #[.int .i64 x.1, .string x.2]] wr fun e w' => e = .returned (.int .i64 0) ∧ T3 K b w w' q r p n m (l + 1) X Y (ins never x Z) ∧ SameB K wr w' := by
  obtain ⟨F, G, H, h1, h2, h3, d1, d2, d3, o1, o2, o3⟩ := h.all
  refine (qpush_any never H wr p l x _ Z h3 hs hn).mono ?_
  rintro e w' ⟨rfl, H', g1, m1⟩
  exact ⟨rfl, ⟨⟨F, G, H', h1.keep m1.keep d2, h2.keep m1.keep d3, g1, d1, disj_flip (disj_step (disj_flip d2) m1 h1.lt), disj_flip (disj_step (disj_flip d3) m1 h2.lt), o1, o2, own_step o3 m1 h.size (fun k hk => (h.own k hk).2)⟩, fun k hk => ⟨(h.own k hk).1, Nat.lt_of_lt_of_le (h.own k hk).2 m1.keep.size⟩, h.bel.trans (m1.keep.below h.size (fun k hk => (o3 k hk).1)), Nat.le_trans h.size m1.keep.size⟩, fun k hk => m1.keep.block k (h.own k hk).2 (fun hf => (o3 k hf).2 hk)⟩
theorem t3_pop1 {s : ByteArray} (h : T3 K b w wr q r p n m l (s :: X) Y Z) :
    Calls Try.prog 13 #[.pointer (some ⟨q, 0, none⟩)] wr fun e w' => e = .returned (.tuple #[.string s, .bool true]) ∧ T3 K b w w' q r p n m l X Y Z ∧ SameB K wr w' := by
  obtain ⟨F, G, H, h1, h2, h3, d1, d2, d3, o1, o2, o3⟩ := h.all
  refine (K1.qpop_some lowS F wr q n _ s X h1).mono ?_
  rintro e w' ⟨rfl, F', g1, m1⟩
  exact ⟨rfl, ⟨⟨F', G, H, g1, h2.keep m1.keep (disj_flip d1), h3.keep m1.keep (disj_flip d2), disj_step d1 m1 h2.lt, disj_step d2 m1 h3.lt, d3, own_step o1 m1 h.size (fun k hk => (h.own k hk).2), o2, o3⟩, fun k hk => ⟨(h.own k hk).1, Nat.lt_of_lt_of_le (h.own k hk).2 m1.keep.size⟩, h.bel.trans (m1.keep.below h.size (fun k hk => (o1 k hk).1)), Nat.le_trans h.size m1.keep.size⟩, fun k hk => m1.keep.block k (h.own k hk).2 (fun hf => (o1 k hf).2 hk)⟩
theorem t3_pop2 {s : ByteArray × ByteArray} (h : T3 K b w wr q r p n m l X (s :: Y) Z) :
    Calls Try.prog 14 #[.pointer (some ⟨r, 0, none⟩)] wr fun e w' => e = .returned (.tuple #[.agg #[.string s.1, .string s.2], .bool true]) ∧ T3 K b w w' q r p n m l X Y Z ∧ SameB K wr w' := by
  obtain ⟨F, G, H, h1, h2, h3, d1, d2, d3, o1, o2, o3⟩ := h.all
  refine (K2.qpop_some lowP G wr r m _ s Y h2).mono ?_
  rintro e w' ⟨rfl, G', g1, m1⟩
  exact ⟨rfl, ⟨⟨F, G', H, h1.keep m1.keep d1, g1, h3.keep m1.keep (disj_flip d3), disj_flip (disj_step (disj_flip d1) m1 h1.lt), d2, disj_step d3 m1 h3.lt, o1, own_step o2 m1 h.size (fun k hk => (h.own k hk).2), o3⟩, fun k hk => ⟨(h.own k hk).1, Nat.lt_of_lt_of_le (h.own k hk).2 m1.keep.size⟩, h.bel.trans (m1.keep.below h.size (fun k hk => (o2 k hk).1)), Nat.le_trans h.size m1.keep.size⟩, fun k hk => m1.keep.block k (h.own k hk).2 (fun hf => (o2 k hf).2 hk)⟩
theorem t3_pop3 {x : It} (h : T3 K b w wr q r p n m l X Y (x :: Z)) :
    Calls Try.prog 15 #[.pointer (some ⟨p, 0, none⟩)] wr fun e w' => e = .returned (.tuple #[.agg #[.int .i64 x.1, .string x.2], .bool true]) ∧ T3 K b w w' q r p n m l X Y Z ∧ SameB K wr w' := by
  obtain ⟨F, G, H, h1, h2, h3, d1, d2, d3, o1, o2, o3⟩ := h.all
  refine (qpop_some never H wr p l _ x Z h3).mono ?_
  rintro e w' ⟨rfl, H', g1, m1⟩
  exact ⟨rfl, ⟨⟨F, G, H', h1.keep m1.keep d2, h2.keep m1.keep d3, g1, d1, disj_flip (disj_step (disj_flip d2) m1 h1.lt), disj_flip (disj_step (disj_flip d3) m1 h2.lt), o1, o2, own_step o3 m1 h.size (fun k hk => (h.own k hk).2)⟩, fun k hk => ⟨(h.own k hk).1, Nat.lt_of_lt_of_le (h.own k hk).2 m1.keep.size⟩, h.bel.trans (m1.keep.below h.size (fun k hk => (o3 k hk).1)), Nat.le_trans h.size m1.keep.size⟩, fun k hk => m1.keep.block k (h.own k hk).2 (fun hf => (o3 k hf).2 hk)⟩
end
end Go.Proofs.Ytbccdaeejlkmcaa
