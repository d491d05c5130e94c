/- Texts of ours, one behind the other: QOwn7, QLaw1, QRef1, QRef2. -/
import Derived.Test.YtbannlomemkjbaaG3
import Derived.Test.YtbannlomemkjbaaG4
import Derived.Test.YtbannlomemkjbaaG5
import Derived.Test.YtbannlomemkjbaaG8
import Derived.StillTailTactics
import Derived.Laws.StructEq
import Derived.Deep.RegionHeld3
/- The landed package queue: New, Push, Len, Peek, Pop. -/
namespace Go.Proofs.Ytbannlomemkjbaa
open Go.RowKit

theorem QAt.keep {F G : Nat → Prop} {w w' : World} {q n : Nat} {f : Value} {lt : It → It → Bool} {Z : List It} (h : QAt F w q f lt Z n) (hk : Keep G w w') (hn : ∀ k, F k → ¬ G k) : QAt F w' q f lt Z n := by
  obtain ⟨hC, L, v, hL, hQ, hF⟩ := h
  exact ⟨hC, L, v, hL.keep hk (fun k hf => hn k ((hF k).2 hf)), hQ, hF⟩
theorem QAt.below {F : Nat → Prop} {w w' : World} {q n : Nat} {f : Value} {lt : It → It → Bool} {Z : List It} (h : QAt F w q f lt Z n) (hb : Below w.heap.size w w') : QAt F w' q f lt Z n := h.keep (G := fun _ => False) (Keep.of_below hb) (fun _ _ => id)
theorem QAt.lt {F : Nat → Prop} {w : World} {q n : Nat} {f : Value} {lt : It → It → Bool} {Z : List It} (h : QAt F w q f lt Z n) : ∀ k, F k → k < w.heap.size := by
  obtain ⟨hC, L, v, hL, hQ, hF⟩ := h
  exact fun k hk => hL.lt k ((hF k).1 hk)
theorem QAt.mem {F : Nat → Prop} {w : World} {q n : Nat} {f : Value} {lt : It → It → Bool} {Z : List It} (h : QAt F w q f lt Z n) : F q := by
  obtain ⟨hC, L, v, hL, hQ, hF⟩ := h
  exact (hF q).2 (Or.inl rfl)
theorem QAt.small {F : Nat → Prop} {w : World} {q n : Nat} {f : Value} {lt : It → It → Bool} {Z : List It} (h : QAt F w q f lt Z n) : Z.length * 32 ≤ 140737488355328 := by
  obtain ⟨hC, L, v, hL, hQ, hF⟩ := h
  rw [← hQ.length]; exact hL.small
theorem QAt.sorted {F : Nat → Prop} {w : World} {q n : Nat} {f : Value} {lt : It → It → Bool} {Z : List It} (h : QAt F w q f lt Z n) : Z.Pairwise fun a b => lt b a = false := by
  obtain ⟨hC, L, v, hL, hQ, hF⟩ := h
  exact hQ.sorted hC.ord

set_option maxRecDepth 20000 in
theorem qnew_any (lt : It → It → Bool) (f : Value) (hC : LessC f lt) (w : World) :
    Calls Try.prog 9 #[f] w fun e w' => e = .returned (.pointer (some ⟨w.heap.size, 0, none⟩)) ∧ QAt (fun k => k = w.heap.size) w' w.heap.size f lt [] 0 ∧ Below w.heap.size w w' := by
  have H : Hid (QAt (fun k => k = w.heap.size) (w.alloc (.cells #[f, .slice none 0 0, .int .u64 0] 78)) w.heap.size f lt [] 0) := hide ⟨hC, [], .slice none 0 0, ⟨heap_alloc_new w _, World.ownsRow_nil _ _ _ _, by simp [Value.ownBlock], by simp⟩, QP.nil lt, fun k => ⟨Or.inl, fun h => by
    rcases h with h | h
    · exact h
    · simp [Value.ownBlock] at h⟩⟩
  rcases hC.calls with ⟨rfl, _⟩ | ⟨k, rfl, _, _⟩
  all_goals
    go_enter Try.func9, Try.ntmps9
    go_wp2
    go_ret
    exact ⟨rfl, unhide H, (Below.refl _ _).alloc (Nat.le_refl _) _⟩

theorem qlen_any (lt : It → It → Bool) (F : Nat → Prop) (w : World) (q n : Nat) (f : Value) (Z : List It) (h : QAt F w q f lt Z n) :
    Calls Try.prog 13 #[.pointer (some ⟨q, 0, none⟩)] w fun e w' => e = .returned (.int .i64 (Z.length : Int)) ∧ Below w.heap.size w w' := by
  obtain ⟨hC, L, v, hL, hQ, hF⟩ := h
  rw [← hQ.length]
  clear hQ hF
  go_enter Try.func13, Try.ntmps13
  go_wp2_with (first | (go_at_call 36; refine Calls.mono (llen_any _ q n f v L hL) ?_; rintro e w1 ⟨rfl, b1⟩))
  go_ret
  exact ⟨rfl, b1⟩

set_option maxRecDepth 20000 in
set_option maxHeartbeats 1000000 in
theorem qpush_any (lt : It → It → Bool) (F : Nat → Prop) (w : World) (q n : Nat) (x : It) (f : Value) (Z : List It) (h : QAt F w q f lt Z n) (hs : (Z.length + 1) * 32 ≤ 140737488355328) (hn : n < 4611686018427387904) :
    Calls Try.prog 14 #[.pointer (some ⟨q, 0, none⟩), .agg #[.int .i64 x.1, .string x.2]] w fun e w' => e = .returned (.int .i64 0) ∧ ∃ F', QAt F' w' q f lt (ins lt x Z) (n + 1) ∧ Moves F F' w w' := by
  have hb0 : Below w.heap.size w (w.alloc (.cells #[.int .i64 x.1, .string x.2] 26)) := (Below.refl _ _).alloc (Nat.le_refl _) _
  have x1 : (w.alloc (.cells #[.int .i64 x.1, .string x.2] 26)).cell? ⟨w.heap.size, 0, none⟩ = some (.int .i64 x.1) := by simp
  have x2 : (w.alloc (.cells #[.int .i64 x.1, .string x.2] 26)).cell? ⟨w.heap.size, 1, none⟩ = some (.string x.2) := by simp
  have H := hide (h.below hb0)
  have HB := hide hb0
  have HS := hide hs
  have HN := hide hn
  clear h hb0 hs hn
  go_enter Try.func14, Try.ntmps14
  go_wp2_with fail
  obtain ⟨W0, hW0⟩ : ∃ W0, (w.alloc (.cells #[.int .i64 x.1, .string x.2] 26)) = W0 := ⟨_, rfl⟩
  rw [hW0] at H HB x1 x2 ⊢
  clear hW0
  go_still_tail 4, (by kernel_rfl)
  go_wp2_with fail
  refine Calls.mono (add_any lt F _ q n x f Z ((unhide H).below (Below.refl _ _).drew) (unhide HS) (unhide HN)) ?_
  rintro e w1 ⟨rfl, F', q1, m1⟩
  have HE : Hid (QAt F' w1 q f lt (ins lt x Z) (n + 1) ∧ Moves F F' w w1) := hide ⟨q1, (Moves.of_below (unhide HB).drew).trans m1⟩
  clear q1 m1
  go_wp2_with fail
  go_ret
  exact ⟨rfl, F', unhide HE⟩

/-- A result of two cells, behind what only makes memory. -/
theorem res2 {w w1 : World} {x y : Value} {t : TypeId} (hb : Below (w.alloc (.cells #[x, y] t)).heap.size (w.alloc (.cells #[x, y] t)) w1) :
    w1.cell? ⟨w.heap.size, 0, none⟩ = some x ∧ w1.cell? ⟨w.heap.size, 1, none⟩ = some y ∧ w1.frozen? ⟨w.heap.size, 0, none⟩ = false ∧ w1.frozen? ⟨w.heap.size, 1, none⟩ = false ∧ w.heap.size < w1.heap.size ∧ Below w.heap.size w w1 := by
  have hh := (hb.block w.heap.size (by simp)).trans (heap_alloc_new w _)
  have hs := hb.size
  simp at hs
  refine ⟨?_, ?_, by simp [World.frozen?, hh], by simp [World.frozen?, hh], by omega, ((Below.refl _ w).alloc (Nat.le_refl _) _).trans (hb.mono (by simp))⟩
  all_goals (rw [cell_of_row w1 w.heap.size _ _ _ (0, 0) hh]; rfl)

set_option maxRecDepth 20000 in
set_option maxHeartbeats 1000000 in
theorem qpeek_none (lt : It → It → Bool) (F : Nat → Prop) (w : World) (q n : Nat) (f : Value) (h : QAt F w q f lt [] n) :
    Calls Try.prog 30 #[.pointer (some ⟨q, 0, none⟩)] w fun e w' => e = .returned (.tuple #[.agg #[.int .i64 0, .string ⟨#[]⟩], .bool false]) ∧ Below w.heap.size w w' := by
  have H := hide h
  clear h
  go_enter Try.func30, Try.ntmps30
  go_wp2_with fail
  refine Calls.mono (qlen_any lt F _ q n f [] ((unhide H).below ((Below.refl _ _).alloc (Nat.le_refl _) _))) ?_
  rintro e w1 ⟨rfl, b1⟩
  obtain ⟨r0, r1, g0, g1, hlt, hB⟩ := res2 b1
  have HB := hide hB
  have ne1 : ¬ w1.heap.size = w.heap.size := by omega
  clear b1 hB
  go_wp2_with fail
  refine bodyPost_ret (v := .tuple #[.agg #[.int .i64 0, .string ⟨#[]⟩], .bool false]) (by simp [results, Try.results30, go_sem, r0, r1, hlt]) rfl ⟨rfl, ?_⟩
  have hB := unhide HB
  exact ((hB.setCell (p := ⟨w.heap.size, 0, none⟩) (Nat.le_refl _) _).setCell (p := ⟨w.heap.size, 1, none⟩) (Nat.le_refl _) _).alloc (by simp [World.setCell]; omega) _

set_option maxRecDepth 20000 in
set_option maxHeartbeats 1000000 in
theorem qpeek_some (lt : It → It → Bool) (F : Nat → Prop) (w : World) (q n : Nat) (f : Value) (z : It) (Z : List It) (h : QAt F w q f lt (z :: Z) n) :
    Calls Try.prog 30 #[.pointer (some ⟨q, 0, none⟩)] w fun e w' => e = .returned (.tuple #[.agg #[.int .i64 z.1, .string z.2], .bool true]) ∧ Below w.heap.size w w' := by
  have H := hide h
  have hlen : ¬ (((z :: Z).length : Nat) : Int) = 0 := by simp only [List.length_cons]; omega
  generalize hN : ((z :: Z).length : Int) = N at *
  have HN := hide hN
  clear h hN
  go_enter Try.func30, Try.ntmps30
  go_wp2_with fail
  refine Calls.mono (qlen_any lt F _ q n f (z :: Z) ((unhide H).below ((Below.refl _ _).alloc (Nat.le_refl _) _))) ?_
  rintro e w1 ⟨rfl, b1⟩
  rw [unhide HN]
  obtain ⟨r0, r1, g0, g1, hlt, hB⟩ := res2 b1
  have HB := hide hB
  obtain ⟨hC, L, v, hL, hQ, hF⟩ := (unhide H).below hB
  obtain ⟨h0, hz⟩ := hQ.first hC.ord
  obtain ⟨g, cap, rfl, hgq, hgl, k1, k2, fzg, hc⟩ := hL.open h0
  obtain ⟨c0, c1, c2, fz⟩ := hL.cells
  obtain ⟨a1, a2, a3⟩ := hc 0 h0
  rw [hz] at a1 a2
  simp only [Nat.zero_mul, Nat.zero_add] at a1 a2
  have h0I : (0 : Int) < (L.length : Int) := by omega
  clear b1 hB hL hQ hF hc hz hgq c0 c2 fz a3 HN
  go_wp2_with fail
  refine bodyPost_ret (v := .tuple #[.agg #[.int .i64 z.1, .string z.2], .bool true]) (by simp [results, Try.results30, go_sem, r0, r1]) rfl ⟨rfl, ?_⟩
  have hB := unhide HB
  exact (hB.setCell (p := ⟨w.heap.size, 0, none⟩) (Nat.le_refl _) _).setCell (p := ⟨w.heap.size, 1, none⟩) (Nat.le_refl _) _

set_option maxRecDepth 20000 in
set_option maxHeartbeats 1000000 in
theorem qpop_none (lt : It → It → Bool) (F : Nat → Prop) (w : World) (q n : Nat) (f : Value) (h : QAt F w q f lt [] n) :
    Calls Try.prog 29 #[.pointer (some ⟨q, 0, none⟩)] w fun e w' => e = .returned (.tuple #[.agg #[.int .i64 0, .string ⟨#[]⟩], .bool false]) ∧ Below w.heap.size w w' := by
  have H := hide h
  clear h
  go_enter Try.func29, Try.ntmps29
  go_wp2_with fail
  refine Calls.mono (qpeek_none lt F _ q n f ((unhide H).below ((Below.refl _ _).alloc (Nat.le_refl _) _))) ?_
  rintro e w1 ⟨rfl, b1⟩
  obtain ⟨r0, r1, g0, g1, hlt, hB⟩ := res2 b1
  have HB := hide hB
  have ne1 : ¬ w1.heap.size = w.heap.size := by omega
  clear b1 hB
  go_wp2_with fail
  refine bodyPost_ret (v := .tuple #[.agg #[.int .i64 0, .string ⟨#[]⟩], .bool false]) (by simp [results, Try.results29, go_sem, r0, r1, hlt]) rfl ⟨rfl, ?_⟩
  have hB := unhide HB
  exact ((hB.setCell (p := ⟨w.heap.size, 0, none⟩) (Nat.le_refl _) _).setCell (p := ⟨w.heap.size, 1, none⟩) (Nat.le_refl _) _).alloc (by simp [World.setCell]; omega) _

/-- Two cells of a block that is not among those that move. -/
theorem two_keep {F : Nat → Prop} {w w' : World} {b : Nat} {x y : Value} (hk : Keep F w w') (hn : ¬ F b) (c0 : w.cell? ⟨b, 0, none⟩ = some x) (c1 : w.cell? ⟨b, 1, none⟩ = some y) (f0 : w.frozen? ⟨b, 0, none⟩ = false) (f1 : w.frozen? ⟨b, 1, none⟩ = false) :
    w'.cell? ⟨b, 0, none⟩ = some x ∧ w'.cell? ⟨b, 1, none⟩ = some y ∧ w'.frozen? ⟨b, 0, none⟩ = false ∧ w'.frozen? ⟨b, 1, none⟩ = false ∧ b < w'.heap.size := by
  have hl := World.block_lt_of_cell? w _ c0
  have hb := hk.block b hl hn
  exact ⟨(World.cell?_of_block (w := w) hb).trans c0, (World.cell?_of_block (w := w) hb).trans c1, (World.frozen?_of_block (w := w) hb).trans f0, (World.frozen?_of_block (w := w) hb).trans f1, Nat.lt_of_lt_of_le hl hk.size⟩

set_option maxRecDepth 20000 in
set_option maxHeartbeats 1000000 in
theorem qpop_some (lt : It → It → Bool) (F : Nat → Prop) (w : World) (q n : Nat) (f : Value) (z : It) (Z : List It) (h : QAt F w q f lt (z :: Z) n) :
    Calls Try.prog 29 #[.pointer (some ⟨q, 0, none⟩)] w fun e w' => e = .returned (.tuple #[.agg #[.int .i64 z.1, .string z.2], .bool true]) ∧ ∃ F', QAt F' w' q f lt Z n ∧ Moves F F' w w' := by
  have H := hide h
  have hFl := h.lt
  clear h
  go_enter Try.func29, Try.ntmps29
  go_wp2_with fail
  refine Calls.mono (qpeek_some lt F _ q n f z Z ((unhide H).below ((Below.refl _ _).alloc (Nat.le_refl _) _))) ?_
  rintro e w1 ⟨rfl, b1⟩
  obtain ⟨r0, r1, g0, g1, hlt, hB⟩ := res2 b1
  have HB := hide hB
  have ne1 : ¬ w1.heap.size = w.heap.size := by omega
  clear b1 hB
  go_wp2_with fail
  have hB2 : Below w.heap.size w (w1.alloc (.cells #[.int .i64 z.1, .string z.2] 26)) := (unhide HB).alloc (unhide HB).size _
  refine Calls.mono (drop_any lt F _ q n z f Z ((unhide H).below hB2)) ?_
  rintro e w2 ⟨rfl, F', q2, m2⟩
  have hs1 := (unhide HB).size
  obtain ⟨s0, s1, s2, s3, s4⟩ := two_keep (b := w.heap.size) m2.keep (fun hf => by have := hFl _ hf; omega) (x := .int .i64 0) (y := .string ⟨#[]⟩) (by rw [← r0]; exact World.cell?_alloc_past _ _ _ hlt) (by rw [← r1]; exact World.cell?_alloc_past _ _ _ hlt) ((World.frozen?_of_block (w := w1) (Below.heap_alloc _ _ _ hlt)).trans g0) ((World.frozen?_of_block (w := w1) (Below.heap_alloc _ _ _ hlt)).trans g1)
  obtain ⟨t0, t1, t2, t3, t4⟩ := two_keep (b := w1.heap.size) m2.keep (fun hf => by have := hFl _ hf; omega) (x := .int .i64 z.1) (y := .string z.2) (by simp) (by simp) (frozen_of_block (heap_alloc_new w1 _)) (frozen_of_block (heap_alloc_new w1 _))
  have HE : Hid (QAt F' w2 q f lt Z n ∧ Moves F F' w w2) := hide ⟨q2, (Moves.of_below hB2).trans m2⟩
  have HNF : Hid (¬ F' w.heap.size) := hide (fun hf => by
    rcases m2.sub _ hf with h | h
    · have := hFl _ h; omega
    · simp at h; omega)
  clear q2 m2 r0 r1 g0 g1 hB2 hs1 hFl
  go_wp2_with fail
  refine bodyPost_ret (v := .tuple #[.agg #[.int .i64 z.1, .string z.2], .bool true]) (by simp [results, Try.results29, go_sem, s0, s1]) rfl ⟨rfl, F', ?_⟩
  obtain ⟨hq, hm⟩ := unhide HE
  have hk : ∀ (W : World) (j : Nat) (u : Value), Keep (fun k => k = w.heap.size) W (W.setCell ⟨w.heap.size, j, none⟩ u) := fun W j u => ⟨rfl, rfl, rfl, by simp [World.setCell], fun k _ hk => heap_setCell_other W ⟨w.heap.size, j, none⟩ k _ (fun e => hk (by simp at e; exact e.symm ▸ rfl))⟩
  have hk2 := (hk w2 0 (.int .i64 z.1)).trans (hk _ 1 (.string z.2)) (fun _ h => Or.inl h)
  refine ⟨hq.keep hk2 (fun k hf e => unhide HNF (e ▸ hf)), hm.keep.trans hk2 (fun k e => Or.inr (by omega)), hm.sub⟩

end Go.Proofs.Ytbannlomemkjbaa

/- Layer 8's statements: items held against each other, below, awake. -/
namespace Go.Proofs.Ytbannlomemkjbaa
open Go.RowKit

theorem Try.itemHeld : Try.prog.stoodInHeld 26 = false := by kernel_rfl
def itEq (x y : It) : Bool := (x.1 == y.1) && (x.2.toList == y.2.toList)
theorem toList_inj {a b : ByteArray} (h : a.toList = b.toList) : a = b := by
  rw [ByteArray.toList_eq, ByteArray.toList_eq] at h
  obtain ⟨⟨x⟩⟩ := a
  obtain ⟨⟨y⟩⟩ := b
  simp only at h
  rw [h]
theorem itEq_iff {x y : It} : itEq x y = true ↔ x = y := by
  unfold itEq
  constructor
  · intro h
    simp only [Bool.and_eq_true, beq_iff_eq] at h
    exact Prod.ext h.1 (toList_inj h.2)
  · rintro rfl; simp
theorem itEq_refl (x : It) : itEq x x = true := itEq_iff.2 rfl
theorem it_eql (x y : It) (w : World) : (binOp .eql 26 (.agg #[.int .i64 x.1, .string x.2]) (.agg #[.int .i64 y.1, .string y.2])).run Try.prog w = .ok (.bool (itEq x y)) w := by
  rw [run_eql_struct, run_equalIn_agg]
  · simp [go_sem, itEq]
    by_cases h1 : x.1 = y.1 <;> by_cases h2 : x.2.toList = y.2.toList <;> simp [h1, h2]
  · kernel_rfl
  · exact Try.itemHeld

def lowI (a b : It) : Bool := decide (a.1 < b.1)
theorem lowI_order : Order lowI := ⟨fun a => by simp [lowI], fun a b c h k => by simp [lowI] at *; omega, fun a b c h k => by simp [lowI] at *; omega⟩
theorem below_any (x y : It) (w : World) : Calls Try.prog 10 #[itV x, itV y] w fun e w' => e = .returned (.bool (lowI x y)) ∧ Below w.heap.size w w' := by
  unfold itV lowI
  go_enter Try.func10, Try.ntmps10
  go_wp2
  go_ret
  exact ⟨rfl, ((Below.refl _ _).alloc (Nat.le_refl _) _).alloc (by simp) _⟩
theorem below_ent (args : Array Value) (w : World) : (callFunc 10 args).run Try.prog w = .ok (.enter 10 args) w := by
  kernel_rfl
theorem below_C : LessC (.func (.func 10) #[] #[]) lowI := ⟨lowI_order, Or.inr ⟨_, rfl, below_ent, below_any⟩⟩

theorem ins_nil (x : It) : ins lowI x [] = [x] := rfl

set_option maxRecDepth 20000 in
set_option maxHeartbeats 1000000 in
theorem awake_any (w : World) : Calls Try.prog 11 #[] w fun e w' => e = .returned (.bool true) ∧ Below w.heap.size w w' := by
  have E1 : ins lowI (1, ⟨#[97]⟩) (ins lowI (2, ⟨#[98]⟩) []) = [(1, ⟨#[97]⟩), (2, ⟨#[98]⟩)] := by simp [ins, lowI]
  have hq : ∀ W : World, (binOp .eql 26 (.agg #[.int .i64 1, .string ⟨#[97]⟩]) (.agg #[.int .i64 1, .string ⟨#[97]⟩])).run Try.prog W = .ok (.bool true) W := fun W => by
    have h := it_eql (1, ⟨#[97]⟩) (1, ⟨#[97]⟩) W
    rw [itEq_refl] at h
    exact h
  have HE1 := hide E1
  clear E1
  go_enter Try.func11, Try.ntmps11
  go_wp2_with fail
  refine Calls.mono (qnew_any lowI _ below_C _) ?_
  rintro e w1 ⟨rfl, q1, b1⟩
  have hs1 := b1.size
  go_wp2_with fail
  refine Calls.mono (qpush_any lowI _ _ _ 0 (2, ⟨#[98]⟩) _ [] q1 (by simp) (by omega)) ?_
  rintro e w2 ⟨rfl, F2, q2, m2⟩
  go_wp2_with fail
  refine Calls.mono (qpush_any lowI _ _ _ 1 (1, ⟨#[97]⟩) _ _ q2 (by simp [length_ins]) (by omega)) ?_
  rintro e w3 ⟨rfl, F3, q3, m3⟩
  have q3' : QAt F3 w3 w.heap.size (.func (.func 10) #[] #[]) lowI [(1, ⟨#[97]⟩), (2, ⟨#[98]⟩)] 2 := by rw [← unhide HE1]; exact q3
  clear q3
  go_wp2_with fail
  refine Calls.mono (qpop_some lowI _ _ _ 2 _ (1, ⟨#[97]⟩) _ q3') ?_
  rintro e w4 ⟨rfl, F4, q4, m4⟩
  go_wp2_with fail
  refine Calls.mono (qlen_any lowI F4 _ _ 2 _ _ (q4.below ((Below.refl _ _).alloc (Nat.le_refl _) _))) ?_
  rintro e w5 ⟨rfl, b5⟩
  have M := ((m2.trans m3).trans m4)
  have HB : Hid (Below w.heap.size w w5) := hide (by
    have k1 : Below w.heap.size w w4 := b1.trans (M.keep.below hs1 (fun k hk => Nat.le_of_eq hk.symm))
    exact (k1.alloc k1.size _).trans (b5.mono (Nat.le_trans k1.size (by simp))))
  clear M b5 m4 m3 m2 b1 hs1 q4 q3' q2 q1
  go_wp2_with fail
  go_ret
  exact ⟨rfl, unhide HB⟩
end Go.Proofs.Ytbannlomemkjbaa

/- The reference of layer 8: a queue as a list in the order of pushing: Below, first, Push. -/
namespace Go.Proofs.Ytbannlomemkjbaa
open Go.RowKit

structure RQ (w : World) (r : Nat) (l : List It) (v : Value) : Prop where
  blk : w.heap[r]? = some (.cells #[v] 31 (0, 0))
  row : w.ownsRow 0 26 2 v l.length (cellsI l)
  own : v.ownBlock ≠ some r
theorem RQ.lt {w : World} {r : Nat} {l : List It} {v : Value} (h : RQ w r l v) : ∀ k, QF r v k → k < w.heap.size := by
  rintro k (rfl | hk)
  · exact (Array.getElem?_eq_some_iff.1 h.blk).1
  · exact (h.row.lt k hk).2
theorem RQ.keep {F : Nat → Prop} {w w' : World} {r : Nat} {l : List It} {v : Value} (h : RQ w r l v) (hk : Keep F w w') (hn : ∀ k, QF r v k → ¬ F k) : RQ w' r l v :=
  ⟨(hk.block r (h.lt r (Or.inl rfl)) (hn r (Or.inl rfl))).trans h.blk, owns_keep h.row hk (fun k e => hn k (Or.inr e)), h.own⟩
theorem RQ.below {w w' : World} {r : Nat} {l : List It} {v : Value} (h : RQ w r l v) (hb : Below w.heap.size w w') : RQ w' r l v := h.keep (F := fun _ => False) (Keep.of_below hb) (fun _ _ => id)
theorem RQ.cells {w : World} {r : Nat} {l : List It} {v : Value} (h : RQ w r l v) : w.cell? ⟨r, 0, none⟩ = some v ∧ w.frozen? ⟨r, 0, none⟩ = false := by
  refine ⟨?_, frozen_of_block h.blk⟩
  rw [cell_of_row w r _ _ _ (0, 0) h.blk]; rfl

theorem rbelow_any (x y : It) (w : World) : Calls Try.prog 38 #[.agg #[.int .i64 x.1, .string x.2], .agg #[.int .i64 y.1, .string y.2]] w fun e w' => e = .returned (.bool (lowI x y)) ∧ Below w.heap.size w w' := by
  unfold lowI
  go_enter Try.func38, Try.ntmps38
  go_wp2
  go_ret
  exact ⟨rfl, ((Below.refl _ _).alloc (Nat.le_refl _) _).alloc (by simp) _⟩

theorem qbelow_drewN {n : Nat} {w w' : World} (h : Below n w w') (k : Nat) : Below n w (w'.drewN k) := ⟨h.os, h.tape, h.output, h.size, h.block⟩
theorem qfive_cells {w w' : World} {p1 p2 p3 p4 p5 : Addr} {f x1 x2 y1 y2 : Value} (hb : Below w.heap.size w w') (h : w.cell? p1 = some f ∧ w.cell? p2 = some x1 ∧ w.cell? p3 = some x2 ∧ w.cell? p4 = some y1 ∧ w.cell? p5 = some y2) :
    w'.cell? p1 = some f ∧ w'.cell? p2 = some x1 ∧ w'.cell? p3 = some x2 ∧ w'.cell? p4 = some y1 ∧ w'.cell? p5 = some y2 := by
  have hc : ∀ (p : Addr) (v : Value), w.cell? p = some v → w'.cell? p = some v := fun p v e => (hb.cell (World.block_lt_of_cell? w p e)).trans e
  exact ⟨hc _ _ h.1, hc _ _ h.2.1, hc _ _ h.2.2.1, hc _ _ h.2.2.2.1, hc _ _ h.2.2.2.2⟩

set_option maxRecDepth 20000 in
set_option maxHeartbeats 2000000 in
theorem rfirst_none (w : World) (r : Nat) (v : Value) (h : RQ w r [] v) :
    Calls Try.prog 50 #[.pointer (some ⟨r, 0, none⟩)] w fun e w' => e = .returned (.int .i64 (-1)) ∧ Below w.heap.size w w' := by
  obtain ⟨a, cap, rfl, k1, k2⟩ := (TI.of_owns h.row).shape
  obtain ⟨c0, f0⟩ := h.cells
  clear h f0
  go_enter Try.func50, Try.ntmps50
  go_wp2_with fail
  go_loopw [3, 4] (fun t i wr => t = .int .i64 (-1) ∧ i = .int .i64 0 ∧ wr = w) (fun _ _ _ => 0)
  case atStart => exact ⟨rfl, rfl, rfl⟩
  case round =>
    obtain ⟨rfl, rfl, rfl⟩ := hrel
    go_wp2_with fail
    go_ret
    exact ⟨rfl, Below.refl _ _⟩

set_option maxRecDepth 20000 in
set_option maxHeartbeats 2000000 in
theorem rfirst_some (w : World) (r : Nat) (l : List It) (v : Value) (h : RQ w r l v) (h0 : 0 < l.length) (hs : l.length ≤ 4398046511104) :
    Calls Try.prog 50 #[.pointer (some ⟨r, 0, none⟩)] w fun e w' => e = .returned (.int .i64 ((mn lowI l l.length : Nat) : Int)) ∧ Below w.heap.size w w' := by
  have HR := hide h
  obtain ⟨b, off, cap, rfl, k1, k2, hbl, hat, _⟩ := (TI.of_owns h.row).at h0
  obtain ⟨c0, f0⟩ := h.cells
  have HAT := hide hat
  have HLT := hide (mn_lt lowI l)
  have H0 := hide h0
  have hsI : (l.length : Int) ≤ 4398046511104 := by omega
  have HSI := hide hsI
  clear h f0 hat k1 k2 hs h0
  go_enter Try.func50, Try.ntmps50
  go_wp2_with fail
  go_loopw [3, 4] (fun t i wr => ∃ k : Nat, k ≤ l.length ∧ i = .int .i64 (k : Int) ∧ t = .int .i64 (if k = 0 then -1 else ((mn lowI l k : Nat) : Int)) ∧ Below w.heap.size w wr) (fun _ i _ => l.length - (intOf i).toNat)
  case atStart => exact ⟨0, Nat.zero_le _, rfl, rfl, Below.refl _ _⟩
  case round =>
    obtain ⟨k, hk, rfl, rfl, hB⟩ := hrel
    have HB := hide hB
    have c0r : wr.cell? ⟨r, 0, none⟩ = some (.slice (some ⟨b, off, none⟩) l.length cap) := (hB.cell (p := ⟨r, 0, none⟩) ((unhide HR).lt r (Or.inl rfl))).trans c0
    clear c0
    by_cases hlt : k < l.length
    · have hkI : (k : Int) < (l.length : Int) := by omega
      by_cases hz : k = 0
      · subst hz
        rw [if_pos rfl]
        have hd0 : decide (0 < l.length) = true := decide_eq_true hlt
        have HLT0 := hide hlt
        have HZ := hide (mn_zero lowI l)
        clear hk hlt hB
        go_wp2_with fail
        go_quiet (fail)
        go_wp2_with fail
        go_roundw
        case rel => exact ⟨1, unhide HLT0, by go_num, by rw [if_neg (by omega), unhide HZ], qbelow_drewN (unhide HB) _⟩
        case measure => (have := unhide HLT0; simp [intOf]; omega)
      · rw [if_neg hz]
        have hm : mn lowI l k < k := by
          obtain ⟨k', rfl⟩ : ∃ k', k = k' + 1 := ⟨k - 1, by omega⟩
          have := mn_lt lowI l k'
          omega
        obtain ⟨M, X, Y, hMe, hMk, hstep, a1, a2, b1, b2⟩ : ∃ (M : Nat) (X Y : It), mn lowI l k = M ∧ M < k ∧ (mn lowI l (k + 1) = if lowI X Y then k else M) ∧ wr.cell? ⟨b, off + k * 2, none⟩ = some (.int .i64 X.1) ∧ wr.cell? ⟨b, off + k * 2 + 1, none⟩ = some (.string X.2) ∧ wr.cell? ⟨b, off + M * 2, none⟩ = some (.int .i64 Y.1) ∧ wr.cell? ⟨b, off + M * 2 + 1, none⟩ = some (.string Y.2) := by
          obtain ⟨a1, a2⟩ := unhide HAT k hlt
          obtain ⟨b1, b2⟩ := unhide HAT (mn lowI l k) (by omega)
          exact ⟨mn lowI l k, l[k], l[mn lowI l k], rfl, hm, mn_step lowI l k hlt (by omega), (hB.cell (p := ⟨b, off + k * 2, none⟩) hbl).trans a1, (hB.cell (p := ⟨b, off + k * 2 + 1, none⟩) hbl).trans a2, (hB.cell (p := ⟨b, off + mn lowI l k * 2, none⟩) hbl).trans b1, (hB.cell (p := ⟨b, off + mn lowI l k * 2 + 1, none⟩) hbl).trans b2⟩
        rw [hMe]
        have HST := hide hstep
        have hMI : (M : Int) < (l.length : Int) := by omega
        have hM0 : ¬ (M : Int) < 0 := by omega
        have hM1 : decide ((M : Int) < 0) = false := decide_eq_false hM0
        have hd0 : decide (k < l.length) = true := decide_eq_true hlt
        have HLT0 := hide hlt
        clear hk hlt hB hstep hm hMe hz hMk
        go_wp2_with fail
        go_region_held3 (fun w' => w'.cell? ⟨r, 0, none⟩ = some (.slice (some ⟨b, off, none⟩) l.length cap) ∧ w'.cell? ⟨b, off + k * 2, none⟩ = some (.int .i64 X.1) ∧ w'.cell? ⟨b, off + k * 2 + 1, none⟩ = some (.string X.2) ∧ w'.cell? ⟨b, off + M * 2, none⟩ = some (.int .i64 Y.1) ∧ w'.cell? ⟨b, off + M * 2 + 1, none⟩ = some (.string Y.2)) (first | assumption | go_keep)
          (first
            | (go_at_call 38; refine Calls.mono (rbelow_any X Y _) ?_; rintro e w1 ⟨rfl, b3⟩; have hk1 := qfive_cells b3 ⟨c0r, a1, a2, b1, b2⟩))
        have HB1 := hide ((unhide HB).drew.trans (b3.mono (unhide HB).size))
        cases hXY : lowI X Y with
        | true =>
          have HS1 : Hid (mn lowI l (k + 1) = k) := by unfold Hid; rw [unhide HST, if_pos hXY]
          clear hXY HST b3 hk1
          go_wp2_with fail
          go_roundw
          case rel => exact ⟨k + 1, unhide HLT0, by go_num, by rw [if_neg (by omega), unhide HS1], unhide HB1⟩
          case measure => (have := unhide HLT0; simp [intOf]; omega)
        | false =>
          have HS1 : Hid (mn lowI l (k + 1) = M) := by unfold Hid; rw [unhide HST, if_neg (by rw [hXY]; exact Bool.false_ne_true)]
          clear hXY HST b3 hk1
          go_wp2_with fail
          go_roundw
          case rel => exact ⟨k + 1, unhide HLT0, by go_num, by rw [if_neg (by omega), unhide HS1], unhide HB1⟩
          case measure => (have := unhide HLT0; simp [intOf]; omega)
    · have hkl : k = l.length := by omega
      subst hkl
      have h0 := unhide H0
      rw [if_neg (by omega)]
      clear hk hlt hB h0
      go_wp2_with fail
      go_ret
      exact ⟨rfl, unhide HB⟩

theorem RQ.shape {w : World} {r : Nat} {l : List It} {v : Value} (h : RQ w r l v) : ∃ p cap, v = .slice p l.length cap ∧ l.length ≤ cap ∧ cap ≤ maxLen := (TI.of_owns h.row).shape
/-- The list is another one now, in the old row or a new one. -/
theorem RQ.put {w W w2 : World} {r : Nat} {l m : List It} {v v2 : Value} (h : RQ w r l v) (hW : Below w.heap.size w W) (hown : w2.ownsRow 0 26 2 v2 m.length (cellsI m)) (hg : W.grownBy w2 v.ownBlock) (hob : v2.ownBlock = v.ownBlock ∨ ∀ k, v2.ownBlock = some k → w.heap.size ≤ k) :
    RQ (w2.setCell ⟨r, 0, none⟩ v2) r m v2 ∧ Moves (QF r v) (QF r v2) w (w2.setCell ⟨r, 0, none⟩ v2) := by
  have hrl := h.lt r (Or.inl rfl)
  have hb2 : w2.heap[r]? = some (.cells #[v] 31 (0, 0)) := (hg.block r (Nat.lt_of_lt_of_le hrl hW.size) (fun e => h.own e.symm)).trans ((hW.block r hrl).trans h.blk)
  have b2 := heap_setCell_same w2 r 0 _ _ v2 hb2
  have hv2 : v2.ownBlock ≠ some r := by
    rcases hob with e | e
    · rw [e]; exact h.own
    · intro e2; have := e _ e2; omega
  have K3 : Keep (fun k => k = r) w2 (w2.setCell ⟨r, 0, none⟩ v2) := ⟨rfl, rfl, rfl, by simp [World.setCell], fun k _ hk => heap_setCell_other w2 ⟨r, 0, none⟩ k _ (fun e => hk (by simp at e; exact e.symm ▸ rfl))⟩
  have K2 : Keep (QF r v) W w2 := ⟨hg.os, hg.tape, hg.output, hg.size, fun k hk hn => hg.block k hk (fun e => hn (Or.inr e.symm))⟩
  have K1 : Keep (QF r v) w w2 := (Keep.of_below hW).trans K2 (fun x hx => Or.inl hx)
  refine ⟨⟨by rw [b2]; rfl, owns_keep hown K3 (fun k hk e => hv2 (e ▸ hk)), hv2⟩, K1.trans K3 (fun x hx => Or.inl (Or.inl hx)), fun k hk => ?_⟩
  rcases hk with hk | hk
  · exact Or.inl (Or.inl hk)
  · rcases hob with e | e
    · exact Or.inl (Or.inr (e ▸ hk))
    · exact Or.inr (e k hk)

set_option maxRecDepth 20000 in
set_option maxHeartbeats 2000000 in
theorem rpush_any (w : World) (r : Nat) (x : It) (l : List It) (v : Value) (h : RQ w r l v) (hs : (l.length + 1) * 24 ≤ 140737488355328) :
    Calls Try.prog 35 #[.pointer (some ⟨r, 0, none⟩), .agg #[.int .i64 x.1, .string x.2]] w fun e w' => e = .returned (.tuple #[]) ∧ ∃ v', RQ w' r (l ++ [x]) v' ∧ Moves (QF r v) (QF r v') w w' := by
  obtain ⟨is, his, hs0, hs1, hs2⟩ := info_parts Try.info26
  obtain ⟨p, cap, rfl, k1, k2⟩ := h.shape
  obtain ⟨c0, f0⟩ := h.cells
  have hrl : r < w.heap.size := h.lt r (Or.inl rfl)
  have n1 : ¬ w.heap.size = r := by omega
  have n2 : ¬ w.heap.size + 1 = r := by omega
  have HR := hide h
  have HS := hide hs
  clear h k1 hs
  go_enter Try.func35, Try.ntmps35
  go_wp2_with fail
  go_region_law (first
    | (refine step_append_gen rfl _ _ 29 rfl 0 26 is (.agg #[.int .i64 0, .string ⟨#[]⟩]) Try.underlying29 his hs0 2 24 (by omega) hs1 hs2 rfl (.slice p l.length cap) l.length (cellsI l) (by simp [Act.eval]) ((((unhide HR).below ((((Below.refl w.heap.size w).alloc (Nat.le_refl _) _).alloc (by simp) _).drew))).row) ⟨w.heap.size + 1, 0, none⟩ 1 (iC x) (by simp [Act.eval]) rfl (by intro j u hj; match j, hj with | 0, hj => (simp [iC] at hj; subst hj; simp [Addr.add]) | 1, hj => (simp [iC] at hj; subst hj; simp [Addr.add])) (by intro u hu; simp [iC] at hu; rcases hu with rfl | rfl <;> rfl) (by have := unhide HS; unfold maxLen; omega) (unhide HS) (Nat.zero_le _) ?_; intro v2 w2 hown2 hgrow2 hob2; have hW : Below w.heap.size w (((w.alloc (.cells #[.int .i64 x.1, .string x.2] 26)).alloc (.cells #[.int .i64 x.1, .string x.2] 26)).drew) := ((((Below.refl w.heap.size w).alloc (Nat.le_refl _) _).alloc (by simp) _).drew); have hblk2 := (hgrow2.block r (by simp; omega) (fun e => (unhide HR).own e.symm)).trans ((hW.block r hrl).trans (unhide HR).blk); have y1 := (cell_of_row w2 r 0 _ _ (0, 0) hblk2); have yf1 : w2.frozen? ⟨r, 0, none⟩ = false := (by simp [World.frozen?, hblk2]); rcases hown2.2 with ⟨_, h0⟩ | ⟨g2, cap2, cur2, e2, _⟩; (exact absurd h0 (by omega)); subst e2; have HJ := hide ((unhide HR).put (m := l ++ [x]) hW (by rw [List.length_append, cellsI_append, cellsI_one]; exact hown2) hgrow2 (hob2.imp id (fun e k hk => by rw [e] at hk; simp at hk; omega))); clear hown2 hgrow2 hob2 hW hblk2 c0 f0))
  all_goals
    go_wp2
    go_end0
    obtain ⟨hR', hM'⟩ := unhide HJ
    exact ⟨rfl, _, hR', hM'⟩
end Go.Proofs.Ytbannlomemkjbaa

/- The reference of layer 8: Peek and Pop. -/
namespace Go.Proofs.Ytbannlomemkjbaa
open Go.RowKit

theorem RQ.open {w : World} {r : Nat} {l : List It} {v : Value} (h : RQ w r l v) (h0 : 0 < l.length) :
    ∃ g cap, v = .slice (some ⟨g, 0, none⟩) l.length cap ∧ g ≠ r ∧ g < w.heap.size ∧ l.length ≤ cap ∧ cap ≤ maxLen ∧ (∀ i (hi : i < l.length), w.cell? ⟨g, i * 2, none⟩ = some (.int .i64 l[i].1) ∧ w.cell? ⟨g, i * 2 + 1, none⟩ = some (.string l[i].2)) ∧ ∀ j u, (cellsI l)[j]? = some u → w.cell? ⟨g, j, none⟩ = some u := by
  have hr := h.row
  rcases hr.2 with ⟨_, e⟩ | ⟨g, cap, cur, rfl, hb, hh, h1, h2, h3, h4⟩
  · omega
  · have hc := fun j u hu => hr.cells (g := g) rfl j u hu
    simp only [Addr.add_lit, Nat.zero_add] at hc
    refine ⟨g, cap, rfl, fun e => h.own (by simp [Value.ownBlock, e]), (Array.getElem?_eq_some_iff.1 hh).1, h1, h2, fun i hi => ?_, hc⟩
    obtain ⟨c1, c2⟩ := cellsI_get l i hi
    exact ⟨hc _ _ c1, hc _ _ c2⟩

set_option maxRecDepth 20000 in
set_option maxHeartbeats 1000000 in
theorem rpeek_none (w : World) (r : Nat) (v : Value) (h : RQ w r [] v) :
    Calls Try.prog 34 #[.pointer (some ⟨r, 0, none⟩)] w fun e w' => e = .returned (.tuple #[.agg #[.int .i64 0, .string ⟨#[]⟩], .bool false]) ∧ Below w.heap.size w w' := by
  have H := hide h
  clear h
  go_enter Try.func34, Try.ntmps34
  go_wp2_with fail
  refine Calls.mono (rfirst_none _ r v ((unhide H).below ((Below.refl _ _).alloc (Nat.le_refl _) _))) ?_
  rintro e w1 ⟨rfl, b1⟩
  obtain ⟨r0, r1, g0, g1, hlt, hB⟩ := res2 b1
  have HB := hide hB
  clear b1 hB
  go_wp2_with fail
  refine bodyPost_ret (v := .tuple #[.agg #[.int .i64 0, .string ⟨#[]⟩], .bool false]) (by simp [results, Try.results34, go_sem, r0, r1]) rfl ⟨rfl, ?_⟩
  have hB := unhide HB
  exact (hB.setCell (p := ⟨w.heap.size, 0, none⟩) (Nat.le_refl _) _).setCell (p := ⟨w.heap.size, 1, none⟩) (Nat.le_refl _) _

set_option maxRecDepth 20000 in
set_option maxHeartbeats 1000000 in
theorem rpeek_some (w : World) (r : Nat) (l : List It) (v : Value) (h : RQ w r l v) (hs : l.length ≤ 4398046511104) (h0 : 0 < l.length) (hm : mn lowI l l.length < l.length) :
    Calls Try.prog 34 #[.pointer (some ⟨r, 0, none⟩)] w fun e w' => e = .returned (.tuple #[.agg #[.int .i64 l[mn lowI l l.length].1, .string l[mn lowI l l.length].2], .bool true]) ∧ Below w.heap.size w w' := by
  have H := hide h
  have HS := hide hs
  have H0 := hide h0
  obtain ⟨M, X, hM, hMl, HX⟩ : ∃ (M : Nat) (X : It), mn lowI l l.length = M ∧ M < l.length ∧ Hid (∀ h : M < l.length, l[M] = X) := ⟨_, l[mn lowI l l.length], rfl, hm, fun _ => rfl⟩
  have hX : l[mn lowI l l.length] = X := by simp only [hM]; exact unhide HX hMl
  rw [hX]
  have HM := hide hM
  have HML := hide hMl
  clear h hs h0 hm hX hM
  have hMI : (M : Int) < (l.length : Int) := by omega
  have hM0 : ¬ (M : Int) < 0 := by omega
  clear hMl
  go_enter Try.func34, Try.ntmps34
  go_wp2_with fail
  refine Calls.mono (rfirst_some _ r l v ((unhide H).below ((Below.refl _ _).alloc (Nat.le_refl _) _)) (unhide H0) (unhide HS)) ?_
  rw [unhide HM]
  rintro e w1 ⟨rfl, b1⟩
  obtain ⟨r0, r1, g0, g1, hlt, hB⟩ := res2 b1
  have HB := hide hB
  have R1 := (unhide H).below hB
  obtain ⟨g, cap, rfl, hgr, hgl, k1, k2, hat, _⟩ := R1.open (unhide H0)
  obtain ⟨c0, f0⟩ := R1.cells
  obtain ⟨a1, a2⟩ := hat M (unhide HML)
  rw [unhide HX (unhide HML)] at a1 a2
  clear b1 hB R1 hat f0
  go_wp2_with fail
  refine bodyPost_ret (v := .tuple #[.agg #[.int .i64 X.1, .string X.2], .bool true]) (by simp [results, Try.results34, go_sem, r0, r1]) rfl ⟨rfl, ?_⟩
  have hB := unhide HB
  exact (hB.setCell (p := ⟨w.heap.size, 0, none⟩) (Nat.le_refl _) _).setCell (p := ⟨w.heap.size, 1, none⟩) (Nat.le_refl _) _

set_option maxRecDepth 20000 in
set_option maxHeartbeats 1000000 in
theorem rpop_none (w : World) (r : Nat) (v : Value) (h : RQ w r [] v) :
    Calls Try.prog 33 #[.pointer (some ⟨r, 0, none⟩)] w fun e w' => e = .returned (.tuple #[.agg #[.int .i64 0, .string ⟨#[]⟩], .bool false]) ∧ Below w.heap.size w w' := by
  have H := hide h
  clear h
  go_enter Try.func33, Try.ntmps33
  go_wp2_with fail
  refine Calls.mono (rfirst_none _ r v ((unhide H).below ((Below.refl _ _).alloc (Nat.le_refl _) _))) ?_
  rintro e w1 ⟨rfl, b1⟩
  obtain ⟨r0, r1, g0, g1, hlt, hB⟩ := res2 b1
  have HB := hide hB
  clear b1 hB
  go_wp2_with fail
  refine bodyPost_ret (v := .tuple #[.agg #[.int .i64 0, .string ⟨#[]⟩], .bool false]) (by simp [results, Try.results33, go_sem, r0, r1]) rfl ⟨rfl, ?_⟩
  have hB := unhide HB
  exact (hB.setCell (p := ⟨w.heap.size, 0, none⟩) (Nat.le_refl _) _).setCell (p := ⟨w.heap.size, 1, none⟩) (Nat.le_refl _) _

theorem qowns_zero {w : World} {base e sz : Nat} {v : Value} {n : Nat} {xs : List Value} (h : w.ownsRow base e sz v n xs) : w.ownsRow 0 e sz v n xs := by
  refine ⟨h.1, ?_⟩
  rcases h.2 with h2 | ⟨g, cap, cur, hv, _, r⟩
  · exact Or.inl h2
  · exact Or.inr ⟨g, cap, cur, hv, Nat.zero_le _, r⟩

set_option maxRecDepth 20000 in
set_option maxHeartbeats 1000000 in
theorem rpop_some (w : World) (r : Nat) (l : List It) (v : Value) (h : RQ w r l v) (hs : l.length ≤ 4398046511104) (h0 : 0 < l.length) (hm : mn lowI l l.length < l.length) :
    Calls Try.prog 33 #[.pointer (some ⟨r, 0, none⟩)] w fun e w' => e = .returned (.tuple #[.agg #[.int .i64 l[mn lowI l l.length].1, .string l[mn lowI l l.length].2], .bool true]) ∧ ∃ v', RQ w' r (l.eraseIdx (mn lowI l l.length)) v' ∧ Moves (QF r v) (QF r v') w w' := by
  have H := hide h
  have HS := hide hs
  have H0 := hide h0
  obtain ⟨is, his, hs0, hs1, hs2⟩ := info_parts Try.info26
  obtain ⟨M, X, hM, hMl, HX⟩ : ∃ (M : Nat) (X : It), mn lowI l l.length = M ∧ M < l.length ∧ Hid (∀ h : M < l.length, l[M] = X) := ⟨_, l[mn lowI l l.length], rfl, hm, fun _ => rfl⟩
  have hX : l[mn lowI l l.length] = X := by simp only [hM]; exact unhide HX hMl
  rw [hX, hM]
  have HM := hide hM
  have HML := hide hMl
  have hlenI : (l.length : Int) ≤ 4398046511104 := by omega
  clear h hs h0 hm hX hM
  have hMI : (M : Int) < (l.length : Int) := by omega
  have hMI2 : (M : Int) + 1 ≤ (l.length : Int) := by omega
  have hM0 : ¬ (M : Int) < 0 := by omega
  clear hMl
  go_enter Try.func33, Try.ntmps33
  go_wp2_with fail
  refine Calls.mono (rfirst_some _ r l v ((unhide H).below ((Below.refl _ _).alloc (Nat.le_refl _) _)) (unhide H0) (unhide HS)) ?_
  rw [unhide HM]
  rintro e w1 ⟨rfl, b1⟩
  obtain ⟨r0, r1, g0, g1, hlt, hB⟩ := res2 b1
  have HB := hide hB
  have R1 := (unhide H).below hB
  obtain ⟨g, cap, rfl, hgr, hgl, k1, k2, hat, hall⟩ := R1.open (unhide H0)
  obtain ⟨c0, f0⟩ := R1.cells
  obtain ⟨a1, a2⟩ := hat M (unhide HML)
  rw [unhide HX (unhide HML)] at a1 a2
  have hrl := R1.lt r (Or.inl rfl)
  have n1 : ¬ w1.heap.size = g := by omega
  have n2 : ¬ w1.heap.size = r := by omega
  have n3 : ¬ w1.heap.size = w.heap.size := by omega
  have hW0 : Below w1.heap.size w1 (w1.alloc (.cells #[.int .i64 X.1, .string X.2] 26)) := (Below.refl _ _).alloc (Nat.le_refl _) _
  have T0 := (TI.of_owns R1.row).below hW0
  obtain ⟨qa, ca, sl1, t1, _⟩ := T0.taken M (Nat.le_of_lt (unhide HML))
  obtain ⟨qb, cb, sl2, t2, ob2⟩ := T0.dropped (M + 1) (unhide HML)
  rw [show (((M + 1 : Nat)) : Int) = (M : Int) + 1 from by omega] at sl2
  obtain ⟨A, D, hA, hD, hE, hAl, hDl⟩ : ∃ A D, l.take M = A ∧ l.drop (M + 1) = D ∧ l.eraseIdx M = A ++ D ∧ A.length = M ∧ D.length = l.length - (M + 1) := ⟨_, _, rfl, rfl, List.eraseIdx_eq_take_drop_succ _ _, by rw [List.length_take]; have := unhide HML; omega, List.length_drop ..⟩
  rw [hA] at t1
  rw [hD] at t2
  have HE0 := hide hE
  have HT1 := hide t1
  have HT2 := hide t2
  have HOBB := hide ob2
  have HW0 := hide hW0
  have HR1 := hide R1
  have HA := hide hAl
  have HD := hide hDl
  have HS2 : Hid ((([] : List It).length + A.length) * 24 ≤ 140737488355328) := by unfold Hid; have := unhide HML; have := unhide HS; simp; omega
  have HS3 : Hid ((A.length + D.length) * 24 ≤ 140737488355328) := by unfold Hid; have := unhide HML; have := unhide HS; omega
  clear b1 hB R1 hat hall hW0 k1 T0 t1 t2 ob2 hA hD hE hAl hDl
  go_wp2_with (first
    | (with_reducible show wpList _ _ _ (Oper.mk _ (Op.call _) _ _ _ _ :: _) _ _; refine wpList_append_items rfl (.tmp 19) (.tmp 25) rfl w1.heap.size (.slice none 0 0) [] rfl (World.ownsRow_nil _ _ _ _) (.slice qa M ca) A rfl (unhide HT1) (unhide HS2) (by simp) ?_))
  intro v2 w2 hown2 hgrow2 hob2
  have hsh : ∃ p c, v2 = .slice p M c := by
    have hl := unhide HA
    rcases hown2.2 with ⟨h', h0⟩ | ⟨g', cap', cur, h', _⟩
    · exact ⟨none, 0, by rw [h', ← hl, h0]⟩
    · exact ⟨_, _, by rw [h', hl]⟩
  obtain ⟨p2, cap2, rfl⟩ := hsh
  have hB2 : Below w1.heap.size w1 w2 := (unhide HW0).grown hgrow2 (by simp) (fun k hk => by simp [Value.ownBlock] at hk)
  have c02 := (hB2.cell (p := ⟨r, 0, none⟩) hrl).trans c0
  have f02 := (hB2.frozen (p := ⟨r, 0, none⟩) hrl).trans f0
  have HB2 := hide hB2
  have hbx := (hgrow2.block w1.heap.size (by simp) (by simp [Value.ownBlock])).trans (heap_alloc_new w1 _)
  have hT3 : TI w2 (.slice qb (l.length - (M + 1)) cb) D := (unhide HT2).stays (fun b off n c e hl => hgrow2.block b ((unhide HT2).block e hl) (by simp [Value.ownBlock]))
  have hp2 : ∀ k, (Value.slice p2 M cap2).ownBlock = some k → w1.heap.size < k := fun k hk => by
    have h1 := (hown2.lt k hk).1
    rcases hob2 with e | e
    · rw [e] at hk; simp [Value.ownBlock] at hk
    · rw [e] at hk; simp at hk; omega
  have HP2 := hide hp2
  have HT3 := hide hT3
  have HO2 := hide hown2
  have HBX := hide hbx
  have HSZ := hide (show w1.heap.size < w2.heap.size by have := hgrow2.size; simp at this; omega)
  clear hown2 hgrow2 hob2 hB2 hbx c0 f0 hT3 hp2
  go_wp2_with (first
    | (with_reducible show wpList _ _ _ (Oper.mk _ (Op.call _) _ _ _ _ :: _) _ _; refine wpList_append_items rfl (.tmp 28) (.tmp 35) rfl w1.heap.size (.slice p2 M cap2) A rfl (unhide HO2) (.slice qb (l.length - (M + 1)) cb) D rfl (unhide HT3) (unhide HS3) (unhide HB2).size ?_))
  intro v3 w3 hown3 hgrow3 hob3
  have hsh3 : ∃ p c n, v3 = .slice p n c := by
    rcases hown3.2 with ⟨h', h0⟩ | ⟨g', cap', cur, h', _⟩
    · exact ⟨none, 0, 0, h'⟩
    · exact ⟨_, _, _, h'⟩
  obtain ⟨p3, cap3, n3', rfl⟩ := hsh3
  have hr3 : w3.heap[r]? = w2.heap[r]? := hgrow3.block r (Nat.lt_of_lt_of_le hrl (unhide HB2).size) (fun e => by have := unhide HP2 r e.symm; omega)
  have hx3 : w3.heap[w1.heap.size]? = w2.heap[w1.heap.size]? := hgrow3.block _ (unhide HSZ) (fun e => by have := unhide HP2 _ e.symm; omega)
  have c03 := (World.cell?_of_block (w := w2) (a := ⟨r, 0, none⟩) hr3).trans c02
  have f03 := (World.frozen?_of_block (w := w2) (a := ⟨r, 0, none⟩) hr3).trans f02
  have hbx3 := hx3.trans (unhide HBX)
  have x0 : w3.cell? ⟨w1.heap.size, 0, none⟩ = some (.int .i64 X.1) := by rw [cell_of_row w3 w1.heap.size _ _ _ (0, 0) hbx3]; rfl
  have x1 : w3.cell? ⟨w1.heap.size, 1, none⟩ = some (.string X.2) := by rw [cell_of_row w3 w1.heap.size _ _ _ (0, 0) hbx3]; rfl
  have hB3 : Below w1.heap.size w1 w3 := (unhide HB2).trans (Below.mono (B := w1.heap.size) (by
    exact ⟨hgrow3.os, hgrow3.tape, hgrow3.output, hgrow3.size, fun k hk => hgrow3.block k (Nat.lt_of_lt_of_le hk (unhide HB2).size) (fun e => by have := unhide HP2 k e.symm; omega)⟩) (Nat.le_refl _))
  have y0 := (hB3.cell (p := ⟨w.heap.size, 0, none⟩) hlt).trans r0
  have y1 := (hB3.cell (p := ⟨w.heap.size, 1, none⟩) hlt).trans r1
  have z0 := (hB3.frozen (p := ⟨w.heap.size, 0, none⟩) hlt).trans g0
  have z1 := (hB3.frozen (p := ⟨w.heap.size, 1, none⟩) hlt).trans g1
  have hv3 : ∀ k, (Value.slice p3 n3' cap3).ownBlock = some k → w1.heap.size < k := fun k hk => by
    rcases hob3 with e | e
    · rw [e] at hk; exact unhide HP2 k hk
    · rw [e] at hk; simp at hk; have := unhide HSZ; omega
  have HPUT := hide ((unhide HR1).put (m := A ++ D) (W := w1) (w2 := w3) (Below.refl _ _) (by rw [List.length_append]; exact qowns_zero hown3) ⟨hB3.os, hB3.tape, hB3.output, hB3.size, fun k hk _ => hB3.block k hk⟩ (Or.inr fun k hk => Nat.le_of_lt (hv3 k hk)))
  have hrw : ¬ r = w.heap.size := by have := (unhide H).lt r (Or.inl rfl); omega
  have HV3 := hide hv3
  clear hown3 hgrow3 hob3 hr3 hx3 c02 f02 hbx3 hB3 r0 r1 g0 g1 hv3
  go_wp2_with fail
  refine bodyPost_ret (v := .tuple #[.agg #[.int .i64 X.1, .string X.2], .bool true]) (by simp [results, Try.results33, go_sem, y0, y1]) rfl ⟨rfl, .slice p3 n3' cap3, ?_⟩
  obtain ⟨hq, hm⟩ := unhide HPUT
  have hk : ∀ (W : World) (j : Nat) (u : Value), Keep (fun k => k = w.heap.size) W (W.setCell ⟨w.heap.size, j, none⟩ u) := fun W j u => ⟨rfl, rfl, rfl, by simp [World.setCell], fun k _ hk => heap_setCell_other W ⟨w.heap.size, j, none⟩ k _ (fun e => hk (by simp at e; exact e.symm ▸ rfl))⟩
  have hk2 := (hk (w3.setCell ⟨r, 0, none⟩ (.slice p3 n3' cap3)) 0 (.int .i64 X.1)).trans (hk _ 1 (.string X.2)) (fun _ h => Or.inl h)
  rw [unhide HE0]
  have hm2 := (Moves.of_below (unhide HB)).trans hm
  refine ⟨hq.keep hk2 (fun k hf e => ?_), hm2.keep.trans hk2 (fun k e => Or.inr (by omega)), hm2.sub⟩
  rcases hf with hf | hf
  · exact hrw (hf.symm.trans e)
  · have := unhide HV3 k hf; omega
end Go.Proofs.Ytbannlomemkjbaa
