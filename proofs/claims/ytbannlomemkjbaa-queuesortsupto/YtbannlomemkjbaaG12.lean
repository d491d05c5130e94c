/- Texts of ours, one behind the other: QDrain, QLoop. -/
import Derived.Test.YtbannlomemkjbaaG9
import Derived.RangeFuncNested
import Derived.RangeFuncBound
import Derived.RangeFuncCalls
import Derived.RangeFuncLeaves
import Derived.Shelf.Abstract
import Derived.Shelf.RegionOpen
import Derived.WalkKit
import Derived.OwnWalkIn
import Derived.TacticsInMore
import Derived.LoopNIn
import Derived.LoopIn
/- The landed package queue: Drain, gone through. -/
namespace Go.Proofs.Ytbannlomemkjbaa
open Go.RowKit Go.Shelf
attribute [local go_sem] Oper.semAt_some

/-- How many things stand in a queue, as its block says. -/
def qlenW (w : World) (q : Nat) : Nat := match w.cell? ⟨q, 1, none⟩ with | some (.slice _ n _) => n | _ => 0
theorem qlenW_eq {F : Nat → Prop} {w : World} {q n : Nat} {f : Value} {lt : It → It → Bool} {Z : List It} (h : QAt F w q f lt Z n) : qlenW w q = Z.length := by
  obtain ⟨hC, L, v, hL, hQ, hF⟩ := h
  obtain ⟨p, cap, rfl, _⟩ := hL.shape
  unfold qlenW
  rw [hL.cells.2.1]
  exact hQ.length

/-- What a caller has between two rounds, in blocks of its own C. -/
structure JOk (J : List It → (Nat → Prop) → World → Prop) : Prop where
  stays : ∀ pre C W W' G, J pre C W → Keep G W W' → (∀ k, C k → ¬ G k) → J pre C W'
  lt : ∀ pre C W, J pre C W → ∀ k, C k → k < W.heap.size

/-- Between two rounds of a Drain: what came, what is left; blocks X stand apart. -/
structure DrI (J : List It → (Nat → Prop) → World → Prop) (w wr : World) (q n : Nat) (f : Value) (lt : It → It → Bool) (F0 C0 X : Nat → Prop) (pre rest : List It) : Prop where
  all : ∃ C F, J pre C wr ∧ QAt F wr q f lt rest n ∧ (∀ k, F k → ¬ C k) ∧ (∀ k, X k → ¬ C k ∧ ¬ F k ∧ k < wr.heap.size) ∧ Moves (fun k => F0 k ∨ C0 k) (fun k => F k ∨ C k) w wr
theorem DrI.below {J : List It → (Nat → Prop) → World → Prop} (hJ : JOk J) {w wr wx : World} {q n : Nat} {f : Value} {lt : It → It → Bool} {F0 C0 X X' : Nat → Prop} {pre rest : List It} (h : DrI J w wr q n f lt F0 C0 X pre rest) (hb : Below wr.heap.size wr wx) (hX : ∀ k, X' k → X k ∨ wr.heap.size ≤ k ∧ k < wx.heap.size) : DrI J w wx q n f lt F0 C0 X' pre rest := by
  obtain ⟨C, F, h1, h2, h3, h4, h7⟩ := h.all
  refine ⟨C, F, hJ.stays _ _ _ _ (fun _ => False) h1 (Keep.of_below hb) (fun _ _ => id), h2.below hb, h3, fun k hk => ?_, h7.trans (Moves.of_below hb)⟩
  rcases hX k hk with hk | ⟨hk, hk2⟩
  · obtain ⟨a, b, c⟩ := h4 k hk
    exact ⟨a, b, Nat.lt_of_lt_of_le c hb.size⟩
  · exact ⟨fun hc => by have := hJ.lt _ _ _ h1 k hc; omega, fun hf => by have := h2.lt k hf; omega, hk2⟩
theorem DrI.keepX {J : List It → (Nat → Prop) → World → Prop} (hJ : JOk J) {w wr wx : World} {q n : Nat} {f : Value} {lt : It → It → Bool} {F0 C0 X G : Nat → Prop} {pre rest : List It} (h : DrI J w wr q n f lt F0 C0 X pre rest) (hk : Keep G wr wx) (hG : ∀ k, G k → X k) (hw : ∀ k, X k → w.heap.size ≤ k ∨ ¬ G k) : DrI J w wx q n f lt F0 C0 X pre rest := by
  obtain ⟨C, F, h1, h2, h3, h4, h7⟩ := h.all
  refine ⟨C, F, hJ.stays _ _ _ _ G h1 hk (fun k hc hg => (h4 k (hG k hg)).1 hc), h2.keep hk (fun k hf hg => (h4 k (hG k hg)).2.1 hf), h3, fun k hx => ⟨(h4 k hx).1, (h4 k hx).2.1, Nat.lt_of_lt_of_le (h4 k hx).2.2 hk.size⟩, ⟨h7.keep.trans hk (fun k hg => ?_), h7.sub⟩⟩
  rcases hw k (hG k hg) with h | h
  · exact Or.inr h
  · exact absurd hg h
theorem dr_pop {J : List It → (Nat → Prop) → World → Prop} (hJ : JOk J) {w wr : World} {q n : Nat} {f : Value} {lt : It → It → Bool} {F0 C0 X : Nat → Prop} {pre rest : List It} (x : It) (h : DrI J w wr q n f lt F0 C0 X pre (x :: rest)) :
    Calls Try.prog 29 #[.pointer (some ⟨q, 0, none⟩)] wr fun e w' => e = .returned (.tuple #[.agg #[.int .i64 x.1, .string x.2], .bool true]) ∧ DrI J w w' q n f lt F0 C0 X pre rest ∧ ∀ k, X k → w'.heap[k]? = wr.heap[k]? := by
  obtain ⟨C, F, h1, h2, h3, h4, h7⟩ := h.all
  refine (qpop_some lt F wr q n f x rest h2).mono ?_
  rintro e w' ⟨rfl, F2, q2, hm⟩
  refine ⟨rfl, ⟨C, F2, hJ.stays _ _ _ _ F h1 hm.keep (fun k hc hf => h3 k hf hc), q2, fun k hf hc => ?_, fun k hk => ⟨(h4 k hk).1, fun hf => ?_, Nat.lt_of_lt_of_le (h4 k hk).2.2 hm.keep.size⟩, ?_⟩, fun k hk => hm.keep.block k (h4 k hk).2.2 (h4 k hk).2.1⟩
  · rcases hm.sub k hf with h | h
    · exact h3 k h hc
    · have := hJ.lt _ _ _ h1 k hc; omega
  · rcases hm.sub _ hf with h | h
    · exact (h4 k hk).2.1 h
    · have := (h4 k hk).2.2; omega
  · refine h7.trans ⟨hm.keep.weak (fun _ h => Or.inl h), fun k hk => ?_⟩
    rcases hk with hk | hk
    · rcases hm.sub k hk with h | h
      · exact Or.inl (Or.inl h)
      · exact Or.inr h
    · exact Or.inl (Or.inr hk)
theorem dr_pop0 {J : List It → (Nat → Prop) → World → Prop} (hJ : JOk J) {w wr : World} {q n : Nat} {f : Value} {lt : It → It → Bool} {F0 C0 X : Nat → Prop} {pre : List It} (h : DrI J w wr q n f lt F0 C0 X pre []) :
    Calls Try.prog 29 #[.pointer (some ⟨q, 0, none⟩)] wr fun e w' => e = .returned (.tuple #[.agg #[.int .i64 0, .string ⟨#[]⟩], .bool false]) ∧ DrI J w w' q n f lt F0 C0 X pre [] ∧ ∀ k, X k → w'.heap[k]? = wr.heap[k]? := by
  obtain ⟨C, F, h1, h2, h3, h4, h7⟩ := h.all
  refine (qpop_none lt F wr q n f h2).mono ?_
  rintro e w' ⟨rfl, b1⟩
  exact ⟨rfl, h.below hJ b1 (fun k hk => Or.inl hk), fun k hk => b1.block k (h4 k hk).2.2⟩
theorem DrI.left {J : List It → (Nat → Prop) → World → Prop} {w wr : World} {q n : Nat} {f : Value} {lt : It → It → Bool} {F0 C0 X : Nat → Prop} {pre rest : List It} (h : DrI J w wr q n f lt F0 C0 X pre rest) : qlenW wr q = rest.length := by
  obtain ⟨C, F, h1, h2, _⟩ := h.all
  exact qlenW_eq h2

def boolN : Value → Nat
  | .bool true => 1
  | _ => 0
/-- One round: what the caller's own blocks became. -/
theorem DrI.round {J : List It → (Nat → Prop) → World → Prop} {w wr wx : World} {q n : Nat} {f : Value} {lt : It → It → Bool} {F0 C0 X C C' F : Nat → Prop} {pre' rest : List It} (h2 : QAt F wr q f lt rest n) (h3 : ∀ k, F k → ¬ C k) (h4 : ∀ k, X k → ¬ C k ∧ ¬ F k ∧ k < wr.heap.size) (h7 : Moves (fun k => F0 k ∨ C0 k) (fun k => F k ∨ C k) w wr)
    (h1' : J pre' C' wx) (hm : Moves C C' wr wx) : DrI J w wx q n f lt F0 C0 X pre' rest ∧ ∀ k, X k → wx.heap[k]? = wr.heap[k]? := by
  refine ⟨⟨C', F, h1', h2.keep hm.keep h3, fun k hf hc => ?_, fun k hk => ⟨fun hc => ?_, (h4 k hk).2.1, Nat.lt_of_lt_of_le (h4 k hk).2.2 hm.keep.size⟩, ?_⟩, fun k hk => hm.keep.block k (h4 k hk).2.2 (h4 k hk).1⟩
  · rcases hm.sub k hc with h | h
    · exact h3 k hf h
    · have := h2.lt k hf; omega
  · rcases hm.sub _ hc with h | h
    · exact (h4 k hk).1 h
    · have := (h4 k hk).2.2; omega
  · refine h7.trans ⟨hm.keep.weak (fun _ h => Or.inr h), fun k hk => ?_⟩
    rcases hk with hk | hk
    · exact Or.inl (Or.inl hk)
    · rcases hm.sub k hk with h | h
      · exact Or.inl (Or.inr h)
      · exact Or.inr h
/-- How far a Drain has come: what is told next, and what is left. -/
def DrL (J : List It → (Nat → Prop) → World → Prop) (W wr : World) (q n Bn : Nat) (f : Value) (lt : It → It → Bool) (F0 C0 : Nat → Prop) (Z : List It) (p b : Value) : Prop :=
  wr.cell? ⟨Bn, 0, none⟩ = some (.pointer (some ⟨q, 0, none⟩)) ∧ ((b = .bool false ∧ DrI J W wr q n f lt F0 C0 (fun k => k = Bn) Z []) ∨
    (b = .bool true ∧ ∃ pre x rest bx, Z = pre ++ x :: rest ∧ p = .pointer (some ⟨bx, 0, none⟩) ∧ wr.heap[bx]? = some (.cells #[.int .i64 x.1, .string x.2] 26 (0, 0)) ∧ DrI J W wr q n f lt F0 C0 (fun k => k = Bn ∨ k = bx) pre rest))

set_option maxRecDepth 20000 in
set_option maxHeartbeats 2000000 in
theorem drain_in (lt : It → It → Bool) (J Jx : List It → (Nat → Prop) → World → Prop) (hJ : JOk J) (l Bn q n m : Nat) (f : Value) (F0 C0 : Nat → Prop) (Z : List It) (W : World)
    (hY : ∀ pre x C W1, J pre C W1 → pre.length < Z.length → YieldAt Fence.wide (m - 1) Try.prog l #[.agg #[.int .i64 x.1, .string x.2]] W1 fun e W' =>
      (e = .returned (.bool true) ∧ ∃ C', J (pre ++ [x]) C' W' ∧ Moves C C' W1 W') ∨ (e = .returned (.bool false) ∧ ∃ C', Jx (pre ++ [x]) C' W' ∧ Moves C C' W1 W'))
    (hB : W.cell? ⟨Bn, 0, none⟩ = some (.pointer (some ⟨q, 0, none⟩))) (h0 : DrI J W W q n f lt F0 C0 (fun k => k = Bn) [] Z) :
    CallsIn Fence.wide m Try.prog 48 #[.func (.yield l) #[] #[], .pointer (some ⟨Bn, 0, none⟩)] W fun e W' => (∃ v, e = .returned v) ∧
      (DrI J W W' q n f lt F0 C0 (fun k => k = Bn) Z [] ∨ ∃ pre x rest C F, Z = pre ++ x :: rest ∧ Jx (pre ++ [x]) C W' ∧ QAt F W' q f lt rest n ∧ (∀ k, F k → ¬ C k) ∧ Moves (fun k => F0 k ∨ C0 k) (fun k => F k ∨ C k) W W') := by
  refine callsIn_of_wp Try.func48 rfl trivial ?_ rfl
  simp only [Try.ntmps48, List.size_toArray, List.length_cons, List.length_nil, Nat.reduceAdd, Nat.reduceSub, Array.replicate_succ, Array.replicate_zero, List.push_toArray, List.append_toArray, List.nil_append, List.cons_append]
  have hBl := World.block_lt_of_cell? W _ hB
  obtain ⟨vz, vb, hpop⟩ : ∃ (vz : It) (vb : Bool), Calls Try.prog 29 #[.pointer (some ⟨q, 0, none⟩)] W fun e w' => e = .returned (.tuple #[.agg #[.int .i64 vz.1, .string vz.2], .bool vb]) ∧
      ((vb = false ∧ DrI J W w' q n f lt F0 C0 (fun k => k = Bn) Z []) ∨ (vb = true ∧ ∃ rest, Z = vz :: rest ∧ DrI J W w' q n f lt F0 C0 (fun k => k = Bn) [] rest)) ∧ w'.heap[Bn]? = W.heap[Bn]? := by
    cases Z with
    | nil => exact ⟨(0, ⟨#[]⟩), false, (dr_pop0 hJ h0).mono fun e w' ⟨h1, h2, h3⟩ => ⟨h1, Or.inl ⟨rfl, h2⟩, h3 Bn rfl⟩⟩
    | cons z Z => exact ⟨z, true, (dr_pop hJ z h0).mono fun e w' ⟨h1, h2, h3⟩ => ⟨h1, Or.inr ⟨rfl, Z, rfl, h2⟩, h3 Bn rfl⟩⟩
  have HP := hide hpop
  have HY := hide hY
  clear hpop h0 hY
  gi_wp2_with fail
  refine ⟨trivial, (fun h => (by cases h)), (callsIn_wide.2 (unhide HP)).mono ?_⟩
  rintro e w1 ⟨rfl, hor, hb1⟩
  have hB1 := (World.cell?_of_block (w := W) (a := ⟨Bn, 0, none⟩) hb1).trans hB
  have hBl1 := World.block_lt_of_cell? w1 _ hB1
  have HST : Hid (DrL J W (w1.alloc (.cells #[.int .i64 vz.1, .string vz.2] 26)) q n Bn f lt F0 C0 Z (.pointer (some ⟨w1.heap.size, 0, none⟩)) (.bool vb)) := by
    have hb2 : Below w1.heap.size w1 (w1.alloc (.cells #[.int .i64 vz.1, .string vz.2] 26)) := (Below.refl _ _).alloc (Nat.le_refl _) _
    refine ⟨(hb2.cell (p := ⟨Bn, 0, none⟩) hBl1).trans hB1, ?_⟩
    rcases hor with ⟨rfl, hd⟩ | ⟨rfl, rest, rfl, hd⟩
    · exact Or.inl ⟨rfl, hd.below hJ hb2 (fun k hk => Or.inl hk)⟩
    · exact Or.inr ⟨rfl, [], vz, rest, w1.heap.size, rfl, rfl, heap_alloc_new w1 _, hd.below hJ hb2 (fun k hk => by
        rcases hk with hk | hk
        · exact Or.inl hk
        · exact Or.inr ⟨by omega, by rw [hk]; simp⟩)⟩
  clear hor hb1 hB1 hBl1 HP
  gi_wp2_with fail
  gi_loopw [3, 4] (fun p b wr => DrL J W wr q n Bn f lt F0 C0 Z p b) (fun p b wr => qlenW wr q + boolN b)
  case atStart => exact unhide HST
  case round =>
    clear HST
    obtain ⟨hBr, ⟨rfl, hd⟩ | ⟨rfl, pre, x, rest, bx, hZ, rfl, hbx, hd⟩⟩ := hrel
    · have HD := hide hd
      clear hd
      gi_wp2_with fail
      go_end0
      exact ⟨⟨_, rfl⟩, Or.inl (unhide HD)⟩
    · obtain ⟨C, F, j1, q1, d1, x1, m1⟩ := hd.all
      have hlen : pre.length < Z.length := by rw [hZ]; simp
      obtain ⟨fn, tmps, assign, body, hy, hR⟩ := unhide HY pre x C wr j1 hlen
      have c0 : wr.cell? ⟨bx, 0, none⟩ = some (.int .i64 x.1) := by rw [cell_of_row wr bx _ _ _ (0, 0) hbx]; rfl
      have c1 : wr.cell? ⟨bx, 1, none⟩ = some (.string x.2) := by rw [cell_of_row wr bx _ _ _ (0, 0) hbx]; rfl
      have HLR := hide hd.left
      have HR := hide hR
      have HZ := hide hZ
      clear hd hR hlen hZ
      gi_wp2_with fail
      refine ⟨(fun h => (by cases h)), (unhide HR).mono ?_⟩
      rintro e w2 (⟨rfl, C', j2, mv2⟩ | ⟨rfl, C', jx2, mv2⟩)
      · obtain ⟨hd2, hsame⟩ := DrI.round q1 d1 x1 m1 j2 mv2
        have hBr2 := (World.cell?_of_block (w := wr) (a := ⟨Bn, 0, none⟩) (hsame Bn (Or.inl rfl))).trans hBr
        have hbx2 := (hsame bx (Or.inr rfl)).trans hbx
        have e0 : w2.cell? ⟨bx, 0, none⟩ = some (.int .i64 x.1) := by rw [cell_of_row w2 bx _ _ _ (0, 0) hbx2]; rfl
        have e1 : w2.cell? ⟨bx, 1, none⟩ = some (.string x.2) := by rw [cell_of_row w2 bx _ _ _ (0, 0) hbx2]; rfl
        have hb3 : Below w2.heap.size w2 (w2.alloc (.cells #[.int .i64 x.1, .string x.2] 26)) := (Below.refl _ _).alloc (Nat.le_refl _) _
        have hBl2 := World.block_lt_of_cell? w2 _ hBr2
        have hBr3 := (hb3.cell (p := ⟨Bn, 0, none⟩) hBl2).trans hBr2
        have hd3 := hd2.below (X' := fun k => k = Bn ∨ k = w2.heap.size) hJ hb3 (fun k hk => by
          rcases hk with hk | hk
          · exact Or.inl (Or.inl hk)
          · exact Or.inr ⟨by omega, by rw [hk]; simp⟩)
        obtain ⟨vz, vb, hpop⟩ : ∃ (vz : It) (vb : Bool), Calls Try.prog 29 #[.pointer (some ⟨q, 0, none⟩)] (w2.alloc (.cells #[.int .i64 x.1, .string x.2] 26)) fun e w' => e = .returned (.tuple #[.agg #[.int .i64 vz.1, .string vz.2], .bool vb]) ∧
            ((vb = false ∧ rest = [] ∧ DrI J W w' q n f lt F0 C0 (fun k => k = Bn ∨ k = w2.heap.size) (pre ++ [x]) []) ∨ (vb = true ∧ ∃ rest', rest = vz :: rest' ∧ DrI J W w' q n f lt F0 C0 (fun k => k = Bn ∨ k = w2.heap.size) (pre ++ [x]) rest')) ∧ ∀ k, (k = Bn ∨ k = w2.heap.size) → w'.heap[k]? = (w2.alloc (.cells #[.int .i64 x.1, .string x.2] 26)).heap[k]? := by
          cases rest with
          | nil => exact ⟨(0, ⟨#[]⟩), false, (dr_pop0 hJ hd3).mono fun e w' ⟨h1, h2, h3⟩ => ⟨h1, Or.inl ⟨rfl, rfl, h2⟩, h3⟩⟩
          | cons z rest => exact ⟨z, true, (dr_pop hJ z hd3).mono fun e w' ⟨h1, h2, h3⟩ => ⟨h1, Or.inr ⟨rfl, rest, rfl, h2⟩, h3⟩⟩
        have HP := hide hpop
        have hWs : W.heap.size ≤ w2.heap.size := Nat.le_trans m1.keep.size mv2.keep.size
        clear hpop hd3 hd2 hsame hb3 hbx2 j2 mv2 hbx hBr hBr2 c0 c1 j1 q1 d1 x1 m1 hy HR
        gi_wp2_with fail
        refine ⟨trivial, (fun h => (by cases h)), (callsIn_wide.2 (unhide HP)).mono ?_⟩
        rintro e w4 ⟨rfl, hor, hs4⟩
        have hbn4 := (hs4 w2.heap.size (Or.inr rfl)).trans (heap_alloc_new w2 _)
        have hB4 := (World.cell?_of_block (w := w2.alloc (.cells #[.int .i64 x.1, .string x.2] 26)) (a := ⟨Bn, 0, none⟩) (hs4 Bn (Or.inl rfl))).trans hBr3
        have g0 : w4.cell? ⟨w2.heap.size, 0, none⟩ = some (.int .i64 x.1) := by rw [cell_of_row w4 w2.heap.size _ _ _ (0, 0) hbn4]; rfl
        have g1 : w4.cell? ⟨w2.heap.size, 1, none⟩ = some (.string x.2) := by rw [cell_of_row w4 w2.heap.size _ _ _ (0, 0) hbn4]; rfl
        have gf0 : w4.frozen? ⟨w2.heap.size, 0, none⟩ = false := frozen_of_block hbn4
        have gf1 : w4.frozen? ⟨w2.heap.size, 1, none⟩ = false := frozen_of_block hbn4
        have hk : ∀ (W : World) (j : Nat) (u : Value), Keep (fun k => k = w2.heap.size) W (W.setCell ⟨w2.heap.size, j, none⟩ u) := fun W j u => ⟨rfl, rfl, rfl, by simp [World.setCell], fun k _ hk => heap_setCell_other W ⟨w2.heap.size, j, none⟩ k _ (fun e => hk (by simp at e; exact e.symm ▸ rfl))⟩
        have hk2 := (hk w4 0 (.int .i64 vz.1)).trans (hk _ 1 (.string vz.2)) (fun _ h => Or.inl h)
        have hnew : ((w4.setCell ⟨w2.heap.size, 0, none⟩ (.int .i64 vz.1)).setCell ⟨w2.heap.size, 1, none⟩ (.string vz.2)).heap[w2.heap.size]? = some (.cells #[.int .i64 vz.1, .string vz.2] 26 (0, 0)) := by
          rw [heap_setCell_same (w4.setCell ⟨w2.heap.size, 0, none⟩ (.int .i64 vz.1)) w2.heap.size 1 _ _ (.string vz.2) (heap_setCell_same w4 w2.heap.size 0 _ _ (.int .i64 vz.1) hbn4)]
          rfl
        have HST : Hid (DrL J W ((w4.setCell ⟨w2.heap.size, 0, none⟩ (.int .i64 vz.1)).setCell ⟨w2.heap.size, 1, none⟩ (.string vz.2)) q n Bn f lt F0 C0 Z (.pointer (some ⟨w2.heap.size, 0, none⟩)) (.bool vb) ∧ qlenW ((w4.setCell ⟨w2.heap.size, 0, none⟩ (.int .i64 vz.1)).setCell ⟨w2.heap.size, 1, none⟩ (.string vz.2)) q + boolN (.bool vb) < rest.length + 1) := by
          have hBn : ((w4.setCell ⟨w2.heap.size, 0, none⟩ (.int .i64 vz.1)).setCell ⟨w2.heap.size, 1, none⟩ (.string vz.2)).cell? ⟨Bn, 0, none⟩ = some (.pointer (some ⟨q, 0, none⟩)) :=
            (hk2.cell (p := ⟨Bn, 0, none⟩) (World.block_lt_of_cell? w4 _ hB4) (fun e => by have h1 : Bn < w2.heap.size := hBl2; have e' : Bn = w2.heap.size := e; omega)).trans hB4
          rcases hor with ⟨rfl, hr, hd⟩ | ⟨rfl, rest', hr, hd⟩
          · have hd5 := hd.keepX hJ hk2 (fun k hk => Or.inr hk) (fun k hk => by
              rcases hk with hk | hk
              · exact Or.inr (by have h1 : Bn < w2.heap.size := hBl2; omega)
              · exact Or.inl (by omega))
            refine ⟨⟨hBn, Or.inl ⟨rfl, ?_⟩⟩, ?_⟩
            · have hz := unhide HZ
              rw [hr] at hz
              rw [hz]
              obtain ⟨C, F, h1, h2, h3, h4, h7⟩ := hd5.all
              exact ⟨C, F, h1, h2, h3, fun k hk => h4 k (Or.inl hk), h7⟩
            · rw [hd5.left, hr]; simp [boolN]
          · have hd5 := hd.keepX hJ hk2 (fun k hk => Or.inr hk) (fun k hk => by
              rcases hk with hk | hk
              · exact Or.inr (by have h1 : Bn < w2.heap.size := hBl2; omega)
              · exact Or.inl (by omega))
            refine ⟨⟨hBn, Or.inr ⟨rfl, pre ++ [x], vz, rest', w2.heap.size, by rw [unhide HZ, hr]; simp, rfl, hnew, hd5⟩⟩, ?_⟩
            rw [hd5.left, hr]; simp [boolN]
        clear hor hs4 hbn4 hB4 hk hk2 hnew HP hBr3 e0 e1
        gi_wp2_with fail
        go_roundw
        case rel => exact (unhide HST).1
        case measure =>
          have h1 := (unhide HST).2
          have h2 := unhide HLR
          show qlenW _ q + boolN _ < qlenW wr q + boolN (.bool true)
          rw [h2]
          exact h1
      · have HE : Hid (∃ pre x rest C F, Z = pre ++ x :: rest ∧ Jx (pre ++ [x]) C w2 ∧ QAt F w2 q f lt rest n ∧ (∀ k, F k → ¬ C k) ∧ Moves (fun k => F0 k ∨ C0 k) (fun k => F k ∨ C k) W w2) := by
          refine ⟨pre, x, rest, C', F, unhide HZ, jx2, q1.keep mv2.keep d1, fun k hf hc => ?_, m1.trans ⟨mv2.keep.weak (fun _ h => Or.inr h), fun k hk => ?_⟩⟩
          · rcases mv2.sub k hc with h | h
            · exact d1 k hf h
            · have := q1.lt k hf; omega
          · rcases hk with hk | hk
            · exact Or.inl (Or.inl hk)
            · rcases mv2.sub k hk with h | h
              · exact Or.inl (Or.inr h)
              · exact Or.inr h
        clear jx2 mv2 hbx hBr c0 c1 j1 q1 d1 x1 m1 hy HR
        gi_wp2_with fail
        refine bodyPost_ret (results_none rfl _ _ _) rfl ?_
        exact ⟨⟨_, rfl⟩, Or.inr (unhide HE)⟩
end Go.Proofs.Ytbannlomemkjbaa

/- A range over what a queue drains: the law of the walk. -/
namespace Go.Proofs.Ytbannlomemkjbaa
open Go.RowKit Go.Shelf

theorem keep_putObj (W : World) (l : Nat) (o : Obj) : Keep (fun k => k = l) W (W.putObj l o) := by
  have h := grownBy_putObj' W l o
  exact ⟨h.os, h.tape, h.output, h.size, fun k hk hn => h.block k hk (fun e => hn (by simpa using e))⟩

/-- How a round's body may be left. -/
def ownPostD (I : List It → (Nat → Prop) → World → Prop) (Ix : Code → List It → (Nat → Prop) → World → Prop) (xs : List It) (C : Nat → Prop) (W : World) : Exit → Act → World → Prop
  | .normal, _, W' => ∃ C', I xs C' W' ∧ Moves C C' W W'
  | .ret, _, W' => ∃ C', Ix .ret xs C' W' ∧ Moves C C' W W'
  | .exit id, _, W' => ∃ C', Ix (.exit id) xs C' W' ∧ Moves C C' W W'
  | .goto t, _, W' => ∃ C', Ix (.goto t) xs C' W' ∧ Moves C C' W W'
  | .panic _, _, _ => False
  | .outgrown, _, _ => False

/-- The caller's own, and the loop's record. -/
def JRec (I : List It → (Nat → Prop) → World → Prop) (D : Nat) (r : Obj) (pre : List It) (C : Nat → Prop) (W : World) : Prop :=
  ∃ Ci, I pre Ci W ∧ ¬ Ci D ∧ ¬ Ci (D + 1) ∧ (∀ k, C k ↔ Ci k ∨ k = D ∨ k = D + 1) ∧ W.heap[D + 1]? = some r ∧ W.heap[D]? = some (.deferred (some []))
theorem JRec.ok {I : List It → (Nat → Prop) → World → Prop} (hI : JOk I) (D : Nat) (r : Obj) : JOk (JRec I D r) := by
  refine ⟨fun pre C W W' G h hk hn => ?_, fun pre C W h k hc => ?_⟩
  · obtain ⟨Ci, h1, h2, h3, h4, h5, h6⟩ := h
    refine ⟨Ci, hI.stays _ _ _ _ G h1 hk (fun k hc => hn k ((h4 k).2 (Or.inl hc))), h2, h3, h4, ?_, ?_⟩
    · exact (hk.block _ (Array.getElem?_eq_some_iff.1 h5).1 (hn _ ((h4 _).2 (Or.inr (Or.inr rfl))))).trans h5
    · exact (hk.block _ (Array.getElem?_eq_some_iff.1 h6).1 (hn _ ((h4 _).2 (Or.inr (Or.inl rfl))))).trans h6
  · obtain ⟨Ci, h1, h2, h3, h4, h5, h6⟩ := h
    rcases (h4 k).1 hc with h | h | h
    · exact hI.lt _ _ _ h1 k h
    · rw [h]; exact (Array.getElem?_eq_some_iff.1 h6).1
    · rw [h]; exact (Array.getElem?_eq_some_iff.1 h5).1

set_option maxHeartbeats 1000000 in
theorem wpIn_drain {g : Operand} {ps : Array Tmp} {assign body : Code} {Q : Exit → Act → World → Prop} {a : Act} {w : World} {m Bn q n : Nat} {f : Value} {lt : It → It → Bool} {Z : List It} {F0 C0 : Nat → Prop}
    (hg : a.eval g = .func (.func 48) #[] #[.pointer (some ⟨Bn, 0, none⟩)]) (hps : ps.size = 1)
    (I : List It → (Nat → Prop) → World → Prop) (I1 : List It → It → Act → (Nat → Prop) → World → Prop) (Ix : Code → List It → (Nat → Prop) → World → Prop) (hI : JOk I) (hI1 : ∀ x a', JOk (fun pre => I1 pre x a'))
    (hB : w.cell? ⟨Bn, 0, none⟩ = some (.pointer (some ⟨q, 0, none⟩))) (h0 : I [] C0 w) (hQ : QAt F0 w q f lt Z n) (hd : ∀ k, F0 k → ¬ C0 k) (hBC : ¬ C0 Bn) (hBF : ¬ F0 Bn)
    (hassign : ∀ (l : Nat) (pre : List It) (C : Nat → Prop) (x : It) (W : World) (K : Act → World → Prop), I pre C W → (∀ a' C' W', I1 pre x a' C' W' → Moves C C' W W' → K a' W') →
      assign.wpIn (Fence.wide.inRound l) (m - 1 - 1) Try.prog (Exit.then K (fun _ _ _ => False)) { tmps := (ps.zip #[.agg #[.int .i64 x.1, .string x.2]]).foldl (fun t (p, v) => t.setIfInBounds p v) a.tmps, defers := [] } W)
    (hbody : ∀ (l : Nat) (pre : List It) (C : Nat → Prop) (x : It) (a' : Act) (W : World), I1 pre x a' C W → pre.length < Z.length → body.wpIn (Fence.wide.inRound l) (m - 1 - 1) Try.prog (ownPostD I Ix (pre ++ [x]) C W) a' W)
    (hIx : ∀ c, JOk (Ix c))
    (hdone : ∀ (D : Nat) (C F : Nat → Prop) (W : World), w.heap.size ≤ D → I Z C W → QAt F W q f lt [] n → (∀ k, F k → ¬ C k) → ¬ C D → ¬ F D → Moves (fun k => F0 k ∨ C0 k) (fun k => F k ∨ C k) w W → W.heap[D]? = some (.deferred (some [])) → Q .normal { a with defers := { target := .collected D, args := #[] } :: a.defers } W)
    (hstop : ∀ (D : Nat) (c : Code) (pre : List It) (x : It) (rest : List It) (C F : Nat → Prop) (W : World), w.heap.size ≤ D → Z = pre ++ x :: rest → Ix c (pre ++ [x]) C W → QAt F W q f lt rest n → (∀ k, F k → ¬ C k) → ¬ C D → ¬ F D → Moves (fun k => F0 k ∨ C0 k) (fun k => F k ∨ C k) w W → W.heap[D]? = some (.deferred (some [])) → c.wpIn Fence.wide m Try.prog Q { a with defers := { target := .collected D, args := #[] } :: a.defers } W) :
    (Code.rangeFunc g ps assign body).wpIn Fence.wide m Try.prog Q a w := by
  refine wpIn_rangeFunc ?_
  intro fn hfn
  obtain ⟨rec, hrec⟩ : ∃ rec : LoopState → Option Code → Loop, rec = fun st pe => { state := st, pending := pe, fn, tmps := a.tmps, params := ps, assign, body, defers := w.heap.size } := ⟨_, rfl⟩
  obtain ⟨W1, hW1⟩ : ∃ W1, (w.alloc (.deferred (some []))).alloc (.loop (rec .ready none)) = W1 := ⟨_, rfl⟩
  have hL1 : W1.heap[w.heap.size + 1]? = some (.loop (rec .ready none)) := by
    rw [← hW1]; have := World.alloc_heap_new (w.alloc (.deferred (some []))) (.loop (rec .ready none)); rwa [World.size_alloc] at this
  have hK1 : W1.heap[w.heap.size]? = some (.deferred (some [])) := by
    rw [← hW1]; exact (Below.heap_alloc _ _ _ (by simp)).trans (World.alloc_heap_new w _)
  have hb1 : Below w.heap.size w W1 := by rw [← hW1]; exact ((Below.refl _ w).alloc (Nat.le_refl _) _).alloc (by simp) _
  have hBl := World.block_lt_of_cell? w _ hB
  have hC0 := hI.lt _ _ _ h0
  refine ⟨w.heap.size + 1, [{ target := .collected w.heap.size, args := #[] }], W1, { target := .fn (.func 48) #[.pointer (some ⟨Bn, 0, none⟩)], args := #[.func (.yield (w.heap.size + 1)) #[] #[]] }, W1, 48,
    #[.func (.yield (w.heap.size + 1)) #[] #[]] ++ #[.pointer (some ⟨Bn, 0, none⟩)], W1, ?_, ?_, ?_, ?_, fun h => (by cases h), ?_⟩
  · rw [← hW1, hrec]; exact run_enterLoop_outer _ _ _ _ _
  · simp only [resolve, hg]
    simp [go_sem]
  · intro f' hf'; trivial
  · have eg : ∀ args w, (callFunc 48 args).run Try.prog w = .ok (.enter 48 args) w := fun _ _ => by kernel_rfl
    simp [invoke, go_sem, eg]
  · have hJ := JRec.ok hI w.heap.size (.loop (rec .ready none))
    have hst : DrI (JRec I w.heap.size (.loop (rec .ready none))) W1 W1 q n f lt F0 (fun k => C0 k ∨ k = w.heap.size ∨ k = w.heap.size + 1) (fun k => k = Bn) [] Z := by
      refine ⟨_, F0, ⟨C0, hI.stays _ _ _ _ (fun _ => False) h0 (Keep.of_below hb1) (fun _ _ => id), fun hc => by have := hC0 _ hc; omega, fun hc => by have := hC0 _ hc; omega, fun _ => Iff.rfl, hL1, hK1⟩, hQ.below hb1, fun k hf hc => ?_, fun k hk => ?_, ⟨Keep.refl _ _, fun _ h => Or.inl h⟩⟩
      · rcases hc with hc | hc | hc
        · exact hd k hf hc
        · have := hQ.lt k hf; omega
        · have := hQ.lt k hf; omega
      · subst hk
        have hBl' : k < w.heap.size := hBl
        exact ⟨fun hc => by
          rcases hc with hc | hc | hc
          · exact hBC hc
          · omega
          · omega, hBF, Nat.lt_of_lt_of_le hBl' hb1.size⟩
    refine (drain_in lt _ (fun pre C W => ∃ c, JRec (Ix c) w.heap.size (.loop (rec .done (some c))) pre C W) hJ (w.heap.size + 1) Bn q n (m - 1) f F0 (fun k => C0 k ∨ k = w.heap.size ∨ k = w.heap.size + 1) Z W1 ?_ ((hb1.cell (p := ⟨Bn, 0, none⟩) hBl).trans hB) hst).mono ?_
    · -- one round
      rintro pre x C W ⟨Ci, hi, hn1, hn2, hC, hl, hk⟩ hlen
      have hlt : w.heap.size + 1 < W.heap.size := (Array.getElem?_eq_some_iff.1 hl).1
      have hy := run_yield (P := Try.prog) (args := #[.agg #[.int .i64 x.1, .string x.2]]) hl (by rw [hrec]; exact hps.symm)
      rw [hrec] at hy
      refine ⟨fn, _, assign, body, hy, roundIn_of_wpIn hfn (hassign _ pre Ci x W _ hi fun a' C2 W2 h2 hm2 => ?_)⟩
      have hn1' : ¬ C2 w.heap.size := fun hc => by
        rcases hm2.sub _ hc with h | h
        · exact hn1 h
        · omega
      have hn2' : ¬ C2 (w.heap.size + 1) := fun hc => by
        rcases hm2.sub _ hc with h | h
        · exact hn2 h
        · omega
      have hl2 : W2.heap[w.heap.size + 1]? = some (.loop (rec .ready none)) := (hm2.keep.block _ hlt hn2).trans hl
      have hk2 : W2.heap[w.heap.size]? = some (.deferred (some [])) := (hm2.keep.block _ (by omega) hn1).trans hk
      have hlt2 : w.heap.size + 1 < W2.heap.size := (Array.getElem?_eq_some_iff.1 hl2).1
      refine ⟨_, run_beginRound hl2 (by rw [hrec]), ?_⟩
      have hl3 : (W2.putObj (w.heap.size + 1) (.loop { rec .ready none with state := .busy })).heap[w.heap.size + 1]? = some (.loop { rec .ready none with state := .busy }) := World.putObj_heap_same hlt2
      have hk3 : (W2.putObj (w.heap.size + 1) (.loop { rec .ready none with state := .busy })).heap[w.heap.size]? = some (.deferred (some [])) := (World.putObj_heap_other (by omega)).trans hk2
      have hp3 := keep_putObj W2 (w.heap.size + 1) (.loop { rec .ready none with state := .busy })
      refine wpIn_mono (hbody _ pre C2 x a' _ ((hI1 x a').stays _ _ _ _ _ h2 hp3 (fun k hc e => hn2' (e ▸ hc))) hlen) ?_
      -- behind the body
      have fin : ∀ (jump : Option Code) (W4 : World) (C4 : Nat → Prop), Moves C2 C4 (W2.putObj (w.heap.size + 1) (.loop { rec .ready none with state := .busy })) W4 →
          (Instr.endRound (w.heap.size + 1) jump).run Try.prog W4 = .ok (.bool jump.isNone) (W4.putObj (w.heap.size + 1) (.loop (rec (if jump.isNone then .ready else .done) jump))) ∧
          ¬ C4 w.heap.size ∧ ¬ C4 (w.heap.size + 1) ∧
          (W4.putObj (w.heap.size + 1) (.loop (rec (if jump.isNone then .ready else .done) jump))).heap[w.heap.size + 1]? = some (.loop (rec (if jump.isNone then .ready else .done) jump)) ∧
          (W4.putObj (w.heap.size + 1) (.loop (rec (if jump.isNone then .ready else .done) jump))).heap[w.heap.size]? = some (.deferred (some [])) ∧
          Moves C (fun k => C4 k ∨ k = w.heap.size ∨ k = w.heap.size + 1) W (W4.putObj (w.heap.size + 1) (.loop (rec (if jump.isNone then .ready else .done) jump))) := fun jump W4 C4 hm4 => by
        have hsz3 := hp3.size
        have hl4 := (hm4.keep.block _ (by omega) hn2').trans hl3
        have hk4 := (hm4.keep.block _ (by omega) hn1').trans hk3
        have := run_endRound (P := Try.prog) jump hl4
        rw [hrec] at this ⊢
        refine ⟨this, fun hc => ?_, fun hc => ?_, World.putObj_heap_same (Array.getElem?_eq_some_iff.1 hl4).1, (World.putObj_heap_other (by omega)).trans hk4, ?_, fun k hk => ?_⟩
        · rcases hm4.sub _ hc with h | h
          · exact hn1' h
          · omega
        · rcases hm4.sub _ hc with h | h
          · exact hn2' h
          · omega
        · have k1 : Keep C W W2 := hm2.keep.weak (fun k hc => (hC k).2 (Or.inl hc))
          have k2 := k1.trans hp3 (fun k e => Or.inl ((hC k).2 (Or.inr (Or.inr e))))
          have k3 := k2.trans hm4.keep (fun k hc => by
            rcases hm2.sub k hc with h | h
            · exact Or.inl ((hC k).2 (Or.inl h))
            · exact Or.inr h)
          exact k3.trans (keep_putObj W4 (w.heap.size + 1) _) (fun k e => Or.inl ((hC k).2 (Or.inr (Or.inr e))))
        · have hWs : W.heap.size ≤ W2.heap.size := hm2.keep.size
          rcases hk with hk | hk | hk
          · rcases hm4.sub k hk with h | h
            · rcases hm2.sub k h with h' | h'
              · exact Or.inl ((hC k).2 (Or.inl h'))
              · exact Or.inr h'
            · exact Or.inr (by omega)
          · exact Or.inl ((hC k).2 (Or.inr (Or.inl hk)))
          · exact Or.inl ((hC k).2 (Or.inr (Or.inr hk)))
      have put : ∀ (II : List It → (Nat → Prop) → World → Prop), JOk II → ∀ (xs : List It) (C4 : Nat → Prop) (W4 : World) (o : Obj), II xs C4 W4 → ¬ C4 (w.heap.size + 1) → II xs C4 (W4.putObj (w.heap.size + 1) o) := fun II hII xs C4 W4 o h hn => hII.stays _ _ _ _ _ h (keep_putObj W4 _ o) (fun k hc e => hn (e ▸ hc))
      rintro e a3 W4 hp
      cases e with
      | normal =>
        obtain ⟨C4, hi4, hm4⟩ := hp
        obtain ⟨hr, f1, f2, f3, f4, f5⟩ := fin none W4 C4 hm4
        exact ⟨_, _, hr, .inl ⟨rfl, _, ⟨C4, put I hI _ _ _ _ hi4 f2, f1, f2, fun _ => Iff.rfl, f3, f4⟩, f5⟩⟩
      | ret =>
        obtain ⟨C4, hi4, hm4⟩ := hp
        obtain ⟨hr, f1, f2, f3, f4, f5⟩ := fin (some .ret) W4 C4 hm4
        exact ⟨_, _, hr, .inr ⟨rfl, _, ⟨.ret, C4, put _ (hIx _) _ _ _ _ hi4 f2, f1, f2, fun _ => Iff.rfl, f3, f4⟩, f5⟩⟩
      | exit id =>
        obtain ⟨C4, hi4, hm4⟩ := hp
        obtain ⟨hr, f1, f2, f3, f4, f5⟩ := fin (some (.exit id)) W4 C4 hm4
        exact ⟨_, _, hr, .inr ⟨rfl, _, ⟨.exit id, C4, put _ (hIx _) _ _ _ _ hi4 f2, f1, f2, fun _ => Iff.rfl, f3, f4⟩, f5⟩⟩
      | goto t =>
        obtain ⟨C4, hi4, hm4⟩ := hp
        obtain ⟨hr, f1, f2, f3, f4, f5⟩ := fin (some (.goto t)) W4 C4 hm4
        exact ⟨_, _, hr, .inr ⟨rfl, _, ⟨.goto t, C4, put _ (hIx _) _ _ _ _ hi4 f2, f1, f2, fun _ => Iff.rfl, f3, f4⟩, f5⟩⟩
      | panic ch => exact hp.elim
      | outgrown => exact hp.elim
    · -- behind the iterator
      have last : ∀ (C Ci F : Nat → Prop) (W2 : World) (o : Obj), (∀ k, C k ↔ Ci k ∨ k = w.heap.size ∨ k = w.heap.size + 1) → Moves (fun k => F0 k ∨ (C0 k ∨ k = w.heap.size ∨ k = w.heap.size + 1)) (fun k => F k ∨ C k) W1 W2 → Moves (fun k => F0 k ∨ C0 k) (fun k => F k ∨ Ci k) w (W2.putObj (w.heap.size + 1) o) := fun C Ci F W2 o hC hm => by
        have hs1 := hb1.size
        refine ⟨((Keep.of_below (F := fun k => F0 k ∨ C0 k) hb1).trans hm.keep (fun k hk => ?_)).trans (keep_putObj W2 _ o) (fun k e => Or.inr (by omega)), fun k hk => ?_⟩
        · rcases hk with hk | hk | hk | hk
          · exact Or.inl (Or.inl hk)
          · exact Or.inl (Or.inr hk)
          · exact Or.inr (by omega)
          · exact Or.inr (by omega)
        · have : F k ∨ C k := hk.imp id (fun h => (hC k).2 (Or.inl h))
          rcases hm.sub k this with h | h
          · rcases h with h | h | h | h
            · exact Or.inl (Or.inl h)
            · exact Or.inl (Or.inr h)
            · exact Or.inr (by omega)
            · exact Or.inr (by omega)
          · exact Or.inr (by omega)
      rintro e W2 ⟨⟨v, rfl⟩, hd2 | ⟨pre, x, rest, C, F, hZ, ⟨c, Ci, hi, hn1, hn2, hC, hl, hk⟩, hq, hdj, hm⟩⟩
      · obtain ⟨C, F, ⟨Ci, hi, hn1, hn2, hC, hl, hk⟩, hq, hdj, hX, hm⟩ := hd2.all
        exact ⟨none, _, by have := run_endLoop (P := Try.prog) hl (by rw [hrec]; simp); rw [hrec] at this; exact this,
          hdone w.heap.size Ci F _ (Nat.le_refl _) (hI.stays _ _ _ _ _ hi (keep_putObj W2 (w.heap.size + 1) _) (fun k hc e => hn2 (e ▸ hc))) (hq.keep (keep_putObj W2 (w.heap.size + 1) _) (fun k hf e => hdj k hf ((hC k).2 (Or.inr (Or.inr e))))) (fun k hf hc => hdj k hf ((hC k).2 (Or.inl hc))) hn1 (fun hf => hdj _ hf ((hC _).2 (Or.inr (Or.inl rfl)))) (last C Ci F W2 _ hC hm) ((World.putObj_heap_other (by omega)).trans hk)⟩
      · exact ⟨some c, _, by have := run_endLoop (P := Try.prog) hl (by rw [hrec]; simp); rw [hrec] at this; exact this,
          hstop w.heap.size c pre x rest Ci F _ (Nat.le_refl _) hZ ((hIx c).stays _ _ _ _ _ hi (keep_putObj W2 (w.heap.size + 1) _) (fun k hc e => hn2 (e ▸ hc))) (hq.keep (keep_putObj W2 (w.heap.size + 1) _) (fun k hf e => hdj k hf ((hC k).2 (Or.inr (Or.inr e))))) (fun k hf hc => hdj k hf ((hC k).2 (Or.inl hc))) hn1 (fun hf => hdj _ hf ((hC _).2 (Or.inr (Or.inl rfl)))) (last C Ci F W2 _ hC hm) ((World.putObj_heap_other (by omega)).trans hk)⟩
end Go.Proofs.Ytbannlomemkjbaa
