/- Texts of ours, one behind the other: SeqLaw, GrowRow, SeqLaw2, SeqLaw3. -/
import Derived.Test.YtcjepiihknjeiaaG4
import Derived.Test.YtcjepiihknjeiaaProg
import Derived.RangeFuncNested
import Derived.RangeFuncBound
import Derived.RangeFuncCalls
import Derived.RangeFuncLeaves
import Derived.Shelf.Abstract
import Derived.Shelf.RegionOpen
import Derived.WalkKit
import Derived.OwnWalkIn
import Derived.TacticsInMore
import Derived.LoopNIn
import Derived.LoopIn
/- A range over a function that only reads what lay there and writes new blocks of its own: the law of the walk, whatever the iterator and the body; the caller's own blocks are a set. -/
namespace Go.Proofs.Ytcjepiihknjeiaa
open Go.RowKit Go.Shelf
attribute [local go_sem] Oper.semAt_some

theorem keep_put (W : World) (l : Nat) (o : Obj) : Keep (fun k => k = l) W (W.putObj l o) := by
  have h := grownBy_putObj' W l o
  exact ⟨h.os, h.tape, h.output, h.size, fun k hk hn => h.block k hk (fun e => hn (by simpa using e))⟩

/-- What a caller has between two rounds, in blocks of its own C: it stays where others write, from block b on. -/
structure SOk {α : Type} (b : Nat) (J : List α → (Nat → Prop) → World → Prop) : Prop where
  stays : ∀ pre C W W' G, J pre C W → Keep G W W' → (∀ k, C k → ¬ G k) → (∀ k, G k → b ≤ k) → J pre C W'
  lt : ∀ pre C W, J pre C W → ∀ k, C k → k < W.heap.size
theorem SOk.from {α : Type} {b c : Nat} {J : List α → (Nat → Prop) → World → Prop} (h : SOk b J) (hc : b ≤ c) : SOk c J :=
  ⟨fun pre C W W' G h1 h2 h3 h4 => h.stays pre C W W' G h1 h2 h3 (fun k hk => Nat.le_trans hc (h4 k hk)), h.lt⟩
theorem SOk.below {α : Type} {b : Nat} {J : List α → (Nat → Prop) → World → Prop} (h : SOk b J) {pre : List α} {C : Nat → Prop} {W W' : World} (h1 : J pre C W) (hb : Below W.heap.size W W') : J pre C W' :=
  h.stays _ _ _ _ (fun _ => False) h1 (Keep.of_below hb) (fun _ _ => id) (fun _ h => h.elim)
theorem SOk.none {α : Type} (b : Nat) : SOk b (fun (_ : List α) (_ : Nat → Prop) (_ : World) => False) := ⟨fun _ _ _ _ _ h _ _ _ => h, fun _ _ _ h => h.elim⟩

/-- An iterator, where what it reads (D) lies in blocks F: it tells Z, one behind the other, up to a round that says no more; it writes new blocks alone. -/
def SeqM {α : Type} (gf : Nat) (lb : Array Value) (encs : α → Array Value) (Z : List α) (F : Nat → Prop) (D : World → Prop) : Prop :=
  ∀ (J Jx : List α → (Nat → Prop) → World → Prop) (l m : Nat) (C0 : Nat → Prop) (W : World), SOk W.heap.size J →
    (∀ pre x rest C W1, Z = pre ++ x :: rest → J pre C W1 → Moves C0 C W W1 → YieldAt Fence.wide (m - 1) Try.prog l (encs x) W1 fun e W' =>
      (e = .returned (.bool true) ∧ ∃ C', J (pre ++ [x]) C' W' ∧ Moves C C' W1 W') ∨ (e = .returned (.bool false) ∧ ∃ C', Jx (pre ++ [x]) C' W' ∧ Moves C C' W1 W')) →
    J [] C0 W → D W → (∀ k, F k → ¬ C0 k ∧ k < W.heap.size) →
    CallsIn Fence.wide m Try.prog gf (#[.func (.yield l) #[] #[]] ++ lb) W fun e W' => (∃ v, e = .returned v) ∧
      ((∃ C, J Z C W' ∧ Moves C0 C W W') ∨ ∃ pre x rest C, Z = pre ++ x :: rest ∧ Jx (pre ++ [x]) C W' ∧ Moves C0 C W W')

/-- How a round's body may be left. -/
def seqPost {α : Type} (I : List α → (Nat → Prop) → World → Prop) (Ix : Code → List α → (Nat → Prop) → World → Prop) (xs : List α) (C : Nat → Prop) (W : World) : Exit → Act → World → Prop
  | .normal, _, W' => ∃ C', I xs C' W' ∧ Moves C C' W W'
  | .ret, _, W' => ∃ C', Ix .ret xs C' W' ∧ Moves C C' W W'
  | .exit id, _, W' => ∃ C', Ix (.exit id) xs C' W' ∧ Moves C C' W W'
  | .goto t, _, W' => ∃ C', Ix (.goto t) xs C' W' ∧ Moves C C' W W'
  | .panic _, _, _ => False
  | .outgrown, _, _ => False

/-- The caller's own, and the loop's record. -/
def SRec {α : Type} (I : List α → (Nat → Prop) → World → Prop) (C0 : Nat → Prop) (w : World) (r : Obj) (pre : List α) (C : Nat → Prop) (W : World) : Prop :=
  ∃ Ci, I pre Ci W ∧ Moves C0 Ci w W ∧ ¬ Ci w.heap.size ∧ ¬ Ci (w.heap.size + 1) ∧ (∀ k, C k ↔ Ci k ∨ k = w.heap.size ∨ k = w.heap.size + 1) ∧ W.heap[w.heap.size + 1]? = some r ∧ W.heap[w.heap.size]? = some (.deferred (some []))
theorem SRec.ok {α : Type} {I : List α → (Nat → Prop) → World → Prop} {w : World} (hI : SOk w.heap.size I) (C0 : Nat → Prop) (r : Obj) {b : Nat} (hb : w.heap.size ≤ b) : SOk b (SRec I C0 w r) := by
  refine ⟨fun pre C W W' G h hk hn hg => ?_, fun pre C W h k hc => ?_⟩
  · obtain ⟨Ci, h1, hm, h2, h3, h4, h5, h6⟩ := h
    refine ⟨Ci, hI.stays _ _ _ _ G h1 hk (fun k hc => hn k ((h4 k).2 (Or.inl hc))) (fun k hk => Nat.le_trans hb (hg k hk)), ⟨hm.keep.trans hk (fun k hk => Or.inr (Nat.le_trans hb (hg k hk))), hm.sub⟩, h2, h3, h4, ?_, ?_⟩
    · exact (hk.block _ (Array.getElem?_eq_some_iff.1 h5).1 (hn _ ((h4 _).2 (Or.inr (Or.inr rfl))))).trans h5
    · exact (hk.block _ (Array.getElem?_eq_some_iff.1 h6).1 (hn _ ((h4 _).2 (Or.inr (Or.inl rfl))))).trans h6
  · obtain ⟨Ci, h1, hm, h2, h3, h4, h5, h6⟩ := h
    rcases (h4 k).1 hc with h | h | h
    · exact hI.lt _ _ _ h1 k h
    · rw [h]; exact (Array.getElem?_eq_some_iff.1 h6).1
    · rw [h]; exact (Array.getElem?_eq_some_iff.1 h5).1

set_option maxHeartbeats 1000000 in
theorem wpIn_seq {α : Type} {g : Operand} {ps : Array Tmp} {assign body : Code} {Q : Exit → Act → World → Prop} {a : Act} {w : World} {m gf : Nat} {lb : Array Value} {encs : α → Array Value} {Z : List α} {F C0 : Nat → Prop} {D : World → Prop}
    (hseq : SeqM gf lb encs Z F D) (hg : a.eval g = .func (.func gf) #[] lb) (eg : ∀ args w, (callFunc gf args).run Try.prog w = .ok (.enter gf args) w) (hps : ∀ x, (encs x).size = ps.size)
    (I : List α → (Nat → Prop) → World → Prop) (I1 : List α → α → Act → (Nat → Prop) → World → Prop) (Ix : Code → List α → (Nat → Prop) → World → Prop) (hI : SOk w.heap.size I) (hI1 : ∀ x a', SOk w.heap.size (fun pre => I1 pre x a')) (hIx : ∀ c, SOk w.heap.size (Ix c))
    (h0 : I [] C0 w) (hD : ∀ W, Below w.heap.size w W → D W) (hF : ∀ k, F k → ¬ C0 k ∧ k < w.heap.size)
    (hassign : ∀ (l : Nat) (pre : List α) (x : α) (rest : List α) (C : Nat → Prop) (W : World) (K : Act → World → Prop), l = w.heap.size + 1 → Z = pre ++ x :: rest → I pre C W → Moves C0 C w W → (∀ a' C' W', I1 pre x a' C' W' → Moves C C' W W' → K a' W') →
      assign.wpIn (Fence.wide.inRound l) (m - 1 - 1) Try.prog (Exit.then K (fun _ _ _ => False)) { tmps := (ps.zip (encs x)).foldl (fun t (p, v) => t.setIfInBounds p v) a.tmps, defers := [] } W)
    (hbody : ∀ (l : Nat) (pre : List α) (x : α) (rest : List α) (C : Nat → Prop) (a' : Act) (W : World), l = w.heap.size + 1 → Z = pre ++ x :: rest → I1 pre x a' C W → Moves C0 C w W → body.wpIn (Fence.wide.inRound l) (m - 1 - 1) Try.prog (seqPost I Ix (pre ++ [x]) C W) a' W)
    (hdone : ∀ (dd : Nat) (C : Nat → Prop) (W : World), w.heap.size ≤ dd → I Z C W → Moves C0 C w W → ¬ C dd → W.heap[dd]? = some (.deferred (some [])) → Q .normal { a with defers := { target := .collected dd, args := #[] } :: a.defers } W)
    (hstop : ∀ (dd : Nat) (c : Code) (pre : List α) (x : α) (rest : List α) (C : Nat → Prop) (W : World), w.heap.size ≤ dd → Z = pre ++ x :: rest → Ix c (pre ++ [x]) C W → Moves C0 C w W → ¬ C dd → W.heap[dd]? = some (.deferred (some [])) → c.wpIn Fence.wide m Try.prog Q { a with defers := { target := .collected dd, args := #[] } :: a.defers } W) :
    (Code.rangeFunc g ps assign body).wpIn Fence.wide m Try.prog Q a w := by
  refine wpIn_rangeFunc ?_
  intro fn hfn
  obtain ⟨rec, hrec⟩ : ∃ rec : LoopState → Option Code → Loop, rec = fun st pe => { state := st, pending := pe, fn, tmps := a.tmps, params := ps, assign, body, defers := w.heap.size } := ⟨_, rfl⟩
  obtain ⟨W1, hW1⟩ : ∃ W1, (w.alloc (.deferred (some []))).alloc (.loop (rec .ready none)) = W1 := ⟨_, rfl⟩
  have hL1 : W1.heap[w.heap.size + 1]? = some (.loop (rec .ready none)) := by
    rw [← hW1]; have := World.alloc_heap_new (w.alloc (.deferred (some []))) (.loop (rec .ready none)); rwa [World.size_alloc] at this
  have hK1 : W1.heap[w.heap.size]? = some (.deferred (some [])) := by
    rw [← hW1]; exact (Below.heap_alloc _ _ _ (by simp)).trans (World.alloc_heap_new w _)
  have hb1 : Below w.heap.size w W1 := by rw [← hW1]; exact ((Below.refl _ w).alloc (Nat.le_refl _) _).alloc (by simp) _
  have hC0 := hI.lt _ _ _ h0
  have hsz1 := hb1.size
  have hlt1 : w.heap.size + 1 < W1.heap.size := (Array.getElem?_eq_some_iff.1 hL1).1
  refine ⟨w.heap.size + 1, [{ target := .collected w.heap.size, args := #[] }], W1, { target := .fn (.func gf) lb, args := #[.func (.yield (w.heap.size + 1)) #[] #[]] }, W1, gf,
    #[.func (.yield (w.heap.size + 1)) #[] #[]] ++ lb, W1, ?_, ?_, ?_, ?_, fun h => (by cases h), ?_⟩
  · rw [← hW1, hrec]; exact run_enterLoop_outer _ _ _ _ _
  · simp only [resolve, hg]
    simp [go_sem]
  · intro f' hf'; trivial
  · simp [invoke, go_sem, eg]
  · have hJ : SOk W1.heap.size (SRec I C0 w (.loop (rec .ready none))) := SRec.ok hI C0 _ hsz1
    have hst : SRec I C0 w (.loop (rec .ready none)) [] (fun k => C0 k ∨ k = w.heap.size ∨ k = w.heap.size + 1) W1 :=
      ⟨C0, hI.below h0 hb1, Moves.of_below hb1, fun hc => by have := hC0 _ hc; omega, fun hc => by have := hC0 _ hc; omega, fun _ => Iff.rfl, hL1, hK1⟩
    refine (hseq _ (fun pre C W => ∃ c, SRec (Ix c) C0 w (.loop (rec .done (some c))) pre C W) (w.heap.size + 1) (m - 1) _ W1 hJ ?_ hst (hD W1 hb1) (fun k hk => ⟨fun hc => ?_, Nat.lt_of_lt_of_le (hF k hk).2 hsz1⟩)).mono ?_
    · -- one round
      rintro pre x rest C W hZ ⟨Ci, hi, hmi, hn1, hn2, hC, hl, hk⟩ _
      have hlt : w.heap.size + 1 < W.heap.size := (Array.getElem?_eq_some_iff.1 hl).1
      have hy := run_yield (P := Try.prog) (args := encs x) hl (by rw [hrec]; exact hps x)
      rw [hrec] at hy
      refine ⟨fn, _, assign, body, hy, roundIn_of_wpIn hfn (hassign _ pre x rest Ci W _ rfl hZ hi hmi fun a' C2 W2 h2 hm2 => ?_)⟩
      have hn1' : ¬ C2 w.heap.size := fun hc => by
        rcases hm2.sub _ hc with h | h
        · exact hn1 h
        · omega
      have hn2' : ¬ C2 (w.heap.size + 1) := fun hc => by
        rcases hm2.sub _ hc with h | h
        · exact hn2 h
        · omega
      have hl2 : W2.heap[w.heap.size + 1]? = some (.loop (rec .ready none)) := (hm2.keep.block _ hlt hn2).trans hl
      have hk2 : W2.heap[w.heap.size]? = some (.deferred (some [])) := (hm2.keep.block _ (by omega) hn1).trans hk
      have hlt2 : w.heap.size + 1 < W2.heap.size := (Array.getElem?_eq_some_iff.1 hl2).1
      refine ⟨_, run_beginRound hl2 (by rw [hrec]), ?_⟩
      have hl3 : (W2.putObj (w.heap.size + 1) (.loop { rec .ready none with state := .busy })).heap[w.heap.size + 1]? = some (.loop { rec .ready none with state := .busy }) := World.putObj_heap_same hlt2
      have hk3 : (W2.putObj (w.heap.size + 1) (.loop { rec .ready none with state := .busy })).heap[w.heap.size]? = some (.deferred (some [])) := (World.putObj_heap_other (by omega)).trans hk2
      have hp3 := keep_put W2 (w.heap.size + 1) (.loop { rec .ready none with state := .busy })
      have hm3 : Moves C0 C2 w (W2.putObj (w.heap.size + 1) (.loop { rec .ready none with state := .busy })) := ⟨(hmi.trans hm2).keep.trans hp3 (fun k e => Or.inr (by omega)), (hmi.trans hm2).sub⟩
      refine wpIn_mono (hbody _ pre x rest C2 a' _ rfl hZ ((hI1 x a').stays _ _ _ _ _ h2 hp3 (fun k hc e => hn2' (e ▸ hc)) (fun k e => by omega)) hm3) ?_
      -- behind the body
      have fin : ∀ (jump : Option Code) (W4 : World) (C4 : Nat → Prop), Moves C2 C4 (W2.putObj (w.heap.size + 1) (.loop { rec .ready none with state := .busy })) W4 →
          (Instr.endRound (w.heap.size + 1) jump).run Try.prog W4 = .ok (.bool jump.isNone) (W4.putObj (w.heap.size + 1) (.loop (rec (if jump.isNone then .ready else .done) jump))) ∧
          ¬ C4 w.heap.size ∧ ¬ C4 (w.heap.size + 1) ∧
          (W4.putObj (w.heap.size + 1) (.loop (rec (if jump.isNone then .ready else .done) jump))).heap[w.heap.size + 1]? = some (.loop (rec (if jump.isNone then .ready else .done) jump)) ∧
          (W4.putObj (w.heap.size + 1) (.loop (rec (if jump.isNone then .ready else .done) jump))).heap[w.heap.size]? = some (.deferred (some [])) ∧
          Moves C (fun k => C4 k ∨ k = w.heap.size ∨ k = w.heap.size + 1) W (W4.putObj (w.heap.size + 1) (.loop (rec (if jump.isNone then .ready else .done) jump))) ∧
          Moves C0 C4 w (W4.putObj (w.heap.size + 1) (.loop (rec (if jump.isNone then .ready else .done) jump))) := fun jump W4 C4 hm4 => by
        have hsz3 := hp3.size
        have hl4 := (hm4.keep.block _ (by omega) hn2').trans hl3
        have hk4 := (hm4.keep.block _ (by omega) hn1').trans hk3
        have := run_endRound (P := Try.prog) jump hl4
        rw [hrec] at this ⊢
        refine ⟨this, fun hc => ?_, fun hc => ?_, World.putObj_heap_same (Array.getElem?_eq_some_iff.1 hl4).1, (World.putObj_heap_other (by omega)).trans hk4, ⟨?_, fun k hk => ?_⟩, ?_⟩
        · rcases hm4.sub _ hc with h | h
          · exact hn1' h
          · omega
        · rcases hm4.sub _ hc with h | h
          · exact hn2' h
          · omega
        · have k1 : Keep C W W2 := hm2.keep.weak (fun k hc => (hC k).2 (Or.inl hc))
          have k2 := k1.trans hp3 (fun k e => Or.inl ((hC k).2 (Or.inr (Or.inr e))))
          have k3 := k2.trans hm4.keep (fun k hc => by
            rcases hm2.sub k hc with h | h
            · exact Or.inl ((hC k).2 (Or.inl h))
            · exact Or.inr h)
          exact k3.trans (keep_put W4 (w.heap.size + 1) _) (fun k e => Or.inl ((hC k).2 (Or.inr (Or.inr e))))
        · have hWs : W.heap.size ≤ W2.heap.size := hm2.keep.size
          rcases hk with hk | hk | hk
          · rcases hm4.sub k hk with h | h
            · rcases hm2.sub k h with h' | h'
              · exact Or.inl ((hC k).2 (Or.inl h'))
              · exact Or.inr h'
            · exact Or.inr (by omega)
          · exact Or.inl ((hC k).2 (Or.inr (Or.inl hk)))
          · exact Or.inl ((hC k).2 (Or.inr (Or.inr hk)))
        · have h5 := hm3.trans hm4
          exact ⟨h5.keep.trans (keep_put W4 _ _) (fun k e => Or.inr (by omega)), h5.sub⟩
      have put : ∀ (II : List α → (Nat → Prop) → World → Prop), SOk w.heap.size II → ∀ (xs : List α) (C4 : Nat → Prop) (W4 : World) (o : Obj), II xs C4 W4 → ¬ C4 (w.heap.size + 1) → II xs C4 (W4.putObj (w.heap.size + 1) o) := fun II hII xs C4 W4 o h hn => hII.stays _ _ _ _ _ h (keep_put W4 _ o) (fun k hc e => hn (e ▸ hc)) (fun k e => by omega)
      rintro e a3 W4 hp
      cases e with
      | normal =>
        obtain ⟨C4, hi4, hm4⟩ := hp
        obtain ⟨hr, f1, f2, f3, f4, f5, f6⟩ := fin none W4 C4 hm4
        exact ⟨_, _, hr, .inl ⟨rfl, _, ⟨C4, put I hI _ _ _ _ hi4 f2, f6, f1, f2, fun _ => Iff.rfl, f3, f4⟩, f5⟩⟩
      | ret =>
        obtain ⟨C4, hi4, hm4⟩ := hp
        obtain ⟨hr, f1, f2, f3, f4, f5, f6⟩ := fin (some .ret) W4 C4 hm4
        exact ⟨_, _, hr, .inr ⟨rfl, _, ⟨.ret, C4, put _ (hIx _) _ _ _ _ hi4 f2, f6, f1, f2, fun _ => Iff.rfl, f3, f4⟩, f5⟩⟩
      | exit id =>
        obtain ⟨C4, hi4, hm4⟩ := hp
        obtain ⟨hr, f1, f2, f3, f4, f5, f6⟩ := fin (some (.exit id)) W4 C4 hm4
        exact ⟨_, _, hr, .inr ⟨rfl, _, ⟨.exit id, C4, put _ (hIx _) _ _ _ _ hi4 f2, f6, f1, f2, fun _ => Iff.rfl, f3, f4⟩, f5⟩⟩
      | goto t =>
        obtain ⟨C4, hi4, hm4⟩ := hp
        obtain ⟨hr, f1, f2, f3, f4, f5, f6⟩ := fin (some (.goto t)) W4 C4 hm4
        exact ⟨_, _, hr, .inr ⟨rfl, _, ⟨.goto t, C4, put _ (hIx _) _ _ _ _ hi4 f2, f6, f1, f2, fun _ => Iff.rfl, f3, f4⟩, f5⟩⟩
      | panic ch => exact hp.elim
      | outgrown => exact hp.elim
    · rcases hc with hc | hc | hc
      · exact (hF k hk).1 hc
      · have := (hF k hk).2; omega
      · have := (hF k hk).2; omega
    · -- behind the iterator
      have last : ∀ (Ci : Nat → Prop) (W2 : World) (o : Obj), Moves C0 Ci w W2 → Moves C0 Ci w (W2.putObj (w.heap.size + 1) o) := fun Ci W2 o hm => ⟨hm.keep.trans (keep_put W2 _ o) (fun k e => Or.inr (by omega)), hm.sub⟩
      rintro e W2 ⟨⟨v, rfl⟩, ⟨C, ⟨Ci, hi, hmi, hn1, hn2, hC, hl, hk⟩, hm⟩ | ⟨pre, x, rest, C, hZ, ⟨c, Ci, hi, hmi, hn1, hn2, hC, hl, hk⟩, hm⟩⟩
      · exact ⟨none, _, by have := run_endLoop (P := Try.prog) hl (by rw [hrec]; simp); rw [hrec] at this; exact this,
          hdone w.heap.size Ci _ (Nat.le_refl _) (hI.stays _ _ _ _ _ hi (keep_put W2 (w.heap.size + 1) _) (fun k hc e => hn2 (e ▸ hc)) (fun k e => by omega)) (last Ci W2 _ hmi) hn1 ((World.putObj_heap_other (by omega)).trans hk)⟩
      · exact ⟨some c, _, by have := run_endLoop (P := Try.prog) hl (by rw [hrec]; simp); rw [hrec] at this; exact this,
          hstop w.heap.size c pre x rest Ci _ (Nat.le_refl _) hZ ((hIx c).stays _ _ _ _ _ hi (keep_put W2 (w.heap.size + 1) _) (fun k hc e => hn2 (e ▸ hc)) (fun k e => by omega)) (last Ci W2 _ hmi) hn1 ((World.putObj_heap_other (by omega)).trans hk)⟩

/-- The same, a round as one walk: the assignment to the loop's variables, and the body behind it. -/
theorem wpIn_seqR {α : Type} {g : Operand} {ps : Array Tmp} {assign body : Code} {Q : Exit → Act → World → Prop} {a : Act} {w : World} {m gf : Nat} {lb : Array Value} {encs : α → Array Value} {Z : List α} {F C0 : Nat → Prop} {D : World → Prop}
    (hseq : SeqM gf lb encs Z F D) (hg : a.eval g = .func (.func gf) #[] lb) (eg : ∀ args w, (callFunc gf args).run Try.prog w = .ok (.enter gf args) w) (hps : ∀ x, (encs x).size = ps.size)
    (I : List α → (Nat → Prop) → World → Prop) (Ix : Code → List α → (Nat → Prop) → World → Prop) (hI : SOk w.heap.size I) (hIx : ∀ c, SOk w.heap.size (Ix c))
    (h0 : I [] C0 w) (hD : ∀ W, Below w.heap.size w W → D W) (hF : ∀ k, F k → ¬ C0 k ∧ k < w.heap.size)
    (hround : ∀ (l : Nat) (pre : List α) (x : α) (rest : List α) (C : Nat → Prop) (W : World), Z = pre ++ x :: rest → I pre C W → Moves C0 C w W →
      assign.wpIn (Fence.wide.inRound l) (m - 1 - 1) Try.prog (Exit.then (fun a' W' => ∃ (J : (Nat → Prop) → World → Prop) (C' : Nat → Prop), SOk w.heap.size (fun (_ : List α) => J) ∧ J C' W' ∧ Moves C C' W W' ∧
        ∀ W'', J C' W'' → Moves C0 C' w W'' → body.wpIn (Fence.wide.inRound l) (m - 1 - 1) Try.prog (seqPost I Ix (pre ++ [x]) C' W'') a' W'') (fun _ _ _ => False)) { tmps := (ps.zip (encs x)).foldl (fun t (p, v) => t.setIfInBounds p v) a.tmps, defers := [] } W)
    (hdone : ∀ (dd : Nat) (C : Nat → Prop) (W : World), w.heap.size ≤ dd → I Z C W → Moves C0 C w W → ¬ C dd → W.heap[dd]? = some (.deferred (some [])) → Q .normal { a with defers := { target := .collected dd, args := #[] } :: a.defers } W)
    (hstop : ∀ (dd : Nat) (c : Code) (pre : List α) (x : α) (rest : List α) (C : Nat → Prop) (W : World), w.heap.size ≤ dd → Z = pre ++ x :: rest → Ix c (pre ++ [x]) C W → Moves C0 C w W → ¬ C dd → W.heap[dd]? = some (.deferred (some [])) → c.wpIn Fence.wide m Try.prog Q { a with defers := { target := .collected dd, args := #[] } :: a.defers } W) :
    (Code.rangeFunc g ps assign body).wpIn Fence.wide m Try.prog Q a w := by
  refine wpIn_seq hseq hg eg hps I (fun pre x a' C' W' => ∃ (J : (Nat → Prop) → World → Prop), SOk w.heap.size (fun (_ : List α) => J) ∧ J C' W' ∧ ∀ W'', J C' W'' → Moves C0 C' w W'' → body.wpIn (Fence.wide.inRound (w.heap.size + 1)) (m - 1 - 1) Try.prog (seqPost I Ix (pre ++ [x]) C' W'') a' W'') Ix hI ?_ hIx h0 hD hF ?_ ?_ hdone hstop
  · refine fun x a' => ⟨fun pre C W W' G h hk hn hg => ?_, fun pre C W h k hc => ?_⟩
    · obtain ⟨J, h1, h2, h3⟩ := h
      exact ⟨J, h1, h1.stays [] _ _ _ G h2 hk hn hg, h3⟩
    · obtain ⟨J, h1, h2, h3⟩ := h
      exact h1.lt [] _ _ h2 k hc
  · rintro l pre x rest C W K rfl hZ hi hm hK
    refine wpIn_mono (hround _ pre x rest C W hZ hi hm) ?_
    rintro e a2 W2 h
    cases e with
    | normal =>
      obtain ⟨J, C', h1, h2, h3, h4⟩ := h
      exact hK _ C' _ ⟨J, h1, h2, h4⟩ h3
    | _ => exact h
  · rintro l pre x rest C a' W rfl hZ ⟨J, h1, h2, h3⟩ hm
    exact h3 W h2 hm
end Go.Proofs.Ytcjepiihknjeiaa

/- A row that a caller's variable holds and that grows in the rounds of a range over a function; nothing here speaks of the program. -/
namespace Go.Proofs.Ytcjepiihknjeiaa
open Go.RowKit Go.Shelf
attribute [local go_sem] Oper.semAt_some

theorem wpListIn_append_any {F : Fence} {n : Nat} {P : Program} {w : World} {ops : Array Oper} {rest : List Oper} {o : Oper} {a : Act} {Q : Exit → Act → World → Prop} (hgd : o.guard = none) (s x : Operand) (t : TypeId)
    (ho : o.op = .call { callee := .builtin .append, args := #[s, x], argTypes := #[t, t] })
    (base : Nat) (e : TypeId) (i : TypeInfo) (z : Value) (ht : P.underlying t = some (.slice e)) (hi : P.info? e = some i) (hz : i.zero = some z)
    (size bytes : Nat) (hsz0 : 0 < size) (hsize : i.size = size) (hby : i.bytes = bytes) (hzs : z.cells.size = size)
    (v : Value) (k : Nat) (xs : List Value) (hs : a.eval s = v) (hown : w.ownsRow base e size v k xs) (ad : Addr) (m c : Nat) (news : List Value) (hx : a.eval x = .slice (some ad) m c)
    (hl : news.length = m * size) (hnews : ∀ j u, news[j]? = some u → w.cell? (ad.add j) = some u) (hone : ∀ u ∈ news, u.oneCell' = true) (h63 : k + m ≤ maxLen) (hbytes : (k + m) * bytes ≤ 140737488355328) (hbase : base ≤ w.heap.size)
    (h : ∀ v' w', w'.ownsRow base e size v' (k + m) (xs ++ news) → w.grownBy w' v.ownBlock → (v'.ownBlock = v.ownBlock ∨ v'.ownBlock = some w.heap.size) → wpListIn F n P ops Q rest (a.put o.dst v') w') : wpListIn F n P ops Q (o :: rest) a w := by
  obtain ⟨v', w', hr, g1, g2, _⟩ := run_append_own (P := P) w base t o.type e i z size bytes ht hi hz hsize hby hzs hsz0 v k xs hown ad m c news hl hnews hone h63 hbytes hbase
  have g3 := append_block (P := P) w t o.type e i z ht hi hz (base := base) (v := v) (n := k) (xs := xs) (by rw [hsize]; exact hown) ad m c news (by rw [hsize]; omega) hnews hone h63 (by rw [hby]; exact hbytes) hr
  refine wpListIn_plain hgd fun K hK => ?_
  unfold Oper.wpIn
  refine ⟨?_, ?_⟩
  · simp [Oper.about, ho, resolve, Target.leads, Sem.run_pure]
  · rw [Oper.semAt_plain F _ _ (by rw [ho]; intro c hc'; cases hc')]
    simp [execOp, ho, resolve, invoke, builtin, hs, hx, hr, Result.andThen]
    exact hK _ _ (h v' w' g1 g2 g3)

/-- The block of a variable, and that of the row which it holds. -/
def VF (q : Nat) (v : Value) (k : Nat) : Prop := k = q ∨ v.ownBlock = some k
theorem ownsV_keep {F : Nat → Prop} {w w' : World} {base e sz : Nat} {v : Value} {n : Nat} {xs : List Value} (h : w.ownsRow base e sz v n xs) (hk : Keep F w w') (hn : ∀ k, v.ownBlock = some k → ¬ F k) : w'.ownsRow base e sz v n xs := by
  refine ⟨h.1, ?_⟩
  rcases h.2 with h2 | ⟨g, cap, cur, rfl, hg, hh, r⟩
  · exact Or.inl h2
  · exact Or.inr ⟨g, cap, cur, rfl, hg, (hk.block g (Array.getElem?_eq_some_iff.1 hh).1 (hn g rfl)).trans hh, r⟩
theorem ownsV_shape {w : World} {base e sz n : Nat} {v : Value} {xs : List Value} (h : w.ownsRow base e sz v n xs) : ∃ p c, v = .slice p n c := by
  rcases h.2 with ⟨h', h0⟩ | ⟨g', cap', cur, h', _⟩
  · exact ⟨none, 0, by rw [h', h0]⟩
  · exact ⟨_, _, h'⟩
/-- A variable B that holds a row of the call's own: n things of so many cells. -/
def GR (B TB E sz : Nat) (n : Nat) (xs : List Value) (C : Nat → Prop) (W : World) : Prop :=
  ∃ v, W.heap[B]? = some (.cells #[v] TB (0, 0)) ∧ W.ownsRow 0 E sz v n xs ∧ v.ownBlock ≠ some B ∧ ∀ k, C k ↔ VF B v k
theorem GR.stays {B TB E sz n : Nat} {xs : List Value} {C : Nat → Prop} {W W' : World} {G : Nat → Prop} (h : GR B TB E sz n xs C W) (hk : Keep G W W') (hn : ∀ k, C k → ¬ G k) : GR B TB E sz n xs C W' := by
  obtain ⟨v, h1, h2, h3, h4⟩ := h
  exact ⟨v, (hk.block B (Array.getElem?_eq_some_iff.1 h1).1 (hn B ((h4 B).2 (Or.inl rfl)))).trans h1, ownsV_keep h2 hk (fun k hv => hn k ((h4 k).2 (Or.inr hv))), h3, h4⟩
theorem GR.lt {B TB E sz n : Nat} {xs : List Value} {C : Nat → Prop} {W : World} (h : GR B TB E sz n xs C W) (k : Nat) (hc : C k) : k < W.heap.size := by
  obtain ⟨v, h1, h2, h3, h4⟩ := h
  rcases (h4 k).1 hc with h | h
  · rw [h]; exact (Array.getElem?_eq_some_iff.1 h1).1
  · exact (h2.lt k h).2
/-- One more, laid aside first (Wx), then appended (w2), and stored. -/
theorem GR.more {B TB E sz n m : Nat} {xs news : List Value} {C : Nat → Prop} {v v2 : Value} {W Wx w2 : World} (h1 : W.heap[B]? = some (.cells #[v] TB (0, 0))) (h3 : v.ownBlock ≠ some B) (hC : ∀ k, VF B v k → C k)
    (hW : Below W.heap.size W Wx) (hown : w2.ownsRow 0 E sz v2 (n + m) (xs ++ news)) (hg : Wx.grownBy w2 v.ownBlock) (hob : v2.ownBlock = v.ownBlock ∨ v2.ownBlock = some Wx.heap.size) :
    GR B TB E sz (n + m) (xs ++ news) (VF B v2) (w2.setCell ⟨B, 0, none⟩ v2) ∧ Moves C (VF B v2) W (w2.setCell ⟨B, 0, none⟩ v2) := by
  have hBl : B < W.heap.size := (Array.getElem?_eq_some_iff.1 h1).1
  have hb2 : w2.heap[B]? = some (.cells #[v] TB (0, 0)) := (hg.block B (Nat.lt_of_lt_of_le hBl hW.size) (fun e => h3 e.symm)).trans ((hW.block B hBl).trans h1)
  have b2 := heap_setCell_same w2 B 0 _ _ v2 hb2
  have hv2 : v2.ownBlock ≠ some B := by
    rcases hob with e | e
    · rw [e]; exact h3
    · rw [e]; intro e2; simp only [Option.some.injEq] at e2; have := hW.size; omega
  have K3 : Keep (fun k => k = B) w2 (w2.setCell ⟨B, 0, none⟩ v2) := ⟨rfl, rfl, rfl, by simp [World.setCell], fun k _ hk => heap_setCell_other w2 ⟨B, 0, none⟩ k _ (fun e => hk (by simp at e; exact e.symm ▸ rfl))⟩
  have K2 : Keep (VF B v) Wx w2 := ⟨hg.os, hg.tape, hg.output, hg.size, fun k hk hn => hg.block k hk (fun e => hn (Or.inr e.symm))⟩
  have K1 : Keep (VF B v) W w2 := (Keep.of_below hW).trans K2 (fun x hx => Or.inl hx)
  refine ⟨⟨v2, by rw [b2]; rfl, ownsV_keep hown K3 (fun k hk e => hv2 (e ▸ hk)), hv2, fun _ => Iff.rfl⟩, (K1.trans K3 (fun x hx => Or.inl (Or.inl hx))).weak hC, fun k hk => ?_⟩
  rcases hk with hk | hk
  · exact Or.inl (hC k (Or.inl hk))
  · rcases hob with e | e
    · exact Or.inl (hC k (Or.inr (e ▸ hk)))
    · rw [e] at hk; simp only [Option.some.injEq] at hk; exact Or.inr (by have := hW.size; omega)
end Go.Proofs.Ytcjepiihknjeiaa

/- A range over a function that makes what it tells: as SeqLaw, but each thing is told as values that lie in memory made ahead of it; a call of yield in a round. -/
namespace Go.Proofs.Ytcjepiihknjeiaa
open Go.RowKit Go.Shelf
attribute [local go_sem] Oper.semAt_some

/-- At the wide fence a round is a round at whatever depth, in whatever round. -/
theorem roundIn_wide {n n' : Nat} {P : Program} {l l' : Nat} {f : FuncId} {tmps : Array Value} {assign body : Code} {w : World} {R : Ending → World → Prop} (h : RoundIn Fence.wide n P l f tmps assign body w R) : RoundIn (Fence.wide.inRound l') n' P l f tmps assign body w R :=
  ⟨trivial, fun c cs _ => h.2 c cs (fun d hd => by cases hd)⟩

/-- An iterator, where what it reads (D) lies in blocks F: it tells Z, one behind the other, up to a round that says no more; it writes new blocks alone. What it tells (vs, behind the world W1) may lie in new blocks: Enc says how. -/
def SeqG {α : Type} (gf : Nat) (lb : Array Value) (Enc : World → α → Array Value → World → Prop) (Z : List α) (F : Nat → Prop) (D : World → Prop) : Prop :=
  ∀ (J Jx : List α → (Nat → Prop) → World → Prop) (l m : Nat) (C0 : Nat → Prop) (W : World), SOk W.heap.size J → SOk W.heap.size Jx →
    (∀ pre x rest C W1 W2 vs, Z = pre ++ x :: rest → J pre C W1 → Moves C0 C W W1 → Below W1.heap.size W1 W2 → Enc W1 x vs W2 → YieldAt Fence.wide (m - 1) Try.prog l vs W2 fun e W' =>
      (e = .returned (.bool true) ∧ ∃ C', J (pre ++ [x]) C' W' ∧ Moves C C' W1 W') ∨ (e = .returned (.bool false) ∧ ∃ C', Jx (pre ++ [x]) C' W' ∧ Moves C C' W1 W')) →
    J [] C0 W → D W → (∀ k, F k → ¬ C0 k ∧ k < W.heap.size) →
    CallsIn Fence.wide m Try.prog gf (#[.func (.yield l) #[] #[]] ++ lb) W fun e W' => (∃ v, e = .returned v) ∧
      ((∃ C, J Z C W' ∧ Moves C0 C W W') ∨ ∃ pre x rest C, Z = pre ++ x :: rest ∧ Jx (pre ++ [x]) C W' ∧ Moves C0 C W W')

set_option maxHeartbeats 1000000 in
theorem wpIn_seqG {α : Type} {g : Operand} {ps : Array Tmp} {assign body : Code} {Q : Exit → Act → World → Prop} {a : Act} {w : World} {m gf : Nat} {lb : Array Value} {Enc : World → α → Array Value → World → Prop} {Z : List α} {F C0 : Nat → Prop} {D : World → Prop}
    (hseq : SeqG gf lb Enc Z F D) (hg : a.eval g = .func (.func gf) #[] lb) (eg : ∀ args w, (callFunc gf args).run Try.prog w = .ok (.enter gf args) w) (hps : ∀ W x vs W2, Enc W x vs W2 → vs.size = ps.size)
    (I : List α → (Nat → Prop) → World → Prop) (I1 : List α → α → Act → (Nat → Prop) → World → Prop) (Ix : Code → List α → (Nat → Prop) → World → Prop) (hI : SOk w.heap.size I) (hI1 : ∀ x a', SOk w.heap.size (fun pre => I1 pre x a')) (hIx : ∀ c, SOk w.heap.size (Ix c))
    (h0 : I [] C0 w) (hD : ∀ W, Below w.heap.size w W → D W) (hF : ∀ k, F k → ¬ C0 k ∧ k < w.heap.size)
    (hassign : ∀ (l : Nat) (pre : List α) (x : α) (rest : List α) (C : Nat → Prop) (W W2 : World) (vs : Array Value) (K : Act → World → Prop), l = w.heap.size + 1 → Z = pre ++ x :: rest → I pre C W → Moves C0 C w W → Below W.heap.size W W2 → Enc W x vs W2 → (∀ a' C' W', I1 pre x a' C' W' → Moves C C' W W' → K a' W') →
      assign.wpIn (Fence.wide.inRound l) (m - 1 - 1) Try.prog (Exit.then K (fun _ _ _ => False)) { tmps := (ps.zip vs).foldl (fun t (p, v) => t.setIfInBounds p v) a.tmps, defers := [] } W2)
    (hbody : ∀ (l : Nat) (pre : List α) (x : α) (rest : List α) (C : Nat → Prop) (a' : Act) (W : World), l = w.heap.size + 1 → Z = pre ++ x :: rest → I1 pre x a' C W → Moves C0 C w W → body.wpIn (Fence.wide.inRound l) (m - 1 - 1) Try.prog (seqPost I Ix (pre ++ [x]) C W) a' W)
    (hdone : ∀ (dd : Nat) (C : Nat → Prop) (W : World), w.heap.size ≤ dd → I Z C W → Moves C0 C w W → ¬ C dd → W.heap[dd]? = some (.deferred (some [])) → Q .normal { a with defers := { target := .collected dd, args := #[] } :: a.defers } W)
    (hstop : ∀ (dd : Nat) (c : Code) (pre : List α) (x : α) (rest : List α) (C : Nat → Prop) (W : World), w.heap.size ≤ dd → Z = pre ++ x :: rest → Ix c (pre ++ [x]) C W → Moves C0 C w W → ¬ C dd → W.heap[dd]? = some (.deferred (some [])) → c.wpIn Fence.wide m Try.prog Q { a with defers := { target := .collected dd, args := #[] } :: a.defers } W) :
    (Code.rangeFunc g ps assign body).wpIn Fence.wide m Try.prog Q a w := by
  refine wpIn_rangeFunc ?_
  intro fn hfn
  obtain ⟨rec, hrec⟩ : ∃ rec : LoopState → Option Code → Loop, rec = fun st pe => { state := st, pending := pe, fn, tmps := a.tmps, params := ps, assign, body, defers := w.heap.size } := ⟨_, rfl⟩
  obtain ⟨W1, hW1⟩ : ∃ W1, (w.alloc (.deferred (some []))).alloc (.loop (rec .ready none)) = W1 := ⟨_, rfl⟩
  have hL1 : W1.heap[w.heap.size + 1]? = some (.loop (rec .ready none)) := by
    rw [← hW1]; have := World.alloc_heap_new (w.alloc (.deferred (some []))) (.loop (rec .ready none)); rwa [World.size_alloc] at this
  have hK1 : W1.heap[w.heap.size]? = some (.deferred (some [])) := by
    rw [← hW1]; exact (Below.heap_alloc _ _ _ (by simp)).trans (World.alloc_heap_new w _)
  have hb1 : Below w.heap.size w W1 := by rw [← hW1]; exact ((Below.refl _ w).alloc (Nat.le_refl _) _).alloc (by simp) _
  have hC0 := hI.lt _ _ _ h0
  have hsz1 := hb1.size
  have hlt1 : w.heap.size + 1 < W1.heap.size := (Array.getElem?_eq_some_iff.1 hL1).1
  refine ⟨w.heap.size + 1, [{ target := .collected w.heap.size, args := #[] }], W1, { target := .fn (.func gf) lb, args := #[.func (.yield (w.heap.size + 1)) #[] #[]] }, W1, gf,
    #[.func (.yield (w.heap.size + 1)) #[] #[]] ++ lb, W1, ?_, ?_, ?_, ?_, fun h => (by cases h), ?_⟩
  · rw [← hW1, hrec]; exact run_enterLoop_outer _ _ _ _ _
  · simp only [resolve, hg]
    simp [go_sem]
  · intro f' hf'; trivial
  · simp [invoke, go_sem, eg]
  · have hJ : SOk W1.heap.size (SRec I C0 w (.loop (rec .ready none))) := SRec.ok hI C0 _ hsz1
    have hJx : SOk W1.heap.size (fun pre C W => ∃ c, SRec (Ix c) C0 w (.loop (rec .done (some c))) pre C W) :=
      ⟨fun pre C W W' G ⟨c, h⟩ h2 h3 h4 => ⟨c, (SRec.ok (hIx c) C0 _ hsz1).stays pre C W W' G h h2 h3 h4⟩, fun pre C W ⟨c, h⟩ => (SRec.ok (hIx c) C0 _ hsz1).lt pre C W h⟩
    have hst : SRec I C0 w (.loop (rec .ready none)) [] (fun k => C0 k ∨ k = w.heap.size ∨ k = w.heap.size + 1) W1 :=
      ⟨C0, hI.below h0 hb1, Moves.of_below hb1, fun hc => by have := hC0 _ hc; omega, fun hc => by have := hC0 _ hc; omega, fun _ => Iff.rfl, hL1, hK1⟩
    refine (hseq _ (fun pre C W => ∃ c, SRec (Ix c) C0 w (.loop (rec .done (some c))) pre C W) (w.heap.size + 1) (m - 1) _ W1 hJ hJx ?_ hst (hD W1 hb1) (fun k hk => ⟨fun hc => ?_, Nat.lt_of_lt_of_le (hF k hk).2 hsz1⟩)).mono ?_
    · -- one round
      rintro pre x rest C W WB vs hZ ⟨Ci, hi, hmi, hn1, hn2, hC, hl, hk⟩ _ hbB hen
      have hlt : w.heap.size + 1 < W.heap.size := (Array.getElem?_eq_some_iff.1 hl).1
      have hy := run_yield (P := Try.prog) (args := vs) ((hbB.block _ hlt).trans hl) (by rw [hrec]; exact hps W x vs WB hen)
      rw [hrec] at hy
      refine ⟨fn, _, assign, body, hy, roundIn_of_wpIn hfn (hassign _ pre x rest Ci W WB vs _ rfl hZ hi hmi hbB hen fun a' C2 W2 h2 hm2 => ?_)⟩
      have hn1' : ¬ C2 w.heap.size := fun hc => by
        rcases hm2.sub _ hc with h | h
        · exact hn1 h
        · omega
      have hn2' : ¬ C2 (w.heap.size + 1) := fun hc => by
        rcases hm2.sub _ hc with h | h
        · exact hn2 h
        · omega
      have hl2 : W2.heap[w.heap.size + 1]? = some (.loop (rec .ready none)) := (hm2.keep.block _ hlt hn2).trans hl
      have hk2 : W2.heap[w.heap.size]? = some (.deferred (some [])) := (hm2.keep.block _ (by omega) hn1).trans hk
      have hlt2 : w.heap.size + 1 < W2.heap.size := (Array.getElem?_eq_some_iff.1 hl2).1
      refine ⟨_, run_beginRound hl2 (by rw [hrec]), ?_⟩
      have hl3 : (W2.putObj (w.heap.size + 1) (.loop { rec .ready none with state := .busy })).heap[w.heap.size + 1]? = some (.loop { rec .ready none with state := .busy }) := World.putObj_heap_same hlt2
      have hk3 : (W2.putObj (w.heap.size + 1) (.loop { rec .ready none with state := .busy })).heap[w.heap.size]? = some (.deferred (some [])) := (World.putObj_heap_other (by omega)).trans hk2
      have hp3 := keep_put W2 (w.heap.size + 1) (.loop { rec .ready none with state := .busy })
      have hm3 : Moves C0 C2 w (W2.putObj (w.heap.size + 1) (.loop { rec .ready none with state := .busy })) := ⟨(hmi.trans hm2).keep.trans hp3 (fun k e => Or.inr (by omega)), (hmi.trans hm2).sub⟩
      refine wpIn_mono (hbody _ pre x rest C2 a' _ rfl hZ ((hI1 x a').stays _ _ _ _ _ h2 hp3 (fun k hc e => hn2' (e ▸ hc)) (fun k e => by omega)) hm3) ?_
      -- behind the body
      have fin : ∀ (jump : Option Code) (W4 : World) (C4 : Nat → Prop), Moves C2 C4 (W2.putObj (w.heap.size + 1) (.loop { rec .ready none with state := .busy })) W4 →
          (Instr.endRound (w.heap.size + 1) jump).run Try.prog W4 = .ok (.bool jump.isNone) (W4.putObj (w.heap.size + 1) (.loop (rec (if jump.isNone then .ready else .done) jump))) ∧
          ¬ C4 w.heap.size ∧ ¬ C4 (w.heap.size + 1) ∧
          (W4.putObj (w.heap.size + 1) (.loop (rec (if jump.isNone then .ready else .done) jump))).heap[w.heap.size + 1]? = some (.loop (rec (if jump.isNone then .ready else .done) jump)) ∧
          (W4.putObj (w.heap.size + 1) (.loop (rec (if jump.isNone then .ready else .done) jump))).heap[w.heap.size]? = some (.deferred (some [])) ∧
          Moves C (fun k => C4 k ∨ k = w.heap.size ∨ k = w.heap.size + 1) W (W4.putObj (w.heap.size + 1) (.loop (rec (if jump.isNone then .ready else .done) jump))) ∧
          Moves C0 C4 w (W4.putObj (w.heap.size + 1) (.loop (rec (if jump.isNone then .ready else .done) jump))) := fun jump W4 C4 hm4 => by
        have hsz3 := hp3.size
        have hl4 := (hm4.keep.block _ (by omega) hn2').trans hl3
        have hk4 := (hm4.keep.block _ (by omega) hn1').trans hk3
        have := run_endRound (P := Try.prog) jump hl4
        rw [hrec] at this ⊢
        refine ⟨this, fun hc => ?_, fun hc => ?_, World.putObj_heap_same (Array.getElem?_eq_some_iff.1 hl4).1, (World.putObj_heap_other (by omega)).trans hk4, ⟨?_, fun k hk => ?_⟩, ?_⟩
        · rcases hm4.sub _ hc with h | h
          · exact hn1' h
          · omega
        · rcases hm4.sub _ hc with h | h
          · exact hn2' h
          · omega
        · have k1 : Keep C W W2 := hm2.keep.weak (fun k hc => (hC k).2 (Or.inl hc))
          have k2 := k1.trans hp3 (fun k e => Or.inl ((hC k).2 (Or.inr (Or.inr e))))
          have k3 := k2.trans hm4.keep (fun k hc => by
            rcases hm2.sub k hc with h | h
            · exact Or.inl ((hC k).2 (Or.inl h))
            · exact Or.inr h)
          exact k3.trans (keep_put W4 (w.heap.size + 1) _) (fun k e => Or.inl ((hC k).2 (Or.inr (Or.inr e))))
        · have hWs : W.heap.size ≤ W2.heap.size := hm2.keep.size
          rcases hk with hk | hk | hk
          · rcases hm4.sub k hk with h | h
            · rcases hm2.sub k h with h' | h'
              · exact Or.inl ((hC k).2 (Or.inl h'))
              · exact Or.inr h'
            · exact Or.inr (by omega)
          · exact Or.inl ((hC k).2 (Or.inr (Or.inl hk)))
          · exact Or.inl ((hC k).2 (Or.inr (Or.inr hk)))
        · have h5 := hm3.trans hm4
          exact ⟨h5.keep.trans (keep_put W4 _ _) (fun k e => Or.inr (by omega)), h5.sub⟩
      have put : ∀ (II : List α → (Nat → Prop) → World → Prop), SOk w.heap.size II → ∀ (xs : List α) (C4 : Nat → Prop) (W4 : World) (o : Obj), II xs C4 W4 → ¬ C4 (w.heap.size + 1) → II xs C4 (W4.putObj (w.heap.size + 1) o) := fun II hII xs C4 W4 o h hn => hII.stays _ _ _ _ _ h (keep_put W4 _ o) (fun k hc e => hn (e ▸ hc)) (fun k e => by omega)
      rintro e a3 W4 hp
      cases e with
      | normal =>
        obtain ⟨C4, hi4, hm4⟩ := hp
        obtain ⟨hr, f1, f2, f3, f4, f5, f6⟩ := fin none W4 C4 hm4
        exact ⟨_, _, hr, .inl ⟨rfl, _, ⟨C4, put I hI _ _ _ _ hi4 f2, f6, f1, f2, fun _ => Iff.rfl, f3, f4⟩, f5⟩⟩
      | ret =>
        obtain ⟨C4, hi4, hm4⟩ := hp
        obtain ⟨hr, f1, f2, f3, f4, f5, f6⟩ := fin (some .ret) W4 C4 hm4
        exact ⟨_, _, hr, .inr ⟨rfl, _, ⟨.ret, C4, put _ (hIx _) _ _ _ _ hi4 f2, f6, f1, f2, fun _ => Iff.rfl, f3, f4⟩, f5⟩⟩
      | exit id =>
        obtain ⟨C4, hi4, hm4⟩ := hp
        obtain ⟨hr, f1, f2, f3, f4, f5, f6⟩ := fin (some (.exit id)) W4 C4 hm4
        exact ⟨_, _, hr, .inr ⟨rfl, _, ⟨.exit id, C4, put _ (hIx _) _ _ _ _ hi4 f2, f6, f1, f2, fun _ => Iff.rfl, f3, f4⟩, f5⟩⟩
      | goto t =>
        obtain ⟨C4, hi4, hm4⟩ := hp
        obtain ⟨hr, f1, f2, f3, f4, f5, f6⟩ := fin (some (.goto t)) W4 C4 hm4
        exact ⟨_, _, hr, .inr ⟨rfl, _, ⟨.goto t, C4, put _ (hIx _) _ _ _ _ hi4 f2, f6, f1, f2, fun _ => Iff.rfl, f3, f4⟩, f5⟩⟩
      | panic ch => exact hp.elim
      | outgrown => exact hp.elim
    · rcases hc with hc | hc | hc
      · exact (hF k hk).1 hc
      · have := (hF k hk).2; omega
      · have := (hF k hk).2; omega
    · -- behind the iterator
      have last : ∀ (Ci : Nat → Prop) (W2 : World) (o : Obj), Moves C0 Ci w W2 → Moves C0 Ci w (W2.putObj (w.heap.size + 1) o) := fun Ci W2 o hm => ⟨hm.keep.trans (keep_put W2 _ o) (fun k e => Or.inr (by omega)), hm.sub⟩
      rintro e W2 ⟨⟨v, rfl⟩, ⟨C, ⟨Ci, hi, hmi, hn1, hn2, hC, hl, hk⟩, hm⟩ | ⟨pre, x, rest, C, hZ, ⟨c, Ci, hi, hmi, hn1, hn2, hC, hl, hk⟩, hm⟩⟩
      · exact ⟨none, _, by have := run_endLoop (P := Try.prog) hl (by rw [hrec]; simp); rw [hrec] at this; exact this,
          hdone w.heap.size Ci _ (Nat.le_refl _) (hI.stays _ _ _ _ _ hi (keep_put W2 (w.heap.size + 1) _) (fun k hc e => hn2 (e ▸ hc)) (fun k e => by omega)) (last Ci W2 _ hmi) hn1 ((World.putObj_heap_other (by omega)).trans hk)⟩
      · exact ⟨some c, _, by have := run_endLoop (P := Try.prog) hl (by rw [hrec]; simp); rw [hrec] at this; exact this,
          hstop w.heap.size c pre x rest Ci _ (Nat.le_refl _) hZ ((hIx c).stays _ _ _ _ _ hi (keep_put W2 (w.heap.size + 1) _) (fun k hc e => hn2 (e ▸ hc)) (fun k e => by omega)) (last Ci W2 _ hmi) hn1 ((World.putObj_heap_other (by omega)).trans hk)⟩

/-- The same, a round as one walk: the assignment to the loop's variables, and the body behind it. -/
theorem wpIn_seqGR {α : Type} {g : Operand} {ps : Array Tmp} {assign body : Code} {Q : Exit → Act → World → Prop} {a : Act} {w : World} {m gf : Nat} {lb : Array Value} {Enc : World → α → Array Value → World → Prop} {Z : List α} {F C0 : Nat → Prop} {D : World → Prop}
    (hseq : SeqG gf lb Enc Z F D) (hg : a.eval g = .func (.func gf) #[] lb) (eg : ∀ args w, (callFunc gf args).run Try.prog w = .ok (.enter gf args) w) (hps : ∀ W x vs W2, Enc W x vs W2 → vs.size = ps.size)
    (I : List α → (Nat → Prop) → World → Prop) (Ix : Code → List α → (Nat → Prop) → World → Prop) (hI : SOk w.heap.size I) (hIx : ∀ c, SOk w.heap.size (Ix c))
    (h0 : I [] C0 w) (hD : ∀ W, Below w.heap.size w W → D W) (hF : ∀ k, F k → ¬ C0 k ∧ k < w.heap.size)
    (hround : ∀ (l : Nat) (pre : List α) (x : α) (rest : List α) (C : Nat → Prop) (W W2 : World) (vs : Array Value), Z = pre ++ x :: rest → I pre C W → Moves C0 C w W → Below W.heap.size W W2 → Enc W x vs W2 →
      assign.wpIn (Fence.wide.inRound l) (m - 1 - 1) Try.prog (Exit.then (fun a' W' => ∃ (J : (Nat → Prop) → World → Prop) (C' : Nat → Prop), SOk w.heap.size (fun (_ : List α) => J) ∧ J C' W' ∧ Moves C C' W W' ∧
        ∀ W'', J C' W'' → Moves C0 C' w W'' → body.wpIn (Fence.wide.inRound l) (m - 1 - 1) Try.prog (seqPost I Ix (pre ++ [x]) C' W'') a' W'') (fun _ _ _ => False)) { tmps := (ps.zip vs).foldl (fun t (p, v) => t.setIfInBounds p v) a.tmps, defers := [] } W2)
    (hdone : ∀ (dd : Nat) (C : Nat → Prop) (W : World), w.heap.size ≤ dd → I Z C W → Moves C0 C w W → ¬ C dd → W.heap[dd]? = some (.deferred (some [])) → Q .normal { a with defers := { target := .collected dd, args := #[] } :: a.defers } W)
    (hstop : ∀ (dd : Nat) (c : Code) (pre : List α) (x : α) (rest : List α) (C : Nat → Prop) (W : World), w.heap.size ≤ dd → Z = pre ++ x :: rest → Ix c (pre ++ [x]) C W → Moves C0 C w W → ¬ C dd → W.heap[dd]? = some (.deferred (some [])) → c.wpIn Fence.wide m Try.prog Q { a with defers := { target := .collected dd, args := #[] } :: a.defers } W) :
    (Code.rangeFunc g ps assign body).wpIn Fence.wide m Try.prog Q a w := by
  refine wpIn_seqG hseq hg eg hps I (fun pre x a' C' W' => ∃ (J : (Nat → Prop) → World → Prop), SOk w.heap.size (fun (_ : List α) => J) ∧ J C' W' ∧ ∀ W'', J C' W'' → Moves C0 C' w W'' → body.wpIn (Fence.wide.inRound (w.heap.size + 1)) (m - 1 - 1) Try.prog (seqPost I Ix (pre ++ [x]) C' W'') a' W'') Ix hI ?_ hIx h0 hD hF ?_ ?_ hdone hstop
  · refine fun x a' => ⟨fun pre C W W' G h hk hn hg => ?_, fun pre C W h k hc => ?_⟩
    · obtain ⟨J, h1, h2, h3⟩ := h
      exact ⟨J, h1, h1.stays [] _ _ _ G h2 hk hn hg, h3⟩
    · obtain ⟨J, h1, h2, h3⟩ := h
      exact h1.lt [] _ _ h2 k hc
  · rintro l pre x rest C W WB vs K rfl hZ hi hm hbB hen hK
    refine wpIn_mono (hround _ pre x rest C W WB vs hZ hi hm hbB hen) ?_
    rintro e a2 W2 h
    cases e with
    | normal =>
      obtain ⟨J, C', h1, h2, h3, h4⟩ := h
      exact hK _ C' _ ⟨J, h1, h2, h4⟩ h3
    | _ => exact h
  · rintro l pre x rest C a' W rfl hZ ⟨J, h1, h2, h3⟩ hm
    exact h3 W h2 hm
end Go.Proofs.Ytcjepiihknjeiaa

/- A range over a function that makes what it tells, in blocks that need not be new since the last round: as SeqLaw2, but the telling says that these are not the caller's own. -/
namespace Go.Proofs.Ytcjepiihknjeiaa
open Go.RowKit Go.Shelf
attribute [local go_sem] Oper.semAt_some

/-- An iterator, where what it reads (D) lies in blocks F: it tells Z, one behind the other, up to a round that says no more; it writes new blocks alone. What it tells (vs, behind the world W1) may lie in new blocks: Enc says how. -/
def SeqH {α : Type} (gf : Nat) (lb : Array Value) (Enc : (Nat → Prop) → World → α → Array Value → World → Prop) (Z : List α) (F : Nat → Prop) (D : World → Prop) : Prop :=
  ∀ (J Jx : List α → (Nat → Prop) → World → Prop) (l m : Nat) (C0 : Nat → Prop) (W : World), SOk W.heap.size J → SOk W.heap.size Jx →
    (∀ pre x rest C W1 W2 vs, Z = pre ++ x :: rest → J pre C W1 → Moves C0 C W W1 → Below W1.heap.size W1 W2 → Enc C W1 x vs W2 → YieldAt Fence.wide (m - 1) Try.prog l vs W2 fun e W' =>
      (e = .returned (.bool true) ∧ ∃ C', J (pre ++ [x]) C' W' ∧ Moves C C' W1 W') ∨ (e = .returned (.bool false) ∧ ∃ C', Jx (pre ++ [x]) C' W' ∧ Moves C C' W1 W')) →
    J [] C0 W → D W → (∀ k, F k → ¬ C0 k ∧ k < W.heap.size) →
    CallsIn Fence.wide m Try.prog gf (#[.func (.yield l) #[] #[]] ++ lb) W fun e W' => (∃ v, e = .returned v) ∧
      ((∃ C, J Z C W' ∧ Moves C0 C W W') ∨ ∃ pre x rest C, Z = pre ++ x :: rest ∧ Jx (pre ++ [x]) C W' ∧ Moves C0 C W W')

set_option maxHeartbeats 1000000 in
theorem wpIn_seqH {α : Type} {g : Operand} {ps : Array Tmp} {assign body : Code} {Q : Exit → Act → World → Prop} {a : Act} {w : World} {m gf : Nat} {lb : Array Value} {Enc : (Nat → Prop) → World → α → Array Value → World → Prop} {Z : List α} {F C0 : Nat → Prop} {D : World → Prop}
    (hseq : SeqH gf lb Enc Z F D) (hg : a.eval g = .func (.func gf) #[] lb) (eg : ∀ args w, (callFunc gf args).run Try.prog w = .ok (.enter gf args) w) (hps : ∀ C W x vs W2, Enc C W x vs W2 → vs.size = ps.size)
    (I : List α → (Nat → Prop) → World → Prop) (I1 : List α → α → Act → (Nat → Prop) → World → Prop) (Ix : Code → List α → (Nat → Prop) → World → Prop) (hI : SOk w.heap.size I) (hI1 : ∀ pre x a' C W o, I1 pre x a' C W → ¬ C (w.heap.size + 1) → I1 pre x a' C (W.putObj (w.heap.size + 1) o)) (hIx : ∀ c, SOk w.heap.size (Ix c))
    (h0 : I [] C0 w) (hD : ∀ W, Below w.heap.size w W → D W) (hF : ∀ k, F k → ¬ C0 k ∧ k < w.heap.size)
    (hassign : ∀ (l : Nat) (pre : List α) (x : α) (rest : List α) (C : Nat → Prop) (W W2 : World) (vs : Array Value) (K : Act → World → Prop), l = w.heap.size + 1 → Z = pre ++ x :: rest → I pre C W → Moves C0 C w W → w.heap.size + 1 < W.heap.size → Below W.heap.size W W2 → Enc (fun k => C k ∨ k = w.heap.size ∨ k = w.heap.size + 1) W x vs W2 → (∀ a' C' W', I1 pre x a' C' W' → Moves C C' W W' → K a' W') →
      assign.wpIn (Fence.wide.inRound l) (m - 1 - 1) Try.prog (Exit.then K (fun _ _ _ => False)) { tmps := (ps.zip vs).foldl (fun t (p, v) => t.setIfInBounds p v) a.tmps, defers := [] } W2)
    (hbody : ∀ (l : Nat) (pre : List α) (x : α) (rest : List α) (C : Nat → Prop) (a' : Act) (W : World), l = w.heap.size + 1 → Z = pre ++ x :: rest → I1 pre x a' C W → Moves C0 C w W → body.wpIn (Fence.wide.inRound l) (m - 1 - 1) Try.prog (seqPost I Ix (pre ++ [x]) C W) a' W)
    (hdone : ∀ (dd : Nat) (C : Nat → Prop) (W : World), w.heap.size ≤ dd → I Z C W → Moves C0 C w W → ¬ C dd → W.heap[dd]? = some (.deferred (some [])) → Q .normal { a with defers := { target := .collected dd, args := #[] } :: a.defers } W)
    (hstop : ∀ (dd : Nat) (c : Code) (pre : List α) (x : α) (rest : List α) (C : Nat → Prop) (W : World), w.heap.size ≤ dd → Z = pre ++ x :: rest → Ix c (pre ++ [x]) C W → Moves C0 C w W → ¬ C dd → W.heap[dd]? = some (.deferred (some [])) → c.wpIn Fence.wide m Try.prog Q { a with defers := { target := .collected dd, args := #[] } :: a.defers } W) :
    (Code.rangeFunc g ps assign body).wpIn Fence.wide m Try.prog Q a w := by
  refine wpIn_rangeFunc ?_
  intro fn hfn
  obtain ⟨rec, hrec⟩ : ∃ rec : LoopState → Option Code → Loop, rec = fun st pe => { state := st, pending := pe, fn, tmps := a.tmps, params := ps, assign, body, defers := w.heap.size } := ⟨_, rfl⟩
  obtain ⟨W1, hW1⟩ : ∃ W1, (w.alloc (.deferred (some []))).alloc (.loop (rec .ready none)) = W1 := ⟨_, rfl⟩
  have hL1 : W1.heap[w.heap.size + 1]? = some (.loop (rec .ready none)) := by
    rw [← hW1]; have := World.alloc_heap_new (w.alloc (.deferred (some []))) (.loop (rec .ready none)); rwa [World.size_alloc] at this
  have hK1 : W1.heap[w.heap.size]? = some (.deferred (some [])) := by
    rw [← hW1]; exact (Below.heap_alloc _ _ _ (by simp)).trans (World.alloc_heap_new w _)
  have hb1 : Below w.heap.size w W1 := by rw [← hW1]; exact ((Below.refl _ w).alloc (Nat.le_refl _) _).alloc (by simp) _
  have hC0 := hI.lt _ _ _ h0
  have hsz1 := hb1.size
  have hlt1 : w.heap.size + 1 < W1.heap.size := (Array.getElem?_eq_some_iff.1 hL1).1
  refine ⟨w.heap.size + 1, [{ target := .collected w.heap.size, args := #[] }], W1, { target := .fn (.func gf) lb, args := #[.func (.yield (w.heap.size + 1)) #[] #[]] }, W1, gf,
    #[.func (.yield (w.heap.size + 1)) #[] #[]] ++ lb, W1, ?_, ?_, ?_, ?_, fun h => (by cases h), ?_⟩
  · rw [← hW1, hrec]; exact run_enterLoop_outer _ _ _ _ _
  · simp only [resolve, hg]
    simp [go_sem]
  · intro f' hf'; trivial
  · simp [invoke, go_sem, eg]
  · have hJ : SOk W1.heap.size (SRec I C0 w (.loop (rec .ready none))) := SRec.ok hI C0 _ hsz1
    have hJx : SOk W1.heap.size (fun pre C W => ∃ c, SRec (Ix c) C0 w (.loop (rec .done (some c))) pre C W) :=
      ⟨fun pre C W W' G ⟨c, h⟩ h2 h3 h4 => ⟨c, (SRec.ok (hIx c) C0 _ hsz1).stays pre C W W' G h h2 h3 h4⟩, fun pre C W ⟨c, h⟩ => (SRec.ok (hIx c) C0 _ hsz1).lt pre C W h⟩
    have hst : SRec I C0 w (.loop (rec .ready none)) [] (fun k => C0 k ∨ k = w.heap.size ∨ k = w.heap.size + 1) W1 :=
      ⟨C0, hI.below h0 hb1, Moves.of_below hb1, fun hc => by have := hC0 _ hc; omega, fun hc => by have := hC0 _ hc; omega, fun _ => Iff.rfl, hL1, hK1⟩
    refine (hseq _ (fun pre C W => ∃ c, SRec (Ix c) C0 w (.loop (rec .done (some c))) pre C W) (w.heap.size + 1) (m - 1) _ W1 hJ hJx ?_ hst (hD W1 hb1) (fun k hk => ⟨fun hc => ?_, Nat.lt_of_lt_of_le (hF k hk).2 hsz1⟩)).mono ?_
    · -- one round
      rintro pre x rest C W WB vs hZ ⟨Ci, hi, hmi, hn1, hn2, hC, hl, hk⟩ _ hbB hen
      have hlt : w.heap.size + 1 < W.heap.size := (Array.getElem?_eq_some_iff.1 hl).1
      have hCE : C = fun k => Ci k ∨ k = w.heap.size ∨ k = w.heap.size + 1 := funext fun k => propext (hC k)
      have hy := run_yield (P := Try.prog) (args := vs) ((hbB.block _ hlt).trans hl) (by rw [hrec]; exact hps C W x vs WB hen)
      rw [hrec] at hy
      refine ⟨fn, _, assign, body, hy, roundIn_of_wpIn hfn (hassign _ pre x rest Ci W WB vs _ rfl hZ hi hmi hlt hbB (by rw [← hCE]; exact hen) fun a' C2 W2 h2 hm2 => ?_)⟩
      have hn1' : ¬ C2 w.heap.size := fun hc => by
        rcases hm2.sub _ hc with h | h
        · exact hn1 h
        · omega
      have hn2' : ¬ C2 (w.heap.size + 1) := fun hc => by
        rcases hm2.sub _ hc with h | h
        · exact hn2 h
        · omega
      have hl2 : W2.heap[w.heap.size + 1]? = some (.loop (rec .ready none)) := (hm2.keep.block _ hlt hn2).trans hl
      have hk2 : W2.heap[w.heap.size]? = some (.deferred (some [])) := (hm2.keep.block _ (by omega) hn1).trans hk
      have hlt2 : w.heap.size + 1 < W2.heap.size := (Array.getElem?_eq_some_iff.1 hl2).1
      refine ⟨_, run_beginRound hl2 (by rw [hrec]), ?_⟩
      have hl3 : (W2.putObj (w.heap.size + 1) (.loop { rec .ready none with state := .busy })).heap[w.heap.size + 1]? = some (.loop { rec .ready none with state := .busy }) := World.putObj_heap_same hlt2
      have hk3 : (W2.putObj (w.heap.size + 1) (.loop { rec .ready none with state := .busy })).heap[w.heap.size]? = some (.deferred (some [])) := (World.putObj_heap_other (by omega)).trans hk2
      have hp3 := keep_put W2 (w.heap.size + 1) (.loop { rec .ready none with state := .busy })
      have hm3 : Moves C0 C2 w (W2.putObj (w.heap.size + 1) (.loop { rec .ready none with state := .busy })) := ⟨(hmi.trans hm2).keep.trans hp3 (fun k e => Or.inr (by omega)), (hmi.trans hm2).sub⟩
      refine wpIn_mono (hbody _ pre x rest C2 a' _ rfl hZ (hI1 _ x a' _ _ _ h2 hn2') hm3) ?_
      -- behind the body
      have fin : ∀ (jump : Option Code) (W4 : World) (C4 : Nat → Prop), Moves C2 C4 (W2.putObj (w.heap.size + 1) (.loop { rec .ready none with state := .busy })) W4 →
          (Instr.endRound (w.heap.size + 1) jump).run Try.prog W4 = .ok (.bool jump.isNone) (W4.putObj (w.heap.size + 1) (.loop (rec (if jump.isNone then .ready else .done) jump))) ∧
          ¬ C4 w.heap.size ∧ ¬ C4 (w.heap.size + 1) ∧
          (W4.putObj (w.heap.size + 1) (.loop (rec (if jump.isNone then .ready else .done) jump))).heap[w.heap.size + 1]? = some (.loop (rec (if jump.isNone then .ready else .done) jump)) ∧
          (W4.putObj (w.heap.size + 1) (.loop (rec (if jump.isNone then .ready else .done) jump))).heap[w.heap.size]? = some (.deferred (some [])) ∧
          Moves C (fun k => C4 k ∨ k = w.heap.size ∨ k = w.heap.size + 1) W (W4.putObj (w.heap.size + 1) (.loop (rec (if jump.isNone then .ready else .done) jump))) ∧
          Moves C0 C4 w (W4.putObj (w.heap.size + 1) (.loop (rec (if jump.isNone then .ready else .done) jump))) := fun jump W4 C4 hm4 => by
        have hsz3 := hp3.size
        have hl4 := (hm4.keep.block _ (by omega) hn2').trans hl3
        have hk4 := (hm4.keep.block _ (by omega) hn1').trans hk3
        have := run_endRound (P := Try.prog) jump hl4
        rw [hrec] at this ⊢
        refine ⟨this, fun hc => ?_, fun hc => ?_, World.putObj_heap_same (Array.getElem?_eq_some_iff.1 hl4).1, (World.putObj_heap_other (by omega)).trans hk4, ⟨?_, fun k hk => ?_⟩, ?_⟩
        · rcases hm4.sub _ hc with h | h
          · exact hn1' h
          · omega
        · rcases hm4.sub _ hc with h | h
          · exact hn2' h
          · omega
        · have k1 : Keep C W W2 := hm2.keep.weak (fun k hc => (hC k).2 (Or.inl hc))
          have k2 := k1.trans hp3 (fun k e => Or.inl ((hC k).2 (Or.inr (Or.inr e))))
          have k3 := k2.trans hm4.keep (fun k hc => by
            rcases hm2.sub k hc with h | h
            · exact Or.inl ((hC k).2 (Or.inl h))
            · exact Or.inr h)
          exact k3.trans (keep_put W4 (w.heap.size + 1) _) (fun k e => Or.inl ((hC k).2 (Or.inr (Or.inr e))))
        · have hWs : W.heap.size ≤ W2.heap.size := hm2.keep.size
          rcases hk with hk | hk | hk
          · rcases hm4.sub k hk with h | h
            · rcases hm2.sub k h with h' | h'
              · exact Or.inl ((hC k).2 (Or.inl h'))
              · exact Or.inr h'
            · exact Or.inr (by omega)
          · exact Or.inl ((hC k).2 (Or.inr (Or.inl hk)))
          · exact Or.inl ((hC k).2 (Or.inr (Or.inr hk)))
        · have h5 := hm3.trans hm4
          exact ⟨h5.keep.trans (keep_put W4 _ _) (fun k e => Or.inr (by omega)), h5.sub⟩
      have put : ∀ (II : List α → (Nat → Prop) → World → Prop), SOk w.heap.size II → ∀ (xs : List α) (C4 : Nat → Prop) (W4 : World) (o : Obj), II xs C4 W4 → ¬ C4 (w.heap.size + 1) → II xs C4 (W4.putObj (w.heap.size + 1) o) := fun II hII xs C4 W4 o h hn => hII.stays _ _ _ _ _ h (keep_put W4 _ o) (fun k hc e => hn (e ▸ hc)) (fun k e => by omega)
      rintro e a3 W4 hp
      cases e with
      | normal =>
        obtain ⟨C4, hi4, hm4⟩ := hp
        obtain ⟨hr, f1, f2, f3, f4, f5, f6⟩ := fin none W4 C4 hm4
        exact ⟨_, _, hr, .inl ⟨rfl, _, ⟨C4, put I hI _ _ _ _ hi4 f2, f6, f1, f2, fun _ => Iff.rfl, f3, f4⟩, f5⟩⟩
      | ret =>
        obtain ⟨C4, hi4, hm4⟩ := hp
        obtain ⟨hr, f1, f2, f3, f4, f5, f6⟩ := fin (some .ret) W4 C4 hm4
        exact ⟨_, _, hr, .inr ⟨rfl, _, ⟨.ret, C4, put _ (hIx _) _ _ _ _ hi4 f2, f6, f1, f2, fun _ => Iff.rfl, f3, f4⟩, f5⟩⟩
      | exit id =>
        obtain ⟨C4, hi4, hm4⟩ := hp
        obtain ⟨hr, f1, f2, f3, f4, f5, f6⟩ := fin (some (.exit id)) W4 C4 hm4
        exact ⟨_, _, hr, .inr ⟨rfl, _, ⟨.exit id, C4, put _ (hIx _) _ _ _ _ hi4 f2, f6, f1, f2, fun _ => Iff.rfl, f3, f4⟩, f5⟩⟩
      | goto t =>
        obtain ⟨C4, hi4, hm4⟩ := hp
        obtain ⟨hr, f1, f2, f3, f4, f5, f6⟩ := fin (some (.goto t)) W4 C4 hm4
        exact ⟨_, _, hr, .inr ⟨rfl, _, ⟨.goto t, C4, put _ (hIx _) _ _ _ _ hi4 f2, f6, f1, f2, fun _ => Iff.rfl, f3, f4⟩, f5⟩⟩
      | panic ch => exact hp.elim
      | outgrown => exact hp.elim
    · rcases hc with hc | hc | hc
      · exact (hF k hk).1 hc
      · have := (hF k hk).2; omega
      · have := (hF k hk).2; omega
    · -- behind the iterator
      have last : ∀ (Ci : Nat → Prop) (W2 : World) (o : Obj), Moves C0 Ci w W2 → Moves C0 Ci w (W2.putObj (w.heap.size + 1) o) := fun Ci W2 o hm => ⟨hm.keep.trans (keep_put W2 _ o) (fun k e => Or.inr (by omega)), hm.sub⟩
      rintro e W2 ⟨⟨v, rfl⟩, ⟨C, ⟨Ci, hi, hmi, hn1, hn2, hC, hl, hk⟩, hm⟩ | ⟨pre, x, rest, C, hZ, ⟨c, Ci, hi, hmi, hn1, hn2, hC, hl, hk⟩, hm⟩⟩
      · exact ⟨none, _, by have := run_endLoop (P := Try.prog) hl (by rw [hrec]; simp); rw [hrec] at this; exact this,
          hdone w.heap.size Ci _ (Nat.le_refl _) (hI.stays _ _ _ _ _ hi (keep_put W2 (w.heap.size + 1) _) (fun k hc e => hn2 (e ▸ hc)) (fun k e => by omega)) (last Ci W2 _ hmi) hn1 ((World.putObj_heap_other (by omega)).trans hk)⟩
      · exact ⟨some c, _, by have := run_endLoop (P := Try.prog) hl (by rw [hrec]; simp); rw [hrec] at this; exact this,
          hstop w.heap.size c pre x rest Ci _ (Nat.le_refl _) hZ ((hIx c).stays _ _ _ _ _ hi (keep_put W2 (w.heap.size + 1) _) (fun k hc e => hn2 (e ▸ hc)) (fun k e => by omega)) (last Ci W2 _ hmi) hn1 ((World.putObj_heap_other (by omega)).trans hk)⟩

/-- The same, a round as one walk: the assignment to the loop's variables, and the body behind it. -/
theorem wpIn_seqHR {α : Type} {g : Operand} {ps : Array Tmp} {assign body : Code} {Q : Exit → Act → World → Prop} {a : Act} {w : World} {m gf : Nat} {lb : Array Value} {Enc : (Nat → Prop) → World → α → Array Value → World → Prop} {Z : List α} {F C0 : Nat → Prop} {D : World → Prop}
    (hseq : SeqH gf lb Enc Z F D) (hg : a.eval g = .func (.func gf) #[] lb) (eg : ∀ args w, (callFunc gf args).run Try.prog w = .ok (.enter gf args) w) (hps : ∀ C W x vs W2, Enc C W x vs W2 → vs.size = ps.size)
    (I : List α → (Nat → Prop) → World → Prop) (Ix : Code → List α → (Nat → Prop) → World → Prop) (hI : SOk w.heap.size I) (hIx : ∀ c, SOk w.heap.size (Ix c))
    (h0 : I [] C0 w) (hD : ∀ W, Below w.heap.size w W → D W) (hF : ∀ k, F k → ¬ C0 k ∧ k < w.heap.size)
    (hround : ∀ (l : Nat) (pre : List α) (x : α) (rest : List α) (C : Nat → Prop) (W W2 : World) (vs : Array Value), Z = pre ++ x :: rest → I pre C W → Moves C0 C w W → w.heap.size + 1 < W.heap.size → Below W.heap.size W W2 → Enc (fun k => C k ∨ k = w.heap.size ∨ k = w.heap.size + 1) W x vs W2 →
      assign.wpIn (Fence.wide.inRound l) (m - 1 - 1) Try.prog (Exit.then (fun a' W' => ∃ (J : (Nat → Prop) → World → Prop) (C' : Nat → Prop), (¬ C' (w.heap.size + 1) → ∀ X o, J C' X → J C' (X.putObj (w.heap.size + 1) o)) ∧ J C' W' ∧ Moves C C' W W' ∧
        ∀ W'', J C' W'' → Moves C0 C' w W'' → body.wpIn (Fence.wide.inRound l) (m - 1 - 1) Try.prog (seqPost I Ix (pre ++ [x]) C' W'') a' W'') (fun _ _ _ => False)) { tmps := (ps.zip vs).foldl (fun t (p, v) => t.setIfInBounds p v) a.tmps, defers := [] } W2)
    (hdone : ∀ (dd : Nat) (C : Nat → Prop) (W : World), w.heap.size ≤ dd → I Z C W → Moves C0 C w W → ¬ C dd → W.heap[dd]? = some (.deferred (some [])) → Q .normal { a with defers := { target := .collected dd, args := #[] } :: a.defers } W)
    (hstop : ∀ (dd : Nat) (c : Code) (pre : List α) (x : α) (rest : List α) (C : Nat → Prop) (W : World), w.heap.size ≤ dd → Z = pre ++ x :: rest → Ix c (pre ++ [x]) C W → Moves C0 C w W → ¬ C dd → W.heap[dd]? = some (.deferred (some [])) → c.wpIn Fence.wide m Try.prog Q { a with defers := { target := .collected dd, args := #[] } :: a.defers } W) :
    (Code.rangeFunc g ps assign body).wpIn Fence.wide m Try.prog Q a w := by
  refine wpIn_seqH hseq hg eg hps I (fun pre x a' C' W' => ∃ (J : (Nat → Prop) → World → Prop), (¬ C' (w.heap.size + 1) → ∀ X o, J C' X → J C' (X.putObj (w.heap.size + 1) o)) ∧ J C' W' ∧ ∀ W'', J C' W'' → Moves C0 C' w W'' → body.wpIn (Fence.wide.inRound (w.heap.size + 1)) (m - 1 - 1) Try.prog (seqPost I Ix (pre ++ [x]) C' W'') a' W'') Ix hI ?_ hIx h0 hD hF ?_ ?_ hdone hstop
  · rintro pre x a' C W o ⟨J, h1, h2, h3⟩ hn
    exact ⟨J, h1, h1 hn _ _ h2, h3⟩
  · rintro l pre x rest C W WB vs K rfl hZ hi hm hlt hbB hen hK
    refine wpIn_mono (hround _ pre x rest C W WB vs hZ hi hm hlt hbB hen) ?_
    rintro e a2 W2 h
    cases e with
    | normal =>
      obtain ⟨J, C', h1, h2, h3, h4⟩ := h
      exact hK _ C' _ ⟨J, h1, h2, h4⟩ h3
    | _ => exact h
  · rintro l pre x rest C a' W rfl hZ ⟨J, h1, h2, h3⟩ hm
    exact h3 W h2 hm
end Go.Proofs.Ytcjepiihknjeiaa
