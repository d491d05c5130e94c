/- The program's device alone, by the contracts of package disk; 'ran' of layer 4's statements. -/
import Derived.Test.YtkekikfiijbjmaaDiskAwake
import Derived.Test.YtkekikfiijbjmaaDiskOps
namespace Go.Proofs.Ytkekikfiijbjmaa
open Go.RowKit

/-- d is a device s in w, and since w0, where it had F0, nothing has changed but in it. -/
def DS (DR : (Nat → Prop) → World → Value → DK → Prop) (F0 : Nat → Prop) (w0 w : World) (d : Value) (s : DK) : Prop := ∃ F, DR F w d s ∧ Moves F0 F w0 w

theorem on_waits (o : OpD) (s : DK) : (o.on s).waits.length ≤ s.waits.length + 1 := by
  unfold OpD.on
  repeat' split
  · omega
  · unfold DK.flush
    repeat' split
    all_goals simp [DK.tick]
  · unfold DK.arm
    split <;> simp
  · simp [DK.crash]
  · unfold DK.start
    split <;> simp
  · unfold DK.flip
    split <;> simp
  · unfold DK.write
    repeat' split
    all_goals simp [DK.tick]
theorem on_turns (o : OpD) (s : DK) : (o.on s).turns ≤ s.turns + 1 := by
  unfold OpD.on
  repeat' split
  · omega
  · unfold DK.flush
    repeat' split
    all_goals simp [DK.tick]
  · unfold DK.arm
    split <;> simp
  · simp [DK.crash]
  · unfold DK.start
    split <;> simp
  · unfold DK.flip
    split <;> simp
  · unfold DK.write
    repeat' split
    all_goals simp [DK.tick]

theorem on_ticks (o : OpD) (s : DK) : (o.on s).ticks ≤ s.ticks + 1 := by
  unfold OpD.on
  repeat' split
  · omega
  · unfold DK.flush
    repeat' split
    all_goals simp [DK.tick]
  · unfold DK.arm
    split <;> simp
  · simp [DK.crash]
  · unfold DK.start
    split <;> simp
  · unfold DK.flip
    split <;> simp
  · unfold DK.write
    repeat' split
    all_goals simp [DK.tick]

/-- A device behind the first k calls of a script. -/
def runK (l : List OpD) (k : Nat) (s : DK) : DK := (l.take k).foldl (fun s o => o.on s) s
theorem runK_zero (l : List OpD) (s : DK) : runK l 0 s = s := by simp [runK]
theorem runK_succ (l : List OpD) (k : Nat) (s : DK) (h : k < l.length) : runK l (k + 1) s = l[k].on (runK l k s) := by
  unfold runK
  rw [List.take_succ_eq_append_getElem h, List.foldl_append]
  rfl
theorem runK_le (l : List OpD) (k : Nat) (s : DK) : (runK l k s).waits.length ≤ s.waits.length + k ∧ (runK l k s).turns ≤ s.turns + k ∧ (runK l k s).ticks ≤ s.ticks + k := by
  induction k with
  | zero => rw [runK_zero]; omega
  | succ k ih =>
    by_cases h : k < l.length
    · rw [runK_succ l k s h]
      have h1 := on_waits l[k] (runK l k s)
      have h2 := on_turns l[k] (runK l k s)
      have h3 := on_ticks l[k] (runK l k s)
      omega
    · have : runK l (k + 1) s = runK l k s := by unfold runK; rw [List.take_of_length_le (by omega), List.take_of_length_le (by omega)]
      rw [this]
      omega

section
variable {DR : (Nat → Prop) → World → Value → DK → Prop} (C : DiskC DR) {F0 : Nat → Prop} {w0 w : World} {d : Value} {s : DK}

theorem DS.start_ {F : Nat → Prop} (h : DR F w d s) : DS DR F w w d s := ⟨F, h, Moves.refl _ _⟩
theorem DS.size (h : DS DR F0 w0 w d s) : w0.heap.size ≤ w.heap.size := by
  obtain ⟨F, _, hm⟩ := h
  exact hm.keep.size
theorem DS.block (h : DS DR F0 w0 w d s) {k : Nat} (hk : k < w0.heap.size) (hn : ¬ F0 k) : w.heap[k]? = w0.heap[k]? := by
  obtain ⟨F, _, hm⟩ := h
  exact hm.keep.block k hk hn
theorem DS.cell (h : DS DR F0 w0 w d s) {a : Addr} (hk : a.block < w0.heap.size) (hn : ¬ F0 a.block) : w.cell? a = w0.cell? a := World.cell?_of_block (w := w0) (h.block hk hn)
theorem DS.rebase {w00 : World} (h : DS DR F0 w0 w d s) (hb : Below w00.heap.size w00 w0) : DS DR F0 w00 w d s := by
  obtain ⟨F, hp, hm⟩ := h
  exact ⟨F, hp, (Moves.of_below hb).trans hm⟩
include C
theorem DS.below {w' : World} (h : DS DR F0 w0 w d s) (hb : Below w.heap.size w w') : DS DR F0 w0 w' d s := by
  obtain ⟨F, h1, hm⟩ := h
  exact ⟨F, C.stays h1 hb.size (fun k hk => hb.block k (C.lt h1 k hk)), hm.trans (Moves.of_below hb)⟩
theorem DS.drew (h : DS DR F0 w0 w d s) : DS DR F0 w0 w.drew d s := DS.below C h (Below.refl _ _).drew
theorem DS.ok (h : DS DR F0 w0 w d s) : s.Ok := by
  obtain ⟨F, h1, _⟩ := h
  exact C.ok h1
theorem DS.flush (h : DS DR F0 w0 w d s) (hw : s.waits.length ≤ 1048576) (ht : s.ticks ≤ 1048576) : Calls Try.prog 17 #[d] w fun e w' => e = .returned (.int .i64 s.flushE) ∧ DS DR F0 w0 w' d s.flush := by
  obtain ⟨F, h1, hm⟩ := h
  refine (C.flush F d s w h1 hw ht).mono ?_
  rintro e w' ⟨rfl, F', h1', hM⟩
  exact ⟨rfl, F', h1', hm.trans hM⟩
theorem DS.arm (h : DS DR F0 w0 w d s) (n : Int) (hn : n ≤ 9223372036854775807) : Calls Try.prog 16 #[d, .int .i64 n] w fun e w' => e = .returned (.int .i64 s.armE) ∧ DS DR F0 w0 w' d (s.arm n) := by
  obtain ⟨F, h1, hm⟩ := h
  refine (C.arm F d s n w h1 hn).mono ?_
  rintro e w' ⟨rfl, F', h1', hM⟩
  exact ⟨rfl, F', h1', hm.trans hM⟩
theorem DS.start (h : DS DR F0 w0 w d s) : Calls Try.prog 15 #[d] w fun e w' => e = .returned (.int .i64 0) ∧ DS DR F0 w0 w' d s.start := by
  obtain ⟨F, h1, hm⟩ := h
  refine (C.start F d s w h1).mono ?_
  rintro e w' ⟨rfl, F', h1', hM⟩
  exact ⟨rfl, F', h1', hm.trans hM⟩
theorem DS.flip (h : DS DR F0 w0 w d s) (a bit : Int) (ht : s.turns ≤ 1048576) : Calls Try.prog 24 #[d, .int .i64 a, .int .i64 bit] w fun e w' => e = .returned (.int .i64 (s.flipE a bit)) ∧ DS DR F0 w0 w' d (s.flip a bit) := by
  obtain ⟨F, h1, hm⟩ := h
  refine (C.flip F d s a bit w h1 ht).mono ?_
  rintro e w' ⟨rfl, F', h1', hM⟩
  exact ⟨rfl, F', h1', hm.trans hM⟩
theorem DS.read (h : DS DR F0 w0 w d s) (a : Int) (hw : s.waits.length ≤ 1048576) : Calls Try.prog 18 #[d, .int .i64 a] w fun e w' => ∃ t, e = .returned (.tuple #[t, .int .i64 (s.readE a)]) ∧ Mine w' w.heap.size t (s.readB a) ∧ DS DR F0 w0 w' d s ∧ Below w.heap.size w w' := by
  have h' := h
  obtain ⟨F, h1, hm⟩ := h'
  refine (C.read F d s a w h1 hw).mono ?_
  rintro e w' ⟨t, rfl, hmn, hb⟩
  exact ⟨t, rfl, hmn, DS.below C h hb, hb⟩
theorem DS.down (h : DS DR F0 w0 w d s) : Calls Try.prog 25 #[d] w fun e w' => e = .returned (.bool s.fell) ∧ DS DR F0 w0 w' d s ∧ Below w.heap.size w w' := by
  have h' := h
  obtain ⟨F, h1, hm⟩ := h'
  refine (C.down F d s w h1).mono ?_
  rintro e w' ⟨rfl, hb⟩
  exact ⟨rfl, DS.below C h hb, hb⟩
theorem DS.waiting (h : DS DR F0 w0 w d s) : Calls Try.prog 26 #[d] w fun e w' => e = .returned (.int .i64 (s.waits.length : Int)) ∧ DS DR F0 w0 w' d s ∧ Below w.heap.size w w' := by
  have h' := h
  obtain ⟨F, h1, hm⟩ := h'
  refine (C.waiting F d s w h1).mono ?_
  rintro e w' ⟨rfl, hb⟩
  exact ⟨rfl, DS.below C h hb, hb⟩
theorem DS.write (h : DS DR F0 w0 w d s) (a : Int) (bv : Value) (b : List UInt8) (hb : Row w bv b) (ho : ∀ k off n c, bv = .slice (some ⟨k, off, none⟩) n c → 0 < n → k < w0.heap.size ∧ ¬ F0 k) (hw : s.waits.length ≤ 1048576) (ht : s.ticks ≤ 1048576) :
    Calls Try.prog 19 #[d, .int .i64 a, bv] w fun e w' => e = .returned (.int .i64 (s.writeE a b)) ∧ DS DR F0 w0 w' d (s.write a b) := by
  obtain ⟨F, h1, hm⟩ := h
  refine (C.write F d s a bv b w h1 hb (fun k off n c e hn hF => ?_) hw ht).mono ?_
  · obtain ⟨q1, q2⟩ := ho k off n c e hn
    rcases hm.sub k hF with h | h
    · exact q2 h
    · omega
  · rintro e w' ⟨rfl, F', h1', hM⟩
    exact ⟨rfl, F', h1', hm.trans hM⟩
/-- A write of bytes that were just made. -/
theorem DS.writeNew {wb : World} (h : DS DR F0 w0 wb d s) (hb : Below wb.heap.size wb w) (a : Int) (bv : Value) (b : List UInt8) (hm : Mine w wb.heap.size bv b) (hw : s.waits.length ≤ 1048576) (ht : s.ticks ≤ 1048576) :
    Calls Try.prog 19 #[d, .int .i64 a, bv] w fun e w' => e = .returned (.int .i64 (s.writeE a b)) ∧ DS DR F0 w0 w' d (s.write a b) := by
  obtain ⟨F, h1, hM0⟩ := h
  have h1' := C.stays h1 hb.size (fun k hk => hb.block k (C.lt h1 k hk))
  refine (C.write F d s a bv b w h1' hm.row (fun k off n c e hn hF => ?_) hw ht).mono ?_
  · subst e
    rcases hm.2 with h0 | ⟨g, o', cc, e, cur, q1, q2, q3⟩
    · obtain ⟨p', c', l', e', hl'⟩ := hm.row.shape
      simp only [Value.slice.injEq] at e'
      rw [h0] at hl'
      simp at hl'
      omega
    · simp only [Value.slice.injEq, Option.some.injEq, Addr.mk.injEq] at q1
      have := C.lt h1 k hF
      omega
  · rintro e w' ⟨rfl, F', h1'', hM⟩
    exact ⟨rfl, F', h1'', (hM0.trans (Moves.of_below hb)).trans hM⟩
theorem DS.crash (h : DS DR F0 w0 w d s) (kv : Value) (ks : List Bool) (hb : BRow w kv ks) (ho : ∀ k off n c, kv = .slice (some ⟨k, off, none⟩) n c → 0 < n → k < w0.heap.size ∧ ¬ F0 k) (hw : s.waits.length ≤ 1048576) :
    Calls Try.prog 21 #[d, kv] w fun e w' => e = .returned (.int .i64 0) ∧ DS DR F0 w0 w' d (s.crash ks) := by
  obtain ⟨F, h1, hm⟩ := h
  refine (C.crash F d s kv ks w h1 hb (fun k off n c e hn hF => ?_) hw).mono ?_
  · obtain ⟨q1, q2⟩ := ho k off n c e hn
    rcases hm.sub k hF with h | h
    · exact q2 h
    · omega
  · rintro e w' ⟨rfl, F', h1', hM⟩
    exact ⟨rfl, F', h1', hm.trans hM⟩
theorem DS.fork (h : DS DR F0 w0 w d s) (hw : s.waits.length ≤ 1048576) : Calls Try.prog 23 #[d] w fun e w' => ∃ q, e = .returned q ∧ (∃ a, q = .pointer (some a)) ∧ (∃ G, DR G w' q s ∧ ∀ k, G k → w.heap.size ≤ k) ∧ DS DR F0 w0 w' d s ∧ Below w.heap.size w w' := by
  have h' := h
  obtain ⟨F, h1, hm⟩ := h'
  refine (C.fork F d s w h1 hw).mono ?_
  rintro e w' ⟨q, rfl, ⟨G, hG, hGl⟩, hb⟩
  exact ⟨q, rfl, C.ptr hG, ⟨G, hG, hGl⟩, DS.below C h hb, hb⟩
end
end Go.Proofs.Ytkekikfiijbjmaa
