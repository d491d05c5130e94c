/- Several of the program's devices, in memory apart, by the contracts of package disk. -/
import Derived.Test.YtkekikfiijbjmaaDiskOne
namespace Go.Proofs.Ytkekikfiijbjmaa
open Go.RowKit

/-- These devices, in memory apart; their memory is F. -/
def Many (DR : (Nat → Prop) → World → Value → DK → Prop) (F : Nat → Prop) (w : World) : List (Value × DK) → Prop
  | [] => ∀ k, ¬ F k
  | x :: l => ∃ FD FL, DR FD w x.1 x.2 ∧ Many DR FL w l ∧ (∀ k, FD k → FL k → False) ∧ (∀ k, F k ↔ FD k ∨ FL k)

/-- .. and since w0, where they had F0, nothing has changed but in them. -/
def MS (DR : (Nat → Prop) → World → Value → DK → Prop) (F0 : Nat → Prop) (w0 w : World) (l : List (Value × DK)) : Prop := ∃ F, Many DR F w l ∧ Moves F0 F w0 w

section
variable {DR : (Nat → Prop) → World → Value → DK → Prop} (C : DiskC DR)
include C

theorem Many.lt {w : World} : ∀ {l : List (Value × DK)} {F : Nat → Prop}, Many DR F w l → ∀ k, F k → k < w.heap.size
  | [], _, h, k, hk => absurd hk (h k)
  | x :: l, F, h, k, hk => by
    obtain ⟨FD, FL, h1, h2, _, h4⟩ := h
    rcases (h4 k).1 hk with h | h
    · exact C.lt h1 k h
    · exact Many.lt h2 k h
theorem Many.stays {w w' : World} (hs : w.heap.size ≤ w'.heap.size) : ∀ {l : List (Value × DK)} {F : Nat → Prop}, Many DR F w l → (∀ k, F k → w'.heap[k]? = w.heap[k]?) → Many DR F w' l
  | [], _, h, _ => h
  | x :: l, F, h, hk => by
    obtain ⟨FD, FL, h1, h2, h3, h4⟩ := h
    exact ⟨FD, FL, C.stays h1 hs (fun k h => hk k ((h4 k).2 (Or.inl h))), Many.stays hs h2 (fun k h => hk k ((h4 k).2 (Or.inr h))), h3, h4⟩

/-- One of them, and what becomes of all when it moves. -/
theorem Many.at {w : World} {x : Value × DK} {l2 : List (Value × DK)} : ∀ {l1 : List (Value × DK)} {F : Nat → Prop}, Many DR F w (l1 ++ x :: l2) → ∃ FD, DR FD w x.1 x.2 ∧ (∀ k, FD k → F k) ∧
    ∀ FD' w' s', DR FD' w' x.1 s' → Moves FD FD' w w' → ∃ F', Many DR F' w' (l1 ++ (x.1, s') :: l2) ∧ Moves F F' w w'
  | [], F, h => by
    obtain ⟨FD, FL, h1, h2, h3, h4⟩ := h
    refine ⟨FD, h1, fun k hk => (h4 k).2 (Or.inl hk), fun FD' w' s' h1' hM => ⟨fun k => FD' k ∨ FL k, ⟨FD', FL, h1', Many.stays C hM.keep.size h2 (fun k hk => hM.keep.block k (Many.lt C h2 k hk) (fun hf => h3 k hf hk)), fun k hd hl => ?_, fun k => Iff.rfl⟩, ⟨hM.keep.weak (fun k hk => (h4 k).2 (Or.inl hk)), fun k hk => ?_⟩⟩⟩
    · rcases hM.sub k hd with h | h
      · exact h3 k h hl
      · have := Many.lt C h2 k hl; omega
    · rcases hk with hk | hk
      · rcases hM.sub k hk with h | h
        · exact Or.inl ((h4 k).2 (Or.inl h))
        · exact Or.inr h
      · exact Or.inl ((h4 k).2 (Or.inr hk))
  | y :: l1, F, h => by
    obtain ⟨FY, FL, h1, h2, h3, h4⟩ := h
    obtain ⟨FD, hd, hsub, hall⟩ := Many.at h2
    refine ⟨FD, hd, fun k hk => (h4 k).2 (Or.inr (hsub k hk)), fun FD' w' s' h1' hM => ?_⟩
    obtain ⟨FL', hm', hM'⟩ := hall FD' w' s' h1' hM
    refine ⟨fun k => FY k ∨ FL' k, ⟨FY, FL', C.stays h1 hM.keep.size (fun k hk => hM'.keep.block k (C.lt h1 k hk) (fun hf => h3 k hk hf)), hm', fun k hy hl => ?_, fun k => Iff.rfl⟩, ⟨hM'.keep.weak (fun k hk => (h4 k).2 (Or.inr hk)), fun k hk => ?_⟩⟩
    · rcases hM'.sub k hl with h | h
      · exact h3 k hy h
      · have := C.lt h1 k hy; omega
    · rcases hk with hk | hk
      · exact Or.inl ((h4 k).2 (Or.inl hk))
      · rcases hM'.sub k hk with h | h
        · exact Or.inl ((h4 k).2 (Or.inr h))
        · exact Or.inr h

omit C in
/-- One more, of memory that was not theirs. -/
theorem Many.cons {w : World} {x : Value × DK} {l : List (Value × DK)} {F FD : Nat → Prop} (h : Many DR F w l) (hd : DR FD w x.1 x.2) (hn : ∀ k, FD k → ¬ F k) : Many DR (fun k => FD k ∨ F k) w (x :: l) :=
  ⟨FD, F, hd, h, fun k h1 h2 => hn k h1 h2, fun _ => Iff.rfl⟩

variable {F0 : Nat → Prop} {w0 w : World} {l1 l2 l : List (Value × DK)} {d : Value} {s : DK}

omit C in
theorem MS.start_ {F : Nat → Prop} (h : Many DR F w l) : MS DR F w w l := ⟨F, h, Moves.refl _ _⟩
omit C in
theorem MS.size (h : MS DR F0 w0 w l) : w0.heap.size ≤ w.heap.size := by
  obtain ⟨F, _, hm⟩ := h
  exact hm.keep.size
omit C in
theorem MS.block (h : MS DR F0 w0 w l) {k : Nat} (hk : k < w0.heap.size) (hn : ¬ F0 k) : w.heap[k]? = w0.heap[k]? := by
  obtain ⟨F, _, hm⟩ := h
  exact hm.keep.block k hk hn
omit C in
theorem MS.cell (h : MS DR F0 w0 w l) {a : Addr} (hk : a.block < w0.heap.size) (hn : ¬ F0 a.block) : w.cell? a = w0.cell? a := World.cell?_of_block (w := w0) (h.block hk hn)
omit C in
theorem MS.rebase {w00 : World} (h : MS DR F0 w0 w l) (hb : Below w00.heap.size w00 w0) : MS DR F0 w00 w l := by
  obtain ⟨F, hp, hm⟩ := h
  exact ⟨F, hp, (Moves.of_below hb).trans hm⟩
theorem MS.below {w' : World} (h : MS DR F0 w0 w l) (hb : Below w.heap.size w w') : MS DR F0 w0 w' l := by
  obtain ⟨F, h1, hm⟩ := h
  exact ⟨F, Many.stays C hb.size h1 (fun k hk => hb.block k (Many.lt C h1 k hk)), hm.trans (Moves.of_below hb)⟩
theorem MS.drew (h : MS DR F0 w0 w l) : MS DR F0 w0 w.drew l := MS.below C h (Below.refl _ _).drew
/-- One of them moves. -/
theorem MS.at (h : MS DR F0 w0 w (l1 ++ (d, s) :: l2)) : ∃ FD, DR FD w d s ∧ (∀ k, FD k → F0 k ∨ w0.heap.size ≤ k) ∧ ∀ FD' w' s', DR FD' w' d s' → Moves FD FD' w w' → MS DR F0 w0 w' (l1 ++ (d, s') :: l2) := by
  obtain ⟨F, h1, hm⟩ := h
  obtain ⟨FD, hd, hsub, hall⟩ := Many.at C h1
  refine ⟨FD, hd, fun k hk => hm.sub k (hsub k hk), fun FD' w' s' h1' hM => ?_⟩
  obtain ⟨F', hm', hM'⟩ := hall FD' w' s' h1' hM
  exact ⟨F', hm', hm.trans hM'⟩
theorem MS.ok (h : MS DR F0 w0 w (l1 ++ (d, s) :: l2)) : s.Ok := by
  obtain ⟨FD, hd, _⟩ := MS.at C h
  exact C.ok hd
theorem MS.flush (h : MS DR F0 w0 w (l1 ++ (d, s) :: l2)) (hw : s.waits.length ≤ 1048576) (ht : s.ticks ≤ 1048576) : Calls Try.prog 17 #[d] w fun e w' => e = .returned (.int .i64 s.flushE) ∧ MS DR F0 w0 w' (l1 ++ (d, s.flush) :: l2) := by
  obtain ⟨FD, hd, _, hall⟩ := MS.at C h
  refine (C.flush FD d s w hd hw ht).mono ?_
  rintro e w' ⟨rfl, F', h1', hM⟩
  exact ⟨rfl, hall _ _ _ h1' hM⟩
theorem MS.arm (h : MS DR F0 w0 w (l1 ++ (d, s) :: l2)) (n : Int) (hn : n ≤ 9223372036854775807) : Calls Try.prog 16 #[d, .int .i64 n] w fun e w' => e = .returned (.int .i64 s.armE) ∧ MS DR F0 w0 w' (l1 ++ (d, s.arm n) :: l2) := by
  obtain ⟨FD, hd, _, hall⟩ := MS.at C h
  refine (C.arm FD d s n w hd hn).mono ?_
  rintro e w' ⟨rfl, F', h1', hM⟩
  exact ⟨rfl, hall _ _ _ h1' hM⟩
theorem MS.start (h : MS DR F0 w0 w (l1 ++ (d, s) :: l2)) : Calls Try.prog 15 #[d] w fun e w' => e = .returned (.int .i64 0) ∧ MS DR F0 w0 w' (l1 ++ (d, s.start) :: l2) := by
  obtain ⟨FD, hd, _, hall⟩ := MS.at C h
  refine (C.start FD d s w hd).mono ?_
  rintro e w' ⟨rfl, F', h1', hM⟩
  exact ⟨rfl, hall _ _ _ h1' hM⟩
theorem MS.flip (h : MS DR F0 w0 w (l1 ++ (d, s) :: l2)) (a bit : Int) (ht : s.turns ≤ 1048576) : Calls Try.prog 24 #[d, .int .i64 a, .int .i64 bit] w fun e w' => e = .returned (.int .i64 (s.flipE a bit)) ∧ MS DR F0 w0 w' (l1 ++ (d, s.flip a bit) :: l2) := by
  obtain ⟨FD, hd, _, hall⟩ := MS.at C h
  refine (C.flip FD d s a bit w hd ht).mono ?_
  rintro e w' ⟨rfl, F', h1', hM⟩
  exact ⟨rfl, hall _ _ _ h1' hM⟩
theorem MS.read (h : MS DR F0 w0 w (l1 ++ (d, s) :: l2)) (a : Int) (hw : s.waits.length ≤ 1048576) : Calls Try.prog 18 #[d, .int .i64 a] w fun e w' => ∃ t, e = .returned (.tuple #[t, .int .i64 (s.readE a)]) ∧ Mine w' w.heap.size t (s.readB a) ∧ MS DR F0 w0 w' (l1 ++ (d, s) :: l2) ∧ Below w.heap.size w w' := by
  obtain ⟨FD, hd, _, _⟩ := MS.at C h
  refine (C.read FD d s a w hd hw).mono ?_
  rintro e w' ⟨t, rfl, hmn, hb⟩
  exact ⟨t, rfl, hmn, MS.below C h hb, hb⟩
theorem MS.down (h : MS DR F0 w0 w (l1 ++ (d, s) :: l2)) : Calls Try.prog 25 #[d] w fun e w' => e = .returned (.bool s.fell) ∧ MS DR F0 w0 w' (l1 ++ (d, s) :: l2) ∧ Below w.heap.size w w' := by
  obtain ⟨FD, hd, _, _⟩ := MS.at C h
  refine (C.down FD d s w hd).mono ?_
  rintro e w' ⟨rfl, hb⟩
  exact ⟨rfl, MS.below C h hb, hb⟩
theorem MS.waiting (h : MS DR F0 w0 w (l1 ++ (d, s) :: l2)) : Calls Try.prog 26 #[d] w fun e w' => e = .returned (.int .i64 (s.waits.length : Int)) ∧ MS DR F0 w0 w' (l1 ++ (d, s) :: l2) ∧ Below w.heap.size w w' := by
  obtain ⟨FD, hd, _, _⟩ := MS.at C h
  refine (C.waiting FD d s w hd).mono ?_
  rintro e w' ⟨rfl, hb⟩
  exact ⟨rfl, MS.below C h hb, hb⟩
theorem MS.write (h : MS DR F0 w0 w (l1 ++ (d, s) :: l2)) (a : Int) (bv : Value) (b : List UInt8) (hb : Row w bv b) (ho : ∀ k off n c, bv = .slice (some ⟨k, off, none⟩) n c → 0 < n → k < w0.heap.size ∧ ¬ F0 k) (hw : s.waits.length ≤ 1048576) (ht : s.ticks ≤ 1048576) :
    Calls Try.prog 19 #[d, .int .i64 a, bv] w fun e w' => e = .returned (.int .i64 (s.writeE a b)) ∧ MS DR F0 w0 w' (l1 ++ (d, s.write a b) :: l2) := by
  obtain ⟨FD, hd, hsub, hall⟩ := MS.at C h
  refine (C.write FD d s a bv b w hd hb (fun k off n c e hn hF => ?_) hw ht).mono ?_
  · obtain ⟨q1, q2⟩ := ho k off n c e hn
    rcases hsub k hF with h | h
    · exact q2 h
    · omega
  · rintro e w' ⟨rfl, F', h1', hM⟩
    exact ⟨rfl, hall _ _ _ h1' hM⟩
theorem MS.crash (h : MS DR F0 w0 w (l1 ++ (d, s) :: l2)) (kv : Value) (ks : List Bool) (hb : BRow w kv ks) (ho : ∀ k off n c, kv = .slice (some ⟨k, off, none⟩) n c → 0 < n → k < w0.heap.size ∧ ¬ F0 k) (hw : s.waits.length ≤ 1048576) :
    Calls Try.prog 21 #[d, kv] w fun e w' => e = .returned (.int .i64 0) ∧ MS DR F0 w0 w' (l1 ++ (d, s.crash ks) :: l2) := by
  obtain ⟨FD, hd, hsub, hall⟩ := MS.at C h
  refine (C.crash FD d s kv ks w hd hb (fun k off n c e hn hF => ?_) hw).mono ?_
  · obtain ⟨q1, q2⟩ := ho k off n c e hn
    rcases hsub k hF with h | h
    · exact q2 h
    · omega
  · rintro e w' ⟨rfl, F', h1', hM⟩
    exact ⟨rfl, hall _ _ _ h1' hM⟩
/-- A copy: one device more. -/
theorem MS.fork (h : MS DR F0 w0 w (l1 ++ (d, s) :: l2)) (hw : s.waits.length ≤ 1048576) : Calls Try.prog 23 #[d] w fun e w' => ∃ a, e = .returned (.pointer (some a)) ∧ MS DR F0 w0 w' ((.pointer (some a), s) :: (l1 ++ (d, s) :: l2)) ∧ Below w.heap.size w w' := by
  obtain ⟨FD, hd, _, _⟩ := MS.at C h
  refine (C.fork FD d s w hd hw).mono ?_
  rintro e w' ⟨q, rfl, ⟨G, hG, hGl⟩, hb⟩
  obtain ⟨a, rfl⟩ := C.ptr hG
  obtain ⟨F, h1, hm⟩ := h
  have h1' := Many.stays C hb.size h1 (fun k hk => hb.block k (Many.lt C h1 k hk))
  refine ⟨a, rfl, ⟨_, Many.cons h1' hG (fun k hk hF => by have := hGl k hk; have := Many.lt C h1 k hF; omega), ?_⟩, hb⟩
  refine hm.trans ⟨Keep.of_below hb, fun k hk => ?_⟩
  rcases hk with hk | hk
  · exact Or.inr (hGl k hk)
  · exact Or.inl hk
/-- A device that was made apart joins. -/
theorem MS.join {G : Nat → Prop} {w' : World} (h : MS DR F0 w0 w l) (hb : Below w.heap.size w w') (hG : DR G w' d s) (hGl : ∀ k, G k → w.heap.size ≤ k) : MS DR F0 w0 w' ((d, s) :: l) := by
  obtain ⟨F, h1, hm⟩ := h
  have h1' := Many.stays C hb.size h1 (fun k hk => hb.block k (Many.lt C h1 k hk))
  refine ⟨_, Many.cons h1' hG (fun k hk hF => by have := hGl k hk; have := Many.lt C h1 k hF; omega), ?_⟩
  refine hm.trans ⟨Keep.of_below hb, fun k hk => ?_⟩
  rcases hk with hk | hk
  · exact Or.inr (hGl k hk)
  · exact Or.inl hk
omit C in
/-- Alone. -/
theorem MS.one {F : Nat → Prop} (h : DR F w d s) : MS DR F w w [(d, s)] :=
  ⟨F, ⟨F, fun _ => False, h, fun _ h => h, fun _ _ h => h, fun _ => ⟨Or.inl, fun h => h.elim id (fun h => h.elim)⟩⟩, Moves.refl _ _⟩
end
end Go.Proofs.Ytkekikfiijbjmaa
