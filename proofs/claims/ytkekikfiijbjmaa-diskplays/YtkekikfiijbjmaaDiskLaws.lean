/- What the statements of layer 4 ask of package disk, as contracts over whatever its devices are in memory; and both devices, the program's and the reference's, side by side. -/
import Derived.Test.YtkekikfiijbjmaaDiskRef5
import Derived.Test.YtkekikfiijbjmaaDiskCon
import Derived.Test.YtkekikfiijbjmaaHelpBool
namespace Go.Proofs.Ytkekikfiijbjmaa
open Go.RowKit

/-- Both devices, in memory apart. -/
def Pair (DR : (Nat → Prop) → World → Value → DK → Prop) (F : Nat → Prop) (w : World) (d : Value) (sd : DK) (r : Value) (sr : DK) (cnt : Nat) : Prop :=
  ∃ FD FR, DR FD w d sd ∧ RRep FR w r sr cnt ∧ (∀ k, FD k → FR k → False) ∧ (∀ k, F k ↔ FD k ∨ FR k)

/-- .. and since w0, where they had F0, nothing has changed but in them. -/
def St (DR : (Nat → Prop) → World → Value → DK → Prop) (F0 : Nat → Prop) (w0 w : World) (d : Value) (sd : DK) (r : Value) (sr : DK) (cnt : Nat) : Prop :=
  ∃ F, Pair DR F w d sd r sr cnt ∧ Moves F0 F w0 w

section
variable {DR : (Nat → Prop) → World → Value → DK → Prop} (C : DiskC DR)
include C

theorem Pair.lt {F : Nat → Prop} {w : World} {d r : Value} {sd sr : DK} {cnt : Nat} (h : Pair DR F w d sd r sr cnt) : ∀ k, F k → k < w.heap.size := by
  obtain ⟨FD, FR, h1, h2, _, h4⟩ := h
  intro k hk
  rcases (h4 k).1 hk with h | h
  · exact C.lt h1 k h
  · exact h2.lt k h

theorem St.below {F0 : Nat → Prop} {w0 w w' : World} {d r : Value} {sd sr : DK} {cnt : Nat} (h : St DR F0 w0 w d sd r sr cnt) (hb : Below w.heap.size w w') : St DR F0 w0 w' d sd r sr cnt := by
  obtain ⟨F, ⟨FD, FR, h1, h2, h3, h4⟩, hm⟩ := h
  exact ⟨F, ⟨FD, FR, C.stays h1 hb.size (fun k hk => hb.block k (C.lt h1 k hk)), h2.stays hb.size (fun k hk => hb.block k (h2.lt k hk)), h3, h4⟩, hm.trans (Moves.of_below hb)⟩

omit C in
/-- The program's device has moved. -/
theorem St.movedD {F0 FD FD' FR : Nat → Prop} {w0 w w' : World} {d r : Value} {sd' sr : DK} {cnt : Nat} {F : Nat → Prop} (h2 : RRep FR w r sr cnt) (h3 : ∀ k, FD k → FR k → False) (h4 : ∀ k, F k ↔ FD k ∨ FR k) (hm : Moves F0 F w0 w)
    (h1' : DR FD' w' d sd') (hM : Moves FD FD' w w') : St DR F0 w0 w' d sd' r sr cnt := by
  refine ⟨fun k => FD' k ∨ FR k, ⟨FD', FR, h1', h2.stays hM.keep.size (fun k hk => hM.keep.block k (h2.lt k hk) (fun hf => h3 k hf hk)), fun k hd hr => ?_, fun k => Iff.rfl⟩, hm.trans ⟨hM.keep.weak (fun k hk => (h4 k).2 (Or.inl hk)), fun k hk => ?_⟩⟩
  · rcases hM.sub k hd with h | h
    · exact h3 k h hr
    · have := h2.lt k hr; omega
  · rcases hk with hk | hk
    · rcases hM.sub k hk with h | h
      · exact Or.inl ((h4 k).2 (Or.inl h))
      · exact Or.inr h
    · exact Or.inl ((h4 k).2 (Or.inr hk))
/-- The reference's device has moved. -/
theorem St.movedR {F0 FD FR FR' : Nat → Prop} {w0 w w' : World} {d r : Value} {sd sr' : DK} {cnt' : Nat} {F : Nat → Prop} (h1 : DR FD w d sd) (h3 : ∀ k, FD k → FR k → False) (h4 : ∀ k, F k ↔ FD k ∨ FR k) (hm : Moves F0 F w0 w)
    (h2' : RRep FR' w' r sr' cnt') (hM : Moves FR FR' w w') : St DR F0 w0 w' d sd r sr' cnt' := by
  refine ⟨fun k => FD k ∨ FR' k, ⟨FD, FR', C.stays h1 hM.keep.size (fun k hk => hM.keep.block k (C.lt h1 k hk) (fun hf => h3 k hk hf)), h2', fun k hd hr => ?_, fun k => Iff.rfl⟩, hm.trans ⟨hM.keep.weak (fun k hk => (h4 k).2 (Or.inr hk)), fun k hk => ?_⟩⟩
  · rcases hM.sub k hr with h | h
    · exact h3 k hd h
    · have := C.lt h1 k hd; omega
  · rcases hk with hk | hk
    · exact Or.inl ((h4 k).2 (Or.inl hk))
    · rcases hM.sub k hk with h | h
      · exact Or.inl ((h4 k).2 (Or.inr h))
      · exact Or.inr h

variable {F0 : Nat → Prop} {w0 w : World} {d r : Value} {sd sr : DK} {cnt : Nat}

theorem St.ok (h : St DR F0 w0 w d sd r sr cnt) : sd.Ok ∧ sr.Ok := by
  obtain ⟨F, ⟨FD, FR, h1, h2, h3, h4⟩, hm⟩ := h
  exact ⟨C.ok h1, h2.ok⟩
omit C in
/-- What lies outside of the devices stays. -/
theorem St.block (h : St DR F0 w0 w d sd r sr cnt) {k : Nat} (hk : k < w0.heap.size) (hn : ¬ F0 k) : w.heap[k]? = w0.heap[k]? := by
  obtain ⟨F, _, hm⟩ := h
  exact hm.keep.block k hk hn
omit C in
theorem St.cell (h : St DR F0 w0 w d sd r sr cnt) {a : Addr} (hk : a.block < w0.heap.size) (hn : ¬ F0 a.block) : w.cell? a = w0.cell? a := World.cell?_of_block (w := w0) (h.block hk hn)
omit C in
theorem St.size (h : St DR F0 w0 w d sd r sr cnt) : w0.heap.size ≤ w.heap.size := by
  obtain ⟨F, _, hm⟩ := h
  exact hm.keep.size
omit C in
/-- What came to be ahead of w0 without a change. -/
theorem St.rebase {w00 : World} (h : St DR F0 w0 w d sd r sr cnt) (hb : Below w00.heap.size w00 w0) : St DR F0 w00 w d sd r sr cnt := by
  obtain ⟨F, hp, hm⟩ := h
  exact ⟨F, hp, (Moves.of_below hb).trans hm⟩
omit C in
theorem St.start_ {F : Nat → Prop} (h : Pair DR F w d sd r sr cnt) : St DR F w w d sd r sr cnt := ⟨F, h, Moves.refl _ _⟩
theorem Pair.below {F : Nat → Prop} {w' : World} (h : Pair DR F w d sd r sr cnt) (hb : Below w.heap.size w w') : Pair DR F w' d sd r sr cnt := by
  obtain ⟨FD, FR, h1, h2, h3, h4⟩ := h
  exact ⟨FD, FR, C.stays h1 hb.size (fun k hk => hb.block k (C.lt h1 k hk)), h2.stays hb.size (fun k hk => hb.block k (h2.lt k hk)), h3, h4⟩
omit C in
theorem St.drew (h : St DR F0 w0 w d sd r sr cnt) (C : DiskC DR) : St DR F0 w0 w.drew d sd r sr cnt := St.below C h (Below.refl _ _).drew
omit C in
/-- What is outside of the devices' memory at the start, or not there then, is outside. -/
theorem St.out (h : St DR F0 w0 w d sd r sr cnt) : ∃ F, Pair DR F w d sd r sr cnt ∧ ∀ k, k < w0.heap.size → ¬ F0 k → ¬ F k := by
  obtain ⟨F, hp, hm⟩ := h
  refine ⟨F, hp, fun k hk hn hF => ?_⟩
  rcases hm.sub k hF with h | h
  · exact hn h
  · omega

theorem St.dflush (h : St DR F0 w0 w d sd r sr cnt) (hw : sd.waits.length ≤ 1048576) (ht : sd.ticks ≤ 1048576) : Calls Try.prog 17 #[d] w fun e w' => e = .returned (.int .i64 sd.flushE) ∧ St DR F0 w0 w' d sd.flush r sr cnt := by
  obtain ⟨F, ⟨FD, FR, h1, h2, h3, h4⟩, hm⟩ := h
  refine (C.flush FD d sd w h1 hw ht).mono ?_
  rintro e w' ⟨rfl, FD', h1', hM⟩
  exact ⟨rfl, St.movedD h2 h3 h4 hm h1' hM⟩
theorem St.rflush (h : St DR F0 w0 w d sd r sr cnt) (hw : sr.waits.length ≤ 1048576) (hc : cnt + sr.waits.length ≤ 1048576 * 1048576) : Calls Try.prog 30 #[r] w fun e w' => e = .returned (.int .i64 sr.flushE) ∧ ∃ c, c ≤ cnt + sr.waits.length ∧ St DR F0 w0 w' d sd r sr.flush c := by
  obtain ⟨F, ⟨FD, FR, h1, h2, h3, h4⟩, hm⟩ := h
  refine (rflush_any FR r sr cnt w h2 hw hc).mono ?_
  rintro e w' ⟨rfl, ⟨c, hcc, h2'⟩, hk⟩
  exact ⟨rfl, c, hcc, St.movedR C h1 h3 h4 hm h2' ⟨hk, fun k h => Or.inl h⟩⟩
theorem St.darm (h : St DR F0 w0 w d sd r sr cnt) (n : Int) (hn : n ≤ 9223372036854775807) : Calls Try.prog 16 #[d, .int .i64 n] w fun e w' => e = .returned (.int .i64 sd.armE) ∧ St DR F0 w0 w' d (sd.arm n) r sr cnt := by
  obtain ⟨F, ⟨FD, FR, h1, h2, h3, h4⟩, hm⟩ := h
  refine (C.arm FD d sd n w h1 hn).mono ?_
  rintro e w' ⟨rfl, FD', h1', hM⟩
  exact ⟨rfl, St.movedD h2 h3 h4 hm h1' hM⟩
theorem St.rarm (h : St DR F0 w0 w d sd r sr cnt) (n : Int) (hn : n ≤ 9223372036854775807) : Calls Try.prog 31 #[r, .int .i64 n] w fun e w' => e = .returned (.int .i64 sr.armE) ∧ St DR F0 w0 w' d sd r (sr.arm n) cnt := by
  obtain ⟨F, ⟨FD, FR, h1, h2, h3, h4⟩, hm⟩ := h
  refine (rarm_any FR r sr cnt n w h2 hn).mono ?_
  rintro e w' ⟨rfl, h2', hk⟩
  exact ⟨rfl, St.movedR C h1 h3 h4 hm h2' ⟨hk, fun k h => Or.inl h⟩⟩
theorem St.dstart (h : St DR F0 w0 w d sd r sr cnt) : Calls Try.prog 15 #[d] w fun e w' => e = .returned (.int .i64 0) ∧ St DR F0 w0 w' d sd.start r sr cnt := by
  obtain ⟨F, ⟨FD, FR, h1, h2, h3, h4⟩, hm⟩ := h
  refine (C.start FD d sd w h1).mono ?_
  rintro e w' ⟨rfl, FD', h1', hM⟩
  exact ⟨rfl, St.movedD h2 h3 h4 hm h1' hM⟩
theorem St.rstart (h : St DR F0 w0 w d sd r sr cnt) : Calls Try.prog 35 #[r] w fun e w' => e = .returned (.int .i64 0) ∧ St DR F0 w0 w' d sd r sr.start cnt := by
  obtain ⟨F, ⟨FD, FR, h1, h2, h3, h4⟩, hm⟩ := h
  refine (rstart_any FR r sr cnt w h2).mono ?_
  rintro e w' ⟨rfl, h2', hk⟩
  exact ⟨rfl, St.movedR C h1 h3 h4 hm h2' ⟨hk, fun k h => Or.inl h⟩⟩
theorem St.dflip (h : St DR F0 w0 w d sd r sr cnt) (a bit : Int) (ht : sd.turns ≤ 1048576) : Calls Try.prog 24 #[d, .int .i64 a, .int .i64 bit] w fun e w' => e = .returned (.int .i64 (sd.flipE a bit)) ∧ St DR F0 w0 w' d (sd.flip a bit) r sr cnt := by
  obtain ⟨F, ⟨FD, FR, h1, h2, h3, h4⟩, hm⟩ := h
  refine (C.flip FD d sd a bit w h1 ht).mono ?_
  rintro e w' ⟨rfl, FD', h1', hM⟩
  exact ⟨rfl, St.movedD h2 h3 h4 hm h1' hM⟩
theorem St.rflip (h : St DR F0 w0 w d sd r sr cnt) (a bit : Int) (ht : sr.turns ≤ 1048576) (hc : cnt ≤ 1048576 * 1048576) : Calls Try.prog 36 #[r, .int .i64 a, .int .i64 bit] w fun e w' => e = .returned (.int .i64 (sr.flipE a bit)) ∧ ∃ c, c ≤ cnt + 1 ∧ St DR F0 w0 w' d sd r (sr.flip a bit) c := by
  obtain ⟨F, ⟨FD, FR, h1, h2, h3, h4⟩, hm⟩ := h
  refine (rflip_any FR r sr cnt a bit w h2 ht hc).mono ?_
  rintro e w' ⟨rfl, FR', ⟨c, hcc, h2'⟩, hM⟩
  exact ⟨rfl, c, hcc, St.movedR C h1 h3 h4 hm h2' hM⟩
theorem St.dread (h : St DR F0 w0 w d sd r sr cnt) (a : Int) (hw : sd.waits.length ≤ 1048576) : Calls Try.prog 18 #[d, .int .i64 a] w fun e w' => ∃ t, e = .returned (.tuple #[t, .int .i64 (sd.readE a)]) ∧ Mine w' w.heap.size t (sd.readB a) ∧ St DR F0 w0 w' d sd r sr cnt ∧ Below w.heap.size w w' := by
  have h' := h
  obtain ⟨F, ⟨FD, FR, h1, h2, h3, h4⟩, hm⟩ := h'
  refine (C.read FD d sd a w h1 hw).mono ?_
  rintro e w' ⟨t, rfl, hmn, hb⟩
  exact ⟨t, rfl, hmn, St.below C h hb, hb⟩
theorem St.rread (h : St DR F0 w0 w d sd r sr cnt) (a : Int) (hw : sr.waits.length ≤ 1048576) : Calls Try.prog 29 #[r, .int .i64 a] w fun e w' => ∃ t, e = .returned (.tuple #[t, .int .i64 (sr.readE a)]) ∧ Row w' t (sr.readB a) ∧ St DR F0 w0 w' d sd r sr cnt ∧ Below w.heap.size w w' := by
  have h' := h
  obtain ⟨F, ⟨FD, FR, h1, h2, h3, h4⟩, hm⟩ := h'
  refine (rread_any FR r sr cnt a w h2 hw).mono ?_
  rintro e w' ⟨t, rfl, ho, hb⟩
  exact ⟨t, rfl, row_of_owns ho, St.below C h hb, hb⟩
theorem St.ddown (h : St DR F0 w0 w d sd r sr cnt) : Calls Try.prog 25 #[d] w fun e w' => e = .returned (.bool sd.fell) ∧ St DR F0 w0 w' d sd r sr cnt := by
  have h' := h
  obtain ⟨F, ⟨FD, FR, h1, h2, h3, h4⟩, hm⟩ := h'
  refine (C.down FD d sd w h1).mono ?_
  rintro e w' ⟨rfl, hb⟩
  exact ⟨rfl, St.below C h hb⟩
theorem St.dwaiting (h : St DR F0 w0 w d sd r sr cnt) : Calls Try.prog 26 #[d] w fun e w' => e = .returned (.int .i64 (sd.waits.length : Int)) ∧ St DR F0 w0 w' d sd r sr cnt := by
  have h' := h
  obtain ⟨F, ⟨FD, FR, h1, h2, h3, h4⟩, hm⟩ := h'
  refine (C.waiting FD d sd w h1).mono ?_
  rintro e w' ⟨rfl, hb⟩
  exact ⟨rfl, St.below C h hb⟩
theorem St.dflips (h : St DR F0 w0 w d sd r sr cnt) : Calls Try.prog 28 #[d] w fun e w' => e = .returned (.int .i64 (sd.turns : Int)) ∧ St DR F0 w0 w' d sd r sr cnt := by
  have h' := h
  obtain ⟨F, ⟨FD, FR, h1, h2, h3, h4⟩, hm⟩ := h'
  refine (C.flips FD d sd w h1).mono ?_
  rintro e w' ⟨rfl, hb⟩
  exact ⟨rfl, St.below C h hb⟩
theorem St.dsize (h : St DR F0 w0 w d sd r sr cnt) : Calls Try.prog 27 #[d] w fun e w' => e = .returned (.int .i64 (sd.n : Int)) ∧ St DR F0 w0 w' d sd r sr cnt := by
  have h' := h
  obtain ⟨F, ⟨FD, FR, h1, h2, h3, h4⟩, hm⟩ := h'
  refine (C.size FD d sd w h1).mono ?_
  rintro e w' ⟨rfl, hb⟩
  exact ⟨rfl, St.below C h hb⟩
theorem St.dwrite (h : St DR F0 w0 w d sd r sr cnt) (a : Int) (bv : Value) (b : List UInt8) (hb : Row w bv b) (ho : ∀ k off n c, bv = .slice (some ⟨k, off, none⟩) n c → 0 < n → k < w0.heap.size ∧ ¬ F0 k) (hw : sd.waits.length ≤ 1048576) (ht : sd.ticks ≤ 1048576) :
    Calls Try.prog 19 #[d, .int .i64 a, bv] w fun e w' => e = .returned (.int .i64 (sd.writeE a b)) ∧ St DR F0 w0 w' d (sd.write a b) r sr cnt := by
  obtain ⟨F, ⟨FD, FR, h1, h2, h3, h4⟩, hm⟩ := h
  refine (C.write FD d sd a bv b w h1 hb (fun k off n c e hn hF => ?_) hw ht).mono ?_
  · obtain ⟨q1, q2⟩ := ho k off n c e hn
    rcases hm.sub k ((h4 k).2 (Or.inl hF)) with h | h
    · exact q2 h
    · omega
  · rintro e w' ⟨rfl, FD', h1', hM⟩
    exact ⟨rfl, St.movedD h2 h3 h4 hm h1' hM⟩
theorem St.dcrash (h : St DR F0 w0 w d sd r sr cnt) (kv : Value) (ks : List Bool) (hb : BRow w kv ks) (ho : ∀ k off n c, kv = .slice (some ⟨k, off, none⟩) n c → 0 < n → k < w0.heap.size ∧ ¬ F0 k) (hw : sd.waits.length ≤ 1048576) :
    Calls Try.prog 21 #[d, kv] w fun e w' => e = .returned (.int .i64 0) ∧ St DR F0 w0 w' d (sd.crash ks) r sr cnt := by
  obtain ⟨F, ⟨FD, FR, h1, h2, h3, h4⟩, hm⟩ := h
  refine (C.crash FD d sd kv ks w h1 hb (fun k off n c e hn hF => ?_) hw).mono ?_
  · obtain ⟨q1, q2⟩ := ho k off n c e hn
    rcases hm.sub k ((h4 k).2 (Or.inl hF)) with h | h
    · exact q2 h
    · omega
  · rintro e w' ⟨rfl, FD', h1', hM⟩
    exact ⟨rfl, St.movedD h2 h3 h4 hm h1' hM⟩
theorem St.rcrash (h : St DR F0 w0 w d sd r sr cnt) (kv : Value) (ks : List Bool) (hb : BRow w kv ks) (ho : ∀ k off n c, kv = .slice (some ⟨k, off, none⟩) n c → 0 < n → k < w0.heap.size ∧ ¬ F0 k) (hw : sr.waits.length ≤ 1048576) (hc : cnt + sr.waits.length ≤ 1048576 * 1048576) :
    Calls Try.prog 33 #[r, kv] w fun e w' => e = .returned (.int .i64 0) ∧ ∃ c, c ≤ cnt + sr.waits.length ∧ St DR F0 w0 w' d sd r (sr.crash ks) c := by
  obtain ⟨F, ⟨FD, FR, h1, h2, h3, h4⟩, hm⟩ := h
  refine (rcrash_any FR r sr cnt w kv ks h2 hb (fun k off c e hn hF => ?_) hw hc).mono ?_
  · have hp : 0 < ks.length := List.length_pos_iff.2 hn
    obtain ⟨q1, q2⟩ := ho k off _ c e hp
    rcases hm.sub k ((h4 k).2 (Or.inr hF)) with h | h
    · exact q2 h
    · omega
  · rintro e w' ⟨rfl, h2', hk⟩
    exact ⟨rfl, _, Nat.le_refl _, St.movedR C h1 h3 h4 hm h2' ⟨hk, fun k h => Or.inl h⟩⟩
theorem St.rwrite (h : St DR F0 w0 w d sd r sr cnt) (a : Int) (bv : Value) (b : List UInt8) (hb : Row w bv b) (hw : sr.waits.length ≤ 1048576) :
    Calls Try.prog 40 #[r, .int .i64 a, bv] w fun e w' => e = .returned (.int .i64 (sr.writeE a b)) ∧ St DR F0 w0 w' d sd r (sr.write a b) cnt := by
  obtain ⟨F, ⟨FD, FR, h1, h2, h3, h4⟩, hm⟩ := h
  refine (rwrite_any FR r sr cnt a bv b w h2 hb hw).mono ?_
  rintro e w' ⟨rfl, FR', h2', hM⟩
  exact ⟨rfl, St.movedR C h1 h3 h4 hm h2' hM⟩
end
end Go.Proofs.Ytkekikfiijbjmaa
