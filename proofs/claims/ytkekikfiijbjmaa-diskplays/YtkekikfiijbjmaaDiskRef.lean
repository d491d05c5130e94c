/- What the reference of package disk does: a device in memory; New, hit, Arm, Start. -/
import Derived.Test.YtkekikfiijbjmaaBase
import Derived.Test.YtkekikfiijbjmaaMine
import Derived.Test.YtkekikfiijbjmaaMoves
import Derived.Test.YtkekikfiijbjmaaMapHeld
import Derived.Test.YtkekikfiijbjmaaDiskPlain
namespace Go.Proofs.Ytkekikfiijbjmaa
open Go.RowKit

/-- A sector's bytes in a block of bytes that belongs to F. -/
def RowIn (F : Nat → Prop) (w : World) (v : Value) (bs : List UInt8) : Prop :=
  ∃ b off cap cur, v = .slice (some ⟨b, off, none⟩) 512 cap ∧ F b ∧ w.heap[b]? = some (.cells cur 5 (0, 0)) ∧ bs.length = 512 ∧ Row w v bs

/-- The reference's device in memory: its variable, its map, its row of writes that wait, the bytes; all of them are F. -/
structure RAt (F : Nat → Prop) (w : World) (g m : Nat) (wv : Value) (f : Int → Option Value) (xs : List Value) (s : DK) (cnt : Nat) : Prop where
  blk : w.heap[g]? = some (.cells #[.int .i64 (s.n : Int), .map (some m), wv, .int .i64 (s.armed : Int), .bool s.fell, .int .i64 (s.turns : Int)] 69 (0, 0))
  map : MapIs Try.prog 3 w m cnt f
  own : w.ownsRow 0 91 2 wv s.waits.length xs
  waits : ∀ j (h : j < s.waits.length), ∃ v, xs[2 * j]? = some (.int .i64 (s.waits[j].1 : Int)) ∧ xs[2 * j + 1]? = some v ∧ RowIn F w v s.waits[j].2
  kept : ∀ a : Nat, (f a = none ∧ s.kept a = blank) ∨ ∃ v, f a = some v ∧ RowIn F w v (s.kept a)
  fg : F g
  fm : F m
  fw : ∀ k, wv.ownBlock = some k → F k
  lt : ∀ k, F k → k < w.heap.size
  ok : s.Ok

def RRep (F : Nat → Prop) (w : World) (p : Value) (s : DK) (cnt : Nat) : Prop :=
  ∃ g m wv f xs, p = .pointer (some ⟨g, 0, none⟩) ∧ RAt F w g m wv f xs s cnt

theorem RowIn.stays {F : Nat → Prop} {w w' : World} {v : Value} {bs : List UInt8} (h : RowIn F w v bs) (hk : ∀ k cur, F k → w.heap[k]? = some (.cells cur 5 (0, 0)) → w'.heap[k]? = w.heap[k]?) : RowIn F w' v bs := by
  obtain ⟨b, off, cap, cur, rfl, hF, hh, hl, a, cap', he, h1, h2, h3, h4⟩ := h
  have e := hk b cur hF hh
  refine ⟨b, off, cap, cur, rfl, hF, e.trans hh, hl, a, cap', he, h1, h2, h3, ?_⟩
  rcases h4 with h4 | ⟨b', off', ha, hc⟩
  · exact Or.inl h4
  · refine Or.inr ⟨b', off', ha, fun j hj => ?_⟩
    simp only [Value.slice.injEq] at he
    rw [ha] at he
    simp only [Option.some.injEq, Addr.mk.injEq] at he
    obtain ⟨⟨rfl, _, _⟩, _, _⟩ := he
    exact (World.cell?_of_block (w := w) (a := ⟨b, off' + j, none⟩) e).trans (hc j hj)
theorem RowIn.weak {F G : Nat → Prop} {w : World} {v : Value} {bs : List UInt8} (h : RowIn F w v bs) (hk : ∀ k, F k → G k) : RowIn G w v bs := by
  obtain ⟨b, off, cap, cur, hv, hF, r⟩ := h
  exact ⟨b, off, cap, cur, hv, hk b hF, r⟩
theorem RowIn.row {F : Nat → Prop} {w : World} {v : Value} {bs : List UInt8} (h : RowIn F w v bs) : Row w v bs := by
  obtain ⟨_, _, _, _, _, _, _, _, r⟩ := h
  exact r

theorem owns_stays {w w' : World} {base e sz : Nat} {v : Value} {n : Nat} {xs : List Value} (h : w.ownsRow base e sz v n xs) (hk : ∀ k, v.ownBlock = some k → w'.heap[k]? = w.heap[k]?) : w'.ownsRow base e sz v n xs := by
  refine ⟨h.1, ?_⟩
  rcases h.2 with h2 | ⟨g, cap, cur, rfl, hg, hh, r⟩
  · exact Or.inl h2
  · exact Or.inr ⟨g, cap, cur, rfl, hg, (hk g rfl).trans hh, r⟩
theorem own_kind {w : World} {base e sz : Nat} {v : Value} {n : Nat} {xs : List Value} (h : w.ownsRow base e sz v n xs) : ∀ k, v.ownBlock = some k → ∃ cur, w.heap[k]? = some (.cells cur e (0, 0)) := by
  intro k hk
  rcases h.2 with ⟨rfl, _⟩ | ⟨g, cap, cur, rfl, hg, hh, r⟩
  · cases hk
  · cases hk
    exact ⟨cur, hh⟩

theorem MapIs.heap {P : Program} {k : TypeId} {w : World} {b n : Nat} {f : Int → Option Value} (h : MapIs P k w b n f) : ∃ es c, w.heap[b]? = some (.map es c) := by
  obtain ⟨D, ⟨es, clock, h1, _⟩, _⟩ := h
  exact ⟨es, clock, h1⟩

theorem RAt.stays {F : Nat → Prop} {w w' : World} {g m : Nat} {wv : Value} {f : Int → Option Value} {xs : List Value} {s : DK} {cnt : Nat} (h : RAt F w g m wv f xs s cnt) (hs : w.heap.size ≤ w'.heap.size) (hk : ∀ k, F k → w'.heap[k]? = w.heap[k]?) : RAt F w' g m wv f xs s cnt where
  blk := (hk g h.fg).trans h.blk
  map := h.map.stays (hk m h.fm)
  own := owns_stays h.own fun k e => hk k (h.fw k e)
  waits := fun j hj => by
    obtain ⟨v, h1, h2, h3⟩ := h.waits j hj
    exact ⟨v, h1, h2, h3.stays fun k _ hF _ => hk k hF⟩
  kept := fun a => by
    rcases h.kept a with h1 | ⟨v, h1, h2⟩
    · exact Or.inl h1
    · exact Or.inr ⟨v, h1, h2.stays fun k _ hF _ => hk k hF⟩
  fg := h.fg
  fm := h.fm
  fw := h.fw
  lt := fun k hF => Nat.lt_of_lt_of_le (h.lt k hF) hs
  ok := h.ok
theorem RRep.stays {F : Nat → Prop} {w w' : World} {p : Value} {s : DK} {cnt : Nat} (h : RRep F w p s cnt) (hs : w.heap.size ≤ w'.heap.size) (hk : ∀ k, F k → w'.heap[k]? = w.heap[k]?) : RRep F w' p s cnt := by
  obtain ⟨g, m, wv, f, xs, hp, h⟩ := h
  exact ⟨g, m, wv, f, xs, hp, h.stays hs hk⟩
theorem RRep.lt {F : Nat → Prop} {w : World} {p : Value} {s : DK} {cnt : Nat} (h : RRep F w p s cnt) : ∀ k, F k → k < w.heap.size := by
  obtain ⟨g, m, wv, f, xs, hp, h⟩ := h
  exact h.lt
theorem RRep.ok {F : Nat → Prop} {w : World} {p : Value} {s : DK} {cnt : Nat} (h : RRep F w p s cnt) : s.Ok := by
  obtain ⟨g, m, wv, f, xs, hp, h⟩ := h
  exact h.ok

/-- The variable of the device gets other cells; all else stands. -/
theorem RAt.set {F : Nat → Prop} {w w' : World} {g m : Nat} {wv : Value} {f : Int → Option Value} {xs : List Value} {s s' : DK} {cnt : Nat} (h : RAt F w g m wv f xs s cnt)
    (hb : w'.heap[g]? = some (.cells #[.int .i64 (s'.n : Int), .map (some m), wv, .int .i64 (s'.armed : Int), .bool s'.fell, .int .i64 (s'.turns : Int)] 69 (0, 0)))
    (hs : w.heap.size ≤ w'.heap.size) (hk : ∀ k, k ≠ g → k < w.heap.size → w'.heap[k]? = w.heap[k]?) (hw : s'.waits = s.waits) (hkept : s'.kept = s.kept) (hok : s'.Ok) : RAt F w' g m wv f xs s' cnt where
  blk := hb
  map := h.map.stays (hk m (fun e => by obtain ⟨es, c, hh⟩ := h.map.heap; rw [e, h.blk] at hh; cases hh) (h.lt m h.fm))
  own := by
    rw [hw]
    exact owns_stays h.own fun k e => hk k (fun ek => by obtain ⟨cur, hh⟩ := own_kind h.own k e; rw [ek, h.blk] at hh; cases hh) (h.lt k (h.fw k e))
  waits := by
    rw [hw]
    intro j hj
    obtain ⟨v, h1, h2, h3⟩ := h.waits j hj
    exact ⟨v, h1, h2, h3.stays fun k cur hF hh => hk k (fun ek => by rw [ek, h.blk] at hh; cases hh) (h.lt k hF)⟩
  kept := by
    rw [hkept]
    intro a
    rcases h.kept a with h1 | ⟨v, h1, h2⟩
    · exact Or.inl h1
    · exact Or.inr ⟨v, h1, h2.stays fun k cur hF hh => hk k (fun ek => by rw [ek, h.blk] at hh; cases hh) (h.lt k hF)⟩
  fg := h.fg
  fm := h.fm
  fw := h.fw
  lt := fun k hF => Nat.lt_of_lt_of_le (h.lt k hF) hs
  ok := hok

/-- The writes that wait are gone, and other cells of the variable may be others. -/
theorem RAt.drop {F : Nat → Prop} {w w' : World} {g m : Nat} {wv : Value} {f : Int → Option Value} {xs : List Value} {s s' : DK} {cnt : Nat} (h : RAt F w g m wv f xs s cnt)
    (hb : w'.heap[g]? = some (.cells #[.int .i64 (s'.n : Int), .map (some m), .slice none 0 0, .int .i64 (s'.armed : Int), .bool s'.fell, .int .i64 (s'.turns : Int)] 69 (0, 0)))
    (hs : w.heap.size ≤ w'.heap.size) (hk : ∀ k, k ≠ g → k < w.heap.size → w'.heap[k]? = w.heap[k]?) (hw : s'.waits = []) (hkept : s'.kept = s.kept) (hok : s'.Ok) : RAt F w' g m (.slice none 0 0) f [] s' cnt where
  blk := hb
  map := h.map.stays (hk m (fun e => by obtain ⟨es, c, hh⟩ := h.map.heap; rw [e, h.blk] at hh; cases hh) (h.lt m h.fm))
  own := by rw [hw]; exact World.ownsRow_nil _ _ _ _
  waits := by rw [hw]; exact fun j hj => by cases hj
  kept := by
    rw [hkept]
    intro a
    rcases h.kept a with h1 | ⟨v, h1, h2⟩
    · exact Or.inl h1
    · exact Or.inr ⟨v, h1, h2.stays fun k cur hF hh => hk k (fun ek => by rw [ek, h.blk] at hh; cases hh) (h.lt k hF)⟩
  fg := h.fg
  fm := h.fm
  fw := fun k hk => by cases hk
  lt := fun k hF => Nat.lt_of_lt_of_le (h.lt k hF) hs
  ok := hok

theorem RAt.shape {F : Nat → Prop} {w : World} {g m : Nat} {wv : Value} {f : Int → Option Value} {xs : List Value} {s : DK} {cnt : Nat} (h : RAt F w g m wv f xs s cnt) : ∃ q c, wv = .slice q s.waits.length c := by
  rcases h.own.2 with ⟨h1, h2⟩ | ⟨k, cap, cur, h1, _⟩
  · exact ⟨none, 0, by rw [h1, h2]⟩
  · exact ⟨_, cap, h1⟩
/-- Where a write that waits lies. -/
theorem RAt.wait {F : Nat → Prop} {w : World} {g m : Nat} {wv : Value} {f : Int → Option Value} {xs : List Value} {s : DK} {cnt : Nat} (h : RAt F w g m wv f xs s cnt) (j : Nat) (hj : j < s.waits.length) :
    ∃ k cap v, wv = .slice (some ⟨k, 0, none⟩) s.waits.length cap ∧ F k ∧ s.waits.length ≤ cap ∧ w.cell? ⟨k, j * 2, none⟩ = some (.int .i64 (s.waits[j].1 : Int)) ∧ w.cell? ⟨k, j * 2 + 1, none⟩ = some v ∧ RowIn F w v s.waits[j].2 := by
  obtain ⟨v, h1, h2, h3⟩ := h.waits j hj
  have hF := h.fw
  rcases h.own.2 with ⟨_, h5⟩ | ⟨k, cap, cur, rfl, _, hh, hnc, _⟩
  · omega
  · have hc := h.own.cells (g := k) rfl
    refine ⟨k, cap, v, rfl, hF k rfl, hnc, ?_, ?_, h3⟩
    · have := hc (2 * j) _ h1
      rw [Addr.add_lit, Nat.zero_add] at this
      rw [Nat.mul_comm]
      exact this
    · have := hc (2 * j + 1) _ h2
      rw [Addr.add_lit, Nat.zero_add] at this
      rw [Nat.mul_comm]
      exact this

theorem rnew_arg (n : Int) (w : World) (h : n < 1 ∨ 65536 < n) : Calls Try.prog 10 #[.int .i64 n] w fun e w' => e = .returned (.tuple #[.pointer none, .int .i64 1]) ∧ w' = w := by
  rcases h with h | h
  · go_enter Try.func10, Try.ntmps10
    go_wp2
    go_ret2
    exact ⟨rfl, rfl⟩
  · have h' : ¬ n < 1 := by omega
    go_enter Try.func10, Try.ntmps10
    go_wp2
    go_ret2
    exact ⟨rfl, rfl⟩

theorem rnew_ok (n : Nat) (w : World) (h1 : 1 ≤ n) (h2 : n ≤ 65536) : Calls Try.prog 10 #[.int .i64 (n : Int)] w fun e w' => ∃ p, e = .returned (.tuple #[p, .int .i64 0]) ∧ (∃ a, p = .pointer (some a)) ∧ (∃ F, RRep F w' p (DK.new n) 0 ∧ ∀ k, F k → w.heap.size ≤ k) ∧ Below w.heap.size w w' := by
  have i1 : ¬ (n : Int) < 1 := by omega
  have i2 : (n : Int) ≤ 65536 := by omega
  have hmk : ∀ w, (Instr.makeMap 66 none).run Try.prog w = .ok (.map (some w.heap.size)) (w.alloc (.map #[] 0)) := fun _ => rfl
  go_enter Try.func10, Try.ntmps10
  go_wp2
  go_ret2
  have bel : Below w.heap.size w ((w.alloc (.map #[] 0)).alloc (.cells #[.int .i64 (n : Int), .map (some w.heap.size), .slice none 0 0, .int .i64 0, .bool false, .int .i64 0] 69)) := ((Below.refl _ _).alloc (Nat.le_refl _) _).alloc (by simp) _
  refine ⟨_, rfl, ⟨_, rfl⟩, ⟨fun k => w.heap.size ≤ k ∧ k < w.heap.size + 2, ⟨w.heap.size + 1, w.heap.size, .slice none 0 0, fun _ => none, [], rfl, ?_⟩, fun k h => h.1⟩, bel⟩
  constructor
  · have h := heap_alloc_new (w.alloc (.map #[] 0)) (.cells #[.int .i64 (n : Int), .map (some w.heap.size), .slice none 0 0, .int .i64 0, .bool false, .int .i64 0] 69)
    rw [World.size_alloc] at h
    exact h
  · exact (MapIs.made Try.prog 3 w).stays (Below.heap_alloc _ _ _ (by simp))
  · exact World.ownsRow_nil _ _ _ _
  · exact fun j hj => by cases hj
  · exact fun a => Or.inl ⟨rfl, rfl⟩
  · exact ⟨by omega, by omega⟩
  · exact ⟨by omega, by omega⟩
  · exact fun k hk => by cases hk
  · rintro k ⟨_, hk⟩; simp; omega
  · exact DK.Ok.new h2

/-- Behind a write or a flush the count goes on. -/
theorem rhit_any (F : Nat → Prop) (p : Value) (s : DK) (cnt : Nat) (w : World) (h : RRep F w p s cnt) (hf : s.fell = false) :
    Calls Try.prog 54 #[p] w fun e w' => e = .returned (.bool (s.armed == 1)) ∧ RRep F w' p s.tick cnt ∧ Keep F w w' := by
  obtain ⟨g, m, wv, f, xs, rfl, R⟩ := h
  have ha := R.ok.armed
  obtain ⟨c0, c1, c2, c3, c4, c5, hfz⟩ := six_cells R.blk
  have hfz3 := hfz 3
  have hfz4 := hfz 4
  have HR := hide R
  have HF := hide hf
  rw [hf] at c4
  clear R hfz hf
  by_cases h0 : s.armed < 1
  · have h0' : (s.armed : Int) < 1 := by omega
    have h1 : (s.armed == 1) = false := by rw [beq_eq_false_iff_ne]; omega
    have HR2 : Hid (RAt F w g m wv f xs s.tick cnt) := by
      have R := unhide HR
      refine R.set ?_ (Nat.le_refl _) (fun _ _ _ => rfl) rfl rfl R.ok.tick
      rw [R.blk]
      unfold DK.tick
      rw [h1, unhide HF, show s.armed - 1 = s.armed by omega]
    clear ha
    go_enter Try.func54, Try.ntmps54
    go_wp2
    go_ret
    exact ⟨by rw [h1]; rfl, ⟨g, m, wv, f, xs, rfl, unhide HR2⟩, Keep.refl _ _⟩
  · by_cases h1 : s.armed = 1
    · have c3' : w.cell? ⟨g, 3, none⟩ = some (.int .i64 1) := by rw [c3, h1]; rfl
      have h1' : (s.armed == 1) = true := by rw [h1]; rfl
      have HK : Hid (RAt F ((w.setCell ⟨g, 3, none⟩ (.int .i64 0)).setCell ⟨g, 4, none⟩ (.bool true)) g m wv f xs s.tick cnt ∧ Keep F w ((w.setCell ⟨g, 3, none⟩ (.int .i64 0)).setCell ⟨g, 4, none⟩ (.bool true))) := by
        have R := unhide HR
        have b1 := heap_setCell_same w g 3 _ _ (.int .i64 0) R.blk
        have b2 := heap_setCell_same _ g 4 _ _ (.bool true) b1
        have hk : ∀ k, k ≠ g → ((w.setCell ⟨g, 3, none⟩ (.int .i64 0)).setCell ⟨g, 4, none⟩ (.bool true)).heap[k]? = w.heap[k]? := fun k hk => by
          rw [Below.heap_setCell _ _ _ _ hk, Below.heap_setCell _ _ _ _ hk]
        refine ⟨R.set ?_ (by simp) (fun k h _ => hk k h) rfl rfl (R.ok.tick), ⟨rfl, rfl, rfl, by simp, fun k _ hn => hk k (fun e => hn (e ▸ R.fg))⟩⟩
        rw [b2]
        unfold DK.tick
        rw [h1', h1]
        rfl
      rw [h1']
      clear c3 h1 h1' h0 HR ha
      go_enter Try.func54, Try.ntmps54
      go_wp2
      go_ret
      exact ⟨rfl, ⟨g, m, wv, f, xs, rfl, (unhide HK).1⟩, (unhide HK).2⟩
    · have h1' : (s.armed == 1) = false := by rw [beq_eq_false_iff_ne]; exact h1
      obtain ⟨A, hA⟩ : ∃ A : Int, A = (s.armed : Int) := ⟨_, rfl⟩
      have HK : Hid (RAt F (w.setCell ⟨g, 3, none⟩ (.int .i64 (A - 1))) g m wv f xs s.tick cnt ∧ Keep F w (w.setCell ⟨g, 3, none⟩ (.int .i64 (A - 1)))) := by
        have R := unhide HR
        have b1 := heap_setCell_same w g 3 _ _ (.int .i64 (A - 1)) R.blk
        have hk : ∀ k, k ≠ g → (w.setCell ⟨g, 3, none⟩ (.int .i64 (A - 1))).heap[k]? = w.heap[k]? := fun k hk => by
          rw [Below.heap_setCell _ _ _ _ hk]
        refine ⟨R.set ?_ (by simp) (fun k h _ => hk k h) rfl rfl (R.ok.tick), ⟨rfl, rfl, rfl, by simp, fun k _ hn => hk k (fun e => hn (e ▸ R.fg))⟩⟩
        rw [b1]
        unfold DK.tick
        rw [h1', unhide HF, show ((s.armed - 1 : Nat) : Int) = A - 1 by omega]
        rfl
      rw [h1']
      rw [← hA] at c3
      have hA1 : 2 ≤ A := by omega
      have hA2 : A ≤ 9223372036854775807 := by omega
      have hd : (A - 1 == 0) = false := by rw [beq_eq_false_iff_ne]; omega
      clear h1 h1' h0 HR hA ha
      go_enter Try.func54, Try.ntmps54
      go_wp2
      go_ret
      exact ⟨rfl, ⟨g, m, wv, f, xs, rfl, (unhide HK).1⟩, (unhide HK).2⟩
end Go.Proofs.Ytkekikfiijbjmaa
