/- Texts of ours, one behind the other: DiskOwn, DiskOwn2, WalOwn1. -/
import Derived.Test.YtpkpjmebkikgdaaG1
import Derived.Test.YtpkpjmebkikgdaaG4
import Derived.Test.YtpkpjmebkikgdaaG5
import Derived.Test.YtpkpjmebkikgdaaG19
import Derived.Test.YtpkpjmebkikgdaaG20
/- The landed package disk: a device in memory; what is asked of it without a change; Arm, Start, the count of writes and flushes. -/
namespace Go.Proofs.Ytpkpjmebkikgdaa
open Go.RowKit

/-- Eight cells of a variable. -/
theorem eight_cells {w : World} {g e : Nat} {a b c d x y z u : Value} (h : w.heap[g]? = some (.cells #[a, b, c, d, x, y, z, u] e (0, 0))) :
    w.cell? ⟨g, 0, none⟩ = some a ∧ w.cell? ⟨g, 1, none⟩ = some b ∧ w.cell? ⟨g, 2, none⟩ = some c ∧ w.cell? ⟨g, 3, none⟩ = some d ∧ w.cell? ⟨g, 4, none⟩ = some x ∧ w.cell? ⟨g, 5, none⟩ = some y ∧ w.cell? ⟨g, 6, none⟩ = some z ∧ w.cell? ⟨g, 7, none⟩ = some u ∧
    ∀ j, w.frozen? ⟨g, j, none⟩ = false := by
  refine ⟨?_, ?_, ?_, ?_, ?_, ?_, ?_, ?_, fun j => by simp [World.frozen?, h]⟩
  all_goals (rw [cell_of_row w g _ _ e (0, 0) h]; rfl)

/-- Sectors one behind the other in a block. -/
def Imgs (w : World) (kb n kc : Nat) (f : Nat → List UInt8) : Prop :=
  ∃ C, w.heap[kb]? = some (.cells C 89 (0, 0)) ∧ C.size = kc * 512 ∧ n ≤ kc ∧ kc ≤ maxLen ∧ ∀ a, a < n → w.rangeAt kb (a * 512) ((f a).map B)
theorem Imgs.stays {w w' : World} {kb n kc : Nat} {f : Nat → List UInt8} (h : Imgs w kb n kc f) (hb : w'.heap[kb]? = w.heap[kb]?) : Imgs w' kb n kc f := by
  obtain ⟨C, h1, h2, h3, h4, h5⟩ := h
  exact ⟨C, hb.trans h1, h2, h3, h4, fun a ha => range_stays (h5 a ha) hb⟩
theorem Imgs.there {w : World} {kb n kc : Nat} {f : Nat → List UInt8} (h : Imgs w kb n kc f) {a : Nat} (ha : a < n) : w.there kb (a * 512) 512 := by
  obtain ⟨C, h1, h2, h3, h4, h5⟩ := h
  exact there_of_block h1 (by omega)
theorem Imgs.store {w : World} {kb n kc : Nat} {f : Nat → List UInt8} (h : Imgs w kb n kc f) (hf : ∀ k, (f k).length = 512) {a : Nat} (ha : a < n) {b : List UInt8} (hb : b.length = 512) : Imgs (w.setCells kb (a * 512) (b.map B)) kb n kc (keep1 f (a, b)) := by
  have ht := h.there ha
  obtain ⟨C, h1, h2, h3, h4, h5⟩ := h
  obtain ⟨C', h6, h7⟩ := block_setCells kb _ (b.map B) (a * 512) w C h1
  refine ⟨C', h6, h7.trans h2, h3, h4, fun x hx => ?_⟩
  by_cases e : x = a
  · subst e
    have : keep1 f (x, b) x = b := by simp [keep1]
    rw [this]
    exact World.rangeAt_setCells_same w kb _ _ (by rw [List.length_map, hb]; exact ht)
  · have : keep1 f (a, b) x = f x := by simp [keep1, e]
    rw [this]
    refine World.rangeAt_setCells_apart (h5 x hx) _ _ _ (Or.inr ?_)
    rw [List.length_map, List.length_map, hb, hf x]
    omega

/-- The map of the last writes. -/
def MapAt (F : Nat → Prop) (w : World) (mv : Value) (l : List (Nat × List UInt8)) : Prop :=
  (mv = .map none ∧ l = []) ∨ ∃ m f cnt, mv = .map (some m) ∧ F m ∧ MapIs Try.prog 3 w m cnt f ∧ cnt ≤ l.length ∧ ∀ a : Nat, ∃ r, LastOf l a r ∧ f (a : Int) = r.map (fun i : Nat => Value.int .i64 (i : Int))

/-- A device in memory: its variable, its sectors, the writes that wait, the map of the last ones; all of them are F. -/
structure DAt (F : Nat → Prop) (w : World) (g kb kc : Nat) (wv mv : Value) (s : DK) (hit : Int) : Prop where
  blk : w.heap[g]? = some (.cells #[.slice (some ⟨kb, 0, none⟩) s.n kc, wv, mv, .bool s.fell, .int .i64 (s.ticks : Int), .int .i64 hit, .int .i64 (s.turns : Int), .int .i64 0] 58 (0, 0))
  kept : Imgs w kb s.n kc s.kept
  own : w.ownsRow 0 91 513 wv s.waits.length (wrs s.waits)
  map : MapAt F w mv s.waits
  armed : s.armed = (hit - s.ticks).toNat
  fg : F g
  fk : F kb
  fw : ∀ k, wv.ownBlock = some k → F k
  lt : ∀ k, F k → k < w.heap.size
  ok : s.Ok

def DRep (F : Nat → Prop) (w : World) (p : Value) (s : DK) : Prop :=
  ∃ g kb kc wv mv hit, p = .pointer (some ⟨g, 0, none⟩) ∧ DAt F w g kb kc wv mv s hit

theorem MapIs.isMap {P : Program} {k : TypeId} {w : World} {b n : Nat} {f : Int → Option Value} (h : MapIs P k w b n f) : ∃ es c, w.heap[b]? = some (.map es c) := by
  obtain ⟨D, ⟨es, clock, h1, _⟩, _⟩ := h
  exact ⟨es, clock, h1⟩
theorem MapAt.stays {F : Nat → Prop} {w w' : World} {mv : Value} {l : List (Nat × List UInt8)} (h : MapAt F w mv l) (hk : ∀ k, F k → (∃ es c, w.heap[k]? = some (.map es c)) → w'.heap[k]? = w.heap[k]?) : MapAt F w' mv l := by
  rcases h with h | ⟨m, f, cnt, h1, h2, h3, h4⟩
  · exact Or.inl h
  · exact Or.inr ⟨m, f, cnt, h1, h2, h3.stays (hk m h2 h3.isMap), h4⟩
theorem MapAt.weak {F G : Nat → Prop} {w : World} {mv : Value} {l : List (Nat × List UInt8)} (h : MapAt F w mv l) (hs : ∀ k, F k → G k) : MapAt G w mv l := by
  rcases h with h | ⟨m, f, cnt, h1, h2, h3⟩
  · exact Or.inl h
  · exact Or.inr ⟨m, f, cnt, h1, hs m h2, h3⟩
theorem row_stays {w w' : World} {base e sz : Nat} {v : Value} {n : Nat} {xs : List Value} (h : w.ownsRow base e sz v n xs) (hk : ∀ k, v.ownBlock = some k → w'.heap[k]? = w.heap[k]?) : w'.ownsRow base e sz v n xs := by
  refine ⟨h.1, ?_⟩
  rcases h.2 with h2 | ⟨g, cap, cur, rfl, hg, hh, r⟩
  · exact Or.inl h2
  · exact Or.inr ⟨g, cap, cur, rfl, hg, (hk g rfl).trans hh, r⟩
theorem row_kind {w : World} {base e sz : Nat} {v : Value} {n : Nat} {xs : List Value} (h : w.ownsRow base e sz v n xs) : ∀ k, v.ownBlock = some k → ∃ cur, w.heap[k]? = some (.cells cur e (0, 0)) := by
  intro k hk
  rcases h.2 with ⟨rfl, _⟩ | ⟨g, cap, cur, rfl, hg, hh, r⟩
  · cases hk
  · cases hk
    exact ⟨cur, hh⟩

section
variable {F : Nat → Prop} {w w' : World} {g kb kc : Nat} {wv mv : Value} {s s' : DK} {hit hit' : Int}

theorem DAt.stays (h : DAt F w g kb kc wv mv s hit) (hs : w.heap.size ≤ w'.heap.size) (hk : ∀ k, F k → w'.heap[k]? = w.heap[k]?) : DAt F w' g kb kc wv mv s hit where
  blk := (hk g h.fg).trans h.blk
  kept := h.kept.stays (hk kb h.fk)
  own := row_stays h.own fun k e => hk k (h.fw k e)
  map := h.map.stays fun k hF _ => hk k hF
  armed := h.armed
  fg := h.fg
  fk := h.fk
  fw := h.fw
  lt := fun k hF => Nat.lt_of_lt_of_le (h.lt k hF) hs
  ok := h.ok

theorem DAt.kg (h : DAt F w g kb kc wv mv s hit) : kb ≠ g := by
  intro e
  obtain ⟨C, hC, _⟩ := h.kept
  rw [e, h.blk] at hC
  cases hC
theorem DAt.wg (h : DAt F w g kb kc wv mv s hit) : wv.ownBlock ≠ some g := fun e => by
  obtain ⟨cur, hh⟩ := row_kind h.own g e
  rw [h.blk] at hh
  cases hh
theorem DAt.wk (h : DAt F w g kb kc wv mv s hit) : wv.ownBlock ≠ some kb := fun e => by
  obtain ⟨cur, hh⟩ := row_kind h.own kb e
  obtain ⟨C, hC, _⟩ := h.kept
  rw [hC] at hh
  cases hh

/-- The variable of the device gets other cells; all else stands. -/
theorem DAt.set (h : DAt F w g kb kc wv mv s hit)
    (hb : w'.heap[g]? = some (.cells #[.slice (some ⟨kb, 0, none⟩) s'.n kc, wv, mv, .bool s'.fell, .int .i64 (s'.ticks : Int), .int .i64 hit', .int .i64 (s'.turns : Int), .int .i64 0] 58 (0, 0)))
    (hs : w.heap.size ≤ w'.heap.size) (hk : ∀ k, k ≠ g → k < w.heap.size → w'.heap[k]? = w.heap[k]?) (hn : s'.n = s.n) (hw : s'.waits = s.waits) (hkept : s'.kept = s.kept) (ha : s'.armed = (hit' - s'.ticks).toNat) (hok : s'.Ok) : DAt F w' g kb kc wv mv s' hit' where
  blk := hb
  kept := by
    rw [hn, hkept]
    exact h.kept.stays (hk kb h.kg (h.lt kb h.fk))
  own := by
    rw [hw]
    exact row_stays h.own fun k e => hk k (fun ek => h.wg (ek ▸ e)) (h.lt k (h.fw k e))
  map := by
    rw [hw]
    exact h.map.stays fun k hF hm => hk k (fun ek => by obtain ⟨es, c, hm⟩ := hm; rw [ek, h.blk] at hm; cases hm) (h.lt k hF)
  armed := ha
  fg := h.fg
  fk := h.fk
  fw := h.fw
  lt := fun k hF => Nat.lt_of_lt_of_le (h.lt k hF) hs
  ok := hok

/-- The writes that wait are gone, and other cells of the variable may be others. -/
theorem DAt.drop (h : DAt F w g kb kc wv mv s hit)
    (hb : w'.heap[g]? = some (.cells #[.slice (some ⟨kb, 0, none⟩) s'.n kc, .slice none 0 0, .map none, .bool s'.fell, .int .i64 (s'.ticks : Int), .int .i64 hit', .int .i64 (s'.turns : Int), .int .i64 0] 58 (0, 0)))
    (hs : w.heap.size ≤ w'.heap.size) (hk : ∀ k, k ≠ g → k < w.heap.size → w'.heap[k]? = w.heap[k]?) (hn : s'.n = s.n) (hw : s'.waits = []) (hkept : s'.kept = s.kept) (ha : s'.armed = (hit' - s'.ticks).toNat) (hok : s'.Ok) : DAt F w' g kb kc (.slice none 0 0) (.map none) s' hit' where
  blk := hb
  kept := by
    rw [hn, hkept]
    exact h.kept.stays (hk kb h.kg (h.lt kb h.fk))
  own := by rw [hw]; exact World.ownsRow_nil _ _ _ _
  map := Or.inl ⟨rfl, hw⟩
  armed := ha
  fg := h.fg
  fk := h.fk
  fw := fun k hk => by cases hk
  lt := fun k hF => Nat.lt_of_lt_of_le (h.lt k hF) hs
  ok := hok

theorem DAt.shape (h : DAt F w g kb kc wv mv s hit) : ∃ q c, wv = .slice q s.waits.length c := by
  rcases h.own.2 with ⟨h1, h2⟩ | ⟨k, cap, cur, h1, _⟩
  · exact ⟨none, 0, by rw [h1, h2]⟩
  · exact ⟨_, cap, h1⟩
theorem DAt.mshape (h : DAt F w g kb kc wv mv s hit) : ∃ m, mv = .map m := by
  rcases h.map with ⟨h1, _⟩ | ⟨m, f, cnt, h1, _⟩
  · exact ⟨none, h1⟩
  · exact ⟨some m, h1⟩
/-- Where a write that waits lies. -/
theorem DAt.wait (h : DAt F w g kb kc wv mv s hit) (j : Nat) (hj : j < s.waits.length) :
    ∃ k cap, wv = .slice (some ⟨k, 0, none⟩) s.waits.length cap ∧ F k ∧ s.waits.length ≤ cap ∧ w.rangeAt k (j * 513) (wr1 s.waits[j]) := by
  have hF := h.fw
  rcases h.own.2 with ⟨_, h5⟩ | ⟨k, cap, cur, rfl, _, hh, hnc, _⟩
  · omega
  · have hc := h.own.cells (g := k) rfl
    refine ⟨k, cap, rfl, hF k rfl, hnc, fun i v hv => ?_⟩
    have hi : i < 513 := by
      have := (List.getElem?_eq_some_iff.1 hv).1
      rw [length_wr1 (h.ok.waits _ (List.getElem_mem hj)).2] at this
      exact this
    have := hc (j * 513 + i) v (by rw [wrs_get (fun x hx => (h.ok.waits x hx).2) j i hj hi]; exact hv)
    rw [Addr.add_lit, Nat.zero_add] at this
    exact this
end

theorem DRep.lt {F : Nat → Prop} {w : World} {p : Value} {s : DK} (h : DRep F w p s) : ∀ k, F k → k < w.heap.size := by
  obtain ⟨g, kb, kc, wv, mv, hit, _, h⟩ := h
  exact h.lt
theorem DRep.stays {F : Nat → Prop} {w w' : World} {p : Value} {s : DK} (h : DRep F w p s) (hs : w.heap.size ≤ w'.heap.size) (hk : ∀ k, F k → w'.heap[k]? = w.heap[k]?) : DRep F w' p s := by
  obtain ⟨g, kb, kc, wv, mv, hit, hp, h⟩ := h
  exact ⟨g, kb, kc, wv, mv, hit, hp, h.stays hs hk⟩
theorem DRep.ptr {F : Nat → Prop} {w : World} {p : Value} {s : DK} (h : DRep F w p s) : ∃ a, p = .pointer (some a) := by
  obtain ⟨g, kb, kc, wv, mv, hit, hp, h⟩ := h
  exact ⟨_, hp⟩
theorem DRep.ok {F : Nat → Prop} {w : World} {p : Value} {s : DK} (h : DRep F w p s) : s.Ok := by
  obtain ⟨g, kb, kc, wv, mv, hit, hp, h⟩ := h
  exact h.ok
end Go.Proofs.Ytpkpjmebkikgdaa

/- The landed package disk: what is asked of it without a change; Arm, Start, the count of writes and flushes. -/
namespace Go.Proofs.Ytpkpjmebkikgdaa
open Go.RowKit

theorem orefuses_any (F : Nat → Prop) (p : Value) (s : DK) (w : World) (h : DRep F w p s) :
    Calls Try.prog 15 #[p] w fun e w' => e = .returned (.int .i64 (if s.fell = true then 40 else 0)) ∧ w' = w := by
  obtain ⟨g, kb, kc, wv, mv, hit, rfl, R⟩ := h
  obtain ⟨c0, c1, c2, c3, c4, c5, c6, c7, hfz⟩ := eight_cells R.blk
  clear R hfz c0 c1 c2 c4 c5 c6 c7
  cases hf : s.fell with
  | true =>
    rw [hf] at c3
    go_enter Try.func15, Try.ntmps15
    go_wp2
    go_ret
    exact ⟨rfl, rfl⟩
  | false =>
    rw [hf] at c3
    go_enter Try.func15, Try.ntmps15
    go_wp2
    go_ret
    exact ⟨rfl, rfl⟩

theorem ohas_any (F : Nat → Prop) (p : Value) (s : DK) (a : Int) (w : World) (h : DRep F w p s) :
    Calls Try.prog 16 #[p, .int .i64 a] w fun e w' => e = .returned (.bool (!s.noSuch a)) ∧ w' = w := by
  obtain ⟨g, kb, kc, wv, mv, hit, rfl, R⟩ := h
  obtain ⟨c0, c1, c2, c3, c4, c5, c6, c7, hfz⟩ := eight_cells R.blk
  have hn := R.ok.size
  have hnI : (s.n : Int) ≤ 65536 := by omega
  clear R hfz c1 c2 c3 c4 c5 c6 c7 hn
  by_cases h0 : 0 ≤ a
  · by_cases h1 : a < s.n
    · have e : s.noSuch a = false := by unfold DK.noSuch; simp; omega
      rw [e]
      clear e
      go_enter Try.func16, Try.ntmps16
      go_wp2
      go_ret
      exact ⟨rfl, rfl⟩
    · have e : s.noSuch a = true := by unfold DK.noSuch; simp; omega
      rw [e]
      clear e
      go_enter Try.func16, Try.ntmps16
      go_wp2
      go_ret
      exact ⟨rfl, rfl⟩
  · have e : s.noSuch a = true := by unfold DK.noSuch; simp; omega
    rw [e]
    clear e
    go_enter Try.func16, Try.ntmps16
    go_wp2
    go_ret
    exact ⟨rfl, rfl⟩

theorem odown_any (F : Nat → Prop) (p : Value) (s : DK) (w : World) (h : DRep F w p s) :
    Calls Try.prog 22 #[p] w fun e w' => e = .returned (.bool s.fell) ∧ Below w.heap.size w w' := by
  obtain ⟨g, kb, kc, wv, mv, hit, rfl, R⟩ := h
  obtain ⟨c0, c1, c2, c3, c4, c5, c6, c7, hfz⟩ := eight_cells R.blk
  clear R hfz c0 c1 c2 c4 c5 c6 c7
  go_enter Try.func22, Try.ntmps22
  go_wp2
  go_ret
  exact ⟨rfl, Below.refl _ _⟩
theorem osize_any (F : Nat → Prop) (p : Value) (s : DK) (w : World) (h : DRep F w p s) :
    Calls Try.prog 21 #[p] w fun e w' => e = .returned (.int .i64 (s.n : Int)) ∧ Below w.heap.size w w' := by
  obtain ⟨g, kb, kc, wv, mv, hit, rfl, R⟩ := h
  obtain ⟨c0, c1, c2, c3, c4, c5, c6, c7, hfz⟩ := eight_cells R.blk
  clear R hfz c1 c2 c3 c4 c5 c6 c7
  go_enter Try.func21, Try.ntmps21
  go_wp2
  go_ret
  exact ⟨rfl, Below.refl _ _⟩
/-- A tally counts one more. -/
theorem ocount_any (g o : Nat) (n h : Int) (w : World) (c0 : w.cell? ⟨g, o, none⟩ = some (.int .i64 n)) (c1 : w.cell? ⟨g, o + 1, none⟩ = some (.int .i64 h)) (hf : w.frozen? ⟨g, o, none⟩ = false) (h0 : 0 ≤ n) (h1 : n ≤ 1048576) :
    Calls Try.prog 19 #[.pointer (some ⟨g, o, none⟩)] w fun e w' => e = .returned (.bool (n + 1 == h)) ∧ w' = (w.setCell ⟨g, o, none⟩ (.int .i64 (n + 1))).drew := by
  have c2 : (w.setCell ⟨g, o, none⟩ (.int .i64 (n + 1))).cell? ⟨g, o + 1, none⟩ = some (.int .i64 h) := by
    rw [World.cell?_setCell_other _ _ _ _ (by simp)]
    exact c1
  go_enter Try.func19, Try.ntmps19
  go_wp2
  go_region
  go_wp2
  go_ret
  exact ⟨rfl, rfl⟩

end Go.Proofs.Ytpkpjmebkikgdaa

/- The landed package wal: a log in memory; what is asked of it without a change; what a nil log answers. -/
namespace Go.Proofs.Ytpkpjmebkikgdaa
open Go.RowKit

/-- The cells of a log's variable. -/
def logC (dp : Value) (n : Int) (L : LG) (sv : Value) : Array Value :=
  #[dp, .int .i64 n, .int .i64 3, .int .i64 13, .int .i64 (lz n), .int .i64 (13 + lz n), .int .i64 (13 + 2 * lz n), .int .i64 (lz n), .int .i64 (13 + 3 * lz n), .int .i64 (lseg n),
    .int .u64 (L.age : Int), .int .u64 (L.first : Int), .int .u64 (L.next : Int), sv, .bool L.fallen]
def startC (p : Nat × Nat) : List Value := [.int .u64 (p.1 : Int), .int .u64 (p.2 : Int)]
def startsC (l : List (Nat × Nat)) : List Value := l.flatMap startC
theorem startsC_append (a b : List (Nat × Nat)) : startsC (a ++ b) = startsC a ++ startsC b := by simp [startsC]
theorem length_startsC (l : List (Nat × Nat)) : (startsC l).length = l.length * 2 := by
  induction l with
  | nil => rfl
  | cons p l ih => simp only [startsC, List.flatMap_cons, List.length_append, List.length_cons] at *; rw [ih]; simp [startC]; omega
theorem startsC_get : ∀ (l : List (Nat × Nat)) (j : Nat) (h : j < l.length) (i : Nat), i < 2 → (startsC l)[j * 2 + i]? = (startC l[j])[i]?
  | p :: l, 0, h, i, hi => by
    simp only [startsC, List.flatMap_cons, List.getElem_cons_zero, Nat.zero_mul, Nat.zero_add]
    rw [List.getElem?_append_left (by simp [startC]; omega)]
  | p :: l, j + 1, h, i, hi => by
    have := startsC_get l j (by simpa using h) i hi
    simp only [startsC, List.flatMap_cons, List.getElem_cons_succ] at *
    rw [List.getElem?_append_right (by simp [startC]; omega), ← this]
    congr 1
    simp [startC]
    omega

/-- A log in memory: its variable g, the slice of its records' beginnings; G is all of it. -/
structure LAt (G : Nat → Prop) (w : World) (g : Nat) (dp : Value) (n : Int) (sv : Value) (L : LG) : Prop where
  blk : w.heap[g]? = some (.cells (logC dp n L sv) 64 (0, 0))
  own : w.ownsRow 0 117 2 sv L.starts.length (startsC L.starts)
  fits : Fits n
  ok : L.Ok (lz n).toNat
  fg : G g
  fs : ∀ k, sv.ownBlock = some k → G k
  lt : ∀ k, G k → k < w.heap.size
def LRep (G : Nat → Prop) (w : World) (lp dp : Value) (n : Int) (L : LG) : Prop := ∃ g sv, lp = .pointer (some ⟨g, 0, none⟩) ∧ LAt G w g dp n sv L

theorem fifteen_cells {w : World} {g e : Nat} {a0 a1 a2 a3 a4 a5 a6 a7 a8 a9 a10 a11 a12 a13 a14 : Value} (h : w.heap[g]? = some (.cells #[a0, a1, a2, a3, a4, a5, a6, a7, a8, a9, a10, a11, a12, a13, a14] e (0, 0))) :
    (w.cell? ⟨g, 0, none⟩ = some a0 ∧ w.cell? ⟨g, 1, none⟩ = some a1 ∧ w.cell? ⟨g, 2, none⟩ = some a2 ∧ w.cell? ⟨g, 3, none⟩ = some a3 ∧ w.cell? ⟨g, 4, none⟩ = some a4 ∧ w.cell? ⟨g, 5, none⟩ = some a5 ∧ w.cell? ⟨g, 6, none⟩ = some a6 ∧ w.cell? ⟨g, 7, none⟩ = some a7 ∧ w.cell? ⟨g, 8, none⟩ = some a8 ∧ w.cell? ⟨g, 9, none⟩ = some a9) ∧
    w.cell? ⟨g, 10, none⟩ = some a10 ∧ w.cell? ⟨g, 11, none⟩ = some a11 ∧ w.cell? ⟨g, 12, none⟩ = some a12 ∧ w.cell? ⟨g, 13, none⟩ = some a13 ∧ w.cell? ⟨g, 14, none⟩ = some a14 ∧ ∀ j, w.frozen? ⟨g, j, none⟩ = false := by
  refine ⟨⟨?_, ?_, ?_, ?_, ?_, ?_, ?_, ?_, ?_, ?_⟩, ?_, ?_, ?_, ?_, ?_, fun j => by simp [World.frozen?, h]⟩
  all_goals (rw [cell_of_row w g _ _ e (0, 0) h]; rfl)

section
variable {G : Nat → Prop} {w w' : World} {g : Nat} {dp sv : Value} {n : Int} {L L' : LG}
theorem LAt.stays (h : LAt G w g dp n sv L) (hs : w.heap.size ≤ w'.heap.size) (hk : ∀ k, G k → w'.heap[k]? = w.heap[k]?) : LAt G w' g dp n sv L where
  blk := (hk g h.fg).trans h.blk
  own := row_stays h.own fun k e => hk k (h.fs k e)
  fits := h.fits
  ok := h.ok
  fg := h.fg
  fs := h.fs
  lt := fun k hG => Nat.lt_of_lt_of_le (h.lt k hG) hs
theorem LAt.below (h : LAt G w g dp n sv L) (hb : Below w.heap.size w w') : LAt G w' g dp n sv L := h.stays hb.size fun k hG => hb.block k (h.lt k hG)
theorem LAt.keep {F : Nat → Prop} (h : LAt G w g dp n sv L) (hk : Keep F w w') (ha : ∀ k, F k → ¬ G k) : LAt G w' g dp n sv L := h.stays hk.size fun k hG => hk.block k (h.lt k hG) (fun hF => ha k hF hG)
theorem LAt.sg (h : LAt G w g dp n sv L) : sv.ownBlock ≠ some g := fun e => by
  obtain ⟨cur, hh⟩ := row_kind h.own g e
  rw [h.blk] at hh
  cases hh
theorem LAt.shape (h : LAt G w g dp n sv L) : ∃ q c, sv = .slice q L.starts.length c ∧ L.starts.length ≤ c ∧ c ≤ maxLen := by
  rcases h.own.2 with ⟨h1, h2⟩ | ⟨k, cap, cur, h1, _, _, h2, h3, _⟩
  · exact ⟨none, 0, by rw [h1, h2], by omega, by unfold maxLen; omega⟩
  · exact ⟨_, cap, h1, h2, h3⟩
/-- The variable gets other cells; the slice stands. -/
theorem LAt.set (h : LAt G w g dp n sv L) (hb : w'.heap[g]? = some (.cells (logC dp n L' sv) 64 (0, 0))) (hs : w.heap.size ≤ w'.heap.size) (hk : ∀ k, k ≠ g → k < w.heap.size → w'.heap[k]? = w.heap[k]?) (hst : L'.starts = L.starts) (hok : L'.Ok (lz n).toNat) : LAt G w' g dp n sv L' where
  blk := hb
  own := by
    rw [hst]
    exact row_stays h.own fun k e => hk k (fun ek => h.sg (ek ▸ e)) (h.lt k (h.fs k e))
  fits := h.fits
  ok := hok
  fg := h.fg
  fs := h.fs
  lt := fun k hG => Nat.lt_of_lt_of_le (h.lt k hG) hs
end
theorem LRep.stays {G : Nat → Prop} {w w' : World} {lp dp : Value} {n : Int} {L : LG} (h : LRep G w lp dp n L) (hs : w.heap.size ≤ w'.heap.size) (hk : ∀ k, G k → w'.heap[k]? = w.heap[k]?) : LRep G w' lp dp n L := by
  obtain ⟨g, sv, hp, h⟩ := h
  exact ⟨g, sv, hp, h.stays hs hk⟩
theorem LRep.below {G : Nat → Prop} {w w' : World} {lp dp : Value} {n : Int} {L : LG} (h : LRep G w lp dp n L) (hb : Below w.heap.size w w') : LRep G w' lp dp n L := by
  obtain ⟨g, sv, hp, h⟩ := h
  exact ⟨g, sv, hp, h.below hb⟩
theorem LRep.keep {F G : Nat → Prop} {w w' : World} {lp dp : Value} {n : Int} {L : LG} (h : LRep G w lp dp n L) (hk : Keep F w w') (ha : ∀ k, F k → ¬ G k) : LRep G w' lp dp n L := by
  obtain ⟨g, sv, hp, h⟩ := h
  exact ⟨g, sv, hp, h.keep hk ha⟩
theorem LRep.lt {G : Nat → Prop} {w : World} {lp dp : Value} {n : Int} {L : LG} (h : LRep G w lp dp n L) : ∀ k, G k → k < w.heap.size := by
  obtain ⟨g, sv, hp, h⟩ := h
  exact h.lt

theorem wfirst_any (G : Nat → Prop) (lp dp : Value) (n : Int) (L : LG) (w : World) (h : LRep G w lp dp n L) :
    Calls Try.prog 10 #[lp] w fun e w' => e = .returned (.int .u64 (L.first : Int)) ∧ Below w.heap.size w w' := by
  obtain ⟨g, sv, rfl, R⟩ := h
  obtain ⟨_, _, c, _⟩ := fifteen_cells R.blk
  clear R
  go_enter Try.func10, Try.ntmps10
  go_wp2
  go_ret
  exact ⟨rfl, Below.refl _ _⟩
theorem wnext_any (G : Nat → Prop) (lp dp : Value) (n : Int) (L : LG) (w : World) (h : LRep G w lp dp n L) :
    Calls Try.prog 11 #[lp] w fun e w' => e = .returned (.int .u64 (L.next : Int)) ∧ Below w.heap.size w w' := by
  obtain ⟨g, sv, rfl, R⟩ := h
  obtain ⟨_, _, _, c, _⟩ := fifteen_cells R.blk
  clear R
  go_enter Try.func11, Try.ntmps11
  go_wp2
  go_ret
  exact ⟨rfl, Below.refl _ _⟩
theorem wleft_any (G : Nat → Prop) (lp dp : Value) (n : Int) (L : LG) (w : World) (h : LRep G w lp dp n L) :
    Calls Try.prog 32 #[lp] w fun e w' => e = .returned (.int .i64 (lz n - ((L.next - L.first : Nat) : Int))) ∧ Below w.heap.size w w' := by
  obtain ⟨g, sv, rfl, R⟩ := h
  obtain ⟨⟨_, _, _, _, c4, _⟩, _, c11, c12, _⟩ := fifteen_cells R.blk
  obtain ⟨z1, z2, _⟩ := lz_le n R.fits
  have h1 := R.ok.le
  have h2 := R.ok.ring
  have h3 := R.ok.next
  clear R
  generalize lz n = z at *
  have hw1 : IntKind.u64.wrap ((L.next : Int) - (L.first : Int)) = ((L.next - L.first : Nat) : Int) := by rw [IntKind.wrap_u64]; omega
  have hw2 : IntKind.i64.wrap (((L.next - L.first : Nat) : Int)) = ((L.next - L.first : Nat) : Int) := by rw [IntKind.wrap_i64]; omega
  have hw3 : IntKind.i64.wrap (z - ((L.next - L.first : Nat) : Int)) = z - ((L.next - L.first : Nat) : Int) := by rw [IntKind.wrap_i64]; omega
  generalize L.next - L.first = m at *
  go_enter Try.func32, Try.ntmps32
  go_wp2
  go_region
  go_wp2
  go_ret
  exact ⟨rfl, (Below.refl _ _).drew⟩
/-- What a nil log answers. -/
theorem wfirst_nil (w : World) : Calls Try.prog 10 #[.pointer none] w fun e w' => e = .returned (.int .u64 0) ∧ Below w.heap.size w w' := by
  go_enter Try.func10, Try.ntmps10
  go_wp2
  go_ret
  exact ⟨rfl, Below.refl _ _⟩
theorem wnext_nil (w : World) : Calls Try.prog 11 #[.pointer none] w fun e w' => e = .returned (.int .u64 0) ∧ Below w.heap.size w w' := by
  go_enter Try.func11, Try.ntmps11
  go_wp2
  go_ret
  exact ⟨rfl, Below.refl _ _⟩
theorem wleft_nil (w : World) : Calls Try.prog 32 #[.pointer none] w fun e w' => e = .returned (.int .i64 0) ∧ Below w.heap.size w w' := by
  go_enter Try.func32, Try.ntmps32
  go_wp2
  go_ret
  exact ⟨rfl, Below.refl _ _⟩
theorem wappend_nil (q : Option Addr) (l c : Nat) (w : World) : Calls Try.prog 14 #[.pointer none, .slice q l c] w fun e w' => e = .returned (.int .i64 2) ∧ Below w.heap.size w w' := by
  go_enter Try.func14, Try.ntmps14
  go_wp2
  go_ret
  exact ⟨rfl, Below.refl _ _⟩

/-- The log minds an ErrDown. -/
theorem wanswer_any (G : Nat → Prop) (lp dp : Value) (n : Int) (L : LG) (e0 : Int) (w : World) (h : LRep G w lp dp n L) :
    Calls Try.prog 31 #[lp, .int .i64 e0] w fun e w' => e = .returned (.int .i64 e0) ∧ LRep G w' lp dp n (if e0 = 40 then L.down else L) ∧ Keep G w w' := by
  have h0 := h
  obtain ⟨g, sv, rfl, R⟩ := h
  obtain ⟨_, _, _, _, _, c14, fz⟩ := fifteen_cells R.blk
  have f14 := fz 14
  by_cases he : e0 = 40
  · rw [if_pos he]
    subst he
    have HR : Hid (LAt G (w.setCell ⟨g, 14, none⟩ (.bool true)) g dp n sv L.down ∧ Keep G w (w.setCell ⟨g, 14, none⟩ (.bool true))) := by
      have b1 := heap_setCell_same w g 14 _ _ (.bool true) R.blk
      have hK := keep_set w g 14 (.bool true)
      exact ⟨R.set b1 hK.size (fun k h1 h2 => hK.block k h2 h1) rfl ⟨R.ok.age, R.ok.le, R.ok.ring, R.ok.next, R.ok.count, R.ok.turns, R.ok.sorted⟩, hK.weak (fun k e => e ▸ R.fg)⟩
    clear R fz h0
    go_enter Try.func31, Try.ntmps31
    go_wp2
    go_ret
    exact ⟨rfl, ⟨g, sv, rfl, (unhide HR).1⟩, (unhide HR).2⟩
  · rw [if_neg he]
    have he' : (e0 == 40) = false := by rw [beq_eq_false_iff_ne]; exact he
    have H0 := hide h0
    clear R fz h0 c14 f14
    go_enter Try.func31, Try.ntmps31
    go_wp2
    go_ret
    exact ⟨rfl, unhide H0, Keep.refl _ _⟩
end Go.Proofs.Ytpkpjmebkikgdaa
