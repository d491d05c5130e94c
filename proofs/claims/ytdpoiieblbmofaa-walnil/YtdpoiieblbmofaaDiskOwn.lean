/- The landed package disk: a device in memory; what is asked of it without a change; Arm, Start, the count of writes and flushes. -/
import Derived.Test.YtdpoiieblbmofaaBase
import Derived.Test.YtdpoiieblbmofaaMine
import Derived.Test.YtdpoiieblbmofaaMoves
import Derived.Test.YtdpoiieblbmofaaMapHeld
import Derived.Test.YtdpoiieblbmofaaOwnPlain
namespace Go.Proofs.Ytdpoiieblbmofaa
open Go.RowKit

/-- Eight cells of a variable. -/
theorem eight_cells {w : World} {g e : Nat} {a b c d x y z u : Value} (h : w.heap[g]? = some (.cells #[a, b, c, d, x, y, z, u] e (0, 0))) :
    w.cell? ⟨g, 0, none⟩ = some a ∧ w.cell? ⟨g, 1, none⟩ = some b ∧ w.cell? ⟨g, 2, none⟩ = some c ∧ w.cell? ⟨g, 3, none⟩ = some d ∧ w.cell? ⟨g, 4, none⟩ = some x ∧ w.cell? ⟨g, 5, none⟩ = some y ∧ w.cell? ⟨g, 6, none⟩ = some z ∧ w.cell? ⟨g, 7, none⟩ = some u ∧
    ∀ j, w.frozen? ⟨g, j, none⟩ = false := by
  refine ⟨?_, ?_, ?_, ?_, ?_, ?_, ?_, ?_, fun j => by simp [World.frozen?, h]⟩
  all_goals (rw [cell_of_row w g _ _ e (0, 0) h]; rfl)

/-- Sectors one behind the other in a block. -/
def Imgs (w : World) (kb n kc : Nat) (f : Nat → List UInt8) : Prop :=
  ∃ C, w.heap[kb]? = some (.cells C 117 (0, 0)) ∧ C.size = kc * 512 ∧ n ≤ kc ∧ kc ≤ maxLen ∧ ∀ a, a < n → w.rangeAt kb (a * 512) ((f a).map B)
theorem Imgs.stays {w w' : World} {kb n kc : Nat} {f : Nat → List UInt8} (h : Imgs w kb n kc f) (hb : w'.heap[kb]? = w.heap[kb]?) : Imgs w' kb n kc f := by
  obtain ⟨C, h1, h2, h3, h4, h5⟩ := h
  exact ⟨C, hb.trans h1, h2, h3, h4, fun a ha => range_stays (h5 a ha) hb⟩
theorem Imgs.there {w : World} {kb n kc : Nat} {f : Nat → List UInt8} (h : Imgs w kb n kc f) {a : Nat} (ha : a < n) : w.there kb (a * 512) 512 := by
  obtain ⟨C, h1, h2, h3, h4, h5⟩ := h
  exact there_of_block h1 (by omega)
theorem Imgs.store {w : World} {kb n kc : Nat} {f : Nat → List UInt8} (h : Imgs w kb n kc f) (hf : ∀ k, (f k).length = 512) {a : Nat} (ha : a < n) {b : List UInt8} (hb : b.length = 512) : Imgs (w.setCells kb (a * 512) (b.map B)) kb n kc (keep1 f (a, b)) := by
  have ht := h.there ha
  obtain ⟨C, h1, h2, h3, h4, h5⟩ := h
  obtain ⟨C', h6, h7⟩ := block_setCells kb _ (b.map B) (a * 512) w C h1
  refine ⟨C', h6, h7.trans h2, h3, h4, fun x hx => ?_⟩
  by_cases e : x = a
  · subst e
    have : keep1 f (x, b) x = b := by simp [keep1]
    rw [this]
    exact World.rangeAt_setCells_same w kb _ _ (by rw [List.length_map, hb]; exact ht)
  · have : keep1 f (a, b) x = f x := by simp [keep1, e]
    rw [this]
    refine World.rangeAt_setCells_apart (h5 x hx) _ _ _ (Or.inr ?_)
    rw [List.length_map, List.length_map, hb, hf x]
    omega

/-- The map of the last writes. -/
def MapAt (F : Nat → Prop) (w : World) (mv : Value) (l : List (Nat × List UInt8)) : Prop :=
  (mv = .map none ∧ l = []) ∨ ∃ m f cnt, mv = .map (some m) ∧ F m ∧ MapIs Try.prog 3 w m cnt f ∧ cnt ≤ l.length ∧ ∀ a : Nat, ∃ r, LastOf l a r ∧ f (a : Int) = r.map (fun i : Nat => Value.int .i64 (i : Int))

/-- A device in memory: its variable, its sectors, the writes that wait, the map of the last ones; all of them are F. -/
structure DAt (F : Nat → Prop) (w : World) (g kb kc : Nat) (wv mv : Value) (s : DK) (hit : Int) : Prop where
  blk : w.heap[g]? = some (.cells #[.slice (some ⟨kb, 0, none⟩) s.n kc, wv, mv, .bool s.fell, .int .i64 (s.ticks : Int), .int .i64 hit, .int .i64 (s.turns : Int), .int .i64 0] 81 (0, 0))
  kept : Imgs w kb s.n kc s.kept
  own : w.ownsRow 0 119 513 wv s.waits.length (wrs s.waits)
  map : MapAt F w mv s.waits
  armed : s.armed = (hit - s.ticks).toNat
  fg : F g
  fk : F kb
  fw : ∀ k, wv.ownBlock = some k → F k
  lt : ∀ k, F k → k < w.heap.size
  ok : s.Ok

def DRep (F : Nat → Prop) (w : World) (p : Value) (s : DK) : Prop :=
  ∃ g kb kc wv mv hit, p = .pointer (some ⟨g, 0, none⟩) ∧ DAt F w g kb kc wv mv s hit

theorem MapIs.isMap {P : Program} {k : TypeId} {w : World} {b n : Nat} {f : Int → Option Value} (h : MapIs P k w b n f) : ∃ es c, w.heap[b]? = some (.map es c) := by
  obtain ⟨D, ⟨es, clock, h1, _⟩, _⟩ := h
  exact ⟨es, clock, h1⟩
theorem MapAt.stays {F : Nat → Prop} {w w' : World} {mv : Value} {l : List (Nat × List UInt8)} (h : MapAt F w mv l) (hk : ∀ k, F k → (∃ es c, w.heap[k]? = some (.map es c)) → w'.heap[k]? = w.heap[k]?) : MapAt F w' mv l := by
  rcases h with h | ⟨m, f, cnt, h1, h2, h3, h4⟩
  · exact Or.inl h
  · exact Or.inr ⟨m, f, cnt, h1, h2, h3.stays (hk m h2 h3.isMap), h4⟩
theorem MapAt.weak {F G : Nat → Prop} {w : World} {mv : Value} {l : List (Nat × List UInt8)} (h : MapAt F w mv l) (hs : ∀ k, F k → G k) : MapAt G w mv l := by
  rcases h with h | ⟨m, f, cnt, h1, h2, h3⟩
  · exact Or.inl h
  · exact Or.inr ⟨m, f, cnt, h1, hs m h2, h3⟩
theorem row_stays {w w' : World} {base e sz : Nat} {v : Value} {n : Nat} {xs : List Value} (h : w.ownsRow base e sz v n xs) (hk : ∀ k, v.ownBlock = some k → w'.heap[k]? = w.heap[k]?) : w'.ownsRow base e sz v n xs := by
  refine ⟨h.1, ?_⟩
  rcases h.2 with h2 | ⟨g, cap, cur, rfl, hg, hh, r⟩
  · exact Or.inl h2
  · exact Or.inr ⟨g, cap, cur, rfl, hg, (hk g rfl).trans hh, r⟩
theorem row_kind {w : World} {base e sz : Nat} {v : Value} {n : Nat} {xs : List Value} (h : w.ownsRow base e sz v n xs) : ∀ k, v.ownBlock = some k → ∃ cur, w.heap[k]? = some (.cells cur e (0, 0)) := by
  intro k hk
  rcases h.2 with ⟨rfl, _⟩ | ⟨g, cap, cur, rfl, hg, hh, r⟩
  · cases hk
  · cases hk
    exact ⟨cur, hh⟩

section
variable {F : Nat → Prop} {w w' : World} {g kb kc : Nat} {wv mv : Value} {s s' : DK} {hit hit' : Int}

theorem DAt.stays (h : DAt F w g kb kc wv mv s hit) (hs : w.heap.size ≤ w'.heap.size) (hk : ∀ k, F k → w'.heap[k]? = w.heap[k]?) : DAt F w' g kb kc wv mv s hit where
  blk := (hk g h.fg).trans h.blk
  kept := h.kept.stays (hk kb h.fk)
  own := row_stays h.own fun k e => hk k (h.fw k e)
  map := h.map.stays fun k hF _ => hk k hF
  armed := h.armed
  fg := h.fg
  fk := h.fk
  fw := h.fw
  lt := fun k hF => Nat.lt_of_lt_of_le (h.lt k hF) hs
  ok := h.ok

theorem DAt.kg (h : DAt F w g kb kc wv mv s hit) : kb ≠ g := by
  intro e
  obtain ⟨C, hC, _⟩ := h.kept
  rw [e, h.blk] at hC
  cases hC
theorem DAt.wg (h : DAt F w g kb kc wv mv s hit) : wv.ownBlock ≠ some g := fun e => by
  obtain ⟨cur, hh⟩ := row_kind h.own g e
  rw [h.blk] at hh
  cases hh
theorem DAt.wk (h : DAt F w g kb kc wv mv s hit) : wv.ownBlock ≠ some kb := fun e => by
  obtain ⟨cur, hh⟩ := row_kind h.own kb e
  obtain ⟨C, hC, _⟩ := h.kept
  rw [hC] at hh
  cases hh

/-- The variable of the device gets other cells; all else stands. -/
theorem DAt.set (h : DAt F w g kb kc wv mv s hit)
    (hb : w'.heap[g]? = some (.cells #[.slice (some ⟨kb, 0, none⟩) s'.n kc, wv, mv, .bool s'.fell, .int .i64 (s'.ticks : Int), .int .i64 hit', .int .i64 (s'.turns : Int), .int .i64 0] 81 (0, 0)))
    (hs : w.heap.size ≤ w'.heap.size) (hk : ∀ k, k ≠ g → k < w.heap.size → w'.heap[k]? = w.heap[k]?) (hn : s'.n = s.n) (hw : s'.waits = s.waits) (hkept : s'.kept = s.kept) (ha : s'.armed = (hit' - s'.ticks).toNat) (hok : s'.Ok) : DAt F w' g kb kc wv mv s' hit' where
  blk := hb
  kept := by
    rw [hn, hkept]
    exact h.kept.stays (hk kb h.kg (h.lt kb h.fk))
  own := by
    rw [hw]
    exact row_stays h.own fun k e => hk k (fun ek => h.wg (ek ▸ e)) (h.lt k (h.fw k e))
  map := by
    rw [hw]
    exact h.map.stays fun k hF hm => hk k (fun ek => by obtain ⟨es, c, hm⟩ := hm; rw [ek, h.blk] at hm; cases hm) (h.lt k hF)
  armed := ha
  fg := h.fg
  fk := h.fk
  fw := h.fw
  lt := fun k hF => Nat.lt_of_lt_of_le (h.lt k hF) hs
  ok := hok

/-- The writes that wait are gone, and other cells of the variable may be others. -/
theorem DAt.drop (h : DAt F w g kb kc wv mv s hit)
    (hb : w'.heap[g]? = some (.cells #[.slice (some ⟨kb, 0, none⟩) s'.n kc, .slice none 0 0, .map none, .bool s'.fell, .int .i64 (s'.ticks : Int), .int .i64 hit', .int .i64 (s'.turns : Int), .int .i64 0] 81 (0, 0)))
    (hs : w.heap.size ≤ w'.heap.size) (hk : ∀ k, k ≠ g → k < w.heap.size → w'.heap[k]? = w.heap[k]?) (hn : s'.n = s.n) (hw : s'.waits = []) (hkept : s'.kept = s.kept) (ha : s'.armed = (hit' - s'.ticks).toNat) (hok : s'.Ok) : DAt F w' g kb kc (.slice none 0 0) (.map none) s' hit' where
  blk := hb
  kept := by
    rw [hn, hkept]
    exact h.kept.stays (hk kb h.kg (h.lt kb h.fk))
  own := by rw [hw]; exact World.ownsRow_nil _ _ _ _
  map := Or.inl ⟨rfl, hw⟩
  armed := ha
  fg := h.fg
  fk := h.fk
  fw := fun k hk => by cases hk
  lt := fun k hF => Nat.lt_of_lt_of_le (h.lt k hF) hs
  ok := hok

theorem DAt.shape (h : DAt F w g kb kc wv mv s hit) : ∃ q c, wv = .slice q s.waits.length c := by
  rcases h.own.2 with ⟨h1, h2⟩ | ⟨k, cap, cur, h1, _⟩
  · exact ⟨none, 0, by rw [h1, h2]⟩
  · exact ⟨_, cap, h1⟩
theorem DAt.mshape (h : DAt F w g kb kc wv mv s hit) : ∃ m, mv = .map m := by
  rcases h.map with ⟨h1, _⟩ | ⟨m, f, cnt, h1, _⟩
  · exact ⟨none, h1⟩
  · exact ⟨some m, h1⟩
/-- Where a write that waits lies. -/
theorem DAt.wait (h : DAt F w g kb kc wv mv s hit) (j : Nat) (hj : j < s.waits.length) :
    ∃ k cap, wv = .slice (some ⟨k, 0, none⟩) s.waits.length cap ∧ F k ∧ s.waits.length ≤ cap ∧ w.rangeAt k (j * 513) (wr1 s.waits[j]) := by
  have hF := h.fw
  rcases h.own.2 with ⟨_, h5⟩ | ⟨k, cap, cur, rfl, _, hh, hnc, _⟩
  · omega
  · have hc := h.own.cells (g := k) rfl
    refine ⟨k, cap, rfl, hF k rfl, hnc, fun i v hv => ?_⟩
    have hi : i < 513 := by
      have := (List.getElem?_eq_some_iff.1 hv).1
      rw [length_wr1 (h.ok.waits _ (List.getElem_mem hj)).2] at this
      exact this
    have := hc (j * 513 + i) v (by rw [wrs_get (fun x hx => (h.ok.waits x hx).2) j i hj hi]; exact hv)
    rw [Addr.add_lit, Nat.zero_add] at this
    exact this
end

theorem DRep.lt {F : Nat → Prop} {w : World} {p : Value} {s : DK} (h : DRep F w p s) : ∀ k, F k → k < w.heap.size := by
  obtain ⟨g, kb, kc, wv, mv, hit, _, h⟩ := h
  exact h.lt
theorem DRep.stays {F : Nat → Prop} {w w' : World} {p : Value} {s : DK} (h : DRep F w p s) (hs : w.heap.size ≤ w'.heap.size) (hk : ∀ k, F k → w'.heap[k]? = w.heap[k]?) : DRep F w' p s := by
  obtain ⟨g, kb, kc, wv, mv, hit, hp, h⟩ := h
  exact ⟨g, kb, kc, wv, mv, hit, hp, h.stays hs hk⟩
theorem DRep.ptr {F : Nat → Prop} {w : World} {p : Value} {s : DK} (h : DRep F w p s) : ∃ a, p = .pointer (some a) := by
  obtain ⟨g, kb, kc, wv, mv, hit, hp, h⟩ := h
  exact ⟨_, hp⟩
theorem DRep.ok {F : Nat → Prop} {w : World} {p : Value} {s : DK} (h : DRep F w p s) : s.Ok := by
  obtain ⟨g, kb, kc, wv, mv, hit, hp, h⟩ := h
  exact h.ok
end Go.Proofs.Ytdpoiieblbmofaa
