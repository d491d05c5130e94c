/- The statements of layer 7: a book in memory; what it has and the log has agree. -/
import Derived.Test.YtdpoiieblbmofaaWalLaw2
import Derived.Deep.MidRow
namespace Go.Proofs.Ytdpoiieblbmofaa
open Go.RowKit

/-- A row of one-cell things somewhere in a block, behind which there may be room; its block is in K. -/
def TRow (K : Nat → Prop) (w : World) (e : TypeId) (v : Value) (xs : List Value) : Prop :=
  (∀ k, v.ownBlock = some k → K k) ∧ ((v = .slice none 0 0 ∧ xs = []) ∨ ∃ k off cap cur, v = .slice (some ⟨k, off, none⟩) xs.length cap ∧ w.heap[k]? = some (.cells cur e (0, 0)) ∧ xs.length ≤ cap ∧ cap ≤ maxLen ∧ off + cap ≤ cur.size ∧ w.rangeAt k off xs)
theorem TRow.nil (K : Nat → Prop) (w : World) (e : TypeId) : TRow K w e (.slice none 0 0) [] := ⟨(fun k hk => by cases hk), Or.inl ⟨rfl, rfl⟩⟩
theorem TRow.stays {K : Nat → Prop} {w w' : World} {e : TypeId} {v : Value} {xs : List Value} (h : TRow K w e v xs) (hk : ∀ k, v.ownBlock = some k → w'.heap[k]? = w.heap[k]?) : TRow K w' e v xs := by
  refine ⟨h.1, ?_⟩
  rcases h.2 with h2 | ⟨k, off, cap, cur, rfl, h3, h4, h5, h6, h7⟩
  · exact Or.inl h2
  · exact Or.inr ⟨k, off, cap, cur, rfl, (hk k rfl).trans h3, h4, h5, h6, range_stays h7 (hk k rfl)⟩
theorem TRow.shape {K : Nat → Prop} {w : World} {e : TypeId} {v : Value} {xs : List Value} (h : TRow K w e v xs) : ∃ q c, v = .slice q xs.length c ∧ xs.length ≤ c ∧ c ≤ maxLen := by
  rcases h.2 with ⟨h1, h2⟩ | ⟨k, off, cap, cur, h1, h3, h4, h5, h6, h7⟩
  · exact ⟨none, 0, by rw [h1, h2]; rfl, by rw [h2]; exact Nat.le_refl _, by unfold maxLen; omega⟩
  · exact ⟨_, cap, h1, h4, h5⟩
theorem TRow.kind {K : Nat → Prop} {w : World} {e : TypeId} {v : Value} {xs : List Value} (h : TRow K w e v xs) : ∀ k, v.ownBlock = some k → ∃ cur, w.heap[k]? = some (.cells cur e (0, 0)) := by
  intro k hk
  rcases h.2 with ⟨rfl, _⟩ | ⟨k', off, cap, cur, rfl, h3, _⟩
  · cases hk
  · cases hk; exact ⟨cur, h3⟩
theorem TRow.weak {K K' : Nat → Prop} {w : World} {e : TypeId} {v : Value} {xs : List Value} (h : TRow K w e v xs) (hs : ∀ k, K k → K' k) : TRow K' w e v xs := ⟨fun k hk => hs k (h.1 k hk), h.2⟩
theorem TRow.cell {K : Nat → Prop} {w : World} {e : TypeId} {v : Value} {xs : List Value} (h : TRow K w e v xs) (j : Nat) (hj : j < xs.length) : ∃ k off cap, v = .slice (some ⟨k, off, none⟩) xs.length cap ∧ w.cell? ⟨k, off + j, none⟩ = some xs[j] := by
  rcases h.2 with ⟨_, h2⟩ | ⟨k, off, cap, cur, h1, h3, h4, h5, h6, h7⟩
  · rw [h2] at hj; simp at hj
  · exact ⟨k, off, cap, h1, h7 j _ (List.getElem?_eq_getElem hj)⟩

def U64 (x : Nat) : Value := .int .u64 (x : Int)
/-- Texts in such a row. -/
def TRecs (K : Nat → Prop) (w : World) (v : Value) (ls : List (List UInt8)) : Prop :=
  ∃ vs : List Value, vs.length = ls.length ∧ TRow K w 27 v vs ∧ ∀ j (h : j < ls.length), ∃ t, vs[j]? = some t ∧ Row w t ls[j] ∧ ∀ b off n c, t = .slice (some ⟨b, off, none⟩) n c → ls[j] ≠ [] → K b ∧ ∃ cur, w.heap[b]? = some (.cells cur 5 (0, 0))
theorem TRecs.nil (K : Nat → Prop) (w : World) : TRecs K w (.slice none 0 0) [] := ⟨[], rfl, TRow.nil K w _, fun j h => by simp at h⟩
theorem TRecs.stays {K : Nat → Prop} {w w' : World} {v : Value} {ls : List (List UInt8)} (h : TRecs K w v ls) (hb : ∀ k, K k → (∃ cur, w.heap[k]? = some (.cells cur 5 (0, 0))) ∨ v.ownBlock = some k → w'.heap[k]? = w.heap[k]?) : TRecs K w' v ls := by
  obtain ⟨vs, h1, h2, h3⟩ := h
  refine ⟨vs, h1, h2.stays (fun k hk => hb k (h2.1 k hk) (Or.inr hk)), fun j hj => ?_⟩
  obtain ⟨t, a, b, c⟩ := h3 j hj
  refine ⟨t, a, ?_, fun b' off n c' e hne => ⟨(c b' off n c' e hne).1, ?_⟩⟩
  · obtain ⟨p, cap, e, r1, r2, r3, r4⟩ := b
    refine ⟨p, cap, e, r1, r2, r3, ?_⟩
    by_cases hne : ls[j] = []
    · exact Or.inl hne
    · rcases r4 with r4 | ⟨b', off, rfl, hc⟩
      · exact Or.inl r4
      · obtain ⟨k1, k2⟩ := c b' off _ _ e hne
        exact Or.inr ⟨b', off, rfl, fun i hi => (World.cell?_of_block (w := w) (hb b' k1 (Or.inl k2))).trans (hc i hi)⟩
  · obtain ⟨k1, cur, k2⟩ := c b' off n c' e hne
    exact ⟨cur, (hb b' k1 (Or.inl ⟨cur, k2⟩)).trans k2⟩

/-- A book in memory: its variable g, its three slices; K is all of it. -/
structure BAt (K : Nat → Prop) (w : World) (g : Nat) (dp lp : Value) (b : BK) (rv tv av : Value) : Prop where
  blk : w.heap[g]? = some (.cells (bookC dp lp b rv tv av) 39 (0, 0))
  recs : TRecs K w rv b.recs
  turns : TRow K w 35 tv (b.turns.map U64)
  ages : TRow K w 35 av (b.ages.map U64)
  two : ∀ k, tv.ownBlock = some k → av.ownBlock ≠ some k
  fg : K g
  lt : ∀ k, K k → k < w.heap.size
theorem BAt.stays {K : Nat → Prop} {w w' : World} {g : Nat} {dp lp : Value} {b : BK} {rv tv av : Value} (h : BAt K w g dp lp b rv tv av) (hs : w.heap.size ≤ w'.heap.size) (hk : ∀ k, K k → w'.heap[k]? = w.heap[k]?) : BAt K w' g dp lp b rv tv av where
  blk := (hk g h.fg).trans h.blk
  recs := h.recs.stays (fun k hK _ => hk k hK)
  turns := h.turns.stays (fun k e => hk k (h.turns.1 k e))
  ages := h.ages.stays (fun k e => hk k (h.ages.1 k e))
  two := h.two
  fg := h.fg
  lt := fun k hK => Nat.lt_of_lt_of_le (h.lt k hK) hs
theorem BAt.below {K : Nat → Prop} {w w' : World} {g : Nat} {dp lp : Value} {b : BK} {rv tv av : Value} (h : BAt K w g dp lp b rv tv av) (hb : Below w.heap.size w w') : BAt K w' g dp lp b rv tv av := h.stays hb.size (fun k hk => hb.block k (h.lt k hk))
theorem BAt.keep {F K : Nat → Prop} {w w' : World} {g : Nat} {dp lp : Value} {b : BK} {rv tv av : Value} (h : BAt K w g dp lp b rv tv av) (hk : Keep F w w') (ha : ∀ k, F k → ¬ K k) : BAt K w' g dp lp b rv tv av := h.stays hk.size (fun k hK => hk.block k (h.lt k hK) (fun hF => ha k hF hK))

def BK.least (b : BK) : Nat := match b.ages with | [] => b.age | a :: _ => a

theorem nineteen_cells {w : World} {g e : Nat} {a0 a1 a2 a3 a4 a5 a6 a7 a8 a9 a10 a11 a12 a13 a14 a15 a16 a17 a18 : Value} (h : w.heap[g]? = some (.cells #[a0, a1, a2, a3, a4, a5, a6, a7, a8, a9, a10, a11, a12, a13, a14, a15, a16, a17, a18] e (0, 0))) :
    (w.cell? ⟨g, 0, none⟩ = some a0 ∧ w.cell? ⟨g, 4, none⟩ = some a4 ∧ w.cell? ⟨g, 10, none⟩ = some a10 ∧ w.cell? ⟨g, 11, none⟩ = some a11) ∧ (w.cell? ⟨g, 12, none⟩ = some a12 ∧ w.cell? ⟨g, 13, none⟩ = some a13 ∧ w.cell? ⟨g, 14, none⟩ = some a14) ∧
    (w.cell? ⟨g, 15, none⟩ = some a15 ∧ w.cell? ⟨g, 16, none⟩ = some a16 ∧ w.cell? ⟨g, 17, none⟩ = some a17 ∧ w.cell? ⟨g, 18, none⟩ = some a18) ∧ ∀ j, w.frozen? ⟨g, j, none⟩ = false := by
  refine ⟨⟨?_, ?_, ?_, ?_⟩, ⟨?_, ?_, ?_⟩, ⟨?_, ?_, ?_, ?_⟩, fun j => by simp [World.frozen?, h]⟩
  all_goals (rw [cell_of_row w g _ _ e (0, 0) h]; rfl)

theorem bleast_any (K : Nat → Prop) (g : Nat) (dp lp : Value) (b : BK) (rv tv av : Value) (w : World) (h : BAt K w g dp lp b rv tv av) :
    Calls Try.prog 61 #[.pointer (some ⟨g, 0, none⟩)] w fun e w' => e = .returned (.int .u64 (b.least : Int)) ∧ Below w.heap.size w w' := by
  obtain ⟨⟨_, _, _, c11⟩, ⟨_, _, c14⟩, _⟩ := nineteen_cells h.blk
  have hag := h.ages
  unfold BK.least
  cases hb : b.ages with
  | nil =>
    rw [hb] at hag
    obtain ⟨q, c, rfl, _⟩ := hag.shape
    clear hag h hb
    go_enter Try.func61, Try.ntmps61
    go_wp2
    go_ret
    exact ⟨rfl, Below.refl _ _⟩
  | cons a l =>
    rw [hb] at hag
    obtain ⟨k, off, cap, rfl, hc⟩ := hag.cell 0 (by simp)
    simp only [List.map_cons, List.getElem_cons_zero, U64, Nat.add_zero, List.length_cons, List.length_map] at hc c14
    have h0 : (0 : Int) < ((l.length + 1 : Nat) : Int) := by omega
    generalize l.length + 1 = m at *
    clear hag h hb
    go_enter Try.func61, Try.ntmps61
    go_wp2
    go_ret
    exact ⟨rfl, Below.refl _ _⟩

theorem five_below {w w' : World} {g : Nat} {a b c d : Value} (h : w.cell? ⟨g, 4, none⟩ = some a ∧ w.cell? ⟨g, 10, none⟩ = some b ∧ w.cell? ⟨g, 15, none⟩ = some c ∧ w.cell? ⟨g, 16, none⟩ = some d) (hb : Below w.heap.size w w') :
    w'.cell? ⟨g, 4, none⟩ = some a ∧ w'.cell? ⟨g, 10, none⟩ = some b ∧ w'.cell? ⟨g, 15, none⟩ = some c ∧ w'.cell? ⟨g, 16, none⟩ = some d := by
  obtain ⟨h0, h1, h2, h3⟩ := h
  have k : ∀ {p : Addr} {v : Value}, w.cell? p = some v → w'.cell? p = some v := fun hc => (hb.cell (World.block_lt_of_cell? w _ hc)).trans hc
  exact ⟨k h0, k h1, k h2, k h3⟩

set_option maxRecDepth 20000 in
set_option maxHeartbeats 1000000 in
theorem agree_any (G K : Nat → Prop) (g : Nat) (dp lp : Value) (b : BK) (rv tv av : Value) (L : LG) (w : World) (h : BAt K w g dp lp b rv tv av) (hL : LRep G w lp dp 256 L) (h1 : L.first = b.first) (h2 : L.next = b.next) (h3 : L.least = b.least) :
    Calls Try.prog 30 #[.pointer (some ⟨g, 0, none⟩)] w fun e w' => e = .returned (.bool true) ∧ Below w.heap.size w w' := by
  have hd : Below w.heap.size w w.drew := (Below.refl _ _).drew
  obtain ⟨⟨_, c4, c10, _⟩, _, ⟨c15, c16, _⟩, _⟩ := nineteen_cells h.blk
  have k0 := five_below ⟨c4, c10, c15, c16⟩ hd
  have HF := hide (fun w' (hb : Below w.heap.size w w') => wfirst_any G lp dp 256 L w' (hL.below hb))
  have HN := hide (fun w' (hb : Below w.heap.size w w') => wnext_any G lp dp 256 L w' (hL.below hb))
  have HLe := hide (fun w' (hb : Below w.heap.size w w') => wleast_any G lp dp 256 L w' (hL.below hb))
  have HLf := hide (fun w' (hb : Below w.heap.size w w') => wleft_any G lp dp 256 L w' (hL.below hb))
  have HBl := hide (fun w' (hb : Below w.heap.size w w') => bleast_any K g dp lp b rv tv av w' (h.below hb))
  rw [h1] at HF HLf
  rw [h2] at HN HLf
  rw [h3] at HLe
  rw [lz256] at HLf
  obtain ⟨lg, hlg⟩ : ∃ lg, lp = .pointer (some lg) := by obtain ⟨g, sv, e, _⟩ := hL; exact ⟨_, e⟩
  subst hlg
  have hle : b.first ≤ b.next ∧ b.next ≤ b.first + 30 ∧ b.next < 9223372036854775808 := by
    obtain ⟨_, _, _, R⟩ := hL
    have a1 := R.ok.le
    have a2 := R.ok.ring
    have a3 := R.ok.next
    rw [h1, h2] at a1 a2
    rw [h2] at a3
    rw [show (lz 256).toNat = 30 by rw [lz256]; rfl] at a2
    exact ⟨a1, a2, a3⟩
  obtain ⟨l1, l2, l3⟩ := hle
  have hw1 : IntKind.u64.wrap ((b.next : Int) - (b.first : Int)) = ((b.next - b.first : Nat) : Int) := by rw [IntKind.wrap_u64]; omega
  have hw2 : IntKind.i64.wrap (((b.next - b.first : Nat) : Int)) = ((b.next - b.first : Nat) : Int) := by rw [IntKind.wrap_i64]; omega
  have hw3 : IntKind.i64.wrap (30 - ((b.next - b.first : Nat) : Int)) = 30 - ((b.next - b.first : Nat) : Int) := by rw [IntKind.wrap_i64]; omega
  generalize b.next - b.first = M at *
  generalize b.least = LL at *
  generalize hX : b.first = X at *
  generalize hY : b.next = Y at *
  have e1 : ((X : Int) == (X : Int)) = true := by simp
  have e2 : ((Y : Int) == (Y : Int)) = true := by simp
  have e3 : ((LL : Int) == (LL : Int)) = true := by simp
  have e4 : ((30 - (M : Int)) == (30 - (M : Int))) = true := by simp
  have HBD := hide hd
  have K0 := hide k0
  obtain ⟨d4, d10, d15, d16⟩ := k0
  clear hd h hL h1 h2 h3 hX hY l1 l2 l3
  go_enter Try.func30, Try.ntmps30
  go_wp2_with fail
  go_region_held3 (fun w' => w'.cell? ⟨g, 4, none⟩ = some (.int .i64 30) ∧ w'.cell? ⟨g, 10, none⟩ = some (.pointer (some lg)) ∧ w'.cell? ⟨g, 15, none⟩ = some (.int .u64 (X : Int)) ∧ w'.cell? ⟨g, 16, none⟩ = some (.int .u64 (Y : Int))) (first | assumption | go_keep)
    (first
      | (go_at_call 17; refine Calls.mono (unhide HF _ (unhide HBD)) ?_; rintro e w1 ⟨rfl, b1⟩; have k1 := five_below (unhide K0) b1; have HB1 := hide ((unhide HBD).trans (b1.mono (unhide HBD).size)); clear b1)
      | (go_at_call 18; refine Calls.mono (unhide HN _ (unhide HB1)) ?_; rintro e w2 ⟨rfl, b2⟩; have k2 := five_below k1 b2; have HB2 := hide ((unhide HB1).trans (b2.mono (unhide HB1).size)); clear b2)
      | (go_at_call 23; refine Calls.mono (unhide HLe _ (unhide HB2)) ?_; rintro e w3 ⟨rfl, b3⟩; have k3 := five_below k2 b3; have HB3 := hide ((unhide HB2).trans (b3.mono (unhide HB2).size)); clear b3)
      | (go_at_call 61; refine Calls.mono (unhide HBl _ (unhide HB3)) ?_; rintro e w4 ⟨rfl, b4⟩; have k4 := five_below k3 b4; have HB4 := hide ((unhide HB3).trans (b4.mono (unhide HB3).size)); clear b4)
      | (go_at_call 11; refine Calls.mono (unhide HLf _ (unhide HB4)) ?_; rintro e w5 ⟨rfl, b5⟩; have k5 := five_below k4 b5; have HB5 := hide ((unhide HB4).trans (b5.mono (unhide HB4).size)); clear b5))
  go_wp2_with fail
  go_ret
  exact ⟨rfl, unhide HB5⟩
end Go.Proofs.Ytdpoiieblbmofaa
