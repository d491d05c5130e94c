/- Texts of ours, one behind the other: BatRd2, BatRd3, BatRR1, BatRR2, BatRR3, BatRd4, BatRd5a, BatRd5. -/
import Derived.Test.YtpampknbbpjkiaaG9
import Derived.Test.YtpampknbbpjkiaaG10
import Derived.Test.YtpampknbbpjkiaaG13
import Derived.Test.YtpampknbbpjkiaaG16
import Derived.Test.YtpampknbbpjkiaaG25
/- Package batch's reader: one, key, gone. -/
namespace Go.Proofs.Ytpampknbbpjkiaa
open Go.RowKit

/-- What a reader at place p with the error e tells as a byte, a text; and where it stands then. -/
def byteF (b : List UInt8) (p e : Int) : Nat × Int × Int := if e ≠ 0 then (0, p, e) else if (b.length : Int) < p + 1 then (0, p, 10) else (num ((b.drop p.toNat).take 1), p + 1, 0)
def textF (b : List UInt8) (p e : Int) : List UInt8 × Int × Int := if e ≠ 0 then ([], p, e) else if textE b p 64 ≠ 0 then ([], p, textE b p 64) else (textB b p 64, textN b p 64, 0)
def goneF (b : List UInt8) (p e : Int) : Bool × Int × Int := (decide ((byteF b p e).1 = 1), (byteF b p e).2.1, if (byteF b p e).2.2 = 0 then (if (byteF b p e).1 ≤ 1 then 0 else 11) else (byteF b p e).2.2)

theorem byte_lt (b : List UInt8) (p e : Int) : (byteF b p e).1 < 256 := by
  unfold byteF
  split
  · simp
  · split
    · simp
    · have := num_lt ((b.drop p.toNat).take 1)
      have h2 : ((b.drop p.toNat).take 1).length ≤ 1 := by rw [List.length_take]; omega
      rcases Nat.lt_or_ge ((b.drop p.toNat).take 1).length 1 with h3 | h3
      · rw [show ((b.drop p.toNat).take 1).length = 0 by omega] at this
        simp only
        omega
      · rw [show ((b.drop p.toNat).take 1).length = 1 by omega] at this
        simp only
        omega
theorem byte_zero (b : List UInt8) (p e : Int) (h : (byteF b p e).2.2 ≠ 0) : (byteF b p e).1 = 0 := by
  unfold byteF at *
  by_cases he : e ≠ 0
  · rw [if_pos he]
  · rw [if_neg he] at h ⊢
    by_cases hl : (b.length : Int) < p + 1
    · rw [if_pos hl]
    · rw [if_neg hl] at h
      exact absurd rfl h

set_option maxRecDepth 20000 in
set_option maxHeartbeats 2000000 in
theorem bone_any (g : Nat) (p e : Int) (s : Value) (b : List UInt8) (w : World) (h : Rd 86 w g s b p e) :
    Calls Try.prog 73 #[.pointer (some ⟨g, 0, none⟩)] w fun x w' => x = .returned (.int .i64 ((byteF b p e).1 : Int)) ∧ Rd 86 w' g s b (byteF b p e).2.1 (byteF b p e).2.2 ∧ Keep (fun k => k = g) w w' := by
  obtain ⟨q0, l0, cc0, hs0⟩ : ∃ q l c, s = .slice q l c := by obtain ⟨p, c, l, e, _⟩ := h.row.shape; exact ⟨p, l, c, e⟩
  subst hs0
  have HH := hide h
  have hbl := byte_lt b p e
  obtain ⟨a, h3, ha, ha1, ha2⟩ := h.at3
  obtain ⟨c0, c1, c2, fz⟩ := h3.cells
  by_cases he : e = 0
  · subst he
    obtain rfl : a = p := ha rfl
    obtain ⟨hp0, hp1⟩ := h.pos rfl
    have hr := h.room
    have hdw : Below w.heap.size w w.drew := (Below.refl _ _).drew
    have HRV := hide (get_any (.slice q0 l0 cc0) b a 1 w.drew (h.row.below hdw) (by omega))
    have hbf : byteF b a 0 = if (b.length : Int) < a + 1 then (0, a, 10) else (num ((b.drop a.toNat).take 1), a + 1, 0) := by unfold byteF; rw [if_neg (by simp)]
    have hgE : getE b a 1 = if (b.length : Int) < a + 1 then 10 else 0 := by unfold getE; rw [if_neg (by omega)]
    have hgV : getV b a 1 = (byteF b a 0).1 := by
      unfold getV
      rw [if_neg (by omega), hbf]
      split
      · rfl
      · rfl
    have HFIN : Hid (∀ w1, Below w.heap.size w w1 → Rd 86 ((w1.setCell ⟨g, 1, none⟩ (.int .i64 (a + 1))).setCell ⟨g, 2, none⟩ (.int .i64 (getE b a 1))) g (.slice q0 l0 cc0) b (byteF b a 0).2.1 (byteF b a 0).2.2 ∧ Keep (fun k => k = g) w ((w1.setCell ⟨g, 1, none⟩ (.int .i64 (a + 1))).setCell ⟨g, 2, none⟩ (.int .i64 (getE b a 1)))) := by
      intro w1 hb
      rw [hbf, hgE]
      by_cases hl : (b.length : Int) < a + 1
      · rw [if_pos hl, if_pos hl]
        exact (unhide HH).set hb (a + 1) a 10 (fun h => absurd h (by omega)) (by omega) (by omega) (fun h => absurd h (by omega))
      · rw [if_neg hl, if_neg hl]
        exact (unhide HH).set hb (a + 1) (a + 1) 0 (fun _ => rfl) (by omega) (by omega) (fun _ => by omega)
    rw [hgV] at HRV
    have hwa : IntKind.i64.wrap (a + 1) = a + 1 := by rw [IntKind.wrap_i64]; omega
    have f1 := fz 1
    have f2 := fz 2
    have d0 := c0
    have d1 := c1
    have H3 := hide (h3.below hdw)
    generalize getE b a 1 = E at *
    generalize (byteF b a 0).2 = BS at *
    generalize (byteF b a 0).1 = V at *
    have hwv : IntKind.i64.wrap (V : Int) = V := by rw [IntKind.wrap_i64]; omega
    clear fz h3 h hdw hbf hgE hgV ha hbl hr
    go_enter Try.func73, Try.ntmps73
    go_wp2_with fail
    go_region_held3 (fun w' => w'.cell? ⟨g, 0, none⟩ = some (.slice q0 l0 cc0) ∧ w'.cell? ⟨g, 1, none⟩ = some (.int .i64 a)) (first | assumption | go_keep)
      (first | (go_at_call 88; refine Calls.mono (unhide HRV) ?_; rintro x w1 ⟨rfl, b1⟩; obtain ⟨k0, k1, k2, fz⟩ := ((unhide H3).below b1).cells; have kk : w1.cell? ⟨g, 0, none⟩ = some (.slice q0 l0 cc0) ∧ w1.cell? ⟨g, 1, none⟩ = some (.int .i64 a) := ⟨k0, k1⟩; have g1 := fz 1; have g2 := fz 2; have HFN := hide (unhide HFIN w1 (((Below.refl w.heap.size w).drew).trans b1)); clear fz b1))
    go_wp2
    go_ret
    exact ⟨rfl, unhide HFN⟩
  · have hn : byteF b p e = (0, p, e) := by unfold byteF; rw [if_pos he]
    rw [hn]
    have he' : (e == 0) = false := by simp [he]
    clear fz
    go_enter Try.func73, Try.ntmps73
    go_wp2
    go_ret
    exact ⟨rfl, unhide HH, Keep.refl _ _⟩

theorem text_n (b : List UInt8) (p : Int) (h : textE b p 64 = 0) : 0 ≤ textN b p 64 ∧ textN b p 64 ≤ b.length ∧ (textB b p 64).length ≤ 64 := by
  have h0 := h
  unfold textE at h0
  split at h0
  · rename_i hr
    have hq := read_ok b p hr
    split at h0
    · omega
    · rename_i hm
      split at h0
      · omega
      · rename_i hl
        unfold textN textB
        rw [if_pos h, if_pos h, List.length_take]
        omega
  · rename_i hr; exact absurd h0 hr

set_option maxRecDepth 20000 in
set_option maxHeartbeats 2000000 in
theorem bkey_any (g : Nat) (p e : Int) (s : Value) (b : List UInt8) (w : World) (h : Rd 86 w g s b p e) :
    Calls Try.prog 94 #[.pointer (some ⟨g, 0, none⟩)] w fun x w' => x = .returned (.string ⟨(textF b p e).1.toArray⟩) ∧ Rd 86 w' g s b (textF b p e).2.1 (textF b p e).2.2 ∧ Keep (fun k => k = g) w w' := by
  obtain ⟨q0, l0, cc0, hs0⟩ : ∃ q l c, s = .slice q l c := by obtain ⟨p, c, l, e, _⟩ := h.row.shape; exact ⟨p, l, c, e⟩
  subst hs0
  have HH := hide h
  obtain ⟨a, h3, ha, ha1, ha2⟩ := h.at3
  obtain ⟨c0, c1, c2, fz⟩ := h3.cells
  by_cases he : e = 0
  · subst he
    obtain rfl : a = p := ha rfl
    have hr := h.room
    have hdw : Below w.heap.size w w.drew := (Below.refl _ _).drew
    have HRV := hide (readtext_any (.slice q0 l0 cc0) b a 64 w.drew (h.row.below hdw) h.room (by omega))
    have hbf : textF b a 0 = if textE b a 64 ≠ 0 then ([], a, textE b a 64) else (textB b a 64, textN b a 64, 0) := by unfold textF; rw [if_neg (by simp)]
    have hN : -9223372036854775808 ≤ textN b a 64 ∧ textN b a 64 ≤ 9223372036854775807 := by
      by_cases h0 : textE b a 64 = 0
      · have := text_n b a h0; omega
      · unfold textN; rw [if_neg h0]; omega
    have hB : textB b a 64 = (textF b a 0).1 := by
      rw [hbf]
      by_cases h0 : textE b a 64 = 0
      · rw [if_neg (by simp [h0])]
      · rw [if_pos h0]; unfold textB; rw [if_neg h0]
    have HFIN : Hid (∀ w1, Below w.heap.size w w1 → Rd 86 ((w1.setCell ⟨g, 1, none⟩ (.int .i64 (textN b a 64))).setCell ⟨g, 2, none⟩ (.int .i64 (textE b a 64))) g (.slice q0 l0 cc0) b (textF b a 0).2.1 (textF b a 0).2.2 ∧ Keep (fun k => k = g) w ((w1.setCell ⟨g, 1, none⟩ (.int .i64 (textN b a 64))).setCell ⟨g, 2, none⟩ (.int .i64 (textE b a 64)))) := by
      intro w1 hb
      rw [hbf]
      by_cases h0 : textE b a 64 = 0
      · rw [if_neg (by simp [h0]), h0]
        have := text_n b a h0
        exact (unhide HH).set hb (textN b a 64) (textN b a 64) 0 (fun _ => rfl) hN.1 hN.2 (fun _ => by omega)
      · rw [if_pos h0]
        exact (unhide HH).set hb (textN b a 64) a (textE b a 64) (fun h => absurd h h0) hN.1 hN.2 (fun h => absurd h h0)
    rw [hB] at HRV
    have f1 := fz 1
    have f2 := fz 2
    have d0 := c0
    have d1 := c1
    have H3 := hide (h3.below hdw)
    have HLT := hide ((Array.getElem?_eq_some_iff.1 h3).1)
    generalize textE b a 64 = E at *
    generalize textN b a 64 = N at *
    generalize (textF b a 0).2 = BS at *
    generalize (textF b a 0).1 = V at *
    clear fz h3 h hdw hbf ha hr hB hN
    go_enter Try.func94, Try.ntmps94
    go_wp2_with fail
    go_region_held3 (fun w' => w'.cell? ⟨g, 0, none⟩ = some (.slice q0 l0 cc0) ∧ w'.cell? ⟨g, 1, none⟩ = some (.int .i64 a)) (first | assumption | go_keep)
      (first | (go_at_call 102; refine Calls.mono (unhide HRV) ?_; rintro x w1 ⟨t1, rfl, hown, b1⟩; obtain ⟨k0, k1, k2, fz⟩ := ((unhide H3).below b1).cells; have kk : w1.cell? ⟨g, 0, none⟩ = some (.slice q0 l0 cc0) ∧ w1.cell? ⟨g, 1, none⟩ = some (.int .i64 a) := ⟨k0, k1⟩; have g1 := fz 1; have g2 := fz 2; have HFN := hide (unhide HFIN w1 (((Below.refl w.heap.size w).drew).trans b1)); have hcv : ∀ u v : Value, (convert 30 9 t1).run Try.prog ((w1.setCell ⟨g, 1, none⟩ u).setCell ⟨g, 2, none⟩ v) = .ok (.string ⟨V.toArray⟩) ((w1.setCell ⟨g, 1, none⟩ u).setCell ⟨g, 2, none⟩ v) := (fun u v => conv_row ((row_of_owns hown).keep (F := fun k => k = g) (keep_set.trans keep_set (fun _ h => Or.inl h)) (fun bb off c e _ hg => (by have h9 := (hown.lt bb (by rw [e]; rfl)).1; have h8 := unhide HLT; have h7 : w.drew.heap.size = w.heap.size := rfl; omega)))); obtain ⟨tq, tc, tl1, rfl, rfl⟩ := (row_of_owns hown).shape; clear fz b1 hown))
    go_wp2
    go_ret
    exact ⟨rfl, unhide HFN⟩
  · have hn : textF b p e = ([], p, e) := by unfold textF; rw [if_pos he]
    rw [hn]
    have he' : (e == 0) = false := by simp [he]
    clear fz
    go_enter Try.func94, Try.ntmps94
    go_wp2
    go_ret
    exact ⟨rfl, unhide HH, Keep.refl _ _⟩

set_option maxRecDepth 20000 in
set_option maxHeartbeats 2000000 in
theorem bgone_any (g : Nat) (p e : Int) (s : Value) (b : List UInt8) (w : World) (h : Rd 86 w g s b p e) :
    Calls Try.prog 95 #[.pointer (some ⟨g, 0, none⟩)] w fun x w' => x = .returned (.bool (goneF b p e).1) ∧ Rd 86 w' g s b (goneF b p e).2.1 (goneF b p e).2.2 ∧ Keep (fun k => k = g) w w' := by
  have HN := hide (bone_any g p e s b w h)
  have hz := byte_zero b p e
  unfold goneF
  generalize byteF b p e = R at *
  obtain ⟨V, P, E⟩ := R
  simp only at HN hz ⊢
  clear h
  by_cases hV : V ≤ 1
  · rw [show (if E = 0 then (if V ≤ 1 then (0 : Int) else 11) else E) = E by by_cases he : E = 0 <;> simp [he, hV]]
    by_cases h1 : V = 1
    · subst h1
      have HN' := HN
      clear hz HN hV
      go_enter Try.func95, Try.ntmps95
      go_wp2_with fail
      refine Calls.mono (unhide HN') ?_
      rintro x w1 ⟨rfl, r1, k1⟩
      have HF := hide (And.intro r1 k1)
      clear r1 k1
      go_wp2
      go_ret
      exact ⟨rfl, unhide HF⟩
    · obtain rfl : V = 0 := by omega
      clear hz hV h1
      simp only [Int.natCast_zero] at HN ⊢
      go_enter Try.func95, Try.ntmps95
      go_wp2_with fail
      refine Calls.mono (unhide HN) ?_
      rintro x w1 ⟨rfl, r1, k1⟩
      have HF := hide (And.intro r1 k1)
      clear r1 k1
      go_wp2
      go_ret
      exact ⟨rfl, unhide HF⟩
  · have hE : E = 0 := by
      by_cases h : E = 0
      · exact h
      · have := hz h; omega
    subst hE
    rw [if_pos rfl, if_neg hV]
    have g0 : ¬ V = 0 := by omega
    have g1 : ¬ V = 1 := by omega
    have i0 : ((V : Int) != 0) = true := by simp; omega
    have i1 : ((V : Int) != 1) = true := by simp; omega
    have i2 : ((V : Int) == 1) = false := by simp; omega
    have HG1 := hide g1
    clear hz hV g0 g1
    go_enter Try.func95, Try.ntmps95
    go_wp2_with fail
    refine Calls.mono (unhide HN) ?_
    rintro x w1 ⟨rfl, r1, k1⟩
    have HR0 := brefuse_any g P 0 11 s b w1 r1 (by omega)
    rw [if_pos rfl] at HR0
    have HR := hide HR0
    have HK := hide k1
    clear HR0 r1 k1 HN
    go_wp2_with fail
    refine Calls.mono (unhide HR) ?_
    rintro x w2 ⟨rfl, r2, k2⟩
    have HF := hide (And.intro r2 ((unhide HK).trans k2 (fun _ h => Or.inl h)))
    clear r2 k2 HR HK
    go_wp2
    go_ret
    exact ⟨by simp [unhide HG1], unhide HF⟩
end Go.Proofs.Ytpampknbbpjkiaa

/- Package batch's reader: a change. -/
namespace Go.Proofs.Ytpampknbbpjkiaa
open Go.RowKit

/-- A call that reads: its result's block, its variable's block behind it, the reader's. -/
structure MV (w w' : World) (R : TypeId) (g : Nat) (s : Value) (b : List UInt8) (p e : Int) (cs : Array Value) (T : TypeId) (rs : Array Value) (T' : TypeId) : Prop where
  rd : Rd R w' g s b p e
  var : w'.heap[w.heap.size + 1]? = some (.cells cs T (0, 0))
  res : w'.heap[w.heap.size]? = some (.cells rs T' (0, 0))
  keep : Keep (fun k => k = g) w w'
  glt : g < w.heap.size
  src : ∀ bb off c, s = .slice (some ⟨bb, off, none⟩) b.length c → b ≠ [] → bb < w.heap.size

theorem Rd.src {R : TypeId} {w : World} {g : Nat} {s : Value} {b : List UInt8} {p e : Int} (h : Rd R w g s b p e) : ∀ bb off c, s = .slice (some ⟨bb, off, none⟩) b.length c → b ≠ [] → bb < w.heap.size := by
  intro bb off c hs hb
  obtain ⟨b', off', cap, e1, _, _, hc⟩ := h.row.open hb
  rw [hs] at e1
  simp only [Value.slice.injEq, Option.some.injEq, Addr.mk.injEq, and_true] at e1
  obtain ⟨⟨rfl, rfl⟩, _⟩ := e1
  exact World.block_lt_of_cell? w _ (hc 0 (List.length_pos_iff.2 hb))

theorem MV.start {R : TypeId} {w : World} {g : Nat} {s : Value} {b : List UInt8} {p e : Int} (h : Rd R w g s b p e) (cs : Array Value) (T : TypeId) (rs : Array Value) (T' : TypeId) :
    MV w ((w.alloc (.cells rs T')).alloc (.cells cs T)) R g s b p e cs T rs T' := by
  have hb : Below w.heap.size w ((w.alloc (.cells rs T')).alloc (.cells cs T)) := ((Below.refl _ _).alloc (Nat.le_refl _) _).alloc (by simp) _
  exact ⟨h.below hb, alloc_new' (by simp) _, (alloc_old (by simp) _).trans (alloc_new w _), Keep.of_below hb, h.lt, h.src⟩
theorem MV.call {R : TypeId} {w w' w'' : World} {g : Nat} {s : Value} {b : List UInt8} {p e p' e' : Int} {cs rs : Array Value} {T T' : TypeId} (h : MV w w' R g s b p e cs T rs T') (r : Rd R w'' g s b p' e') (k : Keep (fun k => k = g) w' w'') : MV w w'' R g s b p' e' cs T rs T' :=
  ⟨r, (k.block _ (Array.getElem?_eq_some_iff.1 h.var).1 (by have := h.glt; omega)).trans h.var, (k.block _ (Array.getElem?_eq_some_iff.1 h.res).1 (by have := h.glt; omega)).trans h.res, h.keep.trans k (fun _ h => Or.inl h), h.glt, h.src⟩
theorem MV.put {R : TypeId} {w w' : World} {g : Nat} {s : Value} {b : List UInt8} {p e : Int} {cs rs : Array Value} {T T' : TypeId} (h : MV w w' R g s b p e cs T rs T') (i : Nat) (v : Value) : MV w (w'.setCell ⟨w.heap.size + 1, i, none⟩ v) R g s b p e (cs.setIfInBounds i v) T rs T' := by
  have hk : Keep (fun k => k = w.heap.size + 1) w' (w'.setCell ⟨w.heap.size + 1, i, none⟩ v) := keep_set
  exact ⟨h.rd.keep hk (by have := h.glt; omega) (fun bb off c e hb => by have := h.src bb off c e hb; omega), heap_setCell_same _ _ _ _ _ _ h.var, (hk.block _ (Array.getElem?_eq_some_iff.1 h.res).1 (by omega)).trans h.res, h.keep.trans hk (fun x hx => Or.inr (by omega)), h.glt, h.src⟩
theorem MV.putR {R : TypeId} {w w' : World} {g : Nat} {s : Value} {b : List UInt8} {p e : Int} {cs rs : Array Value} {T T' : TypeId} (h : MV w w' R g s b p e cs T rs T') (i : Nat) (v : Value) : MV w (w'.setCell ⟨w.heap.size, i, none⟩ v) R g s b p e cs T (rs.setIfInBounds i v) T' := by
  have hk : Keep (fun k => k = w.heap.size) w' (w'.setCell ⟨w.heap.size, i, none⟩ v) := keep_set
  exact ⟨h.rd.keep hk (by have := h.glt; omega) (fun bb off c e hb => by have := h.src bb off c e hb; omega), (hk.block _ (Array.getElem?_eq_some_iff.1 h.var).1 (by omega)).trans h.var, heap_setCell_same _ _ _ _ _ _ h.res, h.keep.trans hk (fun x hx => Or.inr (by omega)), h.glt, h.src⟩
theorem five_cells {w : World} {g e : Nat} {a b c d x : Value} (h : w.heap[g]? = some (.cells #[a, b, c, d, x] e (0, 0))) :
    w.cell? ⟨g, 0, none⟩ = some a ∧ w.cell? ⟨g, 1, none⟩ = some b ∧ w.cell? ⟨g, 2, none⟩ = some c ∧ w.cell? ⟨g, 3, none⟩ = some d ∧ w.cell? ⟨g, 4, none⟩ = some x ∧ ∀ j, w.frozen? ⟨g, j, none⟩ = false := by
  refine ⟨?_, ?_, ?_, ?_, ?_, fun j => frozen_of_block h⟩
  all_goals (rw [cell_of_row w g _ _ e (0, 0) h]; rfl)

abbrev bigM : Nat := 4611686018427387904
/-- What a reader tells as a change; and where it stands then. -/
def chgF (b : List UInt8) (p e : Int) : Chg × Int × Int :=
  let t := textF b p e
  let k := goneF b t.2.1 t.2.2
  if k.1 then (⟨⟨t.1.toArray⟩, 0, 0, 0, true⟩, k.2)
  else
    let n := numF b k.2.1 k.2.2
    let a := mostF b bigM n.2.1 n.2.2
    let l := mostF b bigM a.2.1 a.2.2
    (⟨⟨t.1.toArray⟩, n.1, a.1, l.1, false⟩, l.2)

theorem bupto_big (g : Nat) (p e : Int) (s : Value) (b : List UInt8) (w : World) (h : Rd 86 w g s b p e) :
    Calls Try.prog 85 #[.pointer (some ⟨g, 0, none⟩), .int .u64 4611686018427387904] w fun x w' => x = .returned (.int .i64 ((mostF b bigM p e).1 : Int)) ∧ Rd 86 w' g s b (mostF b bigM p e).2.1 (mostF b bigM p e).2.2 ∧ Keep (fun k => k = g) w w' :=
  bupto_any g bigM p e s b w h (Nat.le_refl _)

set_option maxRecDepth 20000 in
set_option maxHeartbeats 4000000 in
theorem brchange_any (g : Nat) (p e : Int) (s : Value) (b : List UInt8) (w : World) (h : Rd 86 w g s b p e) :
    Calls Try.prog 86 #[.pointer (some ⟨g, 0, none⟩)] w fun x w' => x = .returned (chgV (chgF b p e).1) ∧ Rd 86 w' g s b (chgF b p e).2.1 (chgF b p e).2.2 ∧ Keep (fun k => k = g) w w' := by
  have M0 := MV.start h #[.string ⟨#[]⟩, .int .u64 0, .int .i64 0, .int .i64 0, .bool false] 44 #[.string ⟨#[]⟩, .int .u64 0, .int .i64 0, .int .i64 0, .bool false] 44
  have H0 := hide M0
  have HK := hide (bkey_any g p e s b _ M0.rd)
  have n1 : ¬ w.heap.size + 1 = w.heap.size := by omega
  generalize hR : chgF b p e = RS
  obtain ⟨C, P9, E9⟩ := RS
  have HR := hide hR
  generalize hT : textF b p e = TX at *
  obtain ⟨K, P1, E1⟩ := TX
  have HT := hide hT
  simp only at HK ⊢
  clear M0 h hR hT
  go_enter Try.func86, Try.ntmps86
  go_wp2_with fail
  refine Calls.mono (unhide HK) ?_
  rintro x w1 ⟨rfl, r1, k1⟩
  have M1 := (unhide H0).call r1 k1
  obtain ⟨c0, c1, c2, c3, c4, fz⟩ := five_cells M1.var
  have M1' := M1.put 0 (.string ⟨K.toArray⟩)
  have H1 := hide M1'
  have HG := hide (bgone_any g P1 E1 s b _ M1'.rd)
  have f0 := fz 0
  generalize hG : goneF b P1 E1 = GN at *
  obtain ⟨D, P2, E2⟩ := GN
  have HGN := hide hG
  simp only at HG
  clear H0 HK M1 M1' r1 k1 fz hG
  go_wp2_with fail
  refine Calls.mono (unhide HG) ?_
  rintro x w2 ⟨rfl, r2, k2⟩
  have M2 := (unhide H1).call r2 k2
  obtain ⟨d0, d1, d2, d3, d4, fz⟩ := five_cells M2.var
  have f4 := fz 4
  clear H1 HG r2 k2 fz c0 c1 c2 c3 c4 f0
  cases D with
  | true =>
    have M2' := M2.put 4 (.bool true)
    obtain ⟨e0, e1, e2, e3, e4, fz⟩ := five_cells (w := w2.setCell ⟨w.heap.size + 1, 4, none⟩ (.bool true)) (g := w.heap.size) M2'.res
    have g0 := fz 0
    have g1 := fz 1
    have g2 := fz 2
    have g3 := fz 3
    have g4 := fz 4
    have HF := hide (((((M2'.putR 0 (.string ⟨K.toArray⟩)).putR 1 (.int .u64 0)).putR 2 (.int .i64 0)).putR 3 (.int .i64 0)).putR 4 (.bool true))
    clear M2 M2' fz
    go_wp2
    have hx := unhide HR
    simp only [chgF, unhide HT, unhide HGN, if_true, Prod.mk.injEq] at hx
    obtain ⟨rfl, rfl, rfl⟩ := hx
    refine bodyPost_ret (v := .agg #[.string ⟨K.toArray⟩, .int .u64 0, .int .i64 0, .int .i64 0, .bool true]) (by simp [results, Try.results86, go_sem, *]) rfl ⟨rfl, (unhide HF).rd, (unhide HF).keep⟩
  | false =>
    have M2' := M2.put 4 (.bool false)
    have H2 := hide M2'
    have HN := hide (bnumber_any g P2 E2 s b _ M2'.rd)
    generalize hNN : numF b P2 E2 = NN at *
    obtain ⟨V3, P3, E3⟩ := NN
    have HNN := hide hNN
    simp only at HN
    clear M2 M2' hNN
    go_wp2_with fail
    refine Calls.mono (unhide HN) ?_
    rintro x w3 ⟨rfl, r3, k3⟩
    have M3 := (unhide H2).call r3 k3
    obtain ⟨c0, c1, c2, c3, c4, fz⟩ := five_cells M3.var
    have f1 := fz 1
    have M3' := M3.put 1 (.int .u64 (V3 : Int))
    have H3 := hide M3'
    have HA := hide (bupto_big g P3 E3 s b _ M3'.rd)
    generalize hAA : mostF b bigM P3 E3 = AA at *
    obtain ⟨V4, P4, E4⟩ := AA
    have HAA := hide hAA
    simp only at HA
    clear M3 M3' hAA r3 k3 fz H2 HN d0 d1 d2 d3 d4 f4
    go_wp2_with fail
    refine Calls.mono (unhide HA) ?_
    rintro x w4 ⟨rfl, r4, k4⟩
    have M4 := (unhide H3).call r4 k4
    obtain ⟨d0, d1, d2, d3, d4, fz⟩ := five_cells M4.var
    have f2 := fz 2
    have M4' := M4.put 2 (.int .i64 (V4 : Int))
    have H4 := hide M4'
    have HL := hide (bupto_big g P4 E4 s b _ M4'.rd)
    generalize hLL : mostF b bigM P4 E4 = LL at *
    obtain ⟨V5, P5, E5⟩ := LL
    have HLL := hide hLL
    simp only at HL
    clear M4 M4' hLL r4 k4 fz H3 HA c0 c1 c2 c3 c4 f1
    go_wp2_with fail
    refine Calls.mono (unhide HL) ?_
    rintro x w5 ⟨rfl, r5, k5⟩
    have M5 := (unhide H4).call r5 k5
    obtain ⟨c0, c1, c2, c3, c4, fz⟩ := five_cells M5.var
    have f3 := fz 3
    have M5' := M5.put 3 (.int .i64 (V5 : Int))
    obtain ⟨e0, e1, e2, e3, e4, fz'⟩ := five_cells (w := w5.setCell ⟨w.heap.size + 1, 3, none⟩ (.int .i64 (V5 : Int))) (g := w.heap.size) M5'.res
    have g0 := fz' 0
    have g1 := fz' 1
    have g2 := fz' 2
    have g3 := fz' 3
    have g4 := fz' 4
    have HF := hide (((((M5'.putR 0 (.string ⟨K.toArray⟩)).putR 1 (.int .u64 (V3 : Int))).putR 2 (.int .i64 (V4 : Int))).putR 3 (.int .i64 (V5 : Int))).putR 4 (.bool false))
    clear M5 M5' fz fz' r5 k5 H4 HL d0 d1 d2 d3 d4 f2
    go_wp2
    have hx := unhide HR
    simp only [chgF, unhide HT, unhide HGN, unhide HNN, unhide HAA, unhide HLL, Bool.false_eq_true, if_false, Prod.mk.injEq] at hx
    obtain ⟨rfl, rfl, rfl⟩ := hx
    refine bodyPost_ret (v := .agg #[.string ⟨K.toArray⟩, .int .u64 (V3 : Int), .int .i64 (V4 : Int), .int .i64 (V5 : Int), .bool false]) (by simp [results, Try.results86, go_sem, *]) rfl ⟨rfl, (unhide HF).rd, (unhide HF).keep⟩
end Go.Proofs.Ytpampknbbpjkiaa

/- The reference's reader of layer 1, where it stands in memory: Num, Most, Text, Byte, Left. -/
namespace Go.Proofs.Ytpampknbbpjkiaa
open Go.RowKit

set_option maxRecDepth 20000 in
set_option maxHeartbeats 2000000 in
theorem qnum_any (g : Nat) (p e : Int) (s : Value) (b : List UInt8) (w : World) (h : Rd 91 w g s b p e) :
    Calls Try.prog 55 #[.pointer (some ⟨g, 0, none⟩)] w fun x w' => x = .returned (.int .u64 ((numF b p e).1 : Int)) ∧ Rd 91 w' g s b (numF b p e).2.1 (numF b p e).2.2 ∧ Keep (fun k => k = g) w w' := by
  obtain ⟨q0, l0, cc0, hs0⟩ : ∃ q l c, s = .slice q l c := by obtain ⟨p, c, l, e, _⟩ := h.row.shape; exact ⟨p, l, c, e⟩
  subst hs0
  have HH := hide h
  obtain ⟨a, h3, ha, ha1, ha2⟩ := h.at3
  obtain ⟨c0, c1, c2, fz⟩ := h3.cells
  by_cases he : e = 0
  · subst he
    obtain rfl : a = p := ha rfl
    have hdw : Below w.heap.size w w.drew := (Below.refl _ _).drew
    have HRV := hide (rrv_any (.slice q0 l0 cc0) b a w.drew (h.row.below hdw) h.room)
    have d0 := c0
    have d1 := c1
    have f1 := fz 1
    have f2 := fz 2
    by_cases hE : readE b a = 0
    · have hn : numF b a 0 = (readV b a, readN b a, 0) := by unfold numF; rw [if_neg (by simp), if_neg (by simp [hE])]
      rw [hn]
      have hq := read_ok b a hE
      have hr := h.room
      have HF : Hid (Rd 91 (w.drew.setCell ⟨g, 1, none⟩ (.int .i64 (readN b a))) g (.slice q0 l0 cc0) b (readN b a) 0 ∧ Keep (fun k => k = g) w (w.drew.setCell ⟨g, 1, none⟩ (.int .i64 (readN b a)))) := by
        have hk : Keep (fun k => k = g) w.drew (w.drew.setCell ⟨g, 1, none⟩ (.int .i64 (readN b a))) := keep_set
        have hb := (unhide HH).below hdw
        exact ⟨⟨⟨readN b a, (h3.below hdw).set1 _, fun _ => rfl, by omega, by omega⟩, hb.row.keep hk hb.apart, hb.apart, hb.room, fun _ => by omega⟩, (Keep.of_below hdw).trans hk (fun _ h => Or.inl h)⟩
      rw [hE] at HRV
      obtain ⟨k0, k1, k2, fz'⟩ := (h3.below hdw).cells
      have g1 := fz' 1
      generalize readN b a = N at *
      generalize readV b a = V at *
      clear fz fz' h3 h hdw hn hq hr ha hE
      go_enter Try.func55, Try.ntmps55
      go_wp2_with fail
      go_region_held3 (fun w' => w'.cell? ⟨g, 0, none⟩ = some (.slice q0 l0 cc0) ∧ w'.cell? ⟨g, 1, none⟩ = some (.int .i64 a)) (first | assumption | go_keep)
        (first | (go_at_call 74; refine Calls.mono (unhide HRV) ?_; rintro x w1 ⟨rfl, rfl⟩))
      go_wp2
      go_ret
      exact ⟨rfl, unhide HF⟩
    · have hn : numF b a 0 = (0, a, readE b a) := by unfold numF; rw [if_neg (by simp), if_pos hE]
      rw [hn]
      have hE' : (readE b a == 0) = false := by simp [hE]
      have HF : Hid (Rd 91 (w.drew.setCell ⟨g, 2, none⟩ (.int .i64 (readE b a))) g (.slice q0 l0 cc0) b a (readE b a) ∧ Keep (fun k => k = g) w (w.drew.setCell ⟨g, 2, none⟩ (.int .i64 (readE b a)))) := by
        have hk : Keep (fun k => k = g) w.drew (w.drew.setCell ⟨g, 2, none⟩ (.int .i64 (readE b a))) := keep_set
        have hb := (unhide HH).below hdw
        exact ⟨⟨⟨a, (h3.below hdw).set2 _, fun _ => rfl, ha1, ha2⟩, hb.row.keep hk hb.apart, hb.apart, hb.room, fun h => absurd h hE⟩, (Keep.of_below hdw).trans hk (fun _ h => Or.inl h)⟩
      obtain ⟨k0, k1, k2, fz'⟩ := (h3.below hdw).cells
      have g2 := fz' 2
      generalize readE b a = E at *
      generalize readN b a = N at *
      generalize readV b a = V at *
      clear fz fz' h3 h hdw hn ha hE
      go_enter Try.func55, Try.ntmps55
      go_wp2_with fail
      go_region_held3 (fun w' => w'.cell? ⟨g, 0, none⟩ = some (.slice q0 l0 cc0) ∧ w'.cell? ⟨g, 1, none⟩ = some (.int .i64 a)) (first | assumption | go_keep)
        (first | (go_at_call 74; refine Calls.mono (unhide HRV) ?_; rintro x w1 ⟨rfl, rfl⟩))
      go_wp2
      go_ret
      exact ⟨rfl, unhide HF⟩
  · have hn : numF b p e = (0, p, e) := by unfold numF; rw [if_pos he]
    rw [hn]
    have he' : (e == 0) = false := by simp [he]
    clear fz
    go_enter Try.func55, Try.ntmps55
    go_wp2
    go_ret
    exact ⟨rfl, unhide HH, Keep.refl _ _⟩

set_option maxRecDepth 20000 in
set_option maxHeartbeats 1000000 in
theorem qmost_any (g m : Nat) (p e : Int) (s : Value) (b : List UInt8) (w : World) (h : Rd 91 w g s b p e) (hm : m ≤ 4611686018427387904) :
    Calls Try.prog 56 #[.pointer (some ⟨g, 0, none⟩), .int .u64 (m : Int)] w fun x w' => x = .returned (.int .i64 ((mostF b m p e).1 : Int)) ∧ Rd 91 w' g s b (mostF b m p e).2.1 (mostF b m p e).2.2 ∧ Keep (fun k => k = g) w w' := by
  have HN := hide (qnum_any g p e s b w h)
  have hmI : (m : Int) ≤ 4611686018427387904 := by omega
  unfold mostF
  generalize numF b p e = R at *
  obtain ⟨V, P, E⟩ := R
  simp only at HN ⊢
  clear h hm
  by_cases hE : E = 0
  · subst hE
    rw [if_neg (by simp)]
    by_cases hV : m < V
    · rw [if_pos hV]
      have hV' : (m : Int) < V := by omega
      clear hV hmI
      go_enter Try.func56, Try.ntmps56
      go_wp2_with fail
      refine Calls.mono (unhide HN) ?_
      rintro x w1 ⟨rfl, r1, k1⟩
      obtain ⟨a, h3, ha, ha1, ha2⟩ := r1.at3
      obtain ⟨c0, c1, c2, fz⟩ := h3.cells
      have f2 := fz 2
      have HF : Hid (Rd 91 (w1.setCell ⟨g, 2, none⟩ (.int .i64 11)) g s b P 11 ∧ Keep (fun k => k = g) w (w1.setCell ⟨g, 2, none⟩ (.int .i64 11))) := by
        have hk : Keep (fun k => k = g) w1 (w1.setCell ⟨g, 2, none⟩ (.int .i64 11)) := keep_set
        exact ⟨⟨⟨a, h3.set2 _, fun h => absurd h (by omega), ha1, ha2⟩, r1.row.keep hk r1.apart, r1.apart, r1.room, fun h => absurd h (by omega)⟩, k1.trans hk (fun _ h => Or.inl h)⟩
      clear fz h3 ha r1 k1 HN
      go_wp2
      go_ret
      exact ⟨rfl, unhide HF⟩
    · rw [if_neg hV]
      have hV2 : ¬ (m : Int) < V := by omega
      have hwv : IntKind.i64.wrap (V : Int) = V := by rw [IntKind.wrap_i64]; omega
      clear hV hmI
      go_enter Try.func56, Try.ntmps56
      go_wp2_with fail
      refine Calls.mono (unhide HN) ?_
      rintro x w1 ⟨rfl, r1, k1⟩
      obtain ⟨a, h3, ha, ha1, ha2⟩ := r1.at3
      obtain ⟨c0, c1, c2, fz⟩ := h3.cells
      have HF := hide (And.intro r1 k1)
      clear fz h3 ha r1 k1 HN
      go_wp2
      go_ret
      exact ⟨rfl, unhide HF⟩
  · rw [if_pos hE]
    have hE' : (E == 0) = false := by simp [hE]
    clear hmI
    go_enter Try.func56, Try.ntmps56
    go_wp2_with fail
    refine Calls.mono (unhide HN) ?_
    rintro x w1 ⟨rfl, r1, k1⟩
    obtain ⟨a, h3, ha, ha1, ha2⟩ := r1.at3
    obtain ⟨c0, c1, c2, fz⟩ := h3.cells
    have HF := hide (And.intro r1 k1)
    clear fz h3 ha r1 k1 HN
    go_wp2
    go_ret
    exact ⟨rfl, unhide HF⟩
end Go.Proofs.Ytpampknbbpjkiaa

/- The reference's reader of layer 1, where it stands in memory: Text, Byte, Left. -/
namespace Go.Proofs.Ytpampknbbpjkiaa
open Go.RowKit

set_option maxRecDepth 20000 in
set_option maxHeartbeats 2000000 in
theorem qtext_any (g : Nat) (p e : Int) (s : Value) (b : List UInt8) (w : World) (h : Rd 91 w g s b p e) :
    Calls Try.prog 75 #[.pointer (some ⟨g, 0, none⟩), .int .i64 64] w fun x w' => ∃ t, x = .returned t ∧ Row w' t (textF b p e).1 ∧ Rd 91 w' g s b (textF b p e).2.1 (textF b p e).2.2 ∧ Keep (fun k => k = g) w w' := by
  obtain ⟨q0, l0, cc0, hs0⟩ : ∃ q l c, s = .slice q l c := by obtain ⟨p, c, l, e, _⟩ := h.row.shape; exact ⟨p, l, c, e⟩
  subst hs0
  have HH := hide h
  obtain ⟨a, h3, ha, ha1, ha2⟩ := h.at3
  obtain ⟨c0, c1, c2, fz⟩ := h3.cells
  by_cases he : e = 0
  · subst he
    obtain rfl : a = p := ha rfl
    have hdw : Below w.heap.size w w.drew := (Below.refl _ _).drew
    have HRV := hide (rreadtext_any (.slice q0 l0 cc0) b a 64 w.drew (h.row.below hdw) h.room (by omega))
    have d0 := c0
    have d1 := c1
    have HLT := hide h.lt
    have H3 := hide (h3.below hdw)
    have hr := h.room
    by_cases hE : textE b a 64 = 0
    · have hn : textF b a 0 = (textB b a 64, textN b a 64, 0) := by unfold textF; rw [if_neg (by simp), if_neg (by simp [hE])]
      rw [hn]
      have hq := text_n b a hE
      have HF : Hid (∀ w1 t, Below w.heap.size w w1 → w1.ownsRow w.heap.size 5 1 t (textB b a 64).length ((textB b a 64).map B) → Row (w1.setCell ⟨g, 1, none⟩ (.int .i64 (textN b a 64))) t (textB b a 64) ∧ Rd 91 (w1.setCell ⟨g, 1, none⟩ (.int .i64 (textN b a 64))) g (.slice q0 l0 cc0) b (textN b a 64) 0 ∧ Keep (fun k => k = g) w (w1.setCell ⟨g, 1, none⟩ (.int .i64 (textN b a 64)))) := by
        intro w1 t hb1 hown
        have hk : Keep (fun k => k = g) w1 (w1.setCell ⟨g, 1, none⟩ (.int .i64 (textN b a 64))) := keep_set
        have hb := (unhide HH).below hb1
        refine ⟨(row_of_owns hown).keep hk (fun bb off c e _ hg => ?_), ⟨⟨textN b a 64, (h3.below hb1).set1 _, fun _ => rfl, by omega, by omega⟩, hb.row.keep hk hb.apart, hb.apart, hb.room, fun _ => by omega⟩, (Keep.of_below hb1).trans hk (fun _ h => Or.inl h)⟩
        have h9 := (hown.lt bb (by rw [e]; rfl)).1
        have h8 := unhide HLT
        omega
      rw [hE] at HRV
      generalize textN b a 64 = N at *
      generalize textB b a 64 = V at *
      clear fz h3 h hdw hn hq hr ha hE
      go_enter Try.func75, Try.ntmps75
      go_wp2_with fail
      go_region_held3 (fun w' => w'.cell? ⟨g, 0, none⟩ = some (.slice q0 l0 cc0) ∧ w'.cell? ⟨g, 1, none⟩ = some (.int .i64 a)) (first | assumption | go_keep)
        (first | (go_at_call 89; refine Calls.mono (unhide HRV) ?_; rintro x w1 ⟨t1, rfl, hown, b1⟩; obtain ⟨k0, k1, k2, fz⟩ := ((unhide H3).below b1).cells; have kk : w1.cell? ⟨g, 0, none⟩ = some (.slice q0 l0 cc0) ∧ w1.cell? ⟨g, 1, none⟩ = some (.int .i64 a) := ⟨k0, k1⟩; have g1 := fz 1; have HFN := hide (unhide HF w1 t1 (((Below.refl w.heap.size w).drew).trans b1) hown); obtain ⟨tq, tc, tl1, rfl, rfl⟩ := (row_of_owns hown).shape; clear fz b1 hown))
      go_wp2
      go_ret
      exact ⟨_, rfl, unhide HFN⟩
    · have hn : textF b a 0 = ([], a, textE b a 64) := by unfold textF; rw [if_neg (by simp), if_pos hE]
      rw [hn]
      have hE' : (textE b a 64 == 0) = false := by simp [hE]
      have HF : Hid (∀ w1, Below w.heap.size w w1 → Rd 91 (w1.setCell ⟨g, 2, none⟩ (.int .i64 (textE b a 64))) g (.slice q0 l0 cc0) b a (textE b a 64) ∧ Keep (fun k => k = g) w (w1.setCell ⟨g, 2, none⟩ (.int .i64 (textE b a 64)))) := by
        intro w1 hb1
        have hk : Keep (fun k => k = g) w1 (w1.setCell ⟨g, 2, none⟩ (.int .i64 (textE b a 64))) := keep_set
        have hb := (unhide HH).below hb1
        exact ⟨⟨⟨a, (h3.below hb1).set2 _, fun _ => rfl, ha1, ha2⟩, hb.row.keep hk hb.apart, hb.apart, hb.room, fun h => absurd h hE⟩, (Keep.of_below hb1).trans hk (fun _ h => Or.inl h)⟩
      generalize textE b a 64 = E at *
      generalize textN b a 64 = N at *
      generalize textB b a 64 = V at *
      clear fz h3 h hdw hn hr ha hE
      go_enter Try.func75, Try.ntmps75
      go_wp2_with fail
      go_region_held3 (fun w' => w'.cell? ⟨g, 0, none⟩ = some (.slice q0 l0 cc0) ∧ w'.cell? ⟨g, 1, none⟩ = some (.int .i64 a)) (first | assumption | go_keep)
        (first | (go_at_call 89; refine Calls.mono (unhide HRV) ?_; rintro x w1 ⟨t1, rfl, hown, b1⟩; obtain ⟨k0, k1, k2, fz⟩ := ((unhide H3).below b1).cells; have kk : w1.cell? ⟨g, 0, none⟩ = some (.slice q0 l0 cc0) ∧ w1.cell? ⟨g, 1, none⟩ = some (.int .i64 a) := ⟨k0, k1⟩; have g2 := fz 2; have HFN := hide (unhide HF w1 (((Below.refl w.heap.size w).drew).trans b1)); obtain ⟨tq, tc, tl1, rfl, rfl⟩ := (row_of_owns hown).shape; clear fz b1 hown))
      go_wp2
      go_ret
      exact ⟨_, rfl, Row.nil _, unhide HFN⟩
  · have hn : textF b p e = ([], p, e) := by unfold textF; rw [if_pos he]
    rw [hn]
    have he' : (e == 0) = false := by simp [he]
    clear fz
    go_enter Try.func75, Try.ntmps75
    go_wp2
    go_ret
    exact ⟨_, rfl, Row.nil _, unhide HH, Keep.refl _ _⟩

theorem byte_get (b : List UInt8) (k : Nat) (h : k < b.length) : num ((b.drop k).take 1) = b[k].toNat := by
  rw [List.drop_eq_getElem_cons h, List.take_succ_cons, List.take_zero]
  simp only [num]
  omega

set_option maxRecDepth 20000 in
set_option maxHeartbeats 2000000 in
theorem qbyte_any (g : Nat) (p e : Int) (s : Value) (b : List UInt8) (w : World) (h : Rd 91 w g s b p e) :
    Calls Try.prog 54 #[.pointer (some ⟨g, 0, none⟩)] w fun x w' => x = .returned (.int .u8 ((byteF b p e).1 : Int)) ∧ Rd 91 w' g s b (byteF b p e).2.1 (byteF b p e).2.2 ∧ Keep (fun k => k = g) w w' := by
  have HH := hide h
  obtain ⟨a, h3, ha, ha1, ha2⟩ := h.at3
  obtain ⟨c0, c1, c2, fz⟩ := h3.cells
  by_cases he : e = 0
  · subst he
    obtain rfl : a = p := ha rfl
    obtain ⟨hp0, hp1⟩ := h.pos rfl
    obtain ⟨k, rfl⟩ : ∃ k : Nat, a = k := ⟨a.toNat, by omega⟩
    have hr := h.room
    have hdw : Below w.heap.size w w.drew := (Below.refl _ _).drew
    by_cases hl : k < b.length
    · have hn : byteF b k 0 = (b[k].toNat, (k : Int) + 1, 0) := by unfold byteF; rw [if_neg (by simp), if_neg (by omega), Int.toNat_natCast, byte_get b k hl]
      rw [hn]
      simp only
      obtain ⟨bb, off, cap, rfl, hc1, hc2, hcell⟩ := h.row.open (by intro e; rw [e] at hl; simp at hl)
      have hck := hcell k hl
      unfold B at hck
      have hgb : bb ≠ g := h.apart bb off cap rfl (by intro e; rw [e] at hl; simp at hl)
      have hkb : (k : Int) < b.length := by omega
      have hkn : ¬ (b.length : Int) ≤ k := by omega
      have HF : Hid (Rd 91 (w.drew.setCell ⟨g, 1, none⟩ (.int .i64 ((k : Int) + 1))).drew g (.slice (some ⟨bb, off, none⟩) b.length cap) b ((k : Int) + 1) 0 ∧ Keep (fun k => k = g) w (w.drew.setCell ⟨g, 1, none⟩ (.int .i64 ((k : Int) + 1))).drew) := by
        have hk : Keep (fun k => k = g) w.drew (w.drew.setCell ⟨g, 1, none⟩ (.int .i64 ((k : Int) + 1))) := keep_set
        have hb := (unhide HH).below hdw
        have hd2 : Below (w.drew.setCell ⟨g, 1, none⟩ (.int .i64 ((k : Int) + 1))).heap.size (w.drew.setCell ⟨g, 1, none⟩ (.int .i64 ((k : Int) + 1))) (w.drew.setCell ⟨g, 1, none⟩ (.int .i64 ((k : Int) + 1))).drew := (Below.refl _ _).drew
        have r2 : Rd 91 (w.drew.setCell ⟨g, 1, none⟩ (.int .i64 ((k : Int) + 1))) g (.slice (some ⟨bb, off, none⟩) b.length cap) b ((k : Int) + 1) 0 := ⟨⟨(k : Int) + 1, (h3.below hdw).set1 _, fun _ => rfl, by omega, by omega⟩, hb.row.keep hk hb.apart, hb.apart, hb.room, fun _ => by omega⟩
        exact ⟨r2.below hd2, ((Keep.of_below hdw).trans hk (fun _ h => Or.inl h)).trans (Keep.of_below (F := fun _ => False) hd2) (fun _ h => h.elim)⟩
      have f1 := fz 1
      have hwk : IntKind.i64.wrap ((k : Int) + 1) = k + 1 := by rw [IntKind.wrap_i64]; omega
      have hwk2 : IntKind.i64.wrap (k : Int) = k := by rw [IntKind.wrap_i64]; omega
      have ng : ¬ g = bb := fun e => hgb e.symm
      generalize (b[k].toNat : Int) = V at *
      clear fz h3 h hdw hn hr ha hcell hl hp0 hp1
      go_enter Try.func54, Try.ntmps54
      go_wp2_with fail
      go_region
      go_wp2_with fail
      go_region
      go_wp2
      go_ret
      exact ⟨rfl, unhide HF⟩
    · have hn : byteF b k 0 = (0, (k : Int), 10) := by unfold byteF; rw [if_neg (by simp), if_pos (by omega)]
      rw [hn]
      obtain ⟨q0, l0, cc0, hs0, hsl⟩ : ∃ q l c, s = .slice q l c ∧ b.length = l := by obtain ⟨p, c, l, e, e2⟩ := h.row.shape; exact ⟨p, l, c, e, e2⟩
      subst hsl
      subst hs0
      have hkn : (b.length : Int) ≤ k := by omega
      have HF : Hid (Rd 91 (w.drew.setCell ⟨g, 2, none⟩ (.int .i64 10)) g (.slice q0 b.length cc0) b k 10 ∧ Keep (fun k => k = g) w (w.drew.setCell ⟨g, 2, none⟩ (.int .i64 10))) := by
        have hk : Keep (fun k => k = g) w.drew (w.drew.setCell ⟨g, 2, none⟩ (.int .i64 10)) := keep_set
        have hb := (unhide HH).below hdw
        exact ⟨⟨⟨k, (h3.below hdw).set2 _, fun _ => rfl, ha1, ha2⟩, hb.row.keep hk hb.apart, hb.apart, hb.room, fun h => absurd h (by omega)⟩, (Keep.of_below hdw).trans hk (fun _ h => Or.inl h)⟩
      have f2 := fz 2
      clear fz h3 h hdw hn hr ha hl hp0 hp1
      go_enter Try.func54, Try.ntmps54
      go_wp2_with fail
      go_region
      go_wp2
      go_ret
      exact ⟨rfl, unhide HF⟩
  · have hn : byteF b p e = (0, p, e) := by unfold byteF; rw [if_pos he]
    rw [hn]
    obtain ⟨q0, l0, cc0, hs0⟩ : ∃ q l c, s = .slice q l c := by obtain ⟨p, c, l, e, _⟩ := h.row.shape; exact ⟨p, l, c, e⟩
    subst hs0
    have he' : (e == 0) = false := by simp [he]
    clear fz
    go_enter Try.func54, Try.ntmps54
    go_wp2
    go_ret
    exact ⟨rfl, unhide HH, Keep.refl _ _⟩

set_option maxRecDepth 20000 in
theorem qleft_any (g : Nat) (a e : Int) (s : Value) (n : Nat) (w : World) (hs : ∃ q c, s = .slice q n c) (h3 : At3 w g 91 s (.int .i64 a) (.int .i64 e)) (h0 : 0 ≤ a) (h1 : a ≤ n) (hn : n ≤ 140737488351232) :
    Calls Try.prog 58 #[.pointer (some ⟨g, 0, none⟩)] w fun x w' => x = .returned (.int .i64 ((n : Int) - a)) ∧ Below w.heap.size w w' := by
  obtain ⟨q, c, rfl⟩ := hs
  obtain ⟨c0, c1, c2, fz⟩ := h3.cells
  have hw : IntKind.i64.wrap ((n : Int) - a) = n - a := by rw [IntKind.wrap_i64]; omega
  clear fz h3 hn
  go_enter Try.func58, Try.ntmps58
  go_wp2
  go_region
  go_wp2
  go_ret
  exact ⟨rfl, (Below.refl _ _).drew⟩
end Go.Proofs.Ytpampknbbpjkiaa

/- The reference of layer 10: the reading of a change. -/
namespace Go.Proofs.Ytpampknbbpjkiaa
open Go.RowKit

/-- As MV, with the variable's block h anywhere behind the result's. -/
structure MW (w w' : World) (R : TypeId) (g h : Nat) (s : Value) (b : List UInt8) (p e : Int) (cs : Array Value) (T : TypeId) (rs : Array Value) (T' : TypeId) : Prop where
  rd : Rd R w' g s b p e
  var : w'.heap[h]? = some (.cells cs T (0, 0))
  res : w'.heap[w.heap.size]? = some (.cells rs T' (0, 0))
  keep : Keep (fun k => k = g) w w'
  glt : g < w.heap.size
  src : ∀ bb off c, s = .slice (some ⟨bb, off, none⟩) b.length c → b ≠ [] → bb < w.heap.size
  hge : w.heap.size < h
theorem MW.call {R : TypeId} {w w' w'' : World} {g h : Nat} {s : Value} {b : List UInt8} {p e p' e' : Int} {cs rs : Array Value} {T T' : TypeId} (H : MW w w' R g h s b p e cs T rs T') (r : Rd R w'' g s b p' e') (k : Keep (fun k => k = g) w' w'') : MW w w'' R g h s b p' e' cs T rs T' := by
  have h1 := H.glt
  have h2 := H.hge
  exact ⟨r, (k.block _ (Array.getElem?_eq_some_iff.1 H.var).1 (by omega)).trans H.var, (k.block _ (Array.getElem?_eq_some_iff.1 H.res).1 (by omega)).trans H.res, H.keep.trans k (fun _ h => Or.inl h), h1, H.src, h2⟩
theorem MW.put {R : TypeId} {w w' : World} {g h : Nat} {s : Value} {b : List UInt8} {p e : Int} {cs rs : Array Value} {T T' : TypeId} (H : MW w w' R g h s b p e cs T rs T') (i : Nat) (v : Value) : MW w (w'.setCell ⟨h, i, none⟩ v) R g h s b p e (cs.setIfInBounds i v) T rs T' := by
  have h1 := H.glt
  have h2 := H.hge
  have hk : Keep (fun k => k = h) w' (w'.setCell ⟨h, i, none⟩ v) := keep_set
  exact ⟨H.rd.keep hk (by omega) (fun bb off c e hb => by have := H.src bb off c e hb; omega), heap_setCell_same _ _ _ _ _ _ H.var, (hk.block _ (Array.getElem?_eq_some_iff.1 H.res).1 (by omega)).trans H.res, H.keep.trans hk (fun x hx => Or.inr (by omega)), h1, H.src, h2⟩
theorem MW.putR {R : TypeId} {w w' : World} {g h : Nat} {s : Value} {b : List UInt8} {p e : Int} {cs rs : Array Value} {T T' : TypeId} (H : MW w w' R g h s b p e cs T rs T') (i : Nat) (v : Value) : MW w (w'.setCell ⟨w.heap.size, i, none⟩ v) R g h s b p e cs T (rs.setIfInBounds i v) T' := by
  have h1 := H.glt
  have h2 := H.hge
  have hk : Keep (fun k => k = w.heap.size) w' (w'.setCell ⟨w.heap.size, i, none⟩ v) := keep_set
  exact ⟨H.rd.keep hk (by omega) (fun bb off c e hb => by have := H.src bb off c e hb; omega), (hk.block _ (Array.getElem?_eq_some_iff.1 H.var).1 (by omega)).trans H.var, heap_setCell_same _ _ _ _ _ _ H.res, H.keep.trans hk (fun x hx => Or.inr (by omega)), h1, H.src, h2⟩

theorem qmost_big (g : Nat) (p e : Int) (s : Value) (b : List UInt8) (w : World) (h : Rd 91 w g s b p e) :
    Calls Try.prog 56 #[.pointer (some ⟨g, 0, none⟩), .int .u64 4611686018427387904] w fun x w' => x = .returned (.int .i64 ((mostF b bigM p e).1 : Int)) ∧ Rd 91 w' g s b (mostF b bigM p e).2.1 (mostF b bigM p e).2.2 ∧ Keep (fun k => k = g) w w' :=
  qmost_any g bigM p e s b w h (Nat.le_refl _)

set_option maxRecDepth 20000 in
set_option maxHeartbeats 4000000 in
theorem qchange_any (g : Nat) (p e : Int) (s : Value) (b : List UInt8) (w : World) (h : Rd 91 w g s b p e) :
    Calls Try.prog 57 #[.pointer (some ⟨g, 0, none⟩)] w fun x w' => x = .returned (chgV (chgF b p e).1) ∧ Rd 91 w' g s b (chgF b p e).2.1 (chgF b p e).2.2 ∧ Keep (fun k => k = g) w w' := by
  obtain ⟨o, ho⟩ : ∃ o, o = Obj.cells #[.string ⟨#[]⟩, .int .u64 0, .int .i64 0, .int .i64 0, .bool false] 44 := ⟨_, rfl⟩
  have hb0 : Below w.heap.size w (w.alloc o) := (Below.refl _ _).alloc (Nat.le_refl _) _
  have HK := hide (qtext_any g p e s b _ (h.below hb0))
  have HSRC := hide h.src
  have HGL := hide h.lt
  have HB0 := hide hb0
  have HR0 := hide (alloc_new w o)
  have HSO : Hid ((w.alloc o).heap.size = w.heap.size + 1) := by unfold Hid; simp
  rw [ho] at HK HB0 HR0 HSO
  generalize hR : chgF b p e = RS
  obtain ⟨C, P9, E9⟩ := RS
  have HR := hide hR
  generalize hT : textF b p e = TX at *
  obtain ⟨K, P1, E1⟩ := TX
  have HT := hide hT
  simp only at HK ⊢
  clear h hR hT hb0
  go_enter Try.func57, Try.ntmps57
  go_wp2_with fail
  refine Calls.mono (unhide HK) ?_
  rintro x w1 ⟨t1, rfl, hrow, r1, k1⟩
  have hcv := conv_row hrow
  obtain ⟨tq, tc, tl1, rfl, rfl⟩ := hrow.shape
  have hgl := unhide HGL
  have hs1 := k1.size
  rw [unhide HSO] at hs1
  have hres1 := (k1.block w.heap.size (by rw [unhide HSO]; omega) (by omega)).trans (unhide HR0)
  have hk1 : Keep (fun k => k = g) w w1 := (Keep.of_below (unhide HB0)).trans k1 (fun _ h => Or.inl h)
  have hb1 : ∀ o, Below w1.heap.size w1 (w1.alloc o) := fun o => (Below.refl _ _).alloc (Nat.le_refl _) o
  have M1 : MW w (w1.alloc (.cells #[.string ⟨K.toArray⟩, .int .u64 0, .int .i64 0, .int .i64 0, .bool false] 44)) 91 g w1.heap.size s b P1 E1 #[.string ⟨K.toArray⟩, .int .u64 0, .int .i64 0, .int .i64 0, .bool false] 44 #[.string ⟨#[]⟩, .int .u64 0, .int .i64 0, .int .i64 0, .bool false] 44 :=
    ⟨r1.below (hb1 _), alloc_new _ _, ((hb1 _).block _ (by omega)).trans hres1, hk1.trans (Keep.of_below (F := fun _ => False) (hb1 _)) (fun _ h => h.elim), hgl, unhide HSRC, by omega⟩
  have H1 := hide M1
  have HG := hide (qbyte_any g P1 E1 s b _ M1.rd)
  have hbl := byte_lt b P1 E1
  have hbz := byte_zero b P1 E1
  have hGD : goneF b P1 E1 = (decide ((byteF b P1 E1).1 = 1), (byteF b P1 E1).2.1, if (byteF b P1 E1).2.2 = 0 then (if (byteF b P1 E1).1 ≤ 1 then 0 else 11) else (byteF b P1 E1).2.2) := rfl
  generalize byteF b P1 E1 = BY at *
  obtain ⟨V, P2, E2⟩ := BY
  simp only at HG hbl hbz hGD
  have HGD := hide hGD
  have hlt1 : ¬ w1.heap.size = w.heap.size := by omega
  clear HK HB0 HR0 HSO hrow r1 k1 hres1 hk1 hb1 M1 hGD
  go_wp2_with fail
  refine Calls.mono (unhide HG) ?_
  rintro x w2 ⟨rfl, r2, k2⟩
  have M2 := (unhide H1).call r2 k2
  obtain ⟨a2, h32, hc2, hc3, hc4⟩ := M2.rd.at3
  obtain ⟨q0, q1, q2, fq⟩ := h32.cells
  have hnr : ¬ w.heap.size = w1.heap.size := by omega
  by_cases hV1 : V = 1
  · subst hV1
    have hX : goneF b P1 E1 = (true, P2, E2) := by rw [unhide HGD]; by_cases hz : E2 = 0 <;> simp [hz]
    have HX := hide hX
    obtain ⟨v0, v1, v2, v3, v4, fz⟩ := five_cells M2.var
    have f4 := fz 4
    have M2' := M2.put 4 (.bool true)
    obtain ⟨e0, e1, e2, e3, e4, fz'⟩ := five_cells (w := w2.setCell ⟨w1.heap.size, 4, none⟩ (.bool true)) (g := w.heap.size) M2'.res
    have g0 := fz' 0
    have g1 := fz' 1
    have g2 := fz' 2
    have g3 := fz' 3
    have g4 := fz' 4
    have HF := hide (((((M2'.putR 0 (.string ⟨K.toArray⟩)).putR 1 (.int .u64 0)).putR 2 (.int .i64 0)).putR 3 (.int .i64 0)).putR 4 (.bool true))
    have w11 : ¬ (1 : Int) < ((1 : Nat) : Int) := by omega
    clear M2 M2' fz fz' fq h32 hc2 hX H1 HG r2 k2 hbz hbl
    go_wp2
    all_goals
      have hx := unhide HR
      simp only [chgF, unhide HT, unhide HX, if_true, Prod.mk.injEq] at hx
      obtain ⟨rfl, rfl, rfl⟩ := hx
      refine bodyPost_ret (v := .agg #[.string ⟨K.toArray⟩, .int .u64 0, .int .i64 0, .int .i64 0, .bool true]) (by simp [results, Try.results57, go_sem, *]) rfl ⟨rfl, (unhide HF).rd, (unhide HF).keep⟩
  · by_cases hV0 : V = 0
    · subst hV0
      have hX : goneF b P1 E1 = (false, P2, E2) := by rw [unhide HGD]; by_cases hz : E2 = 0 <;> simp [hz]
      have HX := hide hX
      clear fq h32 hc2 hX H1 HG r2 k2 hbz hbl hV1
      simp only [Int.natCast_zero]
      by_cases hE2 : E2 = 0
      · subst hE2
        have H2 := hide M2
        have HN := hide (qnum_any g P2 0 s b _ M2.rd)
        generalize hNN : numF b P2 0 = NN at *
        obtain ⟨V3, P3, E3⟩ := NN
        have HNN := hide hNN
        simp only at HN
        clear M2 hNN
        go_wp2_with fail
        refine Calls.mono (unhide HN) ?_
        rintro x w3 ⟨rfl, r3, k3⟩
        have M3 := (unhide H2).call r3 k3
        obtain ⟨c0, c1, c2, c3, c4, fz⟩ := five_cells M3.var
        have f1 := fz 1
        have M3' := M3.put 1 (.int .u64 (V3 : Int))
        have H3 := hide M3'
        have HA := hide (qmost_big g P3 E3 s b _ M3'.rd)
        generalize hAA : mostF b bigM P3 E3 = AA at *
        obtain ⟨V4, P4, E4⟩ := AA
        have HAA := hide hAA
        simp only at HA
        clear M3 M3' hAA r3 k3 fz H2 HN
        go_wp2_with fail
        refine Calls.mono (unhide HA) ?_
        rintro x w4 ⟨rfl, r4, k4⟩
        have M4 := (unhide H3).call r4 k4
        obtain ⟨d0, d1, d2, d3, d4, fz⟩ := five_cells M4.var
        have f2 := fz 2
        have M4' := M4.put 2 (.int .i64 (V4 : Int))
        have H4 := hide M4'
        have HL := hide (qmost_big g P4 E4 s b _ M4'.rd)
        generalize hLL : mostF b bigM P4 E4 = LL at *
        obtain ⟨V5, P5, E5⟩ := LL
        have HLL := hide hLL
        simp only at HL
        clear M4 M4' hLL r4 k4 fz H3 HA c0 c1 c2 c3 c4 f1
        go_wp2_with fail
        refine Calls.mono (unhide HL) ?_
        rintro x w5 ⟨rfl, r5, k5⟩
        have M5 := (unhide H4).call r5 k5
        obtain ⟨c0, c1, c2, c3, c4, fz⟩ := five_cells M5.var
        have f3 := fz 3
        have M5' := M5.put 3 (.int .i64 (V5 : Int))
        obtain ⟨e0, e1, e2, e3, e4, fz'⟩ := five_cells (w := w5.setCell ⟨w1.heap.size, 3, none⟩ (.int .i64 (V5 : Int))) (g := w.heap.size) M5'.res
        have g0 := fz' 0
        have g1 := fz' 1
        have g2 := fz' 2
        have g3 := fz' 3
        have g4 := fz' 4
        have HF := hide (((((M5'.putR 0 (.string ⟨K.toArray⟩)).putR 1 (.int .u64 (V3 : Int))).putR 2 (.int .i64 (V4 : Int))).putR 3 (.int .i64 (V5 : Int))).putR 4 (.bool false))
        clear M5 M5' fz fz' r5 k5 H4 HL d0 d1 d2 d3 d4 f2
        go_wp2
        have hx := unhide HR
        simp only [chgF, unhide HT, unhide HX, unhide HNN, unhide HAA, unhide HLL, Bool.false_eq_true, if_false, Prod.mk.injEq] at hx
        obtain ⟨rfl, rfl, rfl⟩ := hx
        refine bodyPost_ret (v := .agg #[.string ⟨K.toArray⟩, .int .u64 (V3 : Int), .int .i64 (V4 : Int), .int .i64 (V5 : Int), .bool false]) (by simp [results, Try.results57, go_sem, *]) rfl ⟨rfl, (unhide HF).rd, (unhide HF).keep⟩
      · have hE3 : (E2 == 0) = false := by simp [hE2]
        clear hE2
        have H2 := hide M2
        have HN := hide (qnum_any g P2 E2 s b _ M2.rd)
        generalize hNN : numF b P2 E2 = NN at *
        obtain ⟨V3, P3, E3⟩ := NN
        have HNN := hide hNN
        simp only at HN
        clear M2 hNN
        go_wp2_with fail
        refine Calls.mono (unhide HN) ?_
        rintro x w3 ⟨rfl, r3, k3⟩
        have M3 := (unhide H2).call r3 k3
        obtain ⟨c0, c1, c2, c3, c4, fz⟩ := five_cells M3.var
        have f1 := fz 1
        have M3' := M3.put 1 (.int .u64 (V3 : Int))
        have H3 := hide M3'
        have HA := hide (qmost_big g P3 E3 s b _ M3'.rd)
        generalize hAA : mostF b bigM P3 E3 = AA at *
        obtain ⟨V4, P4, E4⟩ := AA
        have HAA := hide hAA
        simp only at HA
        clear M3 M3' hAA r3 k3 fz H2 HN
        go_wp2_with fail
        refine Calls.mono (unhide HA) ?_
        rintro x w4 ⟨rfl, r4, k4⟩
        have M4 := (unhide H3).call r4 k4
        obtain ⟨d0, d1, d2, d3, d4, fz⟩ := five_cells M4.var
        have f2 := fz 2
        have M4' := M4.put 2 (.int .i64 (V4 : Int))
        have H4 := hide M4'
        have HL := hide (qmost_big g P4 E4 s b _ M4'.rd)
        generalize hLL : mostF b bigM P4 E4 = LL at *
        obtain ⟨V5, P5, E5⟩ := LL
        have HLL := hide hLL
        simp only at HL
        clear M4 M4' hLL r4 k4 fz H3 HA c0 c1 c2 c3 c4 f1
        go_wp2_with fail
        refine Calls.mono (unhide HL) ?_
        rintro x w5 ⟨rfl, r5, k5⟩
        have M5 := (unhide H4).call r5 k5
        obtain ⟨c0, c1, c2, c3, c4, fz⟩ := five_cells M5.var
        have f3 := fz 3
        have M5' := M5.put 3 (.int .i64 (V5 : Int))
        obtain ⟨e0, e1, e2, e3, e4, fz'⟩ := five_cells (w := w5.setCell ⟨w1.heap.size, 3, none⟩ (.int .i64 (V5 : Int))) (g := w.heap.size) M5'.res
        have g0 := fz' 0
        have g1 := fz' 1
        have g2 := fz' 2
        have g3 := fz' 3
        have g4 := fz' 4
        have HF := hide (((((M5'.putR 0 (.string ⟨K.toArray⟩)).putR 1 (.int .u64 (V3 : Int))).putR 2 (.int .i64 (V4 : Int))).putR 3 (.int .i64 (V5 : Int))).putR 4 (.bool false))
        clear M5 M5' fz fz' r5 k5 H4 HL d0 d1 d2 d3 d4 f2
        go_wp2
        have hx := unhide HR
        simp only [chgF, unhide HT, unhide HX, unhide HNN, unhide HAA, unhide HLL, Bool.false_eq_true, if_false, Prod.mk.injEq] at hx
        obtain ⟨rfl, rfl, rfl⟩ := hx
        refine bodyPost_ret (v := .agg #[.string ⟨K.toArray⟩, .int .u64 (V3 : Int), .int .i64 (V4 : Int), .int .i64 (V5 : Int), .bool false]) (by simp [results, Try.results57, go_sem, *]) rfl ⟨rfl, (unhide HF).rd, (unhide HF).keep⟩
    · obtain rfl : E2 = 0 := by
        by_cases hz : E2 = 0
        · exact hz
        · have := hbz hz; omega
      have hX : goneF b P1 E1 = (false, P2, 11) := by rw [unhide HGD]; simp; omega
      have HX := hide hX
      have hkq : Keep (fun k => k = g) w2 (w2.setCell ⟨g, 2, none⟩ (.int .i64 11)) := keep_set
      have M3 := M2.call (p' := P2) (e' := 11) ⟨⟨a2, h32.set2 _, fun h => absurd h (by omega), hc3, hc4⟩, M2.rd.row.keep hkq M2.rd.apart, M2.rd.apart, M2.rd.room, fun h => absurd h (by omega)⟩ hkq
      have f2 := fq 2
      have i1 : (1 : Int) < (V : Int) := by omega
      have i2 : ((V : Int) == 1) = false := by simp; omega
      have i3 : ¬ (V : Int) = 1 := by omega
      clear M2 fq h32 hc2 hX H1 HG r2 k2 hbz hbl hkq hV1 hV0
      have M2 := M3
      clear M3
      have H2 := hide M2
      have HN := hide (qnum_any g P2 11 s b _ M2.rd)
      generalize hNN : numF b P2 11 = NN at *
      obtain ⟨V3, P3, E3⟩ := NN
      have HNN := hide hNN
      simp only at HN
      clear M2 hNN
      go_wp2_with fail
      refine Calls.mono (unhide HN) ?_
      rintro x w3 ⟨rfl, r3, k3⟩
      have M3 := (unhide H2).call r3 k3
      obtain ⟨c0, c1, c2, c3, c4, fz⟩ := five_cells M3.var
      have f1 := fz 1
      have M3' := M3.put 1 (.int .u64 (V3 : Int))
      have H3 := hide M3'
      have HA := hide (qmost_big g P3 E3 s b _ M3'.rd)
      generalize hAA : mostF b bigM P3 E3 = AA at *
      obtain ⟨V4, P4, E4⟩ := AA
      have HAA := hide hAA
      simp only at HA
      clear M3 M3' hAA r3 k3 fz H2 HN
      go_wp2_with fail
      refine Calls.mono (unhide HA) ?_
      rintro x w4 ⟨rfl, r4, k4⟩
      have M4 := (unhide H3).call r4 k4
      obtain ⟨d0, d1, d2, d3, d4, fz⟩ := five_cells M4.var
      have f2 := fz 2
      have M4' := M4.put 2 (.int .i64 (V4 : Int))
      have H4 := hide M4'
      have HL := hide (qmost_big g P4 E4 s b _ M4'.rd)
      generalize hLL : mostF b bigM P4 E4 = LL at *
      obtain ⟨V5, P5, E5⟩ := LL
      have HLL := hide hLL
      simp only at HL
      clear M4 M4' hLL r4 k4 fz H3 HA c0 c1 c2 c3 c4 f1
      go_wp2_with fail
      refine Calls.mono (unhide HL) ?_
      rintro x w5 ⟨rfl, r5, k5⟩
      have M5 := (unhide H4).call r5 k5
      obtain ⟨c0, c1, c2, c3, c4, fz⟩ := five_cells M5.var
      have f3 := fz 3
      have M5' := M5.put 3 (.int .i64 (V5 : Int))
      obtain ⟨e0, e1, e2, e3, e4, fz'⟩ := five_cells (w := w5.setCell ⟨w1.heap.size, 3, none⟩ (.int .i64 (V5 : Int))) (g := w.heap.size) M5'.res
      have g0 := fz' 0
      have g1 := fz' 1
      have g2 := fz' 2
      have g3 := fz' 3
      have g4 := fz' 4
      have HF := hide (((((M5'.putR 0 (.string ⟨K.toArray⟩)).putR 1 (.int .u64 (V3 : Int))).putR 2 (.int .i64 (V4 : Int))).putR 3 (.int .i64 (V5 : Int))).putR 4 (.bool false))
      clear M5 M5' fz fz' r5 k5 H4 HL d0 d1 d2 d3 d4 f2
      go_wp2
      have hx := unhide HR
      simp only [chgF, unhide HT, unhide HX, unhide HNN, unhide HAA, unhide HLL, Bool.false_eq_true, if_false, Prod.mk.injEq] at hx
      obtain ⟨rfl, rfl, rfl⟩ := hx
      refine bodyPost_ret (v := .agg #[.string ⟨K.toArray⟩, .int .u64 (V3 : Int), .int .i64 (V4 : Int), .int .i64 (V5 : Int), .bool false]) (by simp [results, Try.results57, go_sem, *]) rfl ⟨rfl, (unhide HF).rd, (unhide HF).keep⟩
end Go.Proofs.Ytpampknbbpjkiaa

/- Package batch's reader: what stands behind the kind of a move and of a batch. -/
namespace Go.Proofs.Ytpampknbbpjkiaa
open Go.RowKit

def movF (b : List UInt8) (p e : Int) : (Nat × Nat × Nat × Nat) × Int × Int :=
  let s := numF b p e
  let f := mostF b bigM s.2.1 s.2.2
  let t := mostF b bigM f.2.1 f.2.2
  let n := mostF b bigM t.2.1 t.2.2
  ((s.1, f.1, t.1, n.1), n.2)
theorem four_cells {w : World} {g e : Nat} {a b c d : Value} (h : w.heap[g]? = some (.cells #[a, b, c, d] e (0, 0))) :
    w.cell? ⟨g, 0, none⟩ = some a ∧ w.cell? ⟨g, 1, none⟩ = some b ∧ w.cell? ⟨g, 2, none⟩ = some c ∧ w.cell? ⟨g, 3, none⟩ = some d ∧ ∀ j, w.frozen? ⟨g, j, none⟩ = false := by
  refine ⟨?_, ?_, ?_, ?_, fun j => frozen_of_block h⟩
  all_goals (rw [cell_of_row w g _ _ e (0, 0) h]; rfl)

set_option maxRecDepth 20000 in
set_option maxHeartbeats 4000000 in
theorem brmove_any (g : Nat) (p e : Int) (s : Value) (b : List UInt8) (w : World) (h : Rd 86 w g s b p e) :
    Calls Try.prog 69 #[.pointer (some ⟨g, 0, none⟩)] w fun x w' => x = .returned (.agg #[.int .i64 0, .int .u64 0, .slice none 0 0, .int .u64 ((movF b p e).1.1 : Int), .int .i64 ((movF b p e).1.2.1 : Int), .int .i64 ((movF b p e).1.2.2.1 : Int), .int .i64 ((movF b p e).1.2.2.2 : Int)]) ∧ Rd 86 w' g s b (movF b p e).2.1 (movF b p e).2.2 ∧ Keep (fun k => k = g) w w' := by
  have M0 := MV.start h #[.int .u64 0, .int .i64 0, .int .i64 0, .int .i64 0] 37 #[.int .i64 0, .int .u64 0, .slice none 0 0, .int .u64 0, .int .i64 0, .int .i64 0, .int .i64 0] 79
  have H2 := hide M0
  have HN := hide (bnumber_any g p e s b _ M0.rd)
  have n1 : ¬ w.heap.size + 1 = w.heap.size := by omega
  generalize hR : movF b p e = RS
  obtain ⟨⟨S9, F9, T9, N9⟩, P9, E9⟩ := RS
  have HR := hide hR
  generalize hNN : numF b p e = NN at *
  obtain ⟨V3, P3, E3⟩ := NN
  have HNN := hide hNN
  simp only at HN ⊢
  clear M0 h hR hNN
  go_enter Try.func69, Try.ntmps69
  go_wp2_with fail
  refine Calls.mono (unhide HN) ?_
  rintro x w3 ⟨rfl, r3, k3⟩
  have M3 := (unhide H2).call r3 k3
  obtain ⟨c0, c1, c2, c3, fz⟩ := four_cells M3.var
  have f0 := fz 0
  have M3' := M3.put 0 (.int .u64 (V3 : Int))
  have H3 := hide M3'
  have HA := hide (bupto_big g P3 E3 s b _ M3'.rd)
  generalize hAA : mostF b bigM P3 E3 = AA at *
  obtain ⟨V4, P4, E4⟩ := AA
  have HAA := hide hAA
  simp only at HA
  clear M3 M3' hAA r3 k3 fz H2 HN
  go_wp2_with fail
  refine Calls.mono (unhide HA) ?_
  rintro x w4 ⟨rfl, r4, k4⟩
  have M4 := (unhide H3).call r4 k4
  obtain ⟨d0, d1, d2, d3, fz⟩ := four_cells M4.var
  have f1 := fz 1
  have M4' := M4.put 1 (.int .i64 (V4 : Int))
  have H4 := hide M4'
  have HL := hide (bupto_big g P4 E4 s b _ M4'.rd)
  generalize hLL : mostF b bigM P4 E4 = LL at *
  obtain ⟨V5, P5, E5⟩ := LL
  have HLL := hide hLL
  simp only at HL
  clear M4 M4' hLL r4 k4 fz H3 HA c0 c1 c2 c3 f0
  go_wp2_with fail
  refine Calls.mono (unhide HL) ?_
  rintro x w5 ⟨rfl, r5, k5⟩
  have M5 := (unhide H4).call r5 k5
  obtain ⟨c0, c1, c2, c3, fz⟩ := four_cells M5.var
  have f2 := fz 2
  have M5' := M5.put 2 (.int .i64 (V5 : Int))
  have H5 := hide M5'
  have HM := hide (bupto_big g P5 E5 s b _ M5'.rd)
  generalize hMM : mostF b bigM P5 E5 = MM at *
  obtain ⟨V6, P6, E6⟩ := MM
  have HMM := hide hMM
  simp only at HM
  clear M5 M5' hMM r5 k5 fz H4 HL d0 d1 d2 d3 f1
  go_wp2_with fail
  refine Calls.mono (unhide HM) ?_
  rintro x w6 ⟨rfl, r6, k6⟩
  have M6 := (unhide H5).call r6 k6
  obtain ⟨d0, d1, d2, d3, fz⟩ := four_cells M6.var
  have f3 := fz 3
  have M6' := M6.put 3 (.int .i64 (V6 : Int))
  obtain ⟨e0, e1, e2, e3, e4, e5, e6⟩ := seven_cells (w := w6.setCell ⟨w.heap.size + 1, 3, none⟩ (.int .i64 (V6 : Int))) (g := w.heap.size) M6'.res
  have fz' : ∀ j, (w6.setCell ⟨w.heap.size + 1, 3, none⟩ (.int .i64 (V6 : Int))).frozen? ⟨w.heap.size, j, none⟩ = false := fun j => frozen_of_block M6'.res
  have g0 := fz' 0
  have g1 := fz' 1
  have g2 := fz' 2
  have g3 := fz' 3
  have g4 := fz' 4
  have g5 := fz' 5
  have g6 := fz' 6
  have HF := hide (((((((M6'.putR 0 (.int .i64 0)).putR 1 (.int .u64 0)).putR 2 (.slice none 0 0)).putR 3 (.int .u64 (V3 : Int))).putR 4 (.int .i64 (V4 : Int))).putR 5 (.int .i64 (V5 : Int))).putR 6 (.int .i64 (V6 : Int)))
  clear M6 M6' fz fz' r6 k6 H5 HM c0 c1 c2 c3 f2
  go_wp2
  have hx := unhide HR
  simp only [movF, unhide HNN, unhide HAA, unhide HLL, unhide HMM, Prod.mk.injEq] at hx
  obtain ⟨⟨rfl, rfl, rfl, rfl⟩, rfl, rfl⟩ := hx
  refine bodyPost_ret (v := .agg #[.int .i64 0, .int .u64 0, .slice none 0 0, .int .u64 (V3 : Int), .int .i64 (V4 : Int), .int .i64 (V5 : Int), .int .i64 (V6 : Int)]) (by simp [results, Try.results69, go_sem, *]) rfl ⟨rfl, (unhide HF).rd, (unhide HF).keep⟩

/-- Changes one behind the other. -/
def chgsF (b : List UInt8) : Nat → Int → Int → List Chg × Int × Int
  | 0, p, e => ([], p, e)
  | n + 1, p, e => ((chgsF b n p e).1 ++ [(chgF b (chgsF b n p e).2.1 (chgsF b n p e).2.2).1], (chgF b (chgsF b n p e).2.1 (chgsF b n p e).2.2).2)
theorem chgs_len (b : List UInt8) (n : Nat) (p e : Int) : (chgsF b n p e).1.length = n := by
  induction n with
  | zero => rfl
  | succ n ih => rw [chgsF, List.length_append, ih]; rfl
def batF (b : List UInt8) (p e : Int) : (Nat × List Chg) × Int × Int :=
  let s := numF b p e
  let n := mostF b 32 s.2.1 s.2.2
  let r := chgsF b n.1 n.2.1 n.2.2
  ((s.1, r.1), r.2)

theorem made5 (n : Nat) : (madeCells #[.string ⟨#[]⟩, .int .u64 0, .int .i64 0, .int .i64 0, .bool false] (n * 5)).toList = (List.replicate n zeroChg).flatMap chgC := by
  have hz : ∀ i, i < 5 → (#[.string ⟨#[]⟩, .int .u64 0, .int .i64 0, .int .i64 0, .bool false] : Array Value)[i]! = ((chgC zeroChg)[i]?).getD default := by
    intro i hi
    match i, hi with
    | 0, _ => rfl
    | 1, _ => rfl
    | 2, _ => rfl
    | 3, _ => rfl
    | 4, _ => rfl
  apply List.ext_getElem?
  intro j
  by_cases hj : j < n * 5
  · have h1 : j / 5 < (List.replicate n zeroChg).length := by rw [List.length_replicate]; omega
    have h2 := flat_get chgC_len (List.replicate n zeroChg) (j / 5) h1 (j % 5) (by omega)
    rw [show j / 5 * 5 + j % 5 = j by omega, List.getElem_replicate] at h2
    rw [h2]
    unfold madeCells
    rw [Array.getElem?_toList, Array.getElem?_map, Array.getElem?_range]
    simp only [hj, if_true, Option.map_some]
    have h3 : (#[.string ⟨#[]⟩, .int .u64 0, .int .i64 0, .int .i64 0, .bool false] : Array Value).size = 5 := rfl
    rw [h3, hz (j % 5) (by omega)]
    have h4 : j % 5 < (chgC zeroChg).length := by rw [chgC_len]; omega
    rw [List.getElem?_eq_getElem h4]
    rfl
  · rw [List.getElem?_eq_none (by rw [Array.length_toList, size_madeCells]; omega), List.getElem?_eq_none (by rw [flat_len chgC_len, List.length_replicate]; omega)]
end Go.Proofs.Ytpampknbbpjkiaa

/- Package batch's reader: what stands behind the kind of a batch. -/
namespace Go.Proofs.Ytpampknbbpjkiaa
open Go.RowKit

theorem cells5_set (l : List Chg) (i : Nat) (x : Chg) (h : i < l.length) :
    (((((l.flatMap chgC).set (i * 5) (.string x.key)).set (i * 5 + 1) (.int .u64 (x.ser : Int))).set (i * 5 + 2) (.int .i64 x.pos)).set (i * 5 + 3) (.int .i64 x.len)).set (i * 5 + 4) (.bool x.del) = (l.set i x).flatMap chgC := by
  induction l generalizing i with
  | nil => simp at h
  | cons p l ih =>
    cases i with
    | zero => simp [chgC]
    | succ i =>
      rw [List.set_cons_succ, List.flatMap_cons, List.flatMap_cons, ← ih i (by simpa using h)]
      have e1 : (i + 1) * 5 = (chgC p).length + i * 5 := by rw [chgC_len]; omega
      rw [e1, Nat.add_assoc, Nat.add_assoc, Nat.add_assoc, Nat.add_assoc]
      simp only [List.set_append_right _ _ (Nat.le_add_right _ _), Nat.add_sub_cancel_left]

theorem arr_cells {w : World} {c : Nat} {l : List Chg} {T : TypeId} (h : w.heap[c]? = some (.cells (l.flatMap chgC).toArray T (0, 0))) (k : Nat) (hk : k < l.length) :
    w.cell? ⟨c, k * 5, none⟩ = some (.string l[k].key) ∧ w.cell? ⟨c, k * 5 + 1, none⟩ = some (.int .u64 (l[k].ser : Int)) ∧ w.cell? ⟨c, k * 5 + 2, none⟩ = some (.int .i64 l[k].pos) ∧ w.cell? ⟨c, k * 5 + 3, none⟩ = some (.int .i64 l[k].len) ∧ w.cell? ⟨c, k * 5 + 4, none⟩ = some (.bool l[k].del) := by
  have g := fun i hi => flat_get chgC_len l k hk i hi
  refine ⟨?_, ?_, ?_, ?_, ?_⟩
  · rw [cell_of_row w c _ _ _ (0, 0) h, List.getElem?_toArray]; exact g 0 (by omega)
  · rw [cell_of_row w c _ _ _ (0, 0) h, List.getElem?_toArray]; exact g 1 (by omega)
  · rw [cell_of_row w c _ _ _ (0, 0) h, List.getElem?_toArray]; exact g 2 (by omega)
  · rw [cell_of_row w c _ _ _ (0, 0) h, List.getElem?_toArray]; exact g 3 (by omega)
  · rw [cell_of_row w c _ _ _ (0, 0) h, List.getElem?_toArray]; exact g 4 (by omega)
/-- The reading of a batch under way: the result's block, the variable's, the changes'. -/
structure BT (w w' : World) (g h c : Nat) (s : Value) (b : List UInt8) (p e : Int) (seq : Nat) (l : List Chg) : Prop where
  rd : Rd 86 w' g s b p e
  var : w'.heap[h]? = some (.cells #[.int .i64 0, .int .u64 (seq : Int), .slice (some ⟨c, 0, none⟩) l.length l.length, .int .u64 0, .int .i64 0, .int .i64 0, .int .i64 0] 79 (0, 0))
  res : w'.heap[w.heap.size]? = some (.cells #[.int .i64 0, .int .u64 0, .slice none 0 0, .int .u64 0, .int .i64 0, .int .i64 0, .int .i64 0] 79 (0, 0))
  arr : w'.heap[c]? = some (.cells (l.flatMap chgC).toArray 44 (0, 0))
  keep : Keep (fun k => k = g) w w'
  glt : g < w.heap.size
  src : ∀ bb off c, s = .slice (some ⟨bb, off, none⟩) b.length c → b ≠ [] → bb < w.heap.size
  hge : w.heap.size < h
  cge : w.heap.size < c
  hc : h ≠ c
theorem BT.call {w w' w'' : World} {g h c : Nat} {s : Value} {b : List UInt8} {p e p' e' : Int} {seq : Nat} {l : List Chg} (H : BT w w' g h c s b p e seq l) (r : Rd 86 w'' g s b p' e') (k : Keep (fun k => k = g) w' w'') : BT w w'' g h c s b p' e' seq l := by
  have h1 := H.glt
  have h2 := H.hge
  have h3 := H.cge
  exact ⟨r, (k.block _ (Array.getElem?_eq_some_iff.1 H.var).1 (by omega)).trans H.var, (k.block _ (Array.getElem?_eq_some_iff.1 H.res).1 (by omega)).trans H.res, (k.block _ (Array.getElem?_eq_some_iff.1 H.arr).1 (by omega)).trans H.arr, H.keep.trans k (fun _ h => Or.inl h), h1, H.src, h2, h3, H.hc⟩
theorem BT.put {w w' : World} {g h c : Nat} {s : Value} {b : List UInt8} {p e : Int} {seq : Nat} {l : List Chg} (H : BT w w' g h c s b p e seq l) (i : Nat) (x : Chg) (hi : i < l.length) :
    BT w (((((w'.setCell ⟨c, i * 5, none⟩ (.string x.key)).setCell ⟨c, i * 5 + 1, none⟩ (.int .u64 (x.ser : Int))).setCell ⟨c, i * 5 + 2, none⟩ (.int .i64 x.pos)).setCell ⟨c, i * 5 + 3, none⟩ (.int .i64 x.len)).setCell ⟨c, i * 5 + 4, none⟩ (.bool x.del)) g h c s b p e seq (l.set i x) := by
  have h1 := H.glt
  have h2 := H.hge
  have h3 := H.cge
  have h4 := H.hc
  have hk : Keep (fun k => k = c) w' (((((w'.setCell ⟨c, i * 5, none⟩ (.string x.key)).setCell ⟨c, i * 5 + 1, none⟩ (.int .u64 (x.ser : Int))).setCell ⟨c, i * 5 + 2, none⟩ (.int .i64 x.pos)).setCell ⟨c, i * 5 + 3, none⟩ (.int .i64 x.len)).setCell ⟨c, i * 5 + 4, none⟩ (.bool x.del)) :=
    (((keep_set.trans keep_set (fun _ h => Or.inl h)).trans keep_set (fun _ h => Or.inl h)).trans keep_set (fun _ h => Or.inl h)).trans keep_set (fun _ h => Or.inl h)
  have e1 := heap_setCell_same w' c (i * 5) _ _ (.string x.key) H.arr
  have e2 := heap_setCell_same _ c (i * 5 + 1) _ _ (.int .u64 (x.ser : Int)) e1
  have e3 := heap_setCell_same _ c (i * 5 + 2) _ _ (.int .i64 x.pos) e2
  have e4 := heap_setCell_same _ c (i * 5 + 3) _ _ (.int .i64 x.len) e3
  have e5 := heap_setCell_same _ c (i * 5 + 4) _ _ (.bool x.del) e4
  refine ⟨H.rd.keep hk (by omega) (fun bb off cc e hb => by have := H.src bb off cc e hb; omega), ?_, (hk.block _ (Array.getElem?_eq_some_iff.1 H.res).1 (by omega)).trans H.res, ?_, H.keep.trans hk (fun x hx => Or.inr (by omega)), h1, H.src, h2, h3, h4⟩
  · rw [List.length_set]
    exact (hk.block _ (Array.getElem?_eq_some_iff.1 H.var).1 (by omega)).trans H.var
  · rw [e5, ← cells5_set l i x hi]
    simp only [List.setIfInBounds_toArray]
/-- .. at its end: the result is written. -/
theorem BT.fin {w w' : World} {g h c : Nat} {s : Value} {b : List UInt8} {p e : Int} {seq : Nat} {l : List Chg} (H : BT w w' g h c s b p e seq l) {w'' : World} (hk : Keep (fun k => k = w.heap.size) w' w'') (hl : l.length ≤ 1000) :
    Rd 86 w'' g s b p e ∧ Keep (fun k => k = g) w w'' ∧ CL w'' (.slice (some ⟨c, 0, none⟩) l.length l.length) l := by
  have h1 := H.glt
  have h3 := H.cge
  refine ⟨H.rd.keep hk (by omega) (fun bb off cc e hb => by have := H.src bb off cc e hb; omega), H.keep.trans hk (fun x hx => Or.inr (by omega)), ?_⟩
  have ha := (hk.block _ (Array.getElem?_eq_some_iff.1 H.arr).1 (by omega)).trans H.arr
  refine ⟨_, _, rfl, Nat.le_refl _, by unfold maxLen; omega, by simp, flat_len chgC_len l, Or.inr ⟨c, 0, rfl, fun j u hu => ?_⟩⟩
  rw [Nat.zero_add, cell_of_row _ c j _ _ (0, 0) ha, List.getElem?_toArray]
  exact hu

theorem set_pad {l : List Chg} {k n : Nat} (h : l.length = k) (hk : k < n) (C : Chg) : (l ++ List.replicate (n - k) zeroChg).set k C = (l ++ [C]) ++ List.replicate (n - (k + 1)) zeroChg := by
  rw [List.set_append_right _ _ (by omega), h, Nat.sub_self, show n - k = (n - (k + 1)) + 1 by omega, List.replicate_succ, List.set_cons_zero, List.append_assoc]
  rfl

end Go.Proofs.Ytpampknbbpjkiaa

/- Package batch's reader: what stands behind the kind of a batch. -/
namespace Go.Proofs.Ytpampknbbpjkiaa
open Go.RowKit

set_option maxRecDepth 20000 in
set_option maxHeartbeats 4000000 in
theorem brbatch_any (g : Nat) (p e : Int) (s : Value) (b : List UInt8) (w : World) (h : Rd 86 w g s b p e) :
    Calls Try.prog 66 #[.pointer (some ⟨g, 0, none⟩)] w fun x w' => ∃ c : Nat, x = .returned (.agg #[.int .i64 0, .int .u64 ((batF b p e).1.1 : Int), .slice (some ⟨c, 0, none⟩) (batF b p e).1.2.length (batF b p e).1.2.length, .int .u64 0, .int .i64 0, .int .i64 0, .int .i64 0]) ∧ w.heap.size < c ∧ CL w' (.slice (some ⟨c, 0, none⟩) (batF b p e).1.2.length (batF b p e).1.2.length) (batF b p e).1.2 ∧ Rd 86 w' g s b (batF b p e).2.1 (batF b p e).2.2 ∧ Keep (fun k => k = g) w w' := by
  obtain ⟨i0, hi, hz0, hz1, hz2⟩ := info_parts Try.info44
  obtain ⟨o, ho⟩ : ∃ o, o = Obj.cells #[.int .i64 0, .int .u64 0, .slice none 0 0, .int .u64 0, .int .i64 0, .int .i64 0, .int .i64 0] 79 := ⟨_, rfl⟩
  have hb0 : Below w.heap.size w (w.alloc o) := (Below.refl _ _).alloc (Nat.le_refl _) _
  have HN := hide (bnumber_any g p e s b _ (h.below hb0))
  have HSRC := hide h.src
  have HGL := hide h.lt
  have HB0 := hide hb0
  have HR0 := hide (alloc_new w o)
  have hso : (w.alloc o).heap.size = w.heap.size + 1 := by simp
  have HSO := hide hso
  rw [ho] at HN HB0 HR0 HSO
  generalize hR : batF b p e = RS
  obtain ⟨⟨S9, L9⟩, P9, E9⟩ := RS
  have HR := hide hR
  generalize hNN : numF b p e = NN at *
  obtain ⟨V1, P1, E1⟩ := NN
  have HNN := hide hNN
  simp only at HN ⊢
  clear h hR hNN hb0 hso
  go_enter Try.func66, Try.ntmps66
  go_wp2_with fail
  refine Calls.mono (unhide HN) ?_
  rintro x w1 ⟨rfl, r1, k1⟩
  have hs1 := k1.size
  rw [unhide HSO] at hs1
  have hres1 := (k1.block w.heap.size (by rw [unhide HSO]; omega) (by have := unhide HGL; omega)).trans (unhide HR0)
  have hk1 : Keep (fun k => k = g) w w1 := (Keep.of_below (unhide HB0)).trans k1 (fun _ h => Or.inl h)
  obtain ⟨o2, ho2⟩ : ∃ o2, o2 = Obj.cells #[.int .i64 0, .int .u64 (V1 : Int), .slice none 0 0, .int .u64 0, .int .i64 0, .int .i64 0, .int .i64 0] 79 := ⟨_, rfl⟩
  have hb1 : Below w1.heap.size w1 (w1.alloc o2) := (Below.refl _ _).alloc (Nat.le_refl _) _
  have HU := hide (bupto_any g 32 P1 E1 s b _ (r1.below hb1) (by omega))
  have HV2 := hide (alloc_new w1 o2)
  have HRS := hide ((hb1.block w.heap.size (by omega)).trans hres1)
  have HKP := hide (hk1.trans (Keep.of_below (F := fun _ => False) hb1) (fun _ h => h.elim))
  have hso2 : (w1.alloc o2).heap.size = w1.heap.size + 1 := by simp
  have HSO2 := hide hso2
  have hml := most_small b 32 P1 E1
  rw [show ((32 : Nat) : Int) = 32 from rfl] at HU
  generalize hMM : mostF b 32 P1 E1 = MM at *
  obtain ⟨n, P2, E2⟩ := MM
  have HMM := hide hMM
  simp only at HU hml
  rw [ho2] at HU HV2 HRS HKP HSO2
  have hnI : (n : Int) ≤ 32 := by omega
  clear r1 k1 hb1 hMM hso2 hres1 hk1 ho2 HN HB0 HR0 HSO
  go_wp2_with fail
  refine Calls.mono (unhide HU) ?_
  rintro x w2 ⟨rfl, r2, k2⟩
  have hs2 := k2.size
  rw [unhide HSO2] at hs2
  have hgl := unhide HGL
  have hv2 := (k2.block w1.heap.size (by rw [unhide HSO2]; omega) (by omega)).trans (unhide HV2)
  have hr2 := (k2.block w.heap.size (by rw [unhide HSO2]; omega) (by omega)).trans (unhide HRS)
  have hk2 := (unhide HKP).trans k2 (fun _ h => Or.inl h)
  have f2 : w2.frozen? ⟨w1.heap.size, 2, none⟩ = false := frozen_of_block hv2
  have HV3 := hide hv2
  have HR3 := hide hr2
  have HK3 := hide hk2
  have HRD := hide r2
  have m2 : w2.cell? ⟨w1.heap.size, 2, none⟩ = some (.slice none 0 0) := (seven_cells hv2).2.2.1
  clear r2 k2 hv2 hr2 hk2 HU HV2 HRS HKP HSO2
  go_wp2_with (at_make; refine wpList_make_full _ rfl _ _ 35 rfl w2.heap.size 44 i0 (.agg #[.string ⟨#[]⟩, .int .u64 0, .int .i64 0, .int .i64 0, .bool false]) 5 Try.underlying35 hi hz0 hz1 .i64 .i64 (n : Int) (n : Int) n rfl rfl rfl rfl (by rw [hz2]; omega) (by unfold maxLen; omega) (Nat.le_refl _) ?_)
  intro w3 hown3 hgrow3
  have hb3 : Below w2.heap.size w2 w3 := (Below.refl _ _).grown hgrow3 (Nat.le_refl _) (fun k hk => by cases hk)
  have harr : w3.heap[w2.heap.size]? = some (.cells ((List.replicate n zeroChg).flatMap chgC).toArray 44 (0, 0)) := by
    rcases hown3.2 with ⟨h', _⟩ | ⟨g', cap', cur, h', _, hh, _, _, hcs, htake⟩
    · simp at h'
    · simp only [Value.slice.injEq, Option.some.injEq, Addr.mk.injEq, and_true, true_and] at h'
      obtain ⟨rfl, rfl⟩ := h'
      rw [hh]
      have e1 : cur.toList = (List.replicate n zeroChg).flatMap chgC := by
        rw [← made5 n, ← htake, List.take_of_length_le (by rw [Array.length_toList]; omega)]
      rw [← e1]
  have m3 := (hb3.cell (World.block_lt_of_cell? _ _ m2)).trans m2
  have hv3 := (hb3.block w1.heap.size (by omega)).trans (unhide HV3)
  have f3 : w3.frozen? ⟨w1.heap.size, 2, none⟩ = false := frozen_of_block hv3
  have hb4 : Keep (fun k => k = w1.heap.size) w3 (w3.setCell ⟨w1.heap.size, 2, none⟩ (.slice (some ⟨w2.heap.size, 0, none⟩) n n)) := keep_set
  have B0 : BT w (w3.setCell ⟨w1.heap.size, 2, none⟩ (.slice (some ⟨w2.heap.size, 0, none⟩) n n)) g w1.heap.size w2.heap.size s b P2 E2 V1 (List.replicate n zeroChg) := by
    refine ⟨((unhide HRD).below hb3).keep hb4 (by omega) (fun bb off cc e hb => by have := unhide HSRC bb off cc e hb; omega), ?_, (hb4.block _ (by have := hb3.size; omega) (by omega)).trans ((hb3.block w.heap.size (by omega)).trans (unhide HR3)), (hb4.block _ (Array.getElem?_eq_some_iff.1 harr).1 (by omega)).trans harr, ((unhide HK3).trans (Keep.of_below (F := fun _ => False) hb3) (fun _ h => h.elim)).trans hb4 (fun x hx => Or.inr (by omega)), hgl, unhide HSRC, by omega, by omega, by omega⟩
    rw [heap_setCell_same _ _ _ _ _ _ hv3, List.length_replicate]
    rfl
  have HB := hide B0
  have q2 := (seven_cells B0.var).2.2.1
  rw [List.length_replicate] at q2
  have n12 : ¬ w1.heap.size = w2.heap.size := by omega
  generalize w1.heap.size = h at *
  generalize w2.heap.size = c at *
  clear hown3 hgrow3 hb3 harr hv3 hb4 B0 HV3 HR3 HK3 HRD m2 f2 hs1 hs2 HSRC HGL hgl
  go_wp2_with fail
  clear q2
  go_loopw [15] (fun i wr => ∃ k : Nat, k ≤ n ∧ i = .int .i64 k ∧ Hid (BT w wr g h c s b (chgsF b k P2 E2).2.1 (chgsF b k P2 E2).2.2 V1 ((chgsF b k P2 E2).1 ++ List.replicate (n - k) zeroChg))) (fun i _ => n - (intOf i).toNat)
  case atStart => exact ⟨0, Nat.zero_le _, rfl, by unfold Hid; simpa [chgsF] using unhide HB⟩
  case round =>
    obtain ⟨k, hk, rfl, hbt⟩ := hrel
    have B1 := unhide hbt
    have hcl := chgs_len b k P2 E2
    have hll : ((chgsF b k P2 E2).1 ++ List.replicate (n - k) zeroChg).length = n := by rw [List.length_append, hcl, List.length_replicate]; omega
    by_cases hlt : k < n
    · have hst : chgsF b (k + 1) P2 E2 = ((chgsF b k P2 E2).1 ++ [(chgF b (chgsF b k P2 E2).2.1 (chgsF b k P2 E2).2.2).1], (chgF b (chgsF b k P2 E2).2.1 (chgsF b k P2 E2).2.2).2) := rfl
      have HST := hide hst
      have HSP := hide (fun C => set_pad hcl hlt C)
      generalize chgsF b k P2 E2 = RK at *
      obtain ⟨LK, PK, EK⟩ := RK
      simp only at B1 HST HSP hll hcl
      have hdw : Below wr.heap.size wr wr.drew := (Below.refl _ _).drew
      have HCH := hide (brchange_any g PK EK s b wr.drew (B1.rd.below hdw))
      have hkI : (k : Int) < n := by omega
      have q2 := (seven_cells B1.var).2.2.1
      rw [hll] at q2
      have HB1 := hide (B1.call (B1.rd.below hdw) (Keep.of_below hdw))
      have HLL := hide hll
      generalize hCF : chgF b PK EK = CF at *
      obtain ⟨C, P5, E5⟩ := CF
      simp only at HCH HST
      unfold chgV at HCH
      have HCH2 : Hid (Calls Try.prog 86 #[.pointer (some ⟨g, 0, none⟩)] wr.drew fun x w5 => x = .returned (.agg #[.string C.key, .int .u64 (C.ser : Int), .int .i64 C.pos, .int .i64 C.len, .bool C.del]) ∧ w5.cell? ⟨h, 2, none⟩ = some (.slice (some ⟨c, 0, none⟩) n n) ∧ (∃ u0 u1 u2 u3 u4, w5.cell? ⟨c, k * 5, none⟩ = some u0 ∧ w5.cell? ⟨c, k * 5 + 1, none⟩ = some u1 ∧ w5.cell? ⟨c, k * 5 + 2, none⟩ = some u2 ∧ w5.cell? ⟨c, k * 5 + 3, none⟩ = some u3 ∧ w5.cell? ⟨c, k * 5 + 4, none⟩ = some u4) ∧
          (w5.frozen? ⟨c, k * 5, none⟩ = false ∧ w5.frozen? ⟨c, k * 5 + 1, none⟩ = false ∧ w5.frozen? ⟨c, k * 5 + 2, none⟩ = false ∧ w5.frozen? ⟨c, k * 5 + 3, none⟩ = false ∧ w5.frozen? ⟨c, k * 5 + 4, none⟩ = false) ∧ (((((w5.setCell ⟨c, k * 5, none⟩ (.string C.key)).setCell ⟨c, k * 5 + 1, none⟩ (.int .u64 (C.ser : Int))).setCell ⟨c, k * 5 + 2, none⟩ (.int .i64 C.pos)).setCell ⟨c, k * 5 + 3, none⟩ (.int .i64 C.len)).setCell ⟨c, k * 5 + 4, none⟩ (.bool C.del)).cell? ⟨h, 2, none⟩ = some (.slice (some ⟨c, 0, none⟩) n n) ∧
          Hid (BT w (((((w5.setCell ⟨c, k * 5, none⟩ (.string C.key)).setCell ⟨c, k * 5 + 1, none⟩ (.int .u64 (C.ser : Int))).setCell ⟨c, k * 5 + 2, none⟩ (.int .i64 C.pos)).setCell ⟨c, k * 5 + 3, none⟩ (.int .i64 C.len)).setCell ⟨c, k * 5 + 4, none⟩ (.bool C.del)) g h c s b P5 E5 V1 ((LK ++ List.replicate (n - k) zeroChg).set k C))) := by
        refine (unhide HCH).mono ?_
        rintro x w5 ⟨rfl, r5, k5⟩
        have B5 := (unhide HB1).call r5 k5
        have qq := (seven_cells B5.var).2.2.1
        rw [unhide HLL] at qq
        have hkl : k < (LK ++ List.replicate (n - k) zeroChg).length := by rw [unhide HLL]; exact hlt
        obtain ⟨z0, z1, z2, z3, z4⟩ := arr_cells B5.arr k hkl
        have q9 := (seven_cells (B5.put k C hkl).var).2.2.1
        rw [List.length_set, unhide HLL] at q9
        exact ⟨rfl, qq, ⟨_, _, _, _, _, z0, z1, z2, z3, z4⟩, ⟨frozen_of_block B5.arr, frozen_of_block B5.arr, frozen_of_block B5.arr, frozen_of_block B5.arr, frozen_of_block B5.arr⟩, q9, B5.put k C hkl⟩
      have n21 : ¬ c = h := fun e => n12 e.symm
      clear hst B1 hbt hdw hcl hll hCF HCH HB1 HLL
      go_wp2_with fail
      go_region_with (first | (go_at_call 86; refine Calls.mono (unhide HCH2) ?_; rintro x w5 ⟨rfl, qq, ⟨u0, u1, u2, u3, u4, z0, z1, z2, z3, z4⟩, ⟨y0, y1, y2, y3, y4⟩, q9, HB5⟩))
      all_goals
        go_wp2
        go_roundw
        case rel =>
          refine ⟨k + 1, by omega, by go_num, ?_⟩
          unfold Hid
          rw [unhide HST]
          have := unhide HB5
          rw [unhide HSP] at this
          exact this
        case measure => simp [intOf]; omega
    · obtain rfl : k = n := by omega
      rw [Nat.sub_self, List.replicate_zero, List.append_nil] at B1
      have hx := unhide HR
      simp only [batF, unhide HNN, unhide HMM, Prod.mk.injEq] at hx
      obtain ⟨⟨rfl, rfl⟩, hpe⟩ := hx
      obtain ⟨rfl, rfl⟩ : P9 = (chgsF b k P2 E2).2.1 ∧ E9 = (chgsF b k P2 E2).2.2 := ⟨by rw [hpe], by rw [hpe]⟩
      clear hpe
      obtain ⟨v0, v1, v2, v3, v4, v5, v6⟩ := seven_cells B1.var
      obtain ⟨e0, e1, e2, e3, e4, e5, e6⟩ := seven_cells B1.res
      have fz : ∀ j, wr.frozen? ⟨w.heap.size, j, none⟩ = false := fun j => frozen_of_block B1.res
      have g0 := fz 0
      have g1 := fz 1
      have g2 := fz 2
      have g3 := fz 3
      have g4 := fz 4
      have g5 := fz 5
      have g6 := fz 6
      have HFN := hide (fun w'' hk => B1.fin (w'' := w'') hk (by rw [hcl]; omega))
      rw [hcl] at v2
      have hhw := B1.hge
      have HCG := hide B1.cge
      have n9 : ¬ w.heap.size = h := by omega
      have n8 : ¬ h = w.heap.size := by omega
      have HCL := hide hcl
      clear B1 hbt fz hll hhw hcl
      go_wp2
      have HK9 : Keep (fun k => k = w.heap.size) wr _ := ((((((keep_set (w := wr) (g := w.heap.size) (j := 0) (v := .int .i64 0)).trans (keep_set (g := w.heap.size) (j := 1) (v := .int .u64 (V1 : Int))) (fun _ h => Or.inl h)).trans (keep_set (g := w.heap.size) (j := 2) (v := .slice (some ⟨c, 0, none⟩) k k)) (fun _ h => Or.inl h)).trans (keep_set (g := w.heap.size) (j := 3) (v := .int .u64 0)) (fun _ h => Or.inl h)).trans (keep_set (g := w.heap.size) (j := 4) (v := .int .i64 0)) (fun _ h => Or.inl h)).trans (keep_set (g := w.heap.size) (j := 5) (v := .int .i64 0)) (fun _ h => Or.inl h)).trans (keep_set (g := w.heap.size) (j := 6) (v := .int .i64 0)) (fun _ h => Or.inl h)
      obtain ⟨x1, x2, x3⟩ := unhide HFN _ HK9
      refine bodyPost_ret (v := .agg #[.int .i64 0, .int .u64 (V1 : Int), .slice (some ⟨c, 0, none⟩) k k, .int .u64 0, .int .i64 0, .int .i64 0, .int .i64 0]) (by simp [results, Try.results66, go_sem, *]) rfl ⟨c, by rw [unhide HCL], unhide HCG, x3, x1, x2⟩
end Go.Proofs.Ytpampknbbpjkiaa
