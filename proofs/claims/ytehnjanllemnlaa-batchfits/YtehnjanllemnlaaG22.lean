/- Texts of ours, one behind the other: BatRd2, BatRd3, BatRd4, BatRd5a, BatRd5, BatRd6, BatRd7, BatBackP. -/
import Derived.Test.YtehnjanllemnlaaG1
import Derived.Test.YtehnjanllemnlaaG10
import Derived.Test.YtehnjanllemnlaaG11
import Derived.Test.YtehnjanllemnlaaG14
import Derived.Test.YtehnjanllemnlaaG16
import Derived.Test.YtehnjanllemnlaaG21
import Derived.Test.YtehnjanllemnlaaG23
/- Package batch's reader: one, key, gone. -/
namespace Go.Proofs.Ytehnjanllemnlaa
open Go.RowKit

/-- What a reader at place p with the error e tells as a byte, a text; and where it stands then. -/
def byteF (b : List UInt8) (p e : Int) : Nat × Int × Int := if e ≠ 0 then (0, p, e) else if (b.length : Int) < p + 1 then (0, p, 10) else (num ((b.drop p.toNat).take 1), p + 1, 0)
def textF (b : List UInt8) (p e : Int) : List UInt8 × Int × Int := if e ≠ 0 then ([], p, e) else if textE b p 64 ≠ 0 then ([], p, textE b p 64) else (textB b p 64, textN b p 64, 0)
def goneF (b : List UInt8) (p e : Int) : Bool × Int × Int := (decide ((byteF b p e).1 = 1), (byteF b p e).2.1, if (byteF b p e).2.2 = 0 then (if (byteF b p e).1 ≤ 1 then 0 else 11) else (byteF b p e).2.2)

theorem byte_lt (b : List UInt8) (p e : Int) : (byteF b p e).1 < 256 := by
  unfold byteF
  split
  · simp
  · split
    · simp
    · have := num_lt ((b.drop p.toNat).take 1)
      have h2 : ((b.drop p.toNat).take 1).length ≤ 1 := by rw [List.length_take]; omega
      rcases Nat.lt_or_ge ((b.drop p.toNat).take 1).length 1 with h3 | h3
      · rw [show ((b.drop p.toNat).take 1).length = 0 by omega] at this
        simp only
        omega
      · rw [show ((b.drop p.toNat).take 1).length = 1 by omega] at this
        simp only
        omega
theorem byte_zero (b : List UInt8) (p e : Int) (h : (byteF b p e).2.2 ≠ 0) : (byteF b p e).1 = 0 := by
  unfold byteF at *
  by_cases he : e ≠ 0
  · rw [if_pos he]
  · rw [if_neg he] at h ⊢
    by_cases hl : (b.length : Int) < p + 1
    · rw [if_pos hl]
    · rw [if_neg hl] at h
      exact absurd rfl h

set_option maxRecDepth 20000 in
set_option maxHeartbeats 2000000 in
theorem bone_any (g : Nat) (p e : Int) (s : Value) (b : List UInt8) (w : World) (h : Rd 78 w g s b p e) :
    Calls Try.prog 52 #[.pointer (some ⟨g, 0, none⟩)] w fun x w' => x = .returned (.int .i64 ((byteF b p e).1 : Int)) ∧ Rd 78 w' g s b (byteF b p e).2.1 (byteF b p e).2.2 ∧ Keep (fun k => k = g) w w' := by
  obtain ⟨q0, l0, cc0, hs0⟩ : ∃ q l c, s = .slice q l c := by obtain ⟨p, c, l, e, _⟩ := h.row.shape; exact ⟨p, l, c, e⟩
  subst hs0
  have HH := hide h
  have hbl := byte_lt b p e
  obtain ⟨a, h3, ha, ha1, ha2⟩ := h.at3
  obtain ⟨c0, c1, c2, fz⟩ := h3.cells
  by_cases he : e = 0
  · subst he
    obtain rfl : a = p := ha rfl
    obtain ⟨hp0, hp1⟩ := h.pos rfl
    have hr := h.room
    have hdw : Below w.heap.size w w.drew := (Below.refl _ _).drew
    have HRV := hide (get_any (.slice q0 l0 cc0) b a 1 w.drew (h.row.below hdw) (by omega))
    have hbf : byteF b a 0 = if (b.length : Int) < a + 1 then (0, a, 10) else (num ((b.drop a.toNat).take 1), a + 1, 0) := by unfold byteF; rw [if_neg (by simp)]
    have hgE : getE b a 1 = if (b.length : Int) < a + 1 then 10 else 0 := by unfold getE; rw [if_neg (by omega)]
    have hgV : getV b a 1 = (byteF b a 0).1 := by
      unfold getV
      rw [if_neg (by omega), hbf]
      split
      · rfl
      · rfl
    have HFIN : Hid (∀ w1, Below w.heap.size w w1 → Rd 78 ((w1.setCell ⟨g, 1, none⟩ (.int .i64 (a + 1))).setCell ⟨g, 2, none⟩ (.int .i64 (getE b a 1))) g (.slice q0 l0 cc0) b (byteF b a 0).2.1 (byteF b a 0).2.2 ∧ Keep (fun k => k = g) w ((w1.setCell ⟨g, 1, none⟩ (.int .i64 (a + 1))).setCell ⟨g, 2, none⟩ (.int .i64 (getE b a 1)))) := by
      intro w1 hb
      rw [hbf, hgE]
      by_cases hl : (b.length : Int) < a + 1
      · rw [if_pos hl, if_pos hl]
        exact (unhide HH).set hb (a + 1) a 10 (fun h => absurd h (by omega)) (by omega) (by omega) (fun h => absurd h (by omega))
      · rw [if_neg hl, if_neg hl]
        exact (unhide HH).set hb (a + 1) (a + 1) 0 (fun _ => rfl) (by omega) (by omega) (fun _ => by omega)
    rw [hgV] at HRV
    have hwa : IntKind.i64.wrap (a + 1) = a + 1 := by rw [IntKind.wrap_i64]; omega
    have f1 := fz 1
    have f2 := fz 2
    have d0 := c0
    have d1 := c1
    have H3 := hide (h3.below hdw)
    generalize getE b a 1 = E at *
    generalize (byteF b a 0).2 = BS at *
    generalize (byteF b a 0).1 = V at *
    have hwv : IntKind.i64.wrap (V : Int) = V := by rw [IntKind.wrap_i64]; omega
    clear fz h3 h hdw hbf hgE hgV ha hbl hr
    go_enter Try.func52, Try.ntmps52
    go_wp2_with fail
    go_region_held3 (fun w' => w'.cell? ⟨g, 0, none⟩ = some (.slice q0 l0 cc0) ∧ w'.cell? ⟨g, 1, none⟩ = some (.int .i64 a)) (first | assumption | go_keep)
      (first | (go_at_call 65; refine Calls.mono (unhide HRV) ?_; rintro x w1 ⟨rfl, b1⟩; obtain ⟨k0, k1, k2, fz⟩ := ((unhide H3).below b1).cells; have kk : w1.cell? ⟨g, 0, none⟩ = some (.slice q0 l0 cc0) ∧ w1.cell? ⟨g, 1, none⟩ = some (.int .i64 a) := ⟨k0, k1⟩; have g1 := fz 1; have g2 := fz 2; have HFN := hide (unhide HFIN w1 (((Below.refl w.heap.size w).drew).trans b1)); clear fz b1))
    go_wp2
    go_ret
    exact ⟨rfl, unhide HFN⟩
  · have hn : byteF b p e = (0, p, e) := by unfold byteF; rw [if_pos he]
    rw [hn]
    have he' : (e == 0) = false := by simp [he]
    clear fz
    go_enter Try.func52, Try.ntmps52
    go_wp2
    go_ret
    exact ⟨rfl, unhide HH, Keep.refl _ _⟩

theorem text_n (b : List UInt8) (p : Int) (h : textE b p 64 = 0) : 0 ≤ textN b p 64 ∧ textN b p 64 ≤ b.length ∧ (textB b p 64).length ≤ 64 := by
  have h0 := h
  unfold textE at h0
  split at h0
  · rename_i hr
    have hq := read_ok b p hr
    split at h0
    · omega
    · rename_i hm
      split at h0
      · omega
      · rename_i hl
        unfold textN textB
        rw [if_pos h, if_pos h, List.length_take]
        omega
  · rename_i hr; exact absurd h0 hr

set_option maxRecDepth 20000 in
set_option maxHeartbeats 2000000 in
theorem bkey_any (g : Nat) (p e : Int) (s : Value) (b : List UInt8) (w : World) (h : Rd 78 w g s b p e) :
    Calls Try.prog 70 #[.pointer (some ⟨g, 0, none⟩)] w fun x w' => x = .returned (.string ⟨(textF b p e).1.toArray⟩) ∧ Rd 78 w' g s b (textF b p e).2.1 (textF b p e).2.2 ∧ Keep (fun k => k = g) w w' := by
  obtain ⟨q0, l0, cc0, hs0⟩ : ∃ q l c, s = .slice q l c := by obtain ⟨p, c, l, e, _⟩ := h.row.shape; exact ⟨p, l, c, e⟩
  subst hs0
  have HH := hide h
  obtain ⟨a, h3, ha, ha1, ha2⟩ := h.at3
  obtain ⟨c0, c1, c2, fz⟩ := h3.cells
  by_cases he : e = 0
  · subst he
    obtain rfl : a = p := ha rfl
    have hr := h.room
    have hdw : Below w.heap.size w w.drew := (Below.refl _ _).drew
    have HRV := hide (readtext_any (.slice q0 l0 cc0) b a 64 w.drew (h.row.below hdw) h.room (by omega))
    have hbf : textF b a 0 = if textE b a 64 ≠ 0 then ([], a, textE b a 64) else (textB b a 64, textN b a 64, 0) := by unfold textF; rw [if_neg (by simp)]
    have hN : -9223372036854775808 ≤ textN b a 64 ∧ textN b a 64 ≤ 9223372036854775807 := by
      by_cases h0 : textE b a 64 = 0
      · have := text_n b a h0; omega
      · unfold textN; rw [if_neg h0]; omega
    have hB : textB b a 64 = (textF b a 0).1 := by
      rw [hbf]
      by_cases h0 : textE b a 64 = 0
      · rw [if_neg (by simp [h0])]
      · rw [if_pos h0]; unfold textB; rw [if_neg h0]
    have HFIN : Hid (∀ w1, Below w.heap.size w w1 → Rd 78 ((w1.setCell ⟨g, 1, none⟩ (.int .i64 (textN b a 64))).setCell ⟨g, 2, none⟩ (.int .i64 (textE b a 64))) g (.slice q0 l0 cc0) b (textF b a 0).2.1 (textF b a 0).2.2 ∧ Keep (fun k => k = g) w ((w1.setCell ⟨g, 1, none⟩ (.int .i64 (textN b a 64))).setCell ⟨g, 2, none⟩ (.int .i64 (textE b a 64)))) := by
      intro w1 hb
      rw [hbf]
      by_cases h0 : textE b a 64 = 0
      · rw [if_neg (by simp [h0]), h0]
        have := text_n b a h0
        exact (unhide HH).set hb (textN b a 64) (textN b a 64) 0 (fun _ => rfl) hN.1 hN.2 (fun _ => by omega)
      · rw [if_pos h0]
        exact (unhide HH).set hb (textN b a 64) a (textE b a 64) (fun h => absurd h h0) hN.1 hN.2 (fun h => absurd h h0)
    rw [hB] at HRV
    have f1 := fz 1
    have f2 := fz 2
    have d0 := c0
    have d1 := c1
    have H3 := hide (h3.below hdw)
    have HLT := hide ((Array.getElem?_eq_some_iff.1 h3).1)
    generalize textE b a 64 = E at *
    generalize textN b a 64 = N at *
    generalize (textF b a 0).2 = BS at *
    generalize (textF b a 0).1 = V at *
    clear fz h3 h hdw hbf ha hr hB hN
    go_enter Try.func70, Try.ntmps70
    go_wp2_with fail
    go_region_held3 (fun w' => w'.cell? ⟨g, 0, none⟩ = some (.slice q0 l0 cc0) ∧ w'.cell? ⟨g, 1, none⟩ = some (.int .i64 a)) (first | assumption | go_keep)
      (first | (go_at_call 78; refine Calls.mono (unhide HRV) ?_; rintro x w1 ⟨t1, rfl, hown, b1⟩; obtain ⟨k0, k1, k2, fz⟩ := ((unhide H3).below b1).cells; have kk : w1.cell? ⟨g, 0, none⟩ = some (.slice q0 l0 cc0) ∧ w1.cell? ⟨g, 1, none⟩ = some (.int .i64 a) := ⟨k0, k1⟩; have g1 := fz 1; have g2 := fz 2; have HFN := hide (unhide HFIN w1 (((Below.refl w.heap.size w).drew).trans b1)); have hcv : ∀ u v : Value, (convert 30 9 t1).run Try.prog ((w1.setCell ⟨g, 1, none⟩ u).setCell ⟨g, 2, none⟩ v) = .ok (.string ⟨V.toArray⟩) ((w1.setCell ⟨g, 1, none⟩ u).setCell ⟨g, 2, none⟩ v) := (fun u v => conv_row ((row_of_owns hown).keep (F := fun k => k = g) (keep_set.trans keep_set (fun _ h => Or.inl h)) (fun bb off c e _ hg => (by have h9 := (hown.lt bb (by rw [e]; rfl)).1; have h8 := unhide HLT; have h7 : w.drew.heap.size = w.heap.size := rfl; omega)))); obtain ⟨tq, tc, tl1, rfl, rfl⟩ := (row_of_owns hown).shape; clear fz b1 hown))
    go_wp2
    go_ret
    exact ⟨rfl, unhide HFN⟩
  · have hn : textF b p e = ([], p, e) := by unfold textF; rw [if_pos he]
    rw [hn]
    have he' : (e == 0) = false := by simp [he]
    clear fz
    go_enter Try.func70, Try.ntmps70
    go_wp2
    go_ret
    exact ⟨rfl, unhide HH, Keep.refl _ _⟩

set_option maxRecDepth 20000 in
set_option maxHeartbeats 2000000 in
theorem bgone_any (g : Nat) (p e : Int) (s : Value) (b : List UInt8) (w : World) (h : Rd 78 w g s b p e) :
    Calls Try.prog 71 #[.pointer (some ⟨g, 0, none⟩)] w fun x w' => x = .returned (.bool (goneF b p e).1) ∧ Rd 78 w' g s b (goneF b p e).2.1 (goneF b p e).2.2 ∧ Keep (fun k => k = g) w w' := by
  have HN := hide (bone_any g p e s b w h)
  have hz := byte_zero b p e
  unfold goneF
  generalize byteF b p e = R at *
  obtain ⟨V, P, E⟩ := R
  simp only at HN hz ⊢
  clear h
  by_cases hV : V ≤ 1
  · rw [show (if E = 0 then (if V ≤ 1 then (0 : Int) else 11) else E) = E by by_cases he : E = 0 <;> simp [he, hV]]
    by_cases h1 : V = 1
    · subst h1
      have HN' := HN
      clear hz HN hV
      go_enter Try.func71, Try.ntmps71
      go_wp2_with fail
      refine Calls.mono (unhide HN') ?_
      rintro x w1 ⟨rfl, r1, k1⟩
      have HF := hide (And.intro r1 k1)
      clear r1 k1
      go_wp2
      go_ret
      exact ⟨rfl, unhide HF⟩
    · obtain rfl : V = 0 := by omega
      clear hz hV h1
      simp only [Int.natCast_zero] at HN ⊢
      go_enter Try.func71, Try.ntmps71
      go_wp2_with fail
      refine Calls.mono (unhide HN) ?_
      rintro x w1 ⟨rfl, r1, k1⟩
      have HF := hide (And.intro r1 k1)
      clear r1 k1
      go_wp2
      go_ret
      exact ⟨rfl, unhide HF⟩
  · have hE : E = 0 := by
      by_cases h : E = 0
      · exact h
      · have := hz h; omega
    subst hE
    rw [if_pos rfl, if_neg hV]
    have g0 : ¬ V = 0 := by omega
    have g1 : ¬ V = 1 := by omega
    have i0 : ((V : Int) != 0) = true := by simp; omega
    have i1 : ((V : Int) != 1) = true := by simp; omega
    have i2 : ((V : Int) == 1) = false := by simp; omega
    have HG1 := hide g1
    clear hz hV g0 g1
    go_enter Try.func71, Try.ntmps71
    go_wp2_with fail
    refine Calls.mono (unhide HN) ?_
    rintro x w1 ⟨rfl, r1, k1⟩
    have HR0 := brefuse_any g P 0 11 s b w1 r1 (by omega)
    rw [if_pos rfl] at HR0
    have HR := hide HR0
    have HK := hide k1
    clear HR0 r1 k1 HN
    go_wp2_with fail
    refine Calls.mono (unhide HR) ?_
    rintro x w2 ⟨rfl, r2, k2⟩
    have HF := hide (And.intro r2 ((unhide HK).trans k2 (fun _ h => Or.inl h)))
    clear r2 k2 HR HK
    go_wp2
    go_ret
    exact ⟨by simp [unhide HG1], unhide HF⟩
end Go.Proofs.Ytehnjanllemnlaa

/- Package batch's reader: a change. -/
namespace Go.Proofs.Ytehnjanllemnlaa
open Go.RowKit

/-- A call that reads: its result's block, its variable's block behind it, the reader's. -/
structure MV (w w' : World) (R : TypeId) (g : Nat) (s : Value) (b : List UInt8) (p e : Int) (cs : Array Value) (T : TypeId) (rs : Array Value) (T' : TypeId) : Prop where
  rd : Rd R w' g s b p e
  var : w'.heap[w.heap.size + 1]? = some (.cells cs T (0, 0))
  res : w'.heap[w.heap.size]? = some (.cells rs T' (0, 0))
  keep : Keep (fun k => k = g) w w'
  glt : g < w.heap.size
  src : ∀ bb off c, s = .slice (some ⟨bb, off, none⟩) b.length c → b ≠ [] → bb < w.heap.size

theorem Rd.src {R : TypeId} {w : World} {g : Nat} {s : Value} {b : List UInt8} {p e : Int} (h : Rd R w g s b p e) : ∀ bb off c, s = .slice (some ⟨bb, off, none⟩) b.length c → b ≠ [] → bb < w.heap.size := by
  intro bb off c hs hb
  obtain ⟨b', off', cap, e1, _, _, hc⟩ := h.row.open hb
  rw [hs] at e1
  simp only [Value.slice.injEq, Option.some.injEq, Addr.mk.injEq, and_true] at e1
  obtain ⟨⟨rfl, rfl⟩, _⟩ := e1
  exact World.block_lt_of_cell? w _ (hc 0 (List.length_pos_iff.2 hb))

theorem MV.start {R : TypeId} {w : World} {g : Nat} {s : Value} {b : List UInt8} {p e : Int} (h : Rd R w g s b p e) (cs : Array Value) (T : TypeId) (rs : Array Value) (T' : TypeId) :
    MV w ((w.alloc (.cells rs T')).alloc (.cells cs T)) R g s b p e cs T rs T' := by
  have hb : Below w.heap.size w ((w.alloc (.cells rs T')).alloc (.cells cs T)) := ((Below.refl _ _).alloc (Nat.le_refl _) _).alloc (by simp) _
  exact ⟨h.below hb, alloc_new' (by simp) _, (alloc_old (by simp) _).trans (alloc_new w _), Keep.of_below hb, h.lt, h.src⟩
theorem MV.call {R : TypeId} {w w' w'' : World} {g : Nat} {s : Value} {b : List UInt8} {p e p' e' : Int} {cs rs : Array Value} {T T' : TypeId} (h : MV w w' R g s b p e cs T rs T') (r : Rd R w'' g s b p' e') (k : Keep (fun k => k = g) w' w'') : MV w w'' R g s b p' e' cs T rs T' :=
  ⟨r, (k.block _ (Array.getElem?_eq_some_iff.1 h.var).1 (by have := h.glt; omega)).trans h.var, (k.block _ (Array.getElem?_eq_some_iff.1 h.res).1 (by have := h.glt; omega)).trans h.res, h.keep.trans k (fun _ h => Or.inl h), h.glt, h.src⟩
theorem MV.put {R : TypeId} {w w' : World} {g : Nat} {s : Value} {b : List UInt8} {p e : Int} {cs rs : Array Value} {T T' : TypeId} (h : MV w w' R g s b p e cs T rs T') (i : Nat) (v : Value) : MV w (w'.setCell ⟨w.heap.size + 1, i, none⟩ v) R g s b p e (cs.setIfInBounds i v) T rs T' := by
  have hk : Keep (fun k => k = w.heap.size + 1) w' (w'.setCell ⟨w.heap.size + 1, i, none⟩ v) := keep_set
  exact ⟨h.rd.keep hk (by have := h.glt; omega) (fun bb off c e hb => by have := h.src bb off c e hb; omega), heap_setCell_same _ _ _ _ _ _ h.var, (hk.block _ (Array.getElem?_eq_some_iff.1 h.res).1 (by omega)).trans h.res, h.keep.trans hk (fun x hx => Or.inr (by omega)), h.glt, h.src⟩
theorem MV.putR {R : TypeId} {w w' : World} {g : Nat} {s : Value} {b : List UInt8} {p e : Int} {cs rs : Array Value} {T T' : TypeId} (h : MV w w' R g s b p e cs T rs T') (i : Nat) (v : Value) : MV w (w'.setCell ⟨w.heap.size, i, none⟩ v) R g s b p e cs T (rs.setIfInBounds i v) T' := by
  have hk : Keep (fun k => k = w.heap.size) w' (w'.setCell ⟨w.heap.size, i, none⟩ v) := keep_set
  exact ⟨h.rd.keep hk (by have := h.glt; omega) (fun bb off c e hb => by have := h.src bb off c e hb; omega), (hk.block _ (Array.getElem?_eq_some_iff.1 h.var).1 (by omega)).trans h.var, heap_setCell_same _ _ _ _ _ _ h.res, h.keep.trans hk (fun x hx => Or.inr (by omega)), h.glt, h.src⟩
theorem five_cells {w : World} {g e : Nat} {a b c d x : Value} (h : w.heap[g]? = some (.cells #[a, b, c, d, x] e (0, 0))) :
    w.cell? ⟨g, 0, none⟩ = some a ∧ w.cell? ⟨g, 1, none⟩ = some b ∧ w.cell? ⟨g, 2, none⟩ = some c ∧ w.cell? ⟨g, 3, none⟩ = some d ∧ w.cell? ⟨g, 4, none⟩ = some x ∧ ∀ j, w.frozen? ⟨g, j, none⟩ = false := by
  refine ⟨?_, ?_, ?_, ?_, ?_, fun j => frozen_of_block h⟩
  all_goals (rw [cell_of_row w g _ _ e (0, 0) h]; rfl)

abbrev bigM : Nat := 4611686018427387904
/-- What a reader tells as a change; and where it stands then. -/
def chgF (b : List UInt8) (p e : Int) : Chg × Int × Int :=
  let t := textF b p e
  let k := goneF b t.2.1 t.2.2
  if k.1 then (⟨⟨t.1.toArray⟩, 0, 0, 0, true⟩, k.2)
  else
    let n := numF b k.2.1 k.2.2
    let a := mostF b bigM n.2.1 n.2.2
    let l := mostF b bigM a.2.1 a.2.2
    (⟨⟨t.1.toArray⟩, n.1, a.1, l.1, false⟩, l.2)

theorem bupto_big (g : Nat) (p e : Int) (s : Value) (b : List UInt8) (w : World) (h : Rd 78 w g s b p e) :
    Calls Try.prog 62 #[.pointer (some ⟨g, 0, none⟩), .int .u64 4611686018427387904] w fun x w' => x = .returned (.int .i64 ((mostF b bigM p e).1 : Int)) ∧ Rd 78 w' g s b (mostF b bigM p e).2.1 (mostF b bigM p e).2.2 ∧ Keep (fun k => k = g) w w' :=
  bupto_any g bigM p e s b w h (Nat.le_refl _)

set_option maxRecDepth 20000 in
set_option maxHeartbeats 4000000 in
theorem brchange_any (g : Nat) (p e : Int) (s : Value) (b : List UInt8) (w : World) (h : Rd 78 w g s b p e) :
    Calls Try.prog 63 #[.pointer (some ⟨g, 0, none⟩)] w fun x w' => x = .returned (chgV (chgF b p e).1) ∧ Rd 78 w' g s b (chgF b p e).2.1 (chgF b p e).2.2 ∧ Keep (fun k => k = g) w w' := by
  have M0 := MV.start h #[.string ⟨#[]⟩, .int .u64 0, .int .i64 0, .int .i64 0, .bool false] 54 #[.string ⟨#[]⟩, .int .u64 0, .int .i64 0, .int .i64 0, .bool false] 54
  have H0 := hide M0
  have HK := hide (bkey_any g p e s b _ M0.rd)
  have n1 : ¬ w.heap.size + 1 = w.heap.size := by omega
  generalize hR : chgF b p e = RS
  obtain ⟨C, P9, E9⟩ := RS
  have HR := hide hR
  generalize hT : textF b p e = TX at *
  obtain ⟨K, P1, E1⟩ := TX
  have HT := hide hT
  simp only at HK ⊢
  clear M0 h hR hT
  go_enter Try.func63, Try.ntmps63
  go_wp2_with fail
  refine Calls.mono (unhide HK) ?_
  rintro x w1 ⟨rfl, r1, k1⟩
  have M1 := (unhide H0).call r1 k1
  obtain ⟨c0, c1, c2, c3, c4, fz⟩ := five_cells M1.var
  have M1' := M1.put 0 (.string ⟨K.toArray⟩)
  have H1 := hide M1'
  have HG := hide (bgone_any g P1 E1 s b _ M1'.rd)
  have f0 := fz 0
  generalize hG : goneF b P1 E1 = GN at *
  obtain ⟨D, P2, E2⟩ := GN
  have HGN := hide hG
  simp only at HG
  clear H0 HK M1 M1' r1 k1 fz hG
  go_wp2_with fail
  refine Calls.mono (unhide HG) ?_
  rintro x w2 ⟨rfl, r2, k2⟩
  have M2 := (unhide H1).call r2 k2
  obtain ⟨d0, d1, d2, d3, d4, fz⟩ := five_cells M2.var
  have f4 := fz 4
  clear H1 HG r2 k2 fz c0 c1 c2 c3 c4 f0
  cases D with
  | true =>
    have M2' := M2.put 4 (.bool true)
    obtain ⟨e0, e1, e2, e3, e4, fz⟩ := five_cells (w := w2.setCell ⟨w.heap.size + 1, 4, none⟩ (.bool true)) (g := w.heap.size) M2'.res
    have g0 := fz 0
    have g1 := fz 1
    have g2 := fz 2
    have g3 := fz 3
    have g4 := fz 4
    have HF := hide (((((M2'.putR 0 (.string ⟨K.toArray⟩)).putR 1 (.int .u64 0)).putR 2 (.int .i64 0)).putR 3 (.int .i64 0)).putR 4 (.bool true))
    clear M2 M2' fz
    go_wp2
    have hx := unhide HR
    simp only [chgF, unhide HT, unhide HGN, if_true, Prod.mk.injEq] at hx
    obtain ⟨rfl, rfl, rfl⟩ := hx
    refine bodyPost_ret (v := .agg #[.string ⟨K.toArray⟩, .int .u64 0, .int .i64 0, .int .i64 0, .bool true]) (by simp [results, Try.results63, go_sem, *]) rfl ⟨rfl, (unhide HF).rd, (unhide HF).keep⟩
  | false =>
    have M2' := M2.put 4 (.bool false)
    have H2 := hide M2'
    have HN := hide (bnumber_any g P2 E2 s b _ M2'.rd)
    generalize hNN : numF b P2 E2 = NN at *
    obtain ⟨V3, P3, E3⟩ := NN
    have HNN := hide hNN
    simp only at HN
    clear M2 M2' hNN
    go_wp2_with fail
    refine Calls.mono (unhide HN) ?_
    rintro x w3 ⟨rfl, r3, k3⟩
    have M3 := (unhide H2).call r3 k3
    obtain ⟨c0, c1, c2, c3, c4, fz⟩ := five_cells M3.var
    have f1 := fz 1
    have M3' := M3.put 1 (.int .u64 (V3 : Int))
    have H3 := hide M3'
    have HA := hide (bupto_big g P3 E3 s b _ M3'.rd)
    generalize hAA : mostF b bigM P3 E3 = AA at *
    obtain ⟨V4, P4, E4⟩ := AA
    have HAA := hide hAA
    simp only at HA
    clear M3 M3' hAA r3 k3 fz H2 HN d0 d1 d2 d3 d4 f4
    go_wp2_with fail
    refine Calls.mono (unhide HA) ?_
    rintro x w4 ⟨rfl, r4, k4⟩
    have M4 := (unhide H3).call r4 k4
    obtain ⟨d0, d1, d2, d3, d4, fz⟩ := five_cells M4.var
    have f2 := fz 2
    have M4' := M4.put 2 (.int .i64 (V4 : Int))
    have H4 := hide M4'
    have HL := hide (bupto_big g P4 E4 s b _ M4'.rd)
    generalize hLL : mostF b bigM P4 E4 = LL at *
    obtain ⟨V5, P5, E5⟩ := LL
    have HLL := hide hLL
    simp only at HL
    clear M4 M4' hLL r4 k4 fz H3 HA c0 c1 c2 c3 c4 f1
    go_wp2_with fail
    refine Calls.mono (unhide HL) ?_
    rintro x w5 ⟨rfl, r5, k5⟩
    have M5 := (unhide H4).call r5 k5
    obtain ⟨c0, c1, c2, c3, c4, fz⟩ := five_cells M5.var
    have f3 := fz 3
    have M5' := M5.put 3 (.int .i64 (V5 : Int))
    obtain ⟨e0, e1, e2, e3, e4, fz'⟩ := five_cells (w := w5.setCell ⟨w.heap.size + 1, 3, none⟩ (.int .i64 (V5 : Int))) (g := w.heap.size) M5'.res
    have g0 := fz' 0
    have g1 := fz' 1
    have g2 := fz' 2
    have g3 := fz' 3
    have g4 := fz' 4
    have HF := hide (((((M5'.putR 0 (.string ⟨K.toArray⟩)).putR 1 (.int .u64 (V3 : Int))).putR 2 (.int .i64 (V4 : Int))).putR 3 (.int .i64 (V5 : Int))).putR 4 (.bool false))
    clear M5 M5' fz fz' r5 k5 H4 HL d0 d1 d2 d3 d4 f2
    go_wp2
    have hx := unhide HR
    simp only [chgF, unhide HT, unhide HGN, unhide HNN, unhide HAA, unhide HLL, Bool.false_eq_true, if_false, Prod.mk.injEq] at hx
    obtain ⟨rfl, rfl, rfl⟩ := hx
    refine bodyPost_ret (v := .agg #[.string ⟨K.toArray⟩, .int .u64 (V3 : Int), .int .i64 (V4 : Int), .int .i64 (V5 : Int), .bool false]) (by simp [results, Try.results63, go_sem, *]) rfl ⟨rfl, (unhide HF).rd, (unhide HF).keep⟩
end Go.Proofs.Ytehnjanllemnlaa

/- Package batch's reader: what stands behind the kind of a move and of a batch. -/
namespace Go.Proofs.Ytehnjanllemnlaa
open Go.RowKit

def movF (b : List UInt8) (p e : Int) : (Nat × Nat × Nat × Nat) × Int × Int :=
  let s := numF b p e
  let f := mostF b bigM s.2.1 s.2.2
  let t := mostF b bigM f.2.1 f.2.2
  let n := mostF b bigM t.2.1 t.2.2
  ((s.1, f.1, t.1, n.1), n.2)
theorem four_cells {w : World} {g e : Nat} {a b c d : Value} (h : w.heap[g]? = some (.cells #[a, b, c, d] e (0, 0))) :
    w.cell? ⟨g, 0, none⟩ = some a ∧ w.cell? ⟨g, 1, none⟩ = some b ∧ w.cell? ⟨g, 2, none⟩ = some c ∧ w.cell? ⟨g, 3, none⟩ = some d ∧ ∀ j, w.frozen? ⟨g, j, none⟩ = false := by
  refine ⟨?_, ?_, ?_, ?_, fun j => frozen_of_block h⟩
  all_goals (rw [cell_of_row w g _ _ e (0, 0) h]; rfl)

set_option maxRecDepth 20000 in
set_option maxHeartbeats 4000000 in
theorem brmove_any (g : Nat) (p e : Int) (s : Value) (b : List UInt8) (w : World) (h : Rd 78 w g s b p e) :
    Calls Try.prog 51 #[.pointer (some ⟨g, 0, none⟩)] w fun x w' => x = .returned (.agg #[.int .i64 0, .int .u64 0, .slice none 0 0, .int .u64 ((movF b p e).1.1 : Int), .int .i64 ((movF b p e).1.2.1 : Int), .int .i64 ((movF b p e).1.2.2.1 : Int), .int .i64 ((movF b p e).1.2.2.2 : Int)]) ∧ Rd 78 w' g s b (movF b p e).2.1 (movF b p e).2.2 ∧ Keep (fun k => k = g) w w' := by
  have M0 := MV.start h #[.int .u64 0, .int .i64 0, .int .i64 0, .int .i64 0] 37 #[.int .i64 0, .int .u64 0, .slice none 0 0, .int .u64 0, .int .i64 0, .int .i64 0, .int .i64 0] 74
  have H2 := hide M0
  have HN := hide (bnumber_any g p e s b _ M0.rd)
  have n1 : ¬ w.heap.size + 1 = w.heap.size := by omega
  generalize hR : movF b p e = RS
  obtain ⟨⟨S9, F9, T9, N9⟩, P9, E9⟩ := RS
  have HR := hide hR
  generalize hNN : numF b p e = NN at *
  obtain ⟨V3, P3, E3⟩ := NN
  have HNN := hide hNN
  simp only at HN ⊢
  clear M0 h hR hNN
  go_enter Try.func51, Try.ntmps51
  go_wp2_with fail
  refine Calls.mono (unhide HN) ?_
  rintro x w3 ⟨rfl, r3, k3⟩
  have M3 := (unhide H2).call r3 k3
  obtain ⟨c0, c1, c2, c3, fz⟩ := four_cells M3.var
  have f0 := fz 0
  have M3' := M3.put 0 (.int .u64 (V3 : Int))
  have H3 := hide M3'
  have HA := hide (bupto_big g P3 E3 s b _ M3'.rd)
  generalize hAA : mostF b bigM P3 E3 = AA at *
  obtain ⟨V4, P4, E4⟩ := AA
  have HAA := hide hAA
  simp only at HA
  clear M3 M3' hAA r3 k3 fz H2 HN
  go_wp2_with fail
  refine Calls.mono (unhide HA) ?_
  rintro x w4 ⟨rfl, r4, k4⟩
  have M4 := (unhide H3).call r4 k4
  obtain ⟨d0, d1, d2, d3, fz⟩ := four_cells M4.var
  have f1 := fz 1
  have M4' := M4.put 1 (.int .i64 (V4 : Int))
  have H4 := hide M4'
  have HL := hide (bupto_big g P4 E4 s b _ M4'.rd)
  generalize hLL : mostF b bigM P4 E4 = LL at *
  obtain ⟨V5, P5, E5⟩ := LL
  have HLL := hide hLL
  simp only at HL
  clear M4 M4' hLL r4 k4 fz H3 HA c0 c1 c2 c3 f0
  go_wp2_with fail
  refine Calls.mono (unhide HL) ?_
  rintro x w5 ⟨rfl, r5, k5⟩
  have M5 := (unhide H4).call r5 k5
  obtain ⟨c0, c1, c2, c3, fz⟩ := four_cells M5.var
  have f2 := fz 2
  have M5' := M5.put 2 (.int .i64 (V5 : Int))
  have H5 := hide M5'
  have HM := hide (bupto_big g P5 E5 s b _ M5'.rd)
  generalize hMM : mostF b bigM P5 E5 = MM at *
  obtain ⟨V6, P6, E6⟩ := MM
  have HMM := hide hMM
  simp only at HM
  clear M5 M5' hMM r5 k5 fz H4 HL d0 d1 d2 d3 f1
  go_wp2_with fail
  refine Calls.mono (unhide HM) ?_
  rintro x w6 ⟨rfl, r6, k6⟩
  have M6 := (unhide H5).call r6 k6
  obtain ⟨d0, d1, d2, d3, fz⟩ := four_cells M6.var
  have f3 := fz 3
  have M6' := M6.put 3 (.int .i64 (V6 : Int))
  obtain ⟨e0, e1, e2, e3, e4, e5, e6⟩ := seven_cells (w := w6.setCell ⟨w.heap.size + 1, 3, none⟩ (.int .i64 (V6 : Int))) (g := w.heap.size) M6'.res
  have fz' : ∀ j, (w6.setCell ⟨w.heap.size + 1, 3, none⟩ (.int .i64 (V6 : Int))).frozen? ⟨w.heap.size, j, none⟩ = false := fun j => frozen_of_block M6'.res
  have g0 := fz' 0
  have g1 := fz' 1
  have g2 := fz' 2
  have g3 := fz' 3
  have g4 := fz' 4
  have g5 := fz' 5
  have g6 := fz' 6
  have HF := hide (((((((M6'.putR 0 (.int .i64 0)).putR 1 (.int .u64 0)).putR 2 (.slice none 0 0)).putR 3 (.int .u64 (V3 : Int))).putR 4 (.int .i64 (V4 : Int))).putR 5 (.int .i64 (V5 : Int))).putR 6 (.int .i64 (V6 : Int)))
  clear M6 M6' fz fz' r6 k6 H5 HM c0 c1 c2 c3 f2
  go_wp2
  have hx := unhide HR
  simp only [movF, unhide HNN, unhide HAA, unhide HLL, unhide HMM, Prod.mk.injEq] at hx
  obtain ⟨⟨rfl, rfl, rfl, rfl⟩, rfl, rfl⟩ := hx
  refine bodyPost_ret (v := .agg #[.int .i64 0, .int .u64 0, .slice none 0 0, .int .u64 (V3 : Int), .int .i64 (V4 : Int), .int .i64 (V5 : Int), .int .i64 (V6 : Int)]) (by simp [results, Try.results51, go_sem, *]) rfl ⟨rfl, (unhide HF).rd, (unhide HF).keep⟩

/-- Changes one behind the other. -/
def chgsF (b : List UInt8) : Nat → Int → Int → List Chg × Int × Int
  | 0, p, e => ([], p, e)
  | n + 1, p, e => ((chgsF b n p e).1 ++ [(chgF b (chgsF b n p e).2.1 (chgsF b n p e).2.2).1], (chgF b (chgsF b n p e).2.1 (chgsF b n p e).2.2).2)
theorem chgs_len (b : List UInt8) (n : Nat) (p e : Int) : (chgsF b n p e).1.length = n := by
  induction n with
  | zero => rfl
  | succ n ih => rw [chgsF, List.length_append, ih]; rfl
def batF (b : List UInt8) (p e : Int) : (Nat × List Chg) × Int × Int :=
  let s := numF b p e
  let n := mostF b 32 s.2.1 s.2.2
  let r := chgsF b n.1 n.2.1 n.2.2
  ((s.1, r.1), r.2)

theorem made5 (n : Nat) : (madeCells #[.string ⟨#[]⟩, .int .u64 0, .int .i64 0, .int .i64 0, .bool false] (n * 5)).toList = (List.replicate n zeroChg).flatMap chgC := by
  have hz : ∀ i, i < 5 → (#[.string ⟨#[]⟩, .int .u64 0, .int .i64 0, .int .i64 0, .bool false] : Array Value)[i]! = ((chgC zeroChg)[i]?).getD default := by
    intro i hi
    match i, hi with
    | 0, _ => rfl
    | 1, _ => rfl
    | 2, _ => rfl
    | 3, _ => rfl
    | 4, _ => rfl
  apply List.ext_getElem?
  intro j
  by_cases hj : j < n * 5
  · have h1 : j / 5 < (List.replicate n zeroChg).length := by rw [List.length_replicate]; omega
    have h2 := flat_get chgC_len (List.replicate n zeroChg) (j / 5) h1 (j % 5) (by omega)
    rw [show j / 5 * 5 + j % 5 = j by omega, List.getElem_replicate] at h2
    rw [h2]
    unfold madeCells
    rw [Array.getElem?_toList, Array.getElem?_map, Array.getElem?_range]
    simp only [hj, if_true, Option.map_some]
    have h3 : (#[.string ⟨#[]⟩, .int .u64 0, .int .i64 0, .int .i64 0, .bool false] : Array Value).size = 5 := rfl
    rw [h3, hz (j % 5) (by omega)]
    have h4 : j % 5 < (chgC zeroChg).length := by rw [chgC_len]; omega
    rw [List.getElem?_eq_getElem h4]
    rfl
  · rw [List.getElem?_eq_none (by rw [Array.length_toList, size_madeCells]; omega), List.getElem?_eq_none (by rw [flat_len chgC_len, List.length_replicate]; omega)]
end Go.Proofs.Ytehnjanllemnlaa

/- Package batch's reader: what stands behind the kind of a batch. -/
namespace Go.Proofs.Ytehnjanllemnlaa
open Go.RowKit

theorem cells5_set (l : List Chg) (i : Nat) (x : Chg) (h : i < l.length) :
    (((((l.flatMap chgC).set (i * 5) (.string x.key)).set (i * 5 + 1) (.int .u64 (x.ser : Int))).set (i * 5 + 2) (.int .i64 x.pos)).set (i * 5 + 3) (.int .i64 x.len)).set (i * 5 + 4) (.bool x.del) = (l.set i x).flatMap chgC := by
  induction l generalizing i with
  | nil => simp at h
  | cons p l ih =>
    cases i with
    | zero => simp [chgC]
    | succ i =>
      rw [List.set_cons_succ, List.flatMap_cons, List.flatMap_cons, ← ih i (by simpa using h)]
      have e1 : (i + 1) * 5 = (chgC p).length + i * 5 := by rw [chgC_len]; omega
      rw [e1, Nat.add_assoc, Nat.add_assoc, Nat.add_assoc, Nat.add_assoc]
      simp only [List.set_append_right _ _ (Nat.le_add_right _ _), Nat.add_sub_cancel_left]

theorem arr_cells {w : World} {c : Nat} {l : List Chg} {T : TypeId} (h : w.heap[c]? = some (.cells (l.flatMap chgC).toArray T (0, 0))) (k : Nat) (hk : k < l.length) :
    w.cell? ⟨c, k * 5, none⟩ = some (.string l[k].key) ∧ w.cell? ⟨c, k * 5 + 1, none⟩ = some (.int .u64 (l[k].ser : Int)) ∧ w.cell? ⟨c, k * 5 + 2, none⟩ = some (.int .i64 l[k].pos) ∧ w.cell? ⟨c, k * 5 + 3, none⟩ = some (.int .i64 l[k].len) ∧ w.cell? ⟨c, k * 5 + 4, none⟩ = some (.bool l[k].del) := by
  have g := fun i hi => flat_get chgC_len l k hk i hi
  refine ⟨?_, ?_, ?_, ?_, ?_⟩
  · rw [cell_of_row w c _ _ _ (0, 0) h, List.getElem?_toArray]; exact g 0 (by omega)
  · rw [cell_of_row w c _ _ _ (0, 0) h, List.getElem?_toArray]; exact g 1 (by omega)
  · rw [cell_of_row w c _ _ _ (0, 0) h, List.getElem?_toArray]; exact g 2 (by omega)
  · rw [cell_of_row w c _ _ _ (0, 0) h, List.getElem?_toArray]; exact g 3 (by omega)
  · rw [cell_of_row w c _ _ _ (0, 0) h, List.getElem?_toArray]; exact g 4 (by omega)
/-- The reading of a batch under way: the result's block, the variable's, the changes'. -/
structure BT (w w' : World) (g h c : Nat) (s : Value) (b : List UInt8) (p e : Int) (seq : Nat) (l : List Chg) : Prop where
  rd : Rd 78 w' g s b p e
  var : w'.heap[h]? = some (.cells #[.int .i64 0, .int .u64 (seq : Int), .slice (some ⟨c, 0, none⟩) l.length l.length, .int .u64 0, .int .i64 0, .int .i64 0, .int .i64 0] 74 (0, 0))
  res : w'.heap[w.heap.size]? = some (.cells #[.int .i64 0, .int .u64 0, .slice none 0 0, .int .u64 0, .int .i64 0, .int .i64 0, .int .i64 0] 74 (0, 0))
  arr : w'.heap[c]? = some (.cells (l.flatMap chgC).toArray 54 (0, 0))
  keep : Keep (fun k => k = g) w w'
  glt : g < w.heap.size
  src : ∀ bb off c, s = .slice (some ⟨bb, off, none⟩) b.length c → b ≠ [] → bb < w.heap.size
  hge : w.heap.size < h
  cge : w.heap.size < c
  hc : h ≠ c
theorem BT.call {w w' w'' : World} {g h c : Nat} {s : Value} {b : List UInt8} {p e p' e' : Int} {seq : Nat} {l : List Chg} (H : BT w w' g h c s b p e seq l) (r : Rd 78 w'' g s b p' e') (k : Keep (fun k => k = g) w' w'') : BT w w'' g h c s b p' e' seq l := by
  have h1 := H.glt
  have h2 := H.hge
  have h3 := H.cge
  exact ⟨r, (k.block _ (Array.getElem?_eq_some_iff.1 H.var).1 (by omega)).trans H.var, (k.block _ (Array.getElem?_eq_some_iff.1 H.res).1 (by omega)).trans H.res, (k.block _ (Array.getElem?_eq_some_iff.1 H.arr).1 (by omega)).trans H.arr, H.keep.trans k (fun _ h => Or.inl h), h1, H.src, h2, h3, H.hc⟩
theorem BT.put {w w' : World} {g h c : Nat} {s : Value} {b : List UInt8} {p e : Int} {seq : Nat} {l : List Chg} (H : BT w w' g h c s b p e seq l) (i : Nat) (x : Chg) (hi : i < l.length) :
    BT w (((((w'.setCell ⟨c, i * 5, none⟩ (.string x.key)).setCell ⟨c, i * 5 + 1, none⟩ (.int .u64 (x.ser : Int))).setCell ⟨c, i * 5 + 2, none⟩ (.int .i64 x.pos)).setCell ⟨c, i * 5 + 3, none⟩ (.int .i64 x.len)).setCell ⟨c, i * 5 + 4, none⟩ (.bool x.del)) g h c s b p e seq (l.set i x) := by
  have h1 := H.glt
  have h2 := H.hge
  have h3 := H.cge
  have h4 := H.hc
  have hk : Keep (fun k => k = c) w' (((((w'.setCell ⟨c, i * 5, none⟩ (.string x.key)).setCell ⟨c, i * 5 + 1, none⟩ (.int .u64 (x.ser : Int))).setCell ⟨c, i * 5 + 2, none⟩ (.int .i64 x.pos)).setCell ⟨c, i * 5 + 3, none⟩ (.int .i64 x.len)).setCell ⟨c, i * 5 + 4, none⟩ (.bool x.del)) :=
    (((keep_set.trans keep_set (fun _ h => Or.inl h)).trans keep_set (fun _ h => Or.inl h)).trans keep_set (fun _ h => Or.inl h)).trans keep_set (fun _ h => Or.inl h)
  have e1 := heap_setCell_same w' c (i * 5) _ _ (.string x.key) H.arr
  have e2 := heap_setCell_same _ c (i * 5 + 1) _ _ (.int .u64 (x.ser : Int)) e1
  have e3 := heap_setCell_same _ c (i * 5 + 2) _ _ (.int .i64 x.pos) e2
  have e4 := heap_setCell_same _ c (i * 5 + 3) _ _ (.int .i64 x.len) e3
  have e5 := heap_setCell_same _ c (i * 5 + 4) _ _ (.bool x.del) e4
  refine ⟨H.rd.keep hk (by omega) (fun bb off cc e hb => by have := H.src bb off cc e hb; omega), ?_, (hk.block _ (Array.getElem?_eq_some_iff.1 H.res).1 (by omega)).trans H.res, ?_, H.keep.trans hk (fun x hx => Or.inr (by omega)), h1, H.src, h2, h3, h4⟩
  · rw [List.length_set]
    exact (hk.block _ (Array.getElem?_eq_some_iff.1 H.var).1 (by omega)).trans H.var
  · rw [e5, ← cells5_set l i x hi]
    simp only [List.setIfInBounds_toArray]
/-- .. at its end: the result is written. -/
theorem BT.fin {w w' : World} {g h c : Nat} {s : Value} {b : List UInt8} {p e : Int} {seq : Nat} {l : List Chg} (H : BT w w' g h c s b p e seq l) {w'' : World} (hk : Keep (fun k => k = w.heap.size) w' w'') (hl : l.length ≤ 1000) :
    Rd 78 w'' g s b p e ∧ Keep (fun k => k = g) w w'' ∧ CL w'' (.slice (some ⟨c, 0, none⟩) l.length l.length) l := by
  have h1 := H.glt
  have h3 := H.cge
  refine ⟨H.rd.keep hk (by omega) (fun bb off cc e hb => by have := H.src bb off cc e hb; omega), H.keep.trans hk (fun x hx => Or.inr (by omega)), ?_⟩
  have ha := (hk.block _ (Array.getElem?_eq_some_iff.1 H.arr).1 (by omega)).trans H.arr
  refine ⟨_, _, rfl, Nat.le_refl _, by unfold maxLen; omega, by simp, flat_len chgC_len l, Or.inr ⟨c, 0, rfl, fun j u hu => ?_⟩⟩
  rw [Nat.zero_add, cell_of_row _ c j _ _ (0, 0) ha, List.getElem?_toArray]
  exact hu

theorem set_pad {l : List Chg} {k n : Nat} (h : l.length = k) (hk : k < n) (C : Chg) : (l ++ List.replicate (n - k) zeroChg).set k C = (l ++ [C]) ++ List.replicate (n - (k + 1)) zeroChg := by
  rw [List.set_append_right _ _ (by omega), h, Nat.sub_self, show n - k = (n - (k + 1)) + 1 by omega, List.replicate_succ, List.set_cons_zero, List.append_assoc]
  rfl

end Go.Proofs.Ytehnjanllemnlaa

/- Package batch's reader: what stands behind the kind of a batch. -/
namespace Go.Proofs.Ytehnjanllemnlaa
open Go.RowKit

set_option maxRecDepth 20000 in
set_option maxHeartbeats 4000000 in
theorem brbatch_any (g : Nat) (p e : Int) (s : Value) (b : List UInt8) (w : World) (h : Rd 78 w g s b p e) :
    Calls Try.prog 48 #[.pointer (some ⟨g, 0, none⟩)] w fun x w' => ∃ c : Nat, x = .returned (.agg #[.int .i64 0, .int .u64 ((batF b p e).1.1 : Int), .slice (some ⟨c, 0, none⟩) (batF b p e).1.2.length (batF b p e).1.2.length, .int .u64 0, .int .i64 0, .int .i64 0, .int .i64 0]) ∧ w.heap.size < c ∧ CL w' (.slice (some ⟨c, 0, none⟩) (batF b p e).1.2.length (batF b p e).1.2.length) (batF b p e).1.2 ∧ Rd 78 w' g s b (batF b p e).2.1 (batF b p e).2.2 ∧ Keep (fun k => k = g) w w' := by
  obtain ⟨i0, hi, hz0, hz1, hz2⟩ := info_parts Try.info54
  obtain ⟨o, ho⟩ : ∃ o, o = Obj.cells #[.int .i64 0, .int .u64 0, .slice none 0 0, .int .u64 0, .int .i64 0, .int .i64 0, .int .i64 0] 74 := ⟨_, rfl⟩
  have hb0 : Below w.heap.size w (w.alloc o) := (Below.refl _ _).alloc (Nat.le_refl _) _
  have HN := hide (bnumber_any g p e s b _ (h.below hb0))
  have HSRC := hide h.src
  have HGL := hide h.lt
  have HB0 := hide hb0
  have HR0 := hide (alloc_new w o)
  have hso : (w.alloc o).heap.size = w.heap.size + 1 := by simp
  have HSO := hide hso
  rw [ho] at HN HB0 HR0 HSO
  generalize hR : batF b p e = RS
  obtain ⟨⟨S9, L9⟩, P9, E9⟩ := RS
  have HR := hide hR
  generalize hNN : numF b p e = NN at *
  obtain ⟨V1, P1, E1⟩ := NN
  have HNN := hide hNN
  simp only at HN ⊢
  clear h hR hNN hb0 hso
  go_enter Try.func48, Try.ntmps48
  go_wp2_with fail
  refine Calls.mono (unhide HN) ?_
  rintro x w1 ⟨rfl, r1, k1⟩
  have hs1 := k1.size
  rw [unhide HSO] at hs1
  have hres1 := (k1.block w.heap.size (by rw [unhide HSO]; omega) (by have := unhide HGL; omega)).trans (unhide HR0)
  have hk1 : Keep (fun k => k = g) w w1 := (Keep.of_below (unhide HB0)).trans k1 (fun _ h => Or.inl h)
  obtain ⟨o2, ho2⟩ : ∃ o2, o2 = Obj.cells #[.int .i64 0, .int .u64 (V1 : Int), .slice none 0 0, .int .u64 0, .int .i64 0, .int .i64 0, .int .i64 0] 74 := ⟨_, rfl⟩
  have hb1 : Below w1.heap.size w1 (w1.alloc o2) := (Below.refl _ _).alloc (Nat.le_refl _) _
  have HU := hide (bupto_any g 32 P1 E1 s b _ (r1.below hb1) (by omega))
  have HV2 := hide (alloc_new w1 o2)
  have HRS := hide ((hb1.block w.heap.size (by omega)).trans hres1)
  have HKP := hide (hk1.trans (Keep.of_below (F := fun _ => False) hb1) (fun _ h => h.elim))
  have hso2 : (w1.alloc o2).heap.size = w1.heap.size + 1 := by simp
  have HSO2 := hide hso2
  have hml := most_small b 32 P1 E1
  rw [show ((32 : Nat) : Int) = 32 from rfl] at HU
  generalize hMM : mostF b 32 P1 E1 = MM at *
  obtain ⟨n, P2, E2⟩ := MM
  have HMM := hide hMM
  simp only at HU hml
  rw [ho2] at HU HV2 HRS HKP HSO2
  have hnI : (n : Int) ≤ 32 := by omega
  clear r1 k1 hb1 hMM hso2 hres1 hk1 ho2 HN HB0 HR0 HSO
  go_wp2_with fail
  refine Calls.mono (unhide HU) ?_
  rintro x w2 ⟨rfl, r2, k2⟩
  have hs2 := k2.size
  rw [unhide HSO2] at hs2
  have hgl := unhide HGL
  have hv2 := (k2.block w1.heap.size (by rw [unhide HSO2]; omega) (by omega)).trans (unhide HV2)
  have hr2 := (k2.block w.heap.size (by rw [unhide HSO2]; omega) (by omega)).trans (unhide HRS)
  have hk2 := (unhide HKP).trans k2 (fun _ h => Or.inl h)
  have f2 : w2.frozen? ⟨w1.heap.size, 2, none⟩ = false := frozen_of_block hv2
  have HV3 := hide hv2
  have HR3 := hide hr2
  have HK3 := hide hk2
  have HRD := hide r2
  have m2 : w2.cell? ⟨w1.heap.size, 2, none⟩ = some (.slice none 0 0) := (seven_cells hv2).2.2.1
  clear r2 k2 hv2 hr2 hk2 HU HV2 HRS HKP HSO2
  go_wp2_with (at_make; refine wpList_make_full _ rfl _ _ 35 rfl w2.heap.size 54 i0 (.agg #[.string ⟨#[]⟩, .int .u64 0, .int .i64 0, .int .i64 0, .bool false]) 5 Try.underlying35 hi hz0 hz1 .i64 .i64 (n : Int) (n : Int) n rfl rfl rfl rfl (by rw [hz2]; omega) (by unfold maxLen; omega) (Nat.le_refl _) ?_)
  intro w3 hown3 hgrow3
  have hb3 : Below w2.heap.size w2 w3 := (Below.refl _ _).grown hgrow3 (Nat.le_refl _) (fun k hk => by cases hk)
  have harr : w3.heap[w2.heap.size]? = some (.cells ((List.replicate n zeroChg).flatMap chgC).toArray 54 (0, 0)) := by
    rcases hown3.2 with ⟨h', _⟩ | ⟨g', cap', cur, h', _, hh, _, _, hcs, htake⟩
    · simp at h'
    · simp only [Value.slice.injEq, Option.some.injEq, Addr.mk.injEq, and_true, true_and] at h'
      obtain ⟨rfl, rfl⟩ := h'
      rw [hh]
      have e1 : cur.toList = (List.replicate n zeroChg).flatMap chgC := by
        rw [← made5 n, ← htake, List.take_of_length_le (by rw [Array.length_toList]; omega)]
      rw [← e1]
  have m3 := (hb3.cell (World.block_lt_of_cell? _ _ m2)).trans m2
  have hv3 := (hb3.block w1.heap.size (by omega)).trans (unhide HV3)
  have f3 : w3.frozen? ⟨w1.heap.size, 2, none⟩ = false := frozen_of_block hv3
  have hb4 : Keep (fun k => k = w1.heap.size) w3 (w3.setCell ⟨w1.heap.size, 2, none⟩ (.slice (some ⟨w2.heap.size, 0, none⟩) n n)) := keep_set
  have B0 : BT w (w3.setCell ⟨w1.heap.size, 2, none⟩ (.slice (some ⟨w2.heap.size, 0, none⟩) n n)) g w1.heap.size w2.heap.size s b P2 E2 V1 (List.replicate n zeroChg) := by
    refine ⟨((unhide HRD).below hb3).keep hb4 (by omega) (fun bb off cc e hb => by have := unhide HSRC bb off cc e hb; omega), ?_, (hb4.block _ (by have := hb3.size; omega) (by omega)).trans ((hb3.block w.heap.size (by omega)).trans (unhide HR3)), (hb4.block _ (Array.getElem?_eq_some_iff.1 harr).1 (by omega)).trans harr, ((unhide HK3).trans (Keep.of_below (F := fun _ => False) hb3) (fun _ h => h.elim)).trans hb4 (fun x hx => Or.inr (by omega)), hgl, unhide HSRC, by omega, by omega, by omega⟩
    rw [heap_setCell_same _ _ _ _ _ _ hv3, List.length_replicate]
    rfl
  have HB := hide B0
  have q2 := (seven_cells B0.var).2.2.1
  rw [List.length_replicate] at q2
  have n12 : ¬ w1.heap.size = w2.heap.size := by omega
  generalize w1.heap.size = h at *
  generalize w2.heap.size = c at *
  clear hown3 hgrow3 hb3 harr hv3 hb4 B0 HV3 HR3 HK3 HRD m2 f2 hs1 hs2 HSRC HGL hgl
  go_wp2_with fail
  clear q2
  go_loopw [15] (fun i wr => ∃ k : Nat, k ≤ n ∧ i = .int .i64 k ∧ Hid (BT w wr g h c s b (chgsF b k P2 E2).2.1 (chgsF b k P2 E2).2.2 V1 ((chgsF b k P2 E2).1 ++ List.replicate (n - k) zeroChg))) (fun i _ => n - (intOf i).toNat)
  case atStart => exact ⟨0, Nat.zero_le _, rfl, by unfold Hid; simpa [chgsF] using unhide HB⟩
  case round =>
    obtain ⟨k, hk, rfl, hbt⟩ := hrel
    have B1 := unhide hbt
    have hcl := chgs_len b k P2 E2
    have hll : ((chgsF b k P2 E2).1 ++ List.replicate (n - k) zeroChg).length = n := by rw [List.length_append, hcl, List.length_replicate]; omega
    by_cases hlt : k < n
    · have hst : chgsF b (k + 1) P2 E2 = ((chgsF b k P2 E2).1 ++ [(chgF b (chgsF b k P2 E2).2.1 (chgsF b k P2 E2).2.2).1], (chgF b (chgsF b k P2 E2).2.1 (chgsF b k P2 E2).2.2).2) := rfl
      have HST := hide hst
      have HSP := hide (fun C => set_pad hcl hlt C)
      generalize chgsF b k P2 E2 = RK at *
      obtain ⟨LK, PK, EK⟩ := RK
      simp only at B1 HST HSP hll hcl
      have hdw : Below wr.heap.size wr wr.drew := (Below.refl _ _).drew
      have HCH := hide (brchange_any g PK EK s b wr.drew (B1.rd.below hdw))
      have hkI : (k : Int) < n := by omega
      have q2 := (seven_cells B1.var).2.2.1
      rw [hll] at q2
      have HB1 := hide (B1.call (B1.rd.below hdw) (Keep.of_below hdw))
      have HLL := hide hll
      generalize hCF : chgF b PK EK = CF at *
      obtain ⟨C, P5, E5⟩ := CF
      simp only at HCH HST
      unfold chgV at HCH
      have HCH2 : Hid (Calls Try.prog 63 #[.pointer (some ⟨g, 0, none⟩)] wr.drew fun x w5 => x = .returned (.agg #[.string C.key, .int .u64 (C.ser : Int), .int .i64 C.pos, .int .i64 C.len, .bool C.del]) ∧ w5.cell? ⟨h, 2, none⟩ = some (.slice (some ⟨c, 0, none⟩) n n) ∧ (∃ u0 u1 u2 u3 u4, w5.cell? ⟨c, k * 5, none⟩ = some u0 ∧ w5.cell? ⟨c, k * 5 + 1, none⟩ = some u1 ∧ w5.cell? ⟨c, k * 5 + 2, none⟩ = some u2 ∧ w5.cell? ⟨c, k * 5 + 3, none⟩ = some u3 ∧ w5.cell? ⟨c, k * 5 + 4, none⟩ = some u4) ∧
          (w5.frozen? ⟨c, k * 5, none⟩ = false ∧ w5.frozen? ⟨c, k * 5 + 1, none⟩ = false ∧ w5.frozen? ⟨c, k * 5 + 2, none⟩ = false ∧ w5.frozen? ⟨c, k * 5 + 3, none⟩ = false ∧ w5.frozen? ⟨c, k * 5 + 4, none⟩ = false) ∧ (((((w5.setCell ⟨c, k * 5, none⟩ (.string C.key)).setCell ⟨c, k * 5 + 1, none⟩ (.int .u64 (C.ser : Int))).setCell ⟨c, k * 5 + 2, none⟩ (.int .i64 C.pos)).setCell ⟨c, k * 5 + 3, none⟩ (.int .i64 C.len)).setCell ⟨c, k * 5 + 4, none⟩ (.bool C.del)).cell? ⟨h, 2, none⟩ = some (.slice (some ⟨c, 0, none⟩) n n) ∧
          Hid (BT w (((((w5.setCell ⟨c, k * 5, none⟩ (.string C.key)).setCell ⟨c, k * 5 + 1, none⟩ (.int .u64 (C.ser : Int))).setCell ⟨c, k * 5 + 2, none⟩ (.int .i64 C.pos)).setCell ⟨c, k * 5 + 3, none⟩ (.int .i64 C.len)).setCell ⟨c, k * 5 + 4, none⟩ (.bool C.del)) g h c s b P5 E5 V1 ((LK ++ List.replicate (n - k) zeroChg).set k C))) := by
        refine (unhide HCH).mono ?_
        rintro x w5 ⟨rfl, r5, k5⟩
        have B5 := (unhide HB1).call r5 k5
        have qq := (seven_cells B5.var).2.2.1
        rw [unhide HLL] at qq
        have hkl : k < (LK ++ List.replicate (n - k) zeroChg).length := by rw [unhide HLL]; exact hlt
        obtain ⟨z0, z1, z2, z3, z4⟩ := arr_cells B5.arr k hkl
        have q9 := (seven_cells (B5.put k C hkl).var).2.2.1
        rw [List.length_set, unhide HLL] at q9
        exact ⟨rfl, qq, ⟨_, _, _, _, _, z0, z1, z2, z3, z4⟩, ⟨frozen_of_block B5.arr, frozen_of_block B5.arr, frozen_of_block B5.arr, frozen_of_block B5.arr, frozen_of_block B5.arr⟩, q9, B5.put k C hkl⟩
      have n21 : ¬ c = h := fun e => n12 e.symm
      clear hst B1 hbt hdw hcl hll hCF HCH HB1 HLL
      go_wp2_with fail
      go_region_with (first | (go_at_call 63; refine Calls.mono (unhide HCH2) ?_; rintro x w5 ⟨rfl, qq, ⟨u0, u1, u2, u3, u4, z0, z1, z2, z3, z4⟩, ⟨y0, y1, y2, y3, y4⟩, q9, HB5⟩))
      all_goals
        go_wp2
        go_roundw
        case rel =>
          refine ⟨k + 1, by omega, by go_num, ?_⟩
          unfold Hid
          rw [unhide HST]
          have := unhide HB5
          rw [unhide HSP] at this
          exact this
        case measure => simp [intOf]; omega
    · obtain rfl : k = n := by omega
      rw [Nat.sub_self, List.replicate_zero, List.append_nil] at B1
      have hx := unhide HR
      simp only [batF, unhide HNN, unhide HMM, Prod.mk.injEq] at hx
      obtain ⟨⟨rfl, rfl⟩, hpe⟩ := hx
      obtain ⟨rfl, rfl⟩ : P9 = (chgsF b k P2 E2).2.1 ∧ E9 = (chgsF b k P2 E2).2.2 := ⟨by rw [hpe], by rw [hpe]⟩
      clear hpe
      obtain ⟨v0, v1, v2, v3, v4, v5, v6⟩ := seven_cells B1.var
      obtain ⟨e0, e1, e2, e3, e4, e5, e6⟩ := seven_cells B1.res
      have fz : ∀ j, wr.frozen? ⟨w.heap.size, j, none⟩ = false := fun j => frozen_of_block B1.res
      have g0 := fz 0
      have g1 := fz 1
      have g2 := fz 2
      have g3 := fz 3
      have g4 := fz 4
      have g5 := fz 5
      have g6 := fz 6
      have HFN := hide (fun w'' hk => B1.fin (w'' := w'') hk (by rw [hcl]; omega))
      rw [hcl] at v2
      have hhw := B1.hge
      have HCG := hide B1.cge
      have n9 : ¬ w.heap.size = h := by omega
      have n8 : ¬ h = w.heap.size := by omega
      have HCL := hide hcl
      clear B1 hbt fz hll hhw hcl
      go_wp2
      have HK9 : Keep (fun k => k = w.heap.size) wr _ := ((((((keep_set (w := wr) (g := w.heap.size) (j := 0) (v := .int .i64 0)).trans (keep_set (g := w.heap.size) (j := 1) (v := .int .u64 (V1 : Int))) (fun _ h => Or.inl h)).trans (keep_set (g := w.heap.size) (j := 2) (v := .slice (some ⟨c, 0, none⟩) k k)) (fun _ h => Or.inl h)).trans (keep_set (g := w.heap.size) (j := 3) (v := .int .u64 0)) (fun _ h => Or.inl h)).trans (keep_set (g := w.heap.size) (j := 4) (v := .int .i64 0)) (fun _ h => Or.inl h)).trans (keep_set (g := w.heap.size) (j := 5) (v := .int .i64 0)) (fun _ h => Or.inl h)).trans (keep_set (g := w.heap.size) (j := 6) (v := .int .i64 0)) (fun _ h => Or.inl h)
      obtain ⟨x1, x2, x3⟩ := unhide HFN _ HK9
      refine bodyPost_ret (v := .agg #[.int .i64 0, .int .u64 (V1 : Int), .slice (some ⟨c, 0, none⟩) k k, .int .u64 0, .int .i64 0, .int .i64 0, .int .i64 0]) (by simp [results, Try.results48, go_sem, *]) rfl ⟨c, by rw [unhide HCL], unhide HCG, x3, x1, x2⟩
end Go.Proofs.Ytehnjanllemnlaa

/- Package batch's reader: a record. -/
namespace Go.Proofs.Ytehnjanllemnlaa
open Go.RowKit

/-- What bytes are as a record, whether it may be or not. -/
def rcdF (b : List UInt8) (p e : Int) : Rcd × Int × Int :=
  let k := byteF b p e
  if k.1 = 1 then (⟨1, (batF b k.2.1 k.2.2).1.1, (batF b k.2.1 k.2.2).1.2, 0, 0, 0, 0⟩, (batF b k.2.1 k.2.2).2)
  else if k.1 = 2 then (⟨2, 0, [], (movF b k.2.1 k.2.2).1.1, (movF b k.2.1 k.2.2).1.2.1, (movF b k.2.1 k.2.2).1.2.2.1, (movF b k.2.1 k.2.2).1.2.2.2⟩, (movF b k.2.1 k.2.2).2)
  else (zeroRcd, k.2.1, if k.2.2 = 0 then 11 else k.2.2)

theorem CL.keep {F : Nat → Prop} {w w' : World} {v : Value} {l : List Chg} (h : CL w v l) (hk : Keep F w w') (hn : ∀ b off c, v = .slice (some ⟨b, off, none⟩) l.length c → 0 < l.length → ¬ F b) : CL w' v l := KRow.keep h hk hn

set_option maxRecDepth 20000 in
set_option maxHeartbeats 4000000 in
theorem brecord_mov (g : Nat) (p e : Int) (s : Value) (b : List UInt8) (w : World) (h : Rd 78 w g s b p e) (hk : (byteF b p e).1 = 2) :
    Calls Try.prog 38 #[.pointer (some ⟨g, 0, none⟩)] w fun x w' => ∃ v, x = .returned (.agg (rcdA (rcdF b p e).1 v)) ∧ (∀ bb off c, v = .slice (some ⟨bb, off, none⟩) (rcdF b p e).1.chg.length c → 0 < (rcdF b p e).1.chg.length → w.heap.size ≤ bb) ∧ CL w' v (rcdF b p e).1.chg ∧ Rd 78 w' g s b (rcdF b p e).2.1 (rcdF b p e).2.2 ∧ Keep (fun k => k = g) w w' := by
  obtain ⟨o, ho⟩ : ∃ o, o = Obj.cells #[.int .i64 0, .int .u64 0, .slice none 0 0, .int .u64 0, .int .i64 0, .int .i64 0, .int .i64 0] 39 := ⟨_, rfl⟩
  have hb0 : Below w.heap.size w (w.alloc o) := (Below.refl _ _).alloc (Nat.le_refl _) _
  have HN := hide (bone_any g p e s b _ (h.below hb0))
  have HSRC := hide h.src
  have HGL := hide h.lt
  have HB0 := hide hb0
  have HR0 := hide (alloc_new w o)
  have hso : (w.alloc o).heap.size = w.heap.size + 1 := by simp
  have HSO := hide hso
  rw [ho] at HN HB0 HR0 HSO
  generalize hR : rcdF b p e = RS
  obtain ⟨R9, P9, E9⟩ := RS
  have HR := hide hR
  generalize hNN : byteF b p e = NN at *
  obtain ⟨V1, P1, E1⟩ := NN
  have HNN := hide hNN
  simp only at HN hk ⊢
  subst hk
  clear h hR hNN hb0 hso
  go_enter Try.func38, Try.ntmps38
  go_wp2_with fail
  refine Calls.mono (unhide HN) ?_
  rintro x w1 ⟨rfl, r1, k1⟩
  have hs1 := k1.size
  rw [unhide HSO] at hs1
  have hgl := unhide HGL
  have hres1 := (k1.block w.heap.size (by rw [unhide HSO]; omega) (by omega)).trans (unhide HR0)
  have hk1 : Keep (fun k => k = g) w w1 := (Keep.of_below (unhide HB0)).trans k1 (fun _ h => Or.inl h)
  have HK := hide (kinds_any w1)
  have HRD := hide r1
  have HRS := hide hres1
  have HKP := hide hk1
  clear r1 k1 hres1 hk1 HN HB0 HR0 HSO
  go_wp2_with fail
  refine Calls.mono (unhide HK) ?_
  rintro x w2 ⟨rfl, hm2, b2⟩
  have hlk := look_2 hm2
  have hs2 := hm2.lt
  obtain ⟨o3, ho3⟩ : ∃ o3, o3 = Obj.cells #[.func (.func 49) #[] #[], .func (.func 50) #[] #[], .func (.func 51) #[] #[]] 71 := ⟨_, rfl⟩
  have hb3 : Below w1.heap.size w1 (w2.alloc o3) := b2.trans (((Below.refl w2.heap.size w2).alloc (Nat.le_refl _) o3).mono (by omega))
  have hc3 := alloc_new w2 o3
  have HCT := hide (brmove_any g P1 E1 s b _ ((unhide HRD).below hb3))
  have HRS3 := hide ((hb3.block w.heap.size (by omega)).trans (unhide HRS))
  have HKP3 := hide ((unhide HKP).trans (Keep.of_below (F := fun _ => False) hb3) (fun _ h => h.elim))
  have HS3 : Hid ((w2.alloc o3).heap.size = w2.heap.size + 1) := by unfold Hid; simp
  rw [ho3] at HCT HRS3 HKP3 HS3
  generalize hRR : movF b P1 E1 = RR at *
  obtain ⟨⟨S2, F2, T2, N2⟩, P2, E2⟩ := RR
  have HRR := hide hRR
  simp only at HCT
  clear b2 hb3 hm2 ho3 hc3 hRR HRD HRS HKP HK
  go_wp2_with fail
  refine Calls.mono (unhide HCT) ?_
  rintro x w4 ⟨rfl, r4, k4⟩
  have hs4 := k4.size
  rw [unhide HS3] at hs4
  have hr4 := (k4.block w.heap.size (by rw [unhide HS3]; omega) (by omega)).trans (unhide HRS3)
  have hk4 := (unhide HKP3).trans k4 (fun _ h => Or.inl h)
  have hb5 : ∀ o, Below w4.heap.size w4 (w4.alloc o) := fun o => (Below.refl _ _).alloc (Nat.le_refl _) o
  obtain ⟨WW, hWW⟩ : ∃ WW, WW = w4.alloc (.cells #[.int .i64 2, .int .u64 0, .slice none 0 0, .int .u64 (S2 : Int), .int .i64 (F2 : Int), .int .i64 (T2 : Int), .int .i64 (N2 : Int)] 39) := ⟨_, rfl⟩
  have hkW : Keep (fun k => k = w4.heap.size) w4 WW := by rw [hWW]; exact Keep.of_below (hb5 _)
  have hrW := (hkW.block w.heap.size (by omega) (by omega)).trans hr4
  obtain ⟨e0, e1, e2, e3, e4, e5, e6⟩ := seven_cells hrW
  have fz : ∀ j, WW.frozen? ⟨w.heap.size, j, none⟩ = false := fun j => frozen_of_block hrW
  have g0 := fz 0
  have g1 := fz 1
  have g2 := fz 2
  have g3 := fz 3
  have g4 := fz 4
  have g5 := fz 5
  have g6 := fz 6
  have hkF := (((((((keep_set (w := WW) (g := w.heap.size) (j := 0) (v := .int .i64 2)).trans (keep_set (g := w.heap.size) (j := 1) (v := .int .u64 0)) (fun _ h => Or.inl h)).trans (keep_set (g := w.heap.size) (j := 2) (v := .slice none 0 0)) (fun _ h => Or.inl h)).trans (keep_set (g := w.heap.size) (j := 3) (v := .int .u64 (S2 : Int))) (fun _ h => Or.inl h)).trans (keep_set (g := w.heap.size) (j := 4) (v := .int .i64 (F2 : Int))) (fun _ h => Or.inl h)).trans (keep_set (g := w.heap.size) (j := 5) (v := .int .i64 (T2 : Int))) (fun _ h => Or.inl h)).trans (keep_set (g := w.heap.size) (j := 6) (v := .int .i64 (N2 : Int))) (fun _ h => Or.inl h))
  have HRW := hide ((r4.keep hkW (by omega) (fun bb off cc e hb => by have := unhide HSRC bb off cc e hb; omega)).keep hkF (by omega) (fun bb off cc e hb => by have := unhide HSRC bb off cc e hb; omega))
  have HKW := hide ((hk4.trans hkW (fun x hx => Or.inr (by omega))).trans hkF (fun x hx => Or.inr (by omega)))
  have HCLW := hide True.intro
  rw [hWW] at HRW HKW e0 e1 e2 e3 e4 e5 e6 g0 g1 g2 g3 g4 g5 g6
  have n1 : ¬ w4.heap.size = w.heap.size := by omega
  have n2 : ¬ w.heap.size = w4.heap.size := by omega
  clear hkF hrW hkW hWW fz hb5 hr4 hk4 r4 k4 HCT HRS3 HKP3 HS3 hlk
  go_wp2
  have hx := unhide HR
  simp only [rcdF, unhide HNN, unhide HRR] at hx
  rw [if_neg (by omega), if_pos trivial] at hx
  simp only [Prod.mk.injEq] at hx
  obtain ⟨rfl, rfl, rfl⟩ := hx
  refine bodyPost_ret (v := .agg #[.int .i64 2, .int .u64 0, .slice none 0 0, .int .u64 (S2 : Int), .int .i64 (F2 : Int), .int .i64 (T2 : Int), .int .i64 (N2 : Int)]) (by simp [results, Try.results38, go_sem, *]) rfl ⟨.slice none 0 0, rfl, fun _ _ _ _ h => absurd h (by simp), CL.nil _, unhide HRW, unhide HKW⟩

set_option maxRecDepth 20000 in
set_option maxHeartbeats 4000000 in
theorem brecord_bat (g : Nat) (p e : Int) (s : Value) (b : List UInt8) (w : World) (h : Rd 78 w g s b p e) (hk : (byteF b p e).1 = 1) :
    Calls Try.prog 38 #[.pointer (some ⟨g, 0, none⟩)] w fun x w' => ∃ v, x = .returned (.agg (rcdA (rcdF b p e).1 v)) ∧ (∀ bb off c, v = .slice (some ⟨bb, off, none⟩) (rcdF b p e).1.chg.length c → 0 < (rcdF b p e).1.chg.length → w.heap.size ≤ bb) ∧ CL w' v (rcdF b p e).1.chg ∧ Rd 78 w' g s b (rcdF b p e).2.1 (rcdF b p e).2.2 ∧ Keep (fun k => k = g) w w' := by
  obtain ⟨o, ho⟩ : ∃ o, o = Obj.cells #[.int .i64 0, .int .u64 0, .slice none 0 0, .int .u64 0, .int .i64 0, .int .i64 0, .int .i64 0] 39 := ⟨_, rfl⟩
  have hb0 : Below w.heap.size w (w.alloc o) := (Below.refl _ _).alloc (Nat.le_refl _) _
  have HN := hide (bone_any g p e s b _ (h.below hb0))
  have HSRC := hide h.src
  have HGL := hide h.lt
  have HB0 := hide hb0
  have HR0 := hide (alloc_new w o)
  have hso : (w.alloc o).heap.size = w.heap.size + 1 := by simp
  have HSO := hide hso
  rw [ho] at HN HB0 HR0 HSO
  generalize hR : rcdF b p e = RS
  obtain ⟨R9, P9, E9⟩ := RS
  have HR := hide hR
  generalize hNN : byteF b p e = NN at *
  obtain ⟨V1, P1, E1⟩ := NN
  have HNN := hide hNN
  simp only at HN hk ⊢
  subst hk
  clear h hR hNN hb0 hso
  go_enter Try.func38, Try.ntmps38
  go_wp2_with fail
  refine Calls.mono (unhide HN) ?_
  rintro x w1 ⟨rfl, r1, k1⟩
  have hs1 := k1.size
  rw [unhide HSO] at hs1
  have hgl := unhide HGL
  have hres1 := (k1.block w.heap.size (by rw [unhide HSO]; omega) (by omega)).trans (unhide HR0)
  have hk1 : Keep (fun k => k = g) w w1 := (Keep.of_below (unhide HB0)).trans k1 (fun _ h => Or.inl h)
  have HK := hide (kinds_any w1)
  have HRD := hide r1
  have HRS := hide hres1
  have HKP := hide hk1
  clear r1 k1 hres1 hk1 HN HB0 HR0 HSO
  go_wp2_with fail
  refine Calls.mono (unhide HK) ?_
  rintro x w2 ⟨rfl, hm2, b2⟩
  have hlk := look_1 hm2
  have hs2 := hm2.lt
  obtain ⟨o3, ho3⟩ : ∃ o3, o3 = Obj.cells #[.func (.func 46) #[] #[], .func (.func 47) #[] #[], .func (.func 48) #[] #[]] 71 := ⟨_, rfl⟩
  have hb3 : Below w1.heap.size w1 (w2.alloc o3) := b2.trans (((Below.refl w2.heap.size w2).alloc (Nat.le_refl _) o3).mono (by omega))
  have hc3 := alloc_new w2 o3
  have HCT := hide (brbatch_any g P1 E1 s b _ ((unhide HRD).below hb3))
  have HRS3 := hide ((hb3.block w.heap.size (by omega)).trans (unhide HRS))
  have HKP3 := hide ((unhide HKP).trans (Keep.of_below (F := fun _ => False) hb3) (fun _ h => h.elim))
  have HS3 : Hid ((w2.alloc o3).heap.size = w2.heap.size + 1) := by unfold Hid; simp
  rw [ho3] at HCT HRS3 HKP3 HS3
  generalize hRR : batF b P1 E1 = RR at *
  obtain ⟨⟨S2, L2⟩, P2, E2⟩ := RR
  have HRR := hide hRR
  simp only at HCT
  clear b2 hb3 hm2 ho3 hc3 hRR HRD HRS HKP HK
  go_wp2_with fail
  refine Calls.mono (unhide HCT) ?_
  rintro x w4 ⟨c4, rfl, hcg, hcl4, r4, k4⟩
  rw [unhide HS3] at hcg
  have HCL4 := hide hcl4
  have hs4 := k4.size
  rw [unhide HS3] at hs4
  have hr4 := (k4.block w.heap.size (by rw [unhide HS3]; omega) (by omega)).trans (unhide HRS3)
  have hk4 := (unhide HKP3).trans k4 (fun _ h => Or.inl h)
  have hb5 : ∀ o, Below w4.heap.size w4 (w4.alloc o) := fun o => (Below.refl _ _).alloc (Nat.le_refl _) o
  obtain ⟨WW, hWW⟩ : ∃ WW, WW = w4.alloc (.cells #[.int .i64 1, .int .u64 (S2 : Int), .slice (some ⟨c4, 0, none⟩) L2.length L2.length, .int .u64 0, .int .i64 0, .int .i64 0, .int .i64 0] 39) := ⟨_, rfl⟩
  have hkW : Keep (fun k => k = w4.heap.size) w4 WW := by rw [hWW]; exact Keep.of_below (hb5 _)
  have hrW := (hkW.block w.heap.size (by omega) (by omega)).trans hr4
  obtain ⟨e0, e1, e2, e3, e4, e5, e6⟩ := seven_cells hrW
  have fz : ∀ j, WW.frozen? ⟨w.heap.size, j, none⟩ = false := fun j => frozen_of_block hrW
  have g0 := fz 0
  have g1 := fz 1
  have g2 := fz 2
  have g3 := fz 3
  have g4 := fz 4
  have g5 := fz 5
  have g6 := fz 6
  have hkF := (((((((keep_set (w := WW) (g := w.heap.size) (j := 0) (v := .int .i64 1)).trans (keep_set (g := w.heap.size) (j := 1) (v := .int .u64 (S2 : Int))) (fun _ h => Or.inl h)).trans (keep_set (g := w.heap.size) (j := 2) (v := .slice (some ⟨c4, 0, none⟩) L2.length L2.length)) (fun _ h => Or.inl h)).trans (keep_set (g := w.heap.size) (j := 3) (v := .int .u64 0)) (fun _ h => Or.inl h)).trans (keep_set (g := w.heap.size) (j := 4) (v := .int .i64 0)) (fun _ h => Or.inl h)).trans (keep_set (g := w.heap.size) (j := 5) (v := .int .i64 0)) (fun _ h => Or.inl h)).trans (keep_set (g := w.heap.size) (j := 6) (v := .int .i64 0)) (fun _ h => Or.inl h))
  have HRW := hide ((r4.keep hkW (by omega) (fun bb off cc e hb => by have := unhide HSRC bb off cc e hb; omega)).keep hkF (by omega) (fun bb off cc e hb => by have := unhide HSRC bb off cc e hb; omega))
  have HKW := hide ((hk4.trans hkW (fun x hx => Or.inr (by omega))).trans hkF (fun x hx => Or.inr (by omega)))
  have hvb : ∀ bb off cc, (Value.slice (some ⟨c4, 0, none⟩) L2.length L2.length) = .slice (some ⟨bb, off, none⟩) L2.length cc → 0 < L2.length → bb ≠ w.heap.size ∧ bb < w4.heap.size := fun bb off cc e hl => by
    obtain ⟨b', off', cap', e1, _, _, hc⟩ := hcl4.open hl
    rw [e] at e1
    simp only [Value.slice.injEq, Option.some.injEq, Addr.mk.injEq, and_true] at e1 e
    obtain ⟨⟨rfl, rfl⟩, _⟩ := e1
    obtain ⟨⟨rfl, _⟩, _⟩ := e
    exact ⟨by omega, World.block_lt_of_cell? w4 _ (hc 0 hl).1⟩
  have HCLW := hide ((hcl4.keep hkW (fun bb off cc e hl => by have := (hvb bb off cc e hl).2; omega)).keep hkF (fun bb off cc e hl => (hvb bb off cc e hl).1))
  rw [hWW] at HRW HKW HCLW e0 e1 e2 e3 e4 e5 e6 g0 g1 g2 g3 g4 g5 g6
  have n1 : ¬ w4.heap.size = w.heap.size := by omega
  have n2 : ¬ w.heap.size = w4.heap.size := by omega
  clear hvb hcl4 HCL4 hkF hrW hkW hWW fz hb5 hr4 hk4 r4 k4 HCT HRS3 HKP3 HS3 hlk
  go_wp2
  have hx := unhide HR
  simp only [rcdF, unhide HNN, unhide HRR] at hx
  rw [if_pos trivial] at hx
  simp only [Prod.mk.injEq] at hx
  obtain ⟨rfl, rfl, rfl⟩ := hx
  refine bodyPost_ret (v := .agg #[.int .i64 1, .int .u64 (S2 : Int), .slice (some ⟨c4, 0, none⟩) L2.length L2.length, .int .u64 0, .int .i64 0, .int .i64 0, .int .i64 0]) (by simp [results, Try.results38, go_sem, *]) rfl ⟨.slice (some ⟨c4, 0, none⟩) L2.length L2.length, rfl, fun bb off cc e _ => by simp only [Value.slice.injEq, Option.some.injEq, Addr.mk.injEq, and_true] at e; obtain ⟨⟨rfl, _⟩, _⟩ := e; omega, unhide HCLW, unhide HRW, unhide HKW⟩
end Go.Proofs.Ytehnjanllemnlaa

/- Package batch: Read. -/
namespace Go.Proofs.Ytehnjanllemnlaa
open Go.RowKit

set_option maxRecDepth 20000 in
set_option maxHeartbeats 4000000 in
theorem brecord_no (g : Nat) (p e : Int) (s : Value) (b : List UInt8) (w : World) (h : Rd 78 w g s b p e) (q1 : ¬ (byteF b p e).1 = 1) (q2 : ¬ (byteF b p e).1 = 2) :
    Calls Try.prog 38 #[.pointer (some ⟨g, 0, none⟩)] w fun x w' => ∃ v, x = .returned (.agg (rcdA (rcdF b p e).1 v)) ∧ (∀ bb off c, v = .slice (some ⟨bb, off, none⟩) (rcdF b p e).1.chg.length c → 0 < (rcdF b p e).1.chg.length → w.heap.size ≤ bb) ∧ CL w' v (rcdF b p e).1.chg ∧ Rd 78 w' g s b (rcdF b p e).2.1 (rcdF b p e).2.2 ∧ Keep (fun k => k = g) w w' := by
  have hRC : rcdF b p e = (zeroRcd, (byteF b p e).2.1, if (byteF b p e).2.2 = 0 then 11 else (byteF b p e).2.2) := by simp only [rcdF]; rw [if_neg q1, if_neg q2]
  rw [hRC]
  have hbl := byte_lt b p e
  obtain ⟨o, ho⟩ : ∃ o, o = Obj.cells #[.int .i64 0, .int .u64 0, .slice none 0 0, .int .u64 0, .int .i64 0, .int .i64 0, .int .i64 0] 39 := ⟨_, rfl⟩
  have hb0 : Below w.heap.size w (w.alloc o) := (Below.refl _ _).alloc (Nat.le_refl _) _
  have HN := hide (bone_any g p e s b _ (h.below hb0))
  have HSRC := hide h.src
  have HGL := hide h.lt
  have HB0 := hide hb0
  have HR0 := hide (alloc_new w o)
  have hso : (w.alloc o).heap.size = w.heap.size + 1 := by simp
  have HSO := hide hso
  rw [ho] at HN HB0 HR0 HSO
  generalize byteF b p e = NN at *
  obtain ⟨V1, P1, E1⟩ := NN
  simp only at HN q1 q2 hbl ⊢
  generalize hE : (if E1 = 0 then (11 : Int) else E1) = E2 at *
  have HE := hide hE
  clear hE
  have hV1 : ¬ (V1 : Int) = 1 := by omega
  have hV2 : ¬ (V1 : Int) = 2 := by omega
  have HLK := hide (fun (w1 : World) (g : Nat) hm => look_0 (w1 := w1) (g := g) hm (V1 : Int) hV1 hV2 (by omega) (by omega))
  clear h hRC hb0 hso hV1 hV2 q1 q2 hbl
  unfold rcdA zeroRcd
  go_enter Try.func38, Try.ntmps38
  go_wp2_with fail
  refine Calls.mono (unhide HN) ?_
  rintro x w1 ⟨rfl, r1, k1⟩
  have hs1 := k1.size
  rw [unhide HSO] at hs1
  have hgl := unhide HGL
  have hres1 := (k1.block w.heap.size (by rw [unhide HSO]; omega) (by omega)).trans (unhide HR0)
  have hk1 : Keep (fun k => k = g) w w1 := (Keep.of_below (unhide HB0)).trans k1 (fun _ h => Or.inl h)
  have HK := hide (kinds_any w1)
  have HRD := hide r1
  have HRS := hide hres1
  have HKP := hide hk1
  clear r1 k1 hres1 hk1 HN HB0 HR0 HSO
  go_wp2_with fail
  refine Calls.mono (unhide HK) ?_
  rintro x w2 ⟨rfl, hm2, b2⟩
  have hlk := unhide HLK w2 _ hm2
  have hs2 := hm2.lt
  obtain ⟨o3, ho3⟩ : ∃ o3, o3 = Obj.cells #[.nilFunc, .nilFunc, .nilFunc] 71 := ⟨_, rfl⟩
  have hb3 : Below w1.heap.size w1 (w2.alloc o3) := b2.trans (((Below.refl w2.heap.size w2).alloc (Nat.le_refl _) o3).mono (by omega))
  have hct := brefuse_any g P1 E1 11 s b _ ((unhide HRD).below hb3) (by omega)
  rw [unhide HE] at hct
  have HCT := hide hct
  clear hct
  have HRS3 := hide ((hb3.block w.heap.size (by omega)).trans (unhide HRS))
  have HKP3 := hide ((unhide HKP).trans (Keep.of_below (F := fun _ => False) hb3) (fun _ h => h.elim))
  have HS3 : Hid ((w2.alloc o3).heap.size = w2.heap.size + 1) := by unfold Hid; simp
  rw [ho3] at HCT HRS3 HKP3 HS3
  clear b2 hb3 hm2 ho3 HRD HRS HKP HK HLK
  go_wp2_with fail
  refine Calls.mono (unhide HCT) ?_
  rintro x w4 ⟨rfl, r4, k4⟩
  have hs4 := k4.size
  rw [unhide HS3] at hs4
  have hr4 := (k4.block w.heap.size (by rw [unhide HS3]; omega) (by omega)).trans (unhide HRS3)
  have hk4 := (unhide HKP3).trans k4 (fun _ h => Or.inl h)
  obtain ⟨e0, e1, e2, e3, e4, e5, e6⟩ := seven_cells hr4
  have fz : ∀ j, w4.frozen? ⟨w.heap.size, j, none⟩ = false := fun j => frozen_of_block hr4
  have g0 := fz 0
  have g1 := fz 1
  have g2 := fz 2
  have g3 := fz 3
  have g4 := fz 4
  have g5 := fz 5
  have g6 := fz 6
  have hkF := (((((((keep_set (w := w4) (g := w.heap.size) (j := 0) (v := .int .i64 0)).trans (keep_set (g := w.heap.size) (j := 1) (v := .int .u64 0)) (fun _ h => Or.inl h)).trans (keep_set (g := w.heap.size) (j := 2) (v := .slice none 0 0)) (fun _ h => Or.inl h)).trans (keep_set (g := w.heap.size) (j := 3) (v := .int .u64 0)) (fun _ h => Or.inl h)).trans (keep_set (g := w.heap.size) (j := 4) (v := .int .i64 0)) (fun _ h => Or.inl h)).trans (keep_set (g := w.heap.size) (j := 5) (v := .int .i64 0)) (fun _ h => Or.inl h)).trans (keep_set (g := w.heap.size) (j := 6) (v := .int .i64 0)) (fun _ h => Or.inl h))
  have HRW := hide (r4.keep hkF (by omega) (fun bb off cc e hb => by have := unhide HSRC bb off cc e hb; omega))
  have HKW := hide (hk4.trans hkF (fun x hx => Or.inr (by omega)))
  clear hkF fz hr4 hk4 r4 k4 HCT HRS3 HKP3 HS3 hlk
  go_wp2
  refine bodyPost_ret (v := .agg #[.int .i64 0, .int .u64 0, .slice none 0 0, .int .u64 0, .int .i64 0, .int .i64 0, .int .i64 0]) (by simp [results, Try.results38, go_sem, *]) rfl ⟨.slice none 0 0, rfl, fun _ _ _ _ h => absurd h (by simp), CL.nil _, unhide HRW, unhide HKW⟩

theorem brecord_any (g : Nat) (p e : Int) (s : Value) (b : List UInt8) (w : World) (h : Rd 78 w g s b p e) :
    Calls Try.prog 38 #[.pointer (some ⟨g, 0, none⟩)] w fun x w' => ∃ v, x = .returned (.agg (rcdA (rcdF b p e).1 v)) ∧ (∀ bb off c, v = .slice (some ⟨bb, off, none⟩) (rcdF b p e).1.chg.length c → 0 < (rcdF b p e).1.chg.length → w.heap.size ≤ bb) ∧ CL w' v (rcdF b p e).1.chg ∧ Rd 78 w' g s b (rcdF b p e).2.1 (rcdF b p e).2.2 ∧ Keep (fun k => k = g) w w' := by
  by_cases h1 : (byteF b p e).1 = 1
  · exact brecord_bat g p e s b w h h1
  · by_cases h2 : (byteF b p e).1 = 2
    · exact brecord_mov g p e s b w h h2
    · exact brecord_no g p e s b w h h1 h2
/-- What bytes are as a record. -/
noncomputable def readF10 (b : List UInt8) : Rcd × Int :=
  if (rcdF b 0 0).2.2 ≠ 0 then (zeroRcd, (rcdF b 0 0).2.2)
  else if (rcdF b 0 0).2.1 < b.length ∨ mayRcd (rcdF b 0 0).1 = false then (zeroRcd, 11) else ((rcdF b 0 0).1, 0)

theorem rcd_kind (b : List UInt8) (p e : Int) : 0 ≤ (rcdF b p e).1.kind ∧ (rcdF b p e).1.kind ≤ 2 := by
  simp only [rcdF]
  split
  · simp
  · split
    · simp
    · simp [zeroRcd]

/-- What lies in memory when the record was read: the result's block, the reader's, the record's. -/
structure RB (w w' : World) (h : Nat) (s : Value) (b : List UInt8) (p e : Int) (R : Rcd) (v : Value) : Prop where
  rd : Rd 78 w' (w.heap.size + 1) s b p e
  res : w'.heap[w.heap.size]? = some (.cells #[.int .i64 0, .int .u64 0, .slice none 0 0, .int .u64 0, .int .i64 0, .int .i64 0, .int .i64 0] 39 (0, 0))
  var : w'.heap[h]? = some (.cells (rcdA R v) 39 (0, 0))
  bel : Below w.heap.size w w'
  cl : CL w' v R.chg
  hge : w.heap.size + 1 < h
  src : ∀ bb off c, v = .slice (some ⟨bb, off, none⟩) R.chg.length c → 0 < R.chg.length → bb ≠ w.heap.size ∧ bb ≠ w.heap.size + 1
theorem RB.below {w w' w'' : World} {h : Nat} {s : Value} {b : List UInt8} {p e : Int} {R : Rcd} {v : Value} (H : RB w w' h s b p e R v) (hb : Below w'.heap.size w' w'') : RB w w'' h s b p e R v :=
  ⟨H.rd.below hb, (hb.block _ (Array.getElem?_eq_some_iff.1 H.res).1).trans H.res, (hb.block _ (Array.getElem?_eq_some_iff.1 H.var).1).trans H.var, H.bel.trans (hb.mono H.bel.size), H.cl.below hb, H.hge, H.src⟩
theorem RB.refused {w w' w'' : World} {h : Nat} {s : Value} {b : List UInt8} {p e e' : Int} {R : Rcd} {v : Value} (H : RB w w' h s b p e R v) (r : Rd 78 w'' (w.heap.size + 1) s b p e') (k : Keep (fun k => k = w.heap.size + 1) w' w'') : RB w w'' h s b p e' R v := by
  have h1 := H.hge
  refine ⟨r, (k.block _ (Array.getElem?_eq_some_iff.1 H.res).1 (by omega)).trans H.res, (k.block _ (Array.getElem?_eq_some_iff.1 H.var).1 (by omega)).trans H.var, H.bel.trans (k.below H.bel.size (fun q hq => by omega)), H.cl.keep k (fun bb off c e hl => (H.src bb off c e hl).2), h1, H.src⟩
theorem RB.fin {w w' w'' : World} {h : Nat} {s : Value} {b : List UInt8} {p e : Int} {R : Rcd} {v : Value} (H : RB w w' h s b p e R v) (k : Keep (fun k => k = w.heap.size) w' w'') : Below w.heap.size w w'' ∧ CL w'' v R.chg :=
  ⟨H.bel.trans (k.below H.bel.size (fun q hq => by omega)), H.cl.keep k (fun bb off c e hl => (H.src bb off c e hl).1)⟩
end Go.Proofs.Ytehnjanllemnlaa

/- A record as bytes, and bytes as a record: there and back; nothing here speaks of the program. -/
namespace Go.Proofs.Ytehnjanllemnlaa
open Go.RowKit

/-- From place p up to q bytes b are these. -/
def Seg (b : List UInt8) (p q : Int) (x : List UInt8) : Prop := 0 ≤ p ∧ p ≤ q ∧ q ≤ b.length ∧ (b.drop p.toNat).take (q.toNat - p.toNat) = x
theorem Seg.trans {b x y : List UInt8} {p q r : Int} (h : Seg b p q x) (h' : Seg b q r y) : Seg b p r (x ++ y) := by
  obtain ⟨a1, a2, a3, a4⟩ := h
  obtain ⟨b1, b2, b3, b4⟩ := h'
  refine ⟨a1, by omega, b3, ?_⟩
  rw [← a4, ← b4]
  have e : r.toNat - p.toNat = (q.toNat - p.toNat) + (r.toNat - q.toNat) := by omega
  rw [e, List.take_add, List.drop_drop]
  congr 3
  omega
theorem Seg.nil {b : List UInt8} {p : Int} (h0 : 0 ≤ p) (h1 : p ≤ b.length) : Seg b p p [] := ⟨h0, by omega, h1, by simp⟩

theorem num_seg (b : List UInt8) (p e : Int) (h : (numF b p e).2.2 = 0) : e = 0 ∧ Seg b p (numF b p e).2.1 (varF 9 (numF b p e).1) ∧ (numF b p e).1 < 18446744073709551616 := by
  unfold numF at *
  by_cases he : e = 0
  · subst he
    rw [if_neg (by simp)] at *
    by_cases hE : readE b p = 0
    · rw [if_neg (by simp [hE])]
      have hq := read_ok b p hE
      exact ⟨rfl, ⟨hq.1, by have := hq.2.1; simp only; omega, hq.2.2.1, (read_back b p hE).symm⟩, hq.2.2.2⟩
    · rw [if_pos hE] at h
      exact absurd h hE
  · rw [if_pos he] at h
    exact absurd h he
theorem most_seg (b : List UInt8) (m : Nat) (p e : Int) (h : (mostF b m p e).2.2 = 0) : e = 0 ∧ Seg b p (mostF b m p e).2.1 (varF 9 (mostF b m p e).1) ∧ (mostF b m p e).1 ≤ m := by
  unfold mostF at *
  by_cases h1 : (numF b p e).2.2 = 0
  · rw [if_neg (by simp [h1])] at *
    by_cases h2 : m < (numF b p e).1
    · rw [if_pos h2] at h
      simp at h
    · rw [if_neg h2] at *
      have := num_seg b p e h1
      exact ⟨this.1, this.2.1, by omega⟩
  · rw [if_pos h1] at h
    exact absurd h h1
theorem text_seg (b : List UInt8) (p e : Int) (h : (textF b p e).2.2 = 0) : e = 0 ∧ Seg b p (textF b p e).2.1 (varF 9 (textF b p e).1.length ++ (textF b p e).1) ∧ (textF b p e).1.length ≤ 64 := by
  unfold textF at *
  by_cases he : e = 0
  · subst he
    rw [if_neg (by simp)] at *
    by_cases hE : textE b p 64 = 0
    · rw [if_neg (by simp [hE])]
      have ht := text_n b p hE
      have h0 := hE
      unfold textE at h0
      split at h0
      · rename_i hr
        have hq := read_ok b p hr
        split at h0
        · omega
        · rename_i hm
          split at h0
          · omega
          · rename_i hl
            have hB : textB b p 64 = (b.drop (readN b p).toNat).take (readV b p) := by unfold textB; rw [if_pos hE]
            have hN : textN b p 64 = readN b p + (readV b p : Nat) := by unfold textN; rw [if_pos hE]
            have hL : (textB b p 64).length = readV b p := by rw [hB, List.length_take, List.length_drop]; omega
            refine ⟨rfl, ?_, ht.2.2⟩
            simp only
            rw [hL]
            refine Seg.trans (q := readN b p) ⟨hq.1, by omega, hq.2.2.1, (read_back b p hr).symm⟩ ⟨by omega, by omega, by omega, ?_⟩
            rw [hN, hB]
            congr 1
            omega
      · rename_i hr; exact absurd h0 hr
    · rw [if_pos hE] at h
      exact absurd h hE
  · rw [if_pos he] at h
    exact absurd h he
theorem byte_seg (b : List UInt8) (p e : Int) (h : (byteF b p e).2.2 = 0) (hp : 0 ≤ p) : e = 0 ∧ Seg b p (byteF b p e).2.1 [UInt8.ofNat (byteF b p e).1] := by
  unfold byteF at *
  by_cases he : e = 0
  · subst he
    rw [if_neg (by simp)] at *
    by_cases hl : (b.length : Int) < p + 1
    · rw [if_pos hl] at h
      simp at h
    · rw [if_neg hl] at *
      refine ⟨rfl, hp, by simp only; omega, by simp only; omega, ?_⟩
      simp only
      have e1 : (p + 1).toNat - p.toNat = 1 := by omega
      have hlt : p.toNat < b.length := by omega
      rw [e1]
      have e2 : (b.drop p.toNat).take 1 = [b[p.toNat]] := by rw [List.drop_eq_getElem_cons hlt]; rfl
      rw [e2]
      simp [num]
  · rw [if_pos he] at h
    exact absurd h he
theorem gone_seg (b : List UInt8) (p e : Int) (h : (goneF b p e).2.2 = 0) (hp : 0 ≤ p) : e = 0 ∧ Seg b p (goneF b p e).2.1 [if (goneF b p e).1 then 1 else 0] := by
  unfold goneF at *
  simp only at *
  split at h
  · rename_i h1
    split at h
    · rename_i h2
      obtain ⟨e1, hs⟩ := byte_seg b p e h1 hp
      refine ⟨e1, ?_⟩
      by_cases h3 : (byteF b p e).1 = 1
      · rw [h3] at hs ⊢
        exact hs
      · have h4 : (byteF b p e).1 = 0 := by omega
        rw [h4] at hs ⊢
        exact hs
    · simp at h
  · rename_i h1
    exact absurd h h1
theorem ba_list (t : List UInt8) : (⟨t.toArray⟩ : ByteArray).toList = t := by rw [ByteArray.toList_eq]
theorem ba_size (t : List UInt8) : (⟨t.toArray⟩ : ByteArray).size = t.length := by rw [← bl_len, ba_list]
/-- The numbers of a change that was read fit. -/
theorem chg_seg (b : List UInt8) (p e : Int) (h : (chgF b p e).2.2 = 0) : e = 0 ∧ Seg b p (chgF b p e).2.1 (chgB (chgF b p e).1) ∧ (chgF b p e).1.ok := by
  unfold chgF at *
  simp only at *
  split at h
  · rename_i hk
    rw [if_pos hk]
    obtain ⟨e2, s2⟩ := (fun hp => gone_seg b (textF b p e).2.1 (textF b p e).2.2 h hp) (by
      by_cases hz : (textF b p e).2.2 = 0
      · exact Int.le_trans (text_seg b p e hz).2.1.1 (text_seg b p e hz).2.1.2.1
      · exfalso
        unfold goneF at h
        simp only [byteF, if_pos hz] at h
        rw [if_neg hz] at h
        exact hz h)
    obtain ⟨e1, s1, l1⟩ := text_seg b p e e2
    refine ⟨e1, ?_, ?_⟩
    · unfold chgB
      simp only [ba_list]
      rw [if_pos hk] at s2
      exact s1.trans s2
    · unfold Chg.ok
      simp only [ba_size]
      omega
  · rename_i hk
    rw [if_neg hk]
    simp only at *
    obtain ⟨e5, s5, l5⟩ := most_seg _ _ _ _ h
    obtain ⟨e4, s4, l4⟩ := most_seg _ _ _ _ e5
    obtain ⟨e3, s3, l3⟩ := num_seg _ _ _ e4
    obtain ⟨e2, s2⟩ := (fun hp => gone_seg b (textF b p e).2.1 (textF b p e).2.2 e3 hp) (by
      by_cases hz : (textF b p e).2.2 = 0
      · exact Int.le_trans (text_seg b p e hz).2.1.1 (text_seg b p e hz).2.1.2.1
      · exfalso
        unfold goneF at e3
        simp only [byteF, if_pos hz] at e3
        rw [if_neg hz] at e3
        exact hz e3)
    obtain ⟨e1, s1, l1⟩ := text_seg b p e e2
    refine ⟨e1, ?_, ?_⟩
    · unfold chgB
      simp only [ba_list, Int.toNat_natCast]
      rw [if_neg hk] at s2
      have := s1.trans (s2.trans ((s3.trans s4).trans s5))
      simpa using this
    · unfold Chg.ok
      simp only [ba_size]
      have hM : bigM = 4611686018427387904 := rfl
      omega
theorem chgs_seg (b : List UInt8) (n : Nat) (p e : Int) (hp : 0 ≤ p) (hp' : p ≤ b.length) (h : (chgsF b n p e).2.2 = 0) : e = 0 ∧ Seg b p (chgsF b n p e).2.1 ((chgsF b n p e).1.flatMap chgB) ∧ ∀ c ∈ (chgsF b n p e).1, c.ok := by
  induction n with
  | zero => exact ⟨h, Seg.nil hp hp', by simp [chgsF]⟩
  | succ n ih =>
    rw [chgsF] at *
    simp only at *
    obtain ⟨e2, s2, o2⟩ := chg_seg b _ _ h
    obtain ⟨e1, s1, o1⟩ := ih e2
    refine ⟨e1, ?_, ?_⟩
    · rw [List.flatMap_append]
      refine s1.trans ?_
      simpa using s2
    · intro c hc
      rcases List.mem_append.1 hc with hc | hc
      · exact o1 c hc
      · rw [List.mem_singleton.1 hc]; exact o2
/-- What is read as a record that may be, written again, is the same bytes. -/
theorem rcd_back (b : List UInt8) (h : (readF10 b).2 = 0) : mayRcd (readF10 b).1 = true ∧ (readF10 b).1.ok ∧ rcdB (readF10 b).1 = b := by
  unfold readF10 at *
  by_cases h0 : (rcdF b 0 0).2.2 = 0
  · rw [if_neg (by simp [h0])] at *
    by_cases h1 : (rcdF b 0 0).2.1 < b.length ∨ mayRcd (rcdF b 0 0).1 = false
    · rw [if_pos h1] at h
      simp at h
    · rw [if_neg h1]
      simp only
      have hm : mayRcd (rcdF b 0 0).1 = true := by
        rcases Bool.eq_false_or_eq_true (mayRcd (rcdF b 0 0).1) with hx | hx
        · exact hx
        · exact absurd (Or.inr hx) h1
      have hl : (b.length : Int) ≤ (rcdF b 0 0).2.1 := by
        rcases Int.lt_or_le (rcdF b 0 0).2.1 b.length with hx | hx
        · exact absurd (Or.inl hx) h1
        · exact hx
      refine ⟨hm, ?_⟩
      clear hm h1 h
      unfold rcdF at *
      simp only at *
      split at h0
      · rename_i hk
        rw [if_pos hk] at hl ⊢
        simp only at *
        unfold batF at *
        simp only at *
        have hby : (byteF b 0 0).2.2 = 0 := by
          rcases Classical.em ((byteF b 0 0).2.2 = 0) with hx | hx
          · exact hx
          · have := byte_zero b 0 0 hx; omega
        obtain ⟨_, s0⟩ := byte_seg b 0 0 hby (by omega)
        rw [hby] at h0 hl ⊢
        have s0' := s0
        obtain ⟨z1, z2, z3, _⟩ := s0'
        generalize hn1 : numF b (byteF b 0 0).2.1 0 = N1 at *
        generalize hn2 : mostF b 32 N1.2.1 N1.2.2 = N2 at *
        have hN2 : N2.2.2 = 0 := by
          rcases Nat.eq_zero_or_pos N2.1 with hx | hx
          · rw [hx, chgsF] at h0
            exact h0
          · rcases Classical.em (N2.2.2 = 0) with hy | hy
            · exact hy
            · exfalso
              rw [← hn2] at hx hy
              unfold mostF at hx hy
              split at hx
              · simp at hx
              · rename_i hz
                split at hx
                · simp at hx
                · rename_i hz2
                  rw [if_neg hz, if_neg hz2] at hy
                  exact hz hy
        obtain ⟨e3, s3, l3⟩ := most_seg b 32 N1.2.1 N1.2.2 (by rw [hn2]; exact hN2)
        obtain ⟨e2, s2, l2⟩ := num_seg b (byteF b 0 0).2.1 0 (by rw [hn1]; exact e3)
        rw [hn2] at s3 l3
        rw [hn1] at s2 l2
        obtain ⟨e4, s4, o4⟩ := chgs_seg b N2.1 N2.2.1 N2.2.2 (by have := s3.1; have := s3.2.1; omega) s3.2.2.1 h0
        constructor
        · refine ⟨by simp, by simp, l2, o4, by simp, by simp, by simp, by simp, by simp, by simp, by simp⟩
        · have S := ((s0.trans s2).trans s3).trans s4
          obtain ⟨_, _, S3, S4⟩ := S
          have hend : (chgsF b N2.1 N2.2.1 N2.2.2).2.1 = b.length := by omega
          rw [hend] at S4
          simp only [Int.toNat_natCast, Int.toNat_zero, Nat.sub_zero, List.drop_zero, List.take_length] at S4
          unfold rcdB batB
          rw [if_neg (by simp)]
          simp only [chgs_len]
          rw [hk] at S4
          refine Eq.trans ?_ S4.symm
          simp
      · rename_i hk1
        rw [if_neg hk1] at hl ⊢
        split at h0
        · rename_i hk
          rw [if_pos hk] at hl ⊢
          simp only at *
          unfold movF at *
          simp only at *
          have hby : (byteF b 0 0).2.2 = 0 := by
            rcases Classical.em ((byteF b 0 0).2.2 = 0) with hx | hx
            · exact hx
            · have := byte_zero b 0 0 hx; omega
          obtain ⟨_, s0⟩ := byte_seg b 0 0 hby (by omega)
          obtain ⟨e4, s4, l4⟩ := most_seg _ _ _ _ h0
          obtain ⟨e3, s3, l3⟩ := most_seg _ _ _ _ e4
          obtain ⟨e2, s2, l2⟩ := most_seg _ _ _ _ e3
          obtain ⟨e1, s1, l1⟩ := num_seg _ _ _ e2
          constructor
          · have hM : bigM = 4611686018427387904 := rfl
            refine ⟨by simp, by simp, by simp, by simp, l1, ?_, ?_, ?_, ?_, ?_, ?_⟩ <;> simp only <;> omega
          · have S := (((s0.trans s1).trans s2).trans s3).trans s4
            obtain ⟨_, _, S3, S4⟩ := S
            have hend : ∀ q : Int, (b.length : Int) ≤ q → q ≤ b.length → q.toNat = b.length := fun q h1 h2 => by omega
            rw [hend _ hl S3] at S4
            simp only [Int.toNat_zero, Nat.sub_zero, List.drop_zero, List.take_length] at S4
            unfold rcdB movB
            rw [if_pos rfl]
            simp only [Int.toNat_natCast]
            rw [hk] at S4
            refine Eq.trans ?_ S4.symm
            simp
        · rename_i hk2
          exfalso
          split at h0
          · simp at h0
          · rename_i hz; exact hz h0
  · rw [if_pos h0] at h
    exact absurd h h0
end Go.Proofs.Ytehnjanllemnlaa
