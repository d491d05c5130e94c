/- Texts of ours, one behind the other: WalLaw7. -/
import Derived.Test.YtdpoiieblbmofaaG4
import Derived.Test.YtdpoiieblbmofaaG29
/- The statements of layer 7: slices of a book's rows; a book is freed up to a record. -/
namespace Go.Proofs.Ytdpoiieblbmofaa
open Go.RowKit

section
variable {P : Program} {K : Nat → Prop} {w w' : World} {t e : TypeId} {q : Option Addr} {n c : Nat} {xs : List Value}
theorem size_run (hsz : (P.info? e).map (·.size) = some 1) (ht : P.underlying t = some (.slice e)) (W : World) : (sizeOf (P.elem t)).run P W = .ok 1 W := by
  rw [elem_of ht]
  cases hi : P.info? e with
  | none => rw [hi] at hsz; cases hsz
  | some i => rw [hi] at hsz; simp at hsz; simp [sizeOf, typeInfo, hi, hsz]
theorem TRow.part (h : TRow K w e (.slice q n c) xs) (l m : Nat) (hl : l ≤ m) (hm : m ≤ xs.length) :
    ∃ q' c', sliced q l m c 1 = .slice q' (m - l) c' ∧ TRow K w e (.slice q' (m - l) c') ((xs.drop l).take (m - l)) ∧ (∀ k, (Value.slice q' (m - l) c').ownBlock = some k → (Value.slice q n c).ownBlock = some k) := by
  have hlen : ((xs.drop l).take (m - l)).length = m - l := by simp; omega
  rcases h.2 with ⟨e1, rfl⟩ | ⟨k, off, cap, cur, e1, h3, h4, h5, h6, h7⟩
  · simp only [Value.slice.injEq] at e1
    obtain ⟨rfl, rfl, rfl⟩ := e1
    have hm0 : m = 0 := by simpa using hm
    have hl0 : l = 0 := by omega
    subst hm0 hl0
    exact ⟨none, 0, rfl, by simpa using TRow.nil K w e, fun k hk => hk⟩
  · simp only [Value.slice.injEq] at e1
    obtain ⟨rfl, rfl, rfl⟩ := e1
    by_cases hcl : c = l
    · have hml : m = l := by omega
      subst hml hcl
      refine ⟨some ⟨k, off, none⟩, 0, by simp [sliced], ⟨fun k' hk' => h.1 k' hk', Or.inr ⟨k, off, 0, cur, by simp, h3, by simp, by omega, by omega, ?_⟩⟩, fun k' hk' => hk'⟩
      intro j u hu
      simp at hu
    · refine ⟨some ⟨k, off + l, none⟩, c - l, by unfold sliced; rw [if_neg hcl, Nat.mul_one, Option.map_some, Addr.add_lit], ⟨fun k' hk' => h.1 k' hk', Or.inr ⟨k, off + l, c - l, cur, by rw [hlen], h3, by rw [hlen]; omega, by omega, by omega, ?_⟩⟩, fun k' hk' => hk'⟩
      intro j u hu
      have hj : j < m - l := by
        have := (List.getElem?_eq_some_iff.1 hu).1
        omega
      rw [List.getElem?_take_of_lt hj, List.getElem?_drop] at hu
      have := h7 (l + j) u hu
      rw [Nat.add_assoc]
      exact this
theorem TRow.dropped (ht : P.underlying t = some (.slice e)) (hsz : (P.info? e).map (·.size) = some 1) (h : TRow K w e (.slice q n c) xs) (i : Nat) (hi : i ≤ xs.length) :
    ∃ q' c', (∀ W, (Instr.slice t (.slice q n c) (some (.int .i64 (i : Int))) none none).run P W = .ok (.slice q' (xs.length - i) c') W) ∧ TRow K w e (.slice q' (xs.length - i) c') (xs.drop i) ∧ (∀ k, (Value.slice q' (xs.length - i) c').ownBlock = some k → (Value.slice q n c).ownBlock = some k) := by
  obtain ⟨q0, c0, e0, hn0, hc0⟩ := h.shape
  simp only [Value.slice.injEq] at e0
  obtain ⟨rfl, rfl, rfl⟩ := e0
  obtain ⟨q', c', h1, h2, h3⟩ := h.part i xs.length hi (Nat.le_refl _)
  refine ⟨q', c', fun W => ?_, by rw [List.take_of_length_le (by simp)] at h2; exact h2, h3⟩
  have := run_slice_l (P := P) W t q xs.length c (by rw [elem_of ht]; exact ht) .i64 (i : Int) (by omega) (by omega)
  rw [this, size_run hsz ht]
  simp only [Result.andThen_ok, Int.toNat_natCast, h1]
theorem TRow.taken (ht : P.underlying t = some (.slice e)) (hsz : (P.info? e).map (·.size) = some 1) (h : TRow K w e (.slice q n c) xs) (i : Nat) (hi : i ≤ xs.length) :
    ∃ q' c', (∀ W, (Instr.slice t (.slice q n c) none (some (.int .i64 (i : Int))) none).run P W = .ok (.slice q' i c') W) ∧ TRow K w e (.slice q' i c') (xs.take i) ∧ (∀ k, (Value.slice q' i c').ownBlock = some k → (Value.slice q n c).ownBlock = some k) := by
  obtain ⟨q0, c0, e0, hn0, hc0⟩ := h.shape
  simp only [Value.slice.injEq] at e0
  obtain ⟨rfl, rfl, rfl⟩ := e0
  obtain ⟨q', c', h1, h2, h3⟩ := h.part 0 i (Nat.zero_le _) hi
  refine ⟨q', c', fun W => ?_, by rw [List.drop_zero] at h2; exact h2, h3⟩
  have := run_slice_h (P := P) W t q xs.length c (by rw [elem_of ht]; exact ht) .i64 (i : Int) (by omega) (by omega)
  rw [this, size_run hsz ht]
  simp only [Result.andThen_ok, Int.toNat_natCast, h1]
  rfl
theorem TRecs.row {v : Value} {ls : List (List UInt8)} (h : TRecs K w v ls) : ∃ vs : List Value, vs.length = ls.length ∧ TRow K w 27 v vs := let ⟨vs, h1, h2, _⟩ := h; ⟨vs, h1, h2⟩
/-- A part of a row of texts. -/
theorem TRecs.part {v v' : Value} {ls : List (List UInt8)} {vs : List Value} (h : TRecs K w v ls) (hv : TRow K w 27 v vs) (l m : Nat) (hlm : l + m ≤ ls.length) (h2 : TRow K w 27 v' ((vs.drop l).take m)) : TRecs K w v' ((ls.drop l).take m) := by
  obtain ⟨vs0, a1, a2, a3⟩ := h
  have hvv : vs0 = vs := by
    rcases a2.2 with ⟨e1, e2⟩ | ⟨k, off, cap, cur, e1, e3, _, _, _, e7⟩
    · rcases hv.2 with ⟨f1, f2⟩ | ⟨k', off', cap', cur', f1, _⟩
      · rw [e2, f2]
      · rw [e1] at f1; cases f1
    · rcases hv.2 with ⟨f1, f2⟩ | ⟨k', off', cap', cur', f1, f3, _, _, _, f7⟩
      · rw [e1] at f1; cases f1
      · rw [e1] at f1
        simp only [Value.slice.injEq, Option.some.injEq, Addr.mk.injEq, and_true] at f1
        obtain ⟨⟨rfl, rfl⟩, hl, _⟩ := f1
        apply List.ext_getElem hl
        intro i hi1 hi2
        have q1 := e7 i _ (List.getElem?_eq_getElem hi1)
        have q2 := f7 i _ (List.getElem?_eq_getElem hi2)
        rw [q1] at q2
        simpa using q2
  subst hvv
  refine ⟨_, by simp; omega, h2, fun j hj => ?_⟩
  have hj' : j < m ∧ l + j < ls.length := by simp at hj; omega
  obtain ⟨t, c1, c2, c3⟩ := a3 (l + j) hj'.2
  have e1 : ((ls.drop l).take m)[j] = ls[l + j] := by simp
  rw [e1]
  exact ⟨t, by rw [List.getElem?_take_of_lt hj'.1, List.getElem?_drop]; exact c1, c2, c3⟩

variable {g : Nat} {dp lp lp' : Value} {b b' : BK} {rv tv av rv' tv' av' : Value}
/-- A book whose variable was written anew. -/
theorem BAt.anew (h : BAt K w g dp lp b rv tv av) (hb : w'.heap[g]? = some (.cells (bookC dp lp' b' rv' tv' av') 39 (0, 0))) (hs : w.heap.size ≤ w'.heap.size) (hk : ∀ k, k ≠ g → k < w.heap.size → w'.heap[k]? = w.heap[k]?)
    (hr : TRecs K w rv' b'.recs) (ht : TRow K w 35 tv' (b'.turns.map U64)) (ha : TRow K w 35 av' (b'.ages.map U64)) (h2 : ∀ k, tv'.ownBlock = some k → av'.ownBlock ≠ some k) : BAt K w' g dp lp' b' rv' tv' av' where
  blk := hb
  recs := hr.stays (fun k hK hc => hk k (fun e => by
    rcases hc with ⟨cur, hc⟩ | hc
    · rw [e, h.blk] at hc; cases hc
    · obtain ⟨vs, _, h4, _⟩ := hr
      obtain ⟨cur, hh⟩ := h4.kind k hc
      rw [e, h.blk] at hh; cases hh) (h.lt k hK))
  turns := ht.stays (fun k e => hk k (fun e2 => by obtain ⟨cur, hh⟩ := ht.kind k e; rw [e2, h.blk] at hh; cases hh) (h.lt k (ht.1 k e)))
  ages := ha.stays (fun k e => hk k (fun e2 => by obtain ⟨cur, hh⟩ := ha.kind k e; rw [e2, h.blk] at hh; cases hh) (h.lt k (ha.1 k e)))
  two := h2
  fg := h.fg
  lt := fun k hK => Nat.lt_of_lt_of_le (h.lt k hK) hs
end

/-- The book behind a freeing. -/
def BK.dropB (b : BK) (i to : Nat) : BK := { b with first := to, recs := b.recs.drop i, turns := b.turns.drop i, ages := b.ages.drop i, safe := b.safe - i }
/-- The turn at which the record i begins. -/
def BK.turn (b : BK) (i : Nat) : Nat := b.turns.getD i b.next

theorem Book.lands {F G K : Nat → Prop} {w : World} {g : Nat} {lp dp : Value} {s : DK} {L : LG} {b : BK} {rv tv av : Value} (h : Book F G K w g lp dp s L b rv tv av) (i : Nat) (hi : i ≤ b.recs.length) : Lands L.starts (b.turn i) i ∧ L.begins (b.turn i) := by
  obtain ⟨_, _, _, R⟩ := h.both.log
  have hs := R.ok.sorted
  have hlt := R.ok.turns
  have h1 := h.tl
  have h2 := h.al
  have hsl : L.starts.length = b.recs.length := by rw [h.starts, List.length_zip]; omega
  have hget : ∀ j (hj : j < L.starts.length), L.starts[j].1 = b.turns.getD j b.next := by
    intro j hj
    have hj2 : j < b.turns.length := by omega
    have e := h.starts
    rw [List.getD_eq_getElem?_getD, List.getElem?_eq_getElem hj2]
    simp [e]
  unfold BK.turn
  by_cases hil : i < b.recs.length
  · have hi2 : i < L.starts.length := by omega
    refine ⟨⟨by omega, fun j hj hji => ?_, fun j hj hij => ?_⟩, Or.inl ⟨L.starts[i], List.getElem_mem hi2, hget i hi2⟩⟩
    · rw [← hget i hi2]
      exact List.pairwise_iff_getElem.1 hs j i hj hi2 hji
    · rw [← hget i hi2]
      rcases Nat.lt_or_ge i j with hlt2 | hge
      · exact Nat.le_of_lt (List.pairwise_iff_getElem.1 hs i j hi2 hj hlt2)
      · have : i = j := by omega
        subst this
        exact Nat.le_refl _
  · have hie : i = b.recs.length := by omega
    have e : b.turns.getD i b.next = b.next := by
      rw [List.getD_eq_getElem?_getD, List.getElem?_eq_none (by omega)]
      rfl
    rw [e]
    refine ⟨⟨by omega, fun j hj _ => ?_, fun j hj hij => by omega⟩, Or.inr h.next.symm⟩
    rw [← h.next]
    exact (hlt _ (List.getElem_mem hj)).2.1

/-- Several cells of a variable are set. -/
def sets (w : World) (g : Nat) (l : List (Nat × Value)) : World := l.foldl (fun w p => w.setCell ⟨g, p.1, none⟩ p.2) w
theorem sets_block (g e : Nat) : ∀ (l : List (Nat × Value)) (w : World) (cur : Array Value), w.heap[g]? = some (.cells cur e (0, 0)) → (sets w g l).heap[g]? = some (.cells (l.foldl (fun c p => c.setIfInBounds p.1 p.2) cur) e (0, 0))
  | [], _, _, h => h
  | p :: l, w, cur, h => sets_block g e l _ _ (heap_setCell_same w g p.1 cur _ p.2 h)
theorem sets_other (g : Nat) : ∀ (l : List (Nat × Value)) (w : World) (k : Nat), k ≠ g → (sets w g l).heap[k]? = w.heap[k]?
  | [], _, _, _ => rfl
  | _ :: l, _, k, h => (sets_other g l _ k h).trans (Below.heap_setCell _ _ _ _ h)
theorem sets_keep (g : Nat) : ∀ (l : List (Nat × Value)) (w : World), Keep (fun k => k = g) w (sets w g l)
  | [], w => Keep.refl _ w
  | p :: l, w => ((Keep.refl _ w).sset (F := fun k => k = g) rfl p.2).trans (sets_keep g l _) (fun _ h => Or.inl h)

theorem Book.freed {F G K : Nat → Prop} {w w1 : World} {g : Nat} {lp dp : Value} {s : DK} {L : LG} {b : BK} {rv tv av rv' tv' av' : Value} {i to : Nat} (h : Book F G K w g lp dp s L b rv tv av) (hl : Lands L.starts to i) (hi : i ≤ b.recs.length) (hl1 : LRep G w1 lp dp 256 (L.free to)) (k1 : Keep G w w1)
    {vs : List Value} (hv : TRow K w 27 rv vs) (t1 : TRow K w 27 rv' (vs.drop i)) (t2 : TRow K w 35 tv' ((b.turns.map U64).drop i)) (t3 : TRow K w 35 av' ((b.ages.map U64).drop i)) (o2 : ∀ k, tv'.ownBlock = some k → tv.ownBlock = some k) (o3 : ∀ k, av'.ownBlock = some k → av.ownBlock = some k) :
    Book F G K ((sets w1 g [(15, .int .u64 (to : Int)), (12, rv'), (13, tv'), (14, av'), (17, .int .i64 ((b.safe - i : Nat) : Int))]).drew) g lp dp s (L.free to) (b.dropB i to) rv' tv' av' ∧ Keep (all3 F G K) w ((sets w1 g [(15, .int .u64 (to : Int)), (12, rv'), (13, tv'), (14, av'), (17, .int .i64 ((b.safe - i : Nat) : Int))]).drew) := by
  obtain ⟨l, hlst⟩ : ∃ l, l = [(15, Value.int .u64 (to : Int)), (12, rv'), (13, tv'), (14, av'), (17, Value.int .i64 ((b.safe - i : Nat) : Int))] := ⟨_, rfl⟩
  have hvl : vs.length = b.recs.length := by
    obtain ⟨vs0, a1, a2, _⟩ := h.at_.recs
    obtain ⟨q, c, e, _⟩ := a2.shape
    obtain ⟨q', c', e', _⟩ := hv.shape
    rw [e] at e'
    simp only [Value.slice.injEq] at e'
    omega
  have hat1 := h.at_.keep k1 h.apG
  have hst : ∀ k, K k → w1.heap[k]? = w.heap[k]? := fun k hk => k1.block k (h.at_.lt k hk) (fun hg => h.apG k hg hk)
  have hrecs : TRecs K w rv' (b.recs.drop i) := by
    have := h.at_.recs.part hv (v' := rv') i (b.recs.length - i) (by omega) (by rw [List.take_of_length_le (by simp; omega)]; exact t1)
    rw [List.take_of_length_le (by simp)] at this
    exact this
  have hblk := sets_block g _ l w1 _ hat1.blk
  have hkp := sets_keep g l w1
  have hbat : BAt K (sets w1 g l) g dp lp (b.dropB i to) rv' tv' av' := by
    refine hat1.anew (by rw [hblk, hlst]; rfl) hkp.size (fun k hk _ => sets_other g l w1 k hk) (hrecs.stays (fun k hk _ => hst k hk)) ?_ ?_ ?_
    · have := t2.stays (w' := w1) (fun k hk => hst k (t2.1 k hk))
      rw [← List.map_drop] at this
      exact this
    · have := t3.stays (w' := w1) (fun k hk => hst k (t3.1 k hk))
      rw [← List.map_drop] at this
      exact this
    · intro k h1 h2
      exact h.at_.two k (o2 k h1) (o3 k h2)
  have hdr : Below (sets w1 g l).heap.size (sets w1 g l) (sets w1 g l).drew := (Below.refl _ _).drew
  have hK2 : Keep K w1 (sets w1 g l) := hkp.weak (fun k hk => by rw [hk]; exact h.at_.fg)
  have hbo : Both F G (sets w1 g l) lp dp 256 s (L.free to) := by
    have hd1 := h.both.dev.stays k1.size (fun k hk => k1.block k (h.both.dev.lt k hk) (h.both.apart k hk))
    exact ⟨hd1.stays hK2.size (fun k hk => hK2.block k (hd1.lt k hk) (h.apF k hk)), hl1.keep hK2 (fun k hk hg => h.apG k hg hk), h.both.apart, h.both.size⟩
  rw [← hlst]
  refine ⟨⟨hbo.below hdr, hbat.below hdr, h.apF, h.apG, rfl, h.next, h.age, ?_, ?_, ?_⟩, ?_⟩
  · show L.starts.dropWhile _ = (b.turns.drop i).zip (b.ages.drop i)
    rw [drop_lands hl, h.starts, List.zip_eq_zipWith, List.zip_eq_zipWith, List.drop_zipWith]
  · show (b.turns.drop i).length = (b.recs.drop i).length
    have := h.tl
    simp
    omega
  · show (b.ages.drop i).length = (b.recs.drop i).length
    have := h.al
    simp
    omega
  · exact ((k1.weak (G := all3 F G K) (fun k hk => Or.inr (Or.inl hk))).trans hK2 (fun k hk => Or.inl (Or.inr (Or.inr hk)))).sdrew

set_option maxRecDepth 20000 in
set_option maxHeartbeats 4000000 in
theorem bfree_any (F G K : Nat → Prop) (g : Nat) (lp dp : Value) (s : DK) (L : LG) (b : BK) (rv tv av : Value) (i : Nat) (w : World) (hB : Book F G K w g lp dp s L b rv tv av) (hi : i ≤ b.recs.length) (hrl : b.recs.length ≤ 100000) (hsf : b.safe ≤ 100000) :
    Calls Try.prog 10 #[.pointer (some ⟨g, 0, none⟩), .int .i64 (i : Int)] w fun e w' => e = .returned (.bool true) ∧ ∃ rv' tv' av', Book F G K w' g lp dp s (L.free (b.turn i)) (b.dropB i (b.turn i)) rv' tv' av' ∧ Keep (all3 F G K) w w' := by
  obtain ⟨hland, hbeg⟩ := hB.lands i hi
  obtain ⟨vs, hvl, hvr⟩ := hB.at_.recs.row
  obtain ⟨rq, rc, hrv, _⟩ := hvr.shape
  subst hrv
  obtain ⟨uq, uc, htv, _⟩ := hB.at_.turns.shape
  subst htv
  obtain ⟨aq, ac, hav, _⟩ := hB.at_.ages.shape
  subst hav
  have htl := hB.tl
  have hal := hB.al
  obtain ⟨⟨_, _, c10, _⟩, ⟨c12, c13, c14⟩, ⟨c15, c16, c17, _⟩, fz⟩ := nineteen_cells hB.at_.blk
  obtain ⟨lg, hlg⟩ : ∃ lg, lp = .pointer (some lg) := by obtain ⟨g, sv, e, _⟩ := hB.both.log; exact ⟨_, e⟩
  subst hlg
  rw [List.length_map] at c13 c14
  have HFR := hide (fun w' (h : LRep G w' (.pointer (some lg)) dp 256 L) => wfree_any G _ dp 256 L (b.turn i) w' h)
  rw [if_pos hbeg, if_pos hbeg] at HFR
  obtain ⟨q1, k1, r1, t1, o1⟩ := hvr.dropped (P := Try.prog) (t := 36) Try.underlying36 (by kernel_rfl) i (by omega)
  obtain ⟨q2, k2, r2, t2, o2⟩ := hB.at_.turns.dropped (P := Try.prog) (t := 37) Try.underlying37 (by kernel_rfl) i (by rw [List.length_map]; omega)
  obtain ⟨q3, k3, r3, t3, o3⟩ := hB.at_.ages.dropped (P := Try.prog) (t := 37) Try.underlying37 (by kernel_rfl) i (by rw [List.length_map]; omega)
  rw [List.length_map] at r2 r3 t2 t3 o2 o3
  have HB := hide hB
  have HT1 := hide t1
  have HT2 := hide t2
  have HT3 := hide t3
  have HO2 := hide o2
  have HO3 := hide o3
  have HVL := hide hvl
  have HVR := hide hvr
  have HTL := hide htl
  have HAL := hide hal
  have HLA := hide hland
  have HI := hide hi
  have hsf2 : (b.safe : Int) ≤ 100000 := by omega
  have hiI : (i : Int) ≤ 100000 := by omega
  have hti : b.turns.length = b.recs.length := htl
  generalize hTO : b.turn i = to at *
  have hto : if i < b.turns.length then to = b.turns.getD i 0 else to = b.next := by
    rw [← hTO]
    unfold BK.turn
    split
    · rename_i hh
      rw [List.getD_eq_getElem?_getD, List.getD_eq_getElem?_getD, List.getElem?_eq_getElem hh]
      rfl
    · rename_i hh
      rw [List.getD_eq_getElem?_getD, List.getElem?_eq_none (by omega)]
      rfl
  clear t1 t2 t3 o1 o2 o3 hvl hvr hal hland hB hTO
  by_cases hlt : i < b.turns.length
  · rw [if_pos hlt] at hto
    obtain ⟨kt, ot, ct, e4, hcell⟩ := (unhide HB).at_.turns.cell i (by rw [List.length_map]; exact hlt)
    simp only [List.length_map, Value.slice.injEq] at e4
    obtain ⟨rfl, _, rfl⟩ := e4
    rw [List.getElem_map] at hcell
    have hgd : b.turns[i] = to := by rw [hto, List.getD_eq_getElem?_getD, List.getElem?_eq_getElem hlt]; rfl
    rw [hgd] at hcell
    unfold U64 at hcell
    have hlI : (i : Int) < (b.turns.length : Int) := by omega
    have hi0 : (0 : Int) ≤ (i : Int) := by omega
    clear hto hgd htl hti hlt hi hrl hsf
    go_enter Try.func10, Try.ntmps10
    go_wp2_with fail
    refine Calls.mono (unhide HFR w (unhide HB).both.log) ?_
    rintro e w1 ⟨rfl, hl1, k1'⟩
    clear hcell hlI hi0
    have hat1 := (unhide HB).at_.keep k1' (unhide HB).apG
    clear c10 c12 c13 c14 c15 c16 c17 fz
    obtain ⟨⟨_, _, c10, _⟩, ⟨c12, c13, c14⟩, ⟨c15, c16, c17, _⟩, fz⟩ := nineteen_cells hat1.blk
    rw [List.length_map] at c13 c14
    have f12 := fz 12
    have f13 := fz 13
    have f14 := fz 14
    have f15 := fz 15
    have f17 := fz 17
    have HL1 := hide hl1
    have HK1 := hide k1'
    clear fz hl1 k1' hat1 HFR
    go_wp2_with fail
    go_region
    go_wp2_with fail
    rw [show max 0 ((b.safe : Int) - (i : Int)) = ((b.safe - i : Nat) : Int) by omega]
    obtain ⟨hbk, hkp⟩ := (unhide HB).freed (unhide HLA) (unhide HI) (unhide HL1) (unhide HK1) (unhide HVR) (unhide HT1) (unhide HT2) (unhide HT3) (fun k h => by rw [List.length_map]; exact unhide HO2 k h) (fun k h => by rw [List.length_map]; exact unhide HO3 k h)
    refine Calls.mono (agree_any G K g dp _ _ _ _ _ _ _ hbk.at_ hbk.both.log hbk.first hbk.next hbk.least) ?_
    rintro e w9 ⟨rfl, b9⟩
    have HEND : Hid (Book F G K w9 g (.pointer (some lg)) dp s (L.free to) (b.dropB i to) (.slice q1 (vs.length - i) k1) (.slice q2 (b.turns.length - i) k2) (.slice q3 (b.ages.length - i) k3) ∧ Keep (all3 F G K) w w9) :=
      ⟨⟨hbk.both.below b9, hbk.at_.below b9, hbk.apF, hbk.apG, hbk.first, hbk.next, hbk.age, hbk.starts, hbk.tl, hbk.al⟩, hkp.trans (Keep.of_below (F := fun _ => False) b9) (fun _ h => h.elim)⟩
    clear hbk hkp b9 c10 c12 c13 c14 c15 c16 c17 f12 f13 f14 f15 f17 r1 r2 r3
    go_wp2_with fail
    go_ret
    exact ⟨rfl, _, _, _, unhide HEND⟩
  · rw [if_neg hlt] at hto
    have hge : ¬ (i : Int) < (b.turns.length : Int) := by omega
    subst hto
    clear htl hti hlt hi hrl hsf
    go_enter Try.func10, Try.ntmps10
    go_wp2_with fail
    refine Calls.mono (unhide HFR w (unhide HB).both.log) ?_
    rintro e w1 ⟨rfl, hl1, k1'⟩
    clear hge
    have hat1 := (unhide HB).at_.keep k1' (unhide HB).apG
    clear c10 c12 c13 c14 c15 c16 c17 fz
    obtain ⟨⟨_, _, c10, _⟩, ⟨c12, c13, c14⟩, ⟨c15, c16, c17, _⟩, fz⟩ := nineteen_cells hat1.blk
    rw [List.length_map] at c13 c14
    have f12 := fz 12
    have f13 := fz 13
    have f14 := fz 14
    have f15 := fz 15
    have f17 := fz 17
    have HL1 := hide hl1
    have HK1 := hide k1'
    clear fz hl1 k1' hat1 HFR
    go_wp2_with fail
    go_region
    go_wp2_with fail
    rw [show max 0 ((b.safe : Int) - (i : Int)) = ((b.safe - i : Nat) : Int) by omega]
    obtain ⟨hbk, hkp⟩ := (unhide HB).freed (unhide HLA) (unhide HI) (unhide HL1) (unhide HK1) (unhide HVR) (unhide HT1) (unhide HT2) (unhide HT3) (fun k h => by rw [List.length_map]; exact unhide HO2 k h) (fun k h => by rw [List.length_map]; exact unhide HO3 k h)
    refine Calls.mono (agree_any G K g dp _ _ _ _ _ _ _ hbk.at_ hbk.both.log hbk.first hbk.next hbk.least) ?_
    rintro e w9 ⟨rfl, b9⟩
    have HEND : Hid (Book F G K w9 g (.pointer (some lg)) dp s (L.free b.next) (b.dropB i b.next) (.slice q1 (vs.length - i) k1) (.slice q2 (b.turns.length - i) k2) (.slice q3 (b.ages.length - i) k3) ∧ Keep (all3 F G K) w w9) :=
      ⟨⟨hbk.both.below b9, hbk.at_.below b9, hbk.apF, hbk.apG, hbk.first, hbk.next, hbk.age, hbk.starts, hbk.tl, hbk.al⟩, hkp.trans (Keep.of_below (F := fun _ => False) b9) (fun _ h => h.elim)⟩
    clear hbk hkp b9 c10 c12 c13 c14 c15 c16 c17 f12 f13 f14 f15 f17 r1 r2 r3
    go_wp2_with fail
    go_ret
    exact ⟨rfl, _, _, _, unhide HEND⟩
end Go.Proofs.Ytdpoiieblbmofaa
