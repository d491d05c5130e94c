/- Texts of ours, one behind the other: WalLaw7, WalInv3, WalLaw8, WalLaw9, WalMake, WalFall. -/
import Derived.Test.YtpkpjmebkikgdaaGreatG4
import Derived.Test.YtpkpjmebkikgdaaGreatG5
import Derived.Test.YtpkpjmebkikgdaaGreatG31
import Derived.Test.YtpkpjmebkikgdaaGreatG33
/- The statements of layer 7: slices of a book's rows; a book is freed up to a record. -/
namespace Go.Proofs.YtpkpjmebkikgdaaGreat
open Go.RowKit

section
variable {P : Program} {K : Nat → Prop} {w w' : World} {t e : TypeId} {q : Option Addr} {n c : Nat} {xs : List Value}
theorem size_run (hsz : (P.info? e).map (·.size) = some 1) (ht : P.underlying t = some (.slice e)) (W : World) : (sizeOf (P.elem t)).run P W = .ok 1 W := by
  rw [elem_of ht]
  cases hi : P.info? e with
  | none => rw [hi] at hsz; cases hsz
  | some i => rw [hi] at hsz; simp at hsz; simp [sizeOf, typeInfo, hi, hsz]
theorem TRow.part (h : TRow K w e (.slice q n c) xs) (l m : Nat) (hl : l ≤ m) (hm : m ≤ xs.length) :
    ∃ q' c', sliced q l m c 1 = .slice q' (m - l) c' ∧ TRow K w e (.slice q' (m - l) c') ((xs.drop l).take (m - l)) ∧ (∀ k, (Value.slice q' (m - l) c').ownBlock = some k → (Value.slice q n c).ownBlock = some k) := by
  have hlen : ((xs.drop l).take (m - l)).length = m - l := by simp; omega
  rcases h.2 with ⟨e1, rfl⟩ | ⟨k, off, cap, cur, e1, h3, h4, h5, h6, h7⟩
  · simp only [Value.slice.injEq] at e1
    obtain ⟨rfl, rfl, rfl⟩ := e1
    have hm0 : m = 0 := by simpa using hm
    have hl0 : l = 0 := by omega
    subst hm0 hl0
    exact ⟨none, 0, rfl, by simpa using TRow.nil K w e, fun k hk => hk⟩
  · simp only [Value.slice.injEq] at e1
    obtain ⟨rfl, rfl, rfl⟩ := e1
    by_cases hcl : c = l
    · have hml : m = l := by omega
      subst hml hcl
      refine ⟨some ⟨k, off, none⟩, 0, by simp [sliced], ⟨fun k' hk' => h.1 k' hk', Or.inr ⟨k, off, 0, cur, by simp, h3, by simp, by omega, by omega, ?_⟩⟩, fun k' hk' => hk'⟩
      intro j u hu
      simp at hu
    · refine ⟨some ⟨k, off + l, none⟩, c - l, by unfold sliced; rw [if_neg hcl, Nat.mul_one, Option.map_some, Addr.add_lit], ⟨fun k' hk' => h.1 k' hk', Or.inr ⟨k, off + l, c - l, cur, by rw [hlen], h3, by rw [hlen]; omega, by omega, by omega, ?_⟩⟩, fun k' hk' => hk'⟩
      intro j u hu
      have hj : j < m - l := by
        have := (List.getElem?_eq_some_iff.1 hu).1
        omega
      rw [List.getElem?_take_of_lt hj, List.getElem?_drop] at hu
      have := h7 (l + j) u hu
      rw [Nat.add_assoc]
      exact this
theorem TRow.dropped (ht : P.underlying t = some (.slice e)) (hsz : (P.info? e).map (·.size) = some 1) (h : TRow K w e (.slice q n c) xs) (i : Nat) (hi : i ≤ xs.length) :
    ∃ q' c', (∀ W, (Instr.slice t (.slice q n c) (some (.int .i64 (i : Int))) none none).run P W = .ok (.slice q' (xs.length - i) c') W) ∧ TRow K w e (.slice q' (xs.length - i) c') (xs.drop i) ∧ (∀ k, (Value.slice q' (xs.length - i) c').ownBlock = some k → (Value.slice q n c).ownBlock = some k) := by
  obtain ⟨q0, c0, e0, hn0, hc0⟩ := h.shape
  simp only [Value.slice.injEq] at e0
  obtain ⟨rfl, rfl, rfl⟩ := e0
  obtain ⟨q', c', h1, h2, h3⟩ := h.part i xs.length hi (Nat.le_refl _)
  refine ⟨q', c', fun W => ?_, by rw [List.take_of_length_le (by simp)] at h2; exact h2, h3⟩
  have := run_slice_l (P := P) W t q xs.length c (by rw [elem_of ht]; exact ht) .i64 (i : Int) (by omega) (by omega)
  rw [this, size_run hsz ht]
  simp only [Result.andThen_ok, Int.toNat_natCast, h1]
theorem TRow.taken (ht : P.underlying t = some (.slice e)) (hsz : (P.info? e).map (·.size) = some 1) (h : TRow K w e (.slice q n c) xs) (i : Nat) (hi : i ≤ xs.length) :
    ∃ q' c', (∀ W, (Instr.slice t (.slice q n c) none (some (.int .i64 (i : Int))) none).run P W = .ok (.slice q' i c') W) ∧ TRow K w e (.slice q' i c') (xs.take i) ∧ (∀ k, (Value.slice q' i c').ownBlock = some k → (Value.slice q n c).ownBlock = some k) := by
  obtain ⟨q0, c0, e0, hn0, hc0⟩ := h.shape
  simp only [Value.slice.injEq] at e0
  obtain ⟨rfl, rfl, rfl⟩ := e0
  obtain ⟨q', c', h1, h2, h3⟩ := h.part 0 i (Nat.zero_le _) hi
  refine ⟨q', c', fun W => ?_, by rw [List.drop_zero] at h2; exact h2, h3⟩
  have := run_slice_h (P := P) W t q xs.length c (by rw [elem_of ht]; exact ht) .i64 (i : Int) (by omega) (by omega)
  rw [this, size_run hsz ht]
  simp only [Result.andThen_ok, Int.toNat_natCast, h1]
  rfl
theorem TRecs.row {v : Value} {ls : List (List UInt8)} (h : TRecs K w v ls) : ∃ vs : List Value, vs.length = ls.length ∧ TRow K w 27 v vs := let ⟨vs, h1, h2, _⟩ := h; ⟨vs, h1, h2⟩
/-- A part of a row of texts. -/
theorem TRecs.part {v v' : Value} {ls : List (List UInt8)} {vs : List Value} (h : TRecs K w v ls) (hv : TRow K w 27 v vs) (l m : Nat) (hlm : l + m ≤ ls.length) (h2 : TRow K w 27 v' ((vs.drop l).take m)) : TRecs K w v' ((ls.drop l).take m) := by
  obtain ⟨vs0, a1, a2, a3⟩ := h
  have hvv : vs0 = vs := by
    rcases a2.2 with ⟨e1, e2⟩ | ⟨k, off, cap, cur, e1, e3, _, _, _, e7⟩
    · rcases hv.2 with ⟨f1, f2⟩ | ⟨k', off', cap', cur', f1, _⟩
      · rw [e2, f2]
      · rw [e1] at f1; cases f1
    · rcases hv.2 with ⟨f1, f2⟩ | ⟨k', off', cap', cur', f1, f3, _, _, _, f7⟩
      · rw [e1] at f1; cases f1
      · rw [e1] at f1
        simp only [Value.slice.injEq, Option.some.injEq, Addr.mk.injEq, and_true] at f1
        obtain ⟨⟨rfl, rfl⟩, hl, _⟩ := f1
        apply List.ext_getElem hl
        intro i hi1 hi2
        have q1 := e7 i _ (List.getElem?_eq_getElem hi1)
        have q2 := f7 i _ (List.getElem?_eq_getElem hi2)
        rw [q1] at q2
        simpa using q2
  subst hvv
  refine ⟨_, by simp; omega, h2, fun j hj => ?_⟩
  have hj' : j < m ∧ l + j < ls.length := by simp at hj; omega
  obtain ⟨t, c1, c2, c3⟩ := a3 (l + j) hj'.2
  have e1 : ((ls.drop l).take m)[j] = ls[l + j] := by simp
  rw [e1]
  exact ⟨t, by rw [List.getElem?_take_of_lt hj'.1, List.getElem?_drop]; exact c1, c2, c3⟩

variable {g : Nat} {dp lp lp' : Value} {b b' : BK} {rv tv av rv' tv' av' : Value}
/-- A book whose variable was written anew. -/
theorem BAt.anew (h : BAt K w g dp lp b rv tv av) (hb : w'.heap[g]? = some (.cells (bookC dp lp' b' rv' tv' av') 40 (0, 0))) (hs : w.heap.size ≤ w'.heap.size) (hk : ∀ k, k ≠ g → k < w.heap.size → w'.heap[k]? = w.heap[k]?)
    (hr : TRecs K w rv' b'.recs) (ht : TRow K w 36 tv' (b'.turns.map U64)) (ha : TRow K w 36 av' (b'.ages.map U64)) (h2 : ∀ k, tv'.ownBlock = some k → av'.ownBlock ≠ some k) : BAt K w' g dp lp' b' rv' tv' av' where
  blk := hb
  recs := hr.stays (fun k hK hc => hk k (fun e => by
    rcases hc with ⟨cur, hc⟩ | hc
    · rw [e, h.blk] at hc; cases hc
    · obtain ⟨vs, _, h4, _⟩ := hr
      obtain ⟨cur, hh⟩ := h4.kind k hc
      rw [e, h.blk] at hh; cases hh) (h.lt k hK))
  turns := ht.stays (fun k e => hk k (fun e2 => by obtain ⟨cur, hh⟩ := ht.kind k e; rw [e2, h.blk] at hh; cases hh) (h.lt k (ht.1 k e)))
  ages := ha.stays (fun k e => hk k (fun e2 => by obtain ⟨cur, hh⟩ := ha.kind k e; rw [e2, h.blk] at hh; cases hh) (h.lt k (ha.1 k e)))
  two := h2
  fg := h.fg
  lt := fun k hK => Nat.lt_of_lt_of_le (h.lt k hK) hs
end

/-- The book behind a freeing. -/
def BK.dropB (b : BK) (i to : Nat) : BK := { b with first := to, recs := b.recs.drop i, turns := b.turns.drop i, ages := b.ages.drop i, safe := b.safe - i }
/-- The turn at which the record i begins. -/
def BK.turn (b : BK) (i : Nat) : Nat := b.turns.getD i b.next

theorem Book.lands {F G K : Nat → Prop} {w : World} {g : Nat} {lp dp : Value} {s : DK} {L : LG} {b : BK} {rv tv av : Value} (h : Book F G K w g lp dp s L b rv tv av) (i : Nat) (hi : i ≤ b.recs.length) : Lands L.starts (b.turn i) i ∧ L.begins (b.turn i) := by
  obtain ⟨_, _, _, R⟩ := h.both.log
  have hs := R.ok.sorted
  have hlt := R.ok.turns
  have h1 := h.tl
  have h2 := h.al
  have hsl : L.starts.length = b.recs.length := by rw [h.starts, List.length_zip]; omega
  have hget : ∀ j (hj : j < L.starts.length), L.starts[j].1 = b.turns.getD j b.next := by
    intro j hj
    have hj2 : j < b.turns.length := by omega
    have e := h.starts
    rw [List.getD_eq_getElem?_getD, List.getElem?_eq_getElem hj2]
    simp [e]
  unfold BK.turn
  by_cases hil : i < b.recs.length
  · have hi2 : i < L.starts.length := by omega
    refine ⟨⟨by omega, fun j hj hji => ?_, fun j hj hij => ?_⟩, Or.inl ⟨L.starts[i], List.getElem_mem hi2, hget i hi2⟩⟩
    · rw [← hget i hi2]
      exact List.pairwise_iff_getElem.1 hs j i hj hi2 hji
    · rw [← hget i hi2]
      rcases Nat.lt_or_ge i j with hlt2 | hge
      · exact Nat.le_of_lt (List.pairwise_iff_getElem.1 hs i j hi2 hj hlt2)
      · have : i = j := by omega
        subst this
        exact Nat.le_refl _
  · have hie : i = b.recs.length := by omega
    have e : b.turns.getD i b.next = b.next := by
      rw [List.getD_eq_getElem?_getD, List.getElem?_eq_none (by omega)]
      rfl
    rw [e]
    refine ⟨⟨by omega, fun j hj _ => ?_, fun j hj hij => by omega⟩, Or.inr h.next.symm⟩
    rw [← h.next]
    exact (hlt _ (List.getElem_mem hj)).2.1

/-- Several cells of a variable are set. -/
def sets (w : World) (g : Nat) (l : List (Nat × Value)) : World := l.foldl (fun w p => w.setCell ⟨g, p.1, none⟩ p.2) w
theorem sets_block (g e : Nat) : ∀ (l : List (Nat × Value)) (w : World) (cur : Array Value), w.heap[g]? = some (.cells cur e (0, 0)) → (sets w g l).heap[g]? = some (.cells (l.foldl (fun c p => c.setIfInBounds p.1 p.2) cur) e (0, 0))
  | [], _, _, h => h
  | p :: l, w, cur, h => sets_block g e l _ _ (heap_setCell_same w g p.1 cur _ p.2 h)
theorem sets_other (g : Nat) : ∀ (l : List (Nat × Value)) (w : World) (k : Nat), k ≠ g → (sets w g l).heap[k]? = w.heap[k]?
  | [], _, _, _ => rfl
  | _ :: l, _, k, h => (sets_other g l _ k h).trans (Below.heap_setCell _ _ _ _ h)
theorem sets_keep (g : Nat) : ∀ (l : List (Nat × Value)) (w : World), Keep (fun k => k = g) w (sets w g l)
  | [], w => Keep.refl _ w
  | p :: l, w => ((Keep.refl _ w).sset (F := fun k => k = g) rfl p.2).trans (sets_keep g l _) (fun _ h => Or.inl h)

theorem Book.freed {F G K : Nat → Prop} {w w1 : World} {g : Nat} {lp dp : Value} {s : DK} {L : LG} {b : BK} {rv tv av rv' tv' av' : Value} {i to : Nat} (h : Book F G K w g lp dp s L b rv tv av) (hl : Lands L.starts to i) (hi : i ≤ b.recs.length) (hl1 : LRep G w1 lp dp 256 (L.free to)) (k1 : Keep G w w1)
    {vs : List Value} (hv : TRow K w 27 rv vs) (t1 : TRow K w 27 rv' (vs.drop i)) (t2 : TRow K w 36 tv' ((b.turns.map U64).drop i)) (t3 : TRow K w 36 av' ((b.ages.map U64).drop i)) (o2 : ∀ k, tv'.ownBlock = some k → tv.ownBlock = some k) (o3 : ∀ k, av'.ownBlock = some k → av.ownBlock = some k) :
    Book F G K ((sets w1 g [(15, .int .u64 (to : Int)), (12, rv'), (13, tv'), (14, av'), (17, .int .i64 ((b.safe - i : Nat) : Int))]).drew) g lp dp s (L.free to) (b.dropB i to) rv' tv' av' ∧ Keep (all3 F G K) w ((sets w1 g [(15, .int .u64 (to : Int)), (12, rv'), (13, tv'), (14, av'), (17, .int .i64 ((b.safe - i : Nat) : Int))]).drew) := by
  obtain ⟨l, hlst⟩ : ∃ l, l = [(15, Value.int .u64 (to : Int)), (12, rv'), (13, tv'), (14, av'), (17, Value.int .i64 ((b.safe - i : Nat) : Int))] := ⟨_, rfl⟩
  have hvl : vs.length = b.recs.length := by
    obtain ⟨vs0, a1, a2, _⟩ := h.at_.recs
    obtain ⟨q, c, e, _⟩ := a2.shape
    obtain ⟨q', c', e', _⟩ := hv.shape
    rw [e] at e'
    simp only [Value.slice.injEq] at e'
    omega
  have hat1 := h.at_.keep k1 h.apG
  have hst : ∀ k, K k → w1.heap[k]? = w.heap[k]? := fun k hk => k1.block k (h.at_.lt k hk) (fun hg => h.apG k hg hk)
  have hrecs : TRecs K w rv' (b.recs.drop i) := by
    have := h.at_.recs.part hv (v' := rv') i (b.recs.length - i) (by omega) (by rw [List.take_of_length_le (by simp; omega)]; exact t1)
    rw [List.take_of_length_le (by simp)] at this
    exact this
  have hblk := sets_block g _ l w1 _ hat1.blk
  have hkp := sets_keep g l w1
  have hbat : BAt K (sets w1 g l) g dp lp (b.dropB i to) rv' tv' av' := by
    refine hat1.anew (by rw [hblk, hlst]; rfl) hkp.size (fun k hk _ => sets_other g l w1 k hk) (hrecs.stays (fun k hk _ => hst k hk)) ?_ ?_ ?_
    · have := t2.stays (w' := w1) (fun k hk => hst k (t2.1 k hk))
      rw [← List.map_drop] at this
      exact this
    · have := t3.stays (w' := w1) (fun k hk => hst k (t3.1 k hk))
      rw [← List.map_drop] at this
      exact this
    · intro k h1 h2
      exact h.at_.two k (o2 k h1) (o3 k h2)
  have hdr : Below (sets w1 g l).heap.size (sets w1 g l) (sets w1 g l).drew := (Below.refl _ _).drew
  have hK2 : Keep K w1 (sets w1 g l) := hkp.weak (fun k hk => by rw [hk]; exact h.at_.fg)
  have hbo : Both F G (sets w1 g l) lp dp 256 s (L.free to) := by
    have hd1 := h.both.dev.stays k1.size (fun k hk => k1.block k (h.both.dev.lt k hk) (h.both.apart k hk))
    exact ⟨hd1.stays hK2.size (fun k hk => hK2.block k (hd1.lt k hk) (h.apF k hk)), hl1.keep hK2 (fun k hk hg => h.apG k hg hk), h.both.apart, h.both.size⟩
  rw [← hlst]
  refine ⟨⟨hbo.below hdr, hbat.below hdr, h.apF, h.apG, rfl, h.next, h.age, ?_, ?_, ?_⟩, ?_⟩
  · show L.starts.dropWhile _ = (b.turns.drop i).zip (b.ages.drop i)
    rw [drop_lands hl, h.starts, List.zip_eq_zipWith, List.zip_eq_zipWith, List.drop_zipWith]
  · show (b.turns.drop i).length = (b.recs.drop i).length
    have := h.tl
    simp
    omega
  · show (b.ages.drop i).length = (b.recs.drop i).length
    have := h.al
    simp
    omega
  · exact ((k1.weak (G := all3 F G K) (fun k hk => Or.inr (Or.inl hk))).trans hK2 (fun k hk => Or.inl (Or.inr (Or.inr hk)))).sdrew

set_option maxRecDepth 20000 in
set_option maxHeartbeats 4000000 in
theorem bfree_any (F G K : Nat → Prop) (g : Nat) (lp dp : Value) (s : DK) (L : LG) (b : BK) (rv tv av : Value) (i : Nat) (w : World) (hB : Book F G K w g lp dp s L b rv tv av) (hi : i ≤ b.recs.length) (hrl : b.recs.length ≤ 100000) (hsf : b.safe ≤ 100000) :
    Calls Tryz.prog 21 #[.pointer (some ⟨g, 0, none⟩), .int .i64 (i : Int)] w fun e w' => e = .returned (.bool true) ∧ ∃ rv' tv' av', Book F G K w' g lp dp s (L.free (b.turn i)) (b.dropB i (b.turn i)) rv' tv' av' ∧ Keep (all3 F G K) w w' := by
  obtain ⟨hland, hbeg⟩ := hB.lands i hi
  obtain ⟨vs, hvl, hvr⟩ := hB.at_.recs.row
  obtain ⟨rq, rc, hrv, _⟩ := hvr.shape
  subst hrv
  obtain ⟨uq, uc, htv, _⟩ := hB.at_.turns.shape
  subst htv
  obtain ⟨aq, ac, hav, _⟩ := hB.at_.ages.shape
  subst hav
  have htl := hB.tl
  have hal := hB.al
  obtain ⟨⟨_, _, c10, _⟩, ⟨c12, c13, c14⟩, ⟨c15, c16, c17, _⟩, fz⟩ := nineteen_cells hB.at_.blk
  obtain ⟨lg, hlg⟩ : ∃ lg, lp = .pointer (some lg) := by obtain ⟨g, sv, e, _⟩ := hB.both.log; exact ⟨_, e⟩
  subst hlg
  rw [List.length_map] at c13 c14
  have HFR := hide (fun w' (h : LRep G w' (.pointer (some lg)) dp 256 L) => wfree_any G _ dp 256 L (b.turn i) w' h)
  rw [if_pos hbeg, if_pos hbeg] at HFR
  obtain ⟨q1, k1, r1, t1, o1⟩ := hvr.dropped (P := Tryz.prog) (t := 37) Tryz.underlying37 (by kernel_rfl) i (by omega)
  obtain ⟨q2, k2, r2, t2, o2⟩ := hB.at_.turns.dropped (P := Tryz.prog) (t := 38) Tryz.underlying38 (by kernel_rfl) i (by rw [List.length_map]; omega)
  obtain ⟨q3, k3, r3, t3, o3⟩ := hB.at_.ages.dropped (P := Tryz.prog) (t := 38) Tryz.underlying38 (by kernel_rfl) i (by rw [List.length_map]; omega)
  rw [List.length_map] at r2 r3 t2 t3 o2 o3
  have HB := hide hB
  have HT1 := hide t1
  have HT2 := hide t2
  have HT3 := hide t3
  have HO2 := hide o2
  have HO3 := hide o3
  have HVL := hide hvl
  have HVR := hide hvr
  have HTL := hide htl
  have HAL := hide hal
  have HLA := hide hland
  have HI := hide hi
  have hsf2 : (b.safe : Int) ≤ 100000 := by omega
  have hiI : (i : Int) ≤ 100000 := by omega
  have hti : b.turns.length = b.recs.length := htl
  generalize hTO : b.turn i = to at *
  have hto : if i < b.turns.length then to = b.turns.getD i 0 else to = b.next := by
    rw [← hTO]
    unfold BK.turn
    split
    · rename_i hh
      rw [List.getD_eq_getElem?_getD, List.getD_eq_getElem?_getD, List.getElem?_eq_getElem hh]
      rfl
    · rename_i hh
      rw [List.getD_eq_getElem?_getD, List.getElem?_eq_none (by omega)]
      rfl
  clear t1 t2 t3 o1 o2 o3 hvl hvr hal hland hB hTO
  by_cases hlt : i < b.turns.length
  · rw [if_pos hlt] at hto
    obtain ⟨kt, ot, ct, e4, hcell⟩ := (unhide HB).at_.turns.cell i (by rw [List.length_map]; exact hlt)
    simp only [List.length_map, Value.slice.injEq] at e4
    obtain ⟨rfl, _, rfl⟩ := e4
    rw [List.getElem_map] at hcell
    have hgd : b.turns[i] = to := by rw [hto, List.getD_eq_getElem?_getD, List.getElem?_eq_getElem hlt]; rfl
    rw [hgd] at hcell
    unfold U64 at hcell
    have hlI : (i : Int) < (b.turns.length : Int) := by omega
    have hi0 : (0 : Int) ≤ (i : Int) := by omega
    clear hto hgd htl hti hlt hi hrl hsf
    go_enter Tryz.func21, Tryz.ntmps21
    go_wp2_with fail
    refine Calls.mono (unhide HFR w (unhide HB).both.log) ?_
    rintro e w1 ⟨rfl, hl1, k1'⟩
    clear hcell hlI hi0
    have hat1 := (unhide HB).at_.keep k1' (unhide HB).apG
    clear c10 c12 c13 c14 c15 c16 c17 fz
    obtain ⟨⟨_, _, c10, _⟩, ⟨c12, c13, c14⟩, ⟨c15, c16, c17, _⟩, fz⟩ := nineteen_cells hat1.blk
    rw [List.length_map] at c13 c14
    have f12 := fz 12
    have f13 := fz 13
    have f14 := fz 14
    have f15 := fz 15
    have f17 := fz 17
    have HL1 := hide hl1
    have HK1 := hide k1'
    clear fz hl1 k1' hat1 HFR
    go_wp2_with fail
    go_region
    go_wp2_with fail
    rw [show max 0 ((b.safe : Int) - (i : Int)) = ((b.safe - i : Nat) : Int) by omega]
    obtain ⟨hbk, hkp⟩ := (unhide HB).freed (unhide HLA) (unhide HI) (unhide HL1) (unhide HK1) (unhide HVR) (unhide HT1) (unhide HT2) (unhide HT3) (fun k h => by rw [List.length_map]; exact unhide HO2 k h) (fun k h => by rw [List.length_map]; exact unhide HO3 k h)
    refine Calls.mono (agree_any G K g dp _ _ _ _ _ _ _ hbk.at_ hbk.both.log hbk.first hbk.next hbk.least) ?_
    rintro e w9 ⟨rfl, b9⟩
    have HEND : Hid (Book F G K w9 g (.pointer (some lg)) dp s (L.free to) (b.dropB i to) (.slice q1 (vs.length - i) k1) (.slice q2 (b.turns.length - i) k2) (.slice q3 (b.ages.length - i) k3) ∧ Keep (all3 F G K) w w9) :=
      ⟨⟨hbk.both.below b9, hbk.at_.below b9, hbk.apF, hbk.apG, hbk.first, hbk.next, hbk.age, hbk.starts, hbk.tl, hbk.al⟩, hkp.trans (Keep.of_below (F := fun _ => False) b9) (fun _ h => h.elim)⟩
    clear hbk hkp b9 c10 c12 c13 c14 c15 c16 c17 f12 f13 f14 f15 f17 r1 r2 r3
    go_wp2_with fail
    go_ret
    exact ⟨rfl, _, _, _, unhide HEND⟩
  · rw [if_neg hlt] at hto
    have hge : ¬ (i : Int) < (b.turns.length : Int) := by omega
    subst hto
    clear htl hti hlt hi hrl hsf
    go_enter Tryz.func21, Tryz.ntmps21
    go_wp2_with fail
    refine Calls.mono (unhide HFR w (unhide HB).both.log) ?_
    rintro e w1 ⟨rfl, hl1, k1'⟩
    clear hge
    have hat1 := (unhide HB).at_.keep k1' (unhide HB).apG
    clear c10 c12 c13 c14 c15 c16 c17 fz
    obtain ⟨⟨_, _, c10, _⟩, ⟨c12, c13, c14⟩, ⟨c15, c16, c17, _⟩, fz⟩ := nineteen_cells hat1.blk
    rw [List.length_map] at c13 c14
    have f12 := fz 12
    have f13 := fz 13
    have f14 := fz 14
    have f15 := fz 15
    have f17 := fz 17
    have HL1 := hide hl1
    have HK1 := hide k1'
    clear fz hl1 k1' hat1 HFR
    go_wp2_with fail
    go_region
    go_wp2_with fail
    rw [show max 0 ((b.safe : Int) - (i : Int)) = ((b.safe - i : Nat) : Int) by omega]
    obtain ⟨hbk, hkp⟩ := (unhide HB).freed (unhide HLA) (unhide HI) (unhide HL1) (unhide HK1) (unhide HVR) (unhide HT1) (unhide HT2) (unhide HT3) (fun k h => by rw [List.length_map]; exact unhide HO2 k h) (fun k h => by rw [List.length_map]; exact unhide HO3 k h)
    refine Calls.mono (agree_any G K g dp _ _ _ _ _ _ _ hbk.at_ hbk.both.log hbk.first hbk.next hbk.least) ?_
    rintro e w9 ⟨rfl, b9⟩
    have HEND : Hid (Book F G K w9 g (.pointer (some lg)) dp s (L.free b.next) (b.dropB i b.next) (.slice q1 (vs.length - i) k1) (.slice q2 (b.turns.length - i) k2) (.slice q3 (b.ages.length - i) k3) ∧ Keep (all3 F G K) w w9) :=
      ⟨⟨hbk.both.below b9, hbk.at_.below b9, hbk.apF, hbk.apG, hbk.first, hbk.next, hbk.age, hbk.starts, hbk.tl, hbk.al⟩, hkp.trans (Keep.of_below (F := fun _ => False) b9) (fun _ h => h.elim)⟩
    clear hbk hkp b9 c10 c12 c13 c14 c15 c16 c17 f12 f13 f14 f15 f17 r1 r2 r3
    go_wp2_with fail
    go_ret
    exact ⟨rfl, _, _, _, unhide HEND⟩
end Go.Proofs.YtpkpjmebkikgdaaGreat

/- What an opening of the log of 256 sectors reads, by what was written; what appending, syncing and falling make of it. -/
namespace Go.Proofs.YtpkpjmebkikgdaaGreat
open Go.RowKit

theorem lz30 : (lz 256).toNat = 30 := by rw [lz256]; rfl
theorem logN_pos (t : Nat) : (logN 256 t).toNat = pos t := by
  unfold logN pos
  rw [lz30]
  omega
theorem shW_pos (s : DK) : shW s 256 = fun t => s.shown (pos t) := by
  funext t
  unfold shW
  rw [logN_pos]
theorem opened_eq (s : DK) (o p A : Nat) : opened s 256 o p A = recallW (frameW (fun t => s.shown (pos t)) 30 o) A 31 p [] (lg0 o A) := by
  unfold opened
  rw [shW_pos, lz30]
theorem addAll_new {first A e : Nat} {l : List Id} (h : chain first l e) : (lg0 first A).addAll l = ⟨A, first, e, l.map (fun x => (x.first, x.age)), false⟩ := by
  unfold LG.addAll lg0
  simp only [List.nil_append]
  rw [chain_end _ _ _ h]

section
variable {S : Id → Prop} {s s' : DK} {ids : List Id} {first next age safe : Nat}
theorem RInv.opens {l1 l2 : List Id} (h : RInv S s (l1 ++ l2) first next age safe) (h1 : ∀ x ∈ l1, Right s x) (h2 : ∀ z l3, l2 = z :: l3 → ¬ Right s z) (A : Nat) (hA : age < A) :
    ∃ e, chain first l1 e ∧ opened s 256 first (leastOf age (l1 ++ l2)) A = (l1.map Id.r, ⟨A, first, e, l1.map (fun x => (x.first, x.age)), false⟩, 0) ∧ safe ≤ l1.length ∧ (l2 = [] → e = next) ∧ ∀ z l3, l2 = z :: l3 → z.first = e := by
  obtain ⟨e, c1, c2, c3⟩ := h.open h1 h2 A hA [] (lg0 first A) rfl
  obtain ⟨m, d1, d2⟩ := (chain_append _ _ _ _).1 h.links
  have hm : m = e := by rw [← chain_end _ _ _ d1, ← chain_end _ _ _ c1]
  subst hm
  refine ⟨m, c1, ?_, c3, fun e0 => ?_, fun z l3 e0 => ?_⟩
  · rw [opened_eq, c2, addAll_new c1, List.nil_append]
  · rw [e0] at d2; exact d2
  · rw [e0] at d2; exact d2.1

theorem write_shown {s : DK} {a : Int} {b : List UInt8} (hf : s.fell = false) (hn : s.noSuch a = false) (hl : b.length = 512) (k : Nat) : (s.write a b).shown k = if a.toNat = k then b else s.shown k := by
  unfold DK.write
  rw [if_neg (by rw [hf]; decide), if_neg (by rw [hn, hl]; simp)]
  exact shownB_append k _ _ _
theorem write_may {s : DK} {a : Int} {b : List UInt8} {k : Nat} {c : List UInt8} (h : May (s.write a b) k c) : May s k c ∨ (k = a.toNat ∧ c = b) := by
  unfold DK.write at h
  split at h
  · exact Or.inl h
  · split at h
    · exact Or.inl h
    · rcases h with h | h
      · exact Or.inl (Or.inl h)
      · have h2 : (k, c) ∈ s.waits ++ [(a.toNat, b)] := h
        rcases List.mem_append.1 h2 with h2 | h2
        · exact Or.inl (Or.inr h2)
        · simp only [List.mem_singleton, Prod.mk.injEq] at h2
          exact Or.inr h2
/-- What may stand in the sectors behind the writes of a record, all or some first ones. -/
theorem lay_may : ∀ (ls : List (List UInt8)) (s : DK) (t k : Nat) (c : List UInt8), May (layW 256 s t ls).1 k c → May s k c ∨ ∃ i, ∃ h : i < ls.length, k = pos (t + i) ∧ c = sealed 77 (t + i) ls[i]
  | [], s, t, k, c, h => Or.inl h
  | x :: l, s, t, k, c, h => by
    have hfirst : May (s.write (logN 256 t) (sealed 77 t x)) k c → May s k c ∨ ∃ i, ∃ h : i < (x :: l).length, k = pos (t + i) ∧ c = sealed 77 (t + i) (x :: l)[i] := by
      intro h
      rcases write_may h with h1 | ⟨h1, h2⟩
      · exact Or.inl h1
      · exact Or.inr ⟨0, by simp, by rw [h1, logN_pos]; rfl, h2⟩
    unfold layW at h
    split at h
    · exact hfirst h
    · rcases lay_may l _ _ k c h with h1 | ⟨i, hi, h1, h2⟩
      · exact hfirst h1
      · exact Or.inr ⟨i + 1, by simpa using hi, by rw [h1]; congr 1; omega, by rw [h2]; simp only [List.getElem_cons_succ]; congr 1; omega⟩
/-- .. and what is shown, where all were written. -/
theorem lay_shown : ∀ (ls : List (List UInt8)) (s : DK) (t : Nat), s.n = 256 → s.fell = false → (∀ x ∈ ls, x.length ≤ 496) → (layW 256 s t ls).2 = 0 → ls.length ≤ 30 →
    (∀ k, (∀ i, i < ls.length → k ≠ pos (t + i)) → (layW 256 s t ls).1.shown k = s.shown k) ∧ ∀ i (h : i < ls.length), (layW 256 s t ls).1.shown (pos (t + i)) = sealed 77 (t + i) ls[i]
  | [], s, t, _, _, _, _, _ => ⟨fun _ _ => rfl, fun i h => by simp at h⟩
  | x :: l, s, t, hn, hf, hl, he, hlen => by
    have hno := log_there s 256 t fits256 (by rw [hn]; rfl)
    have hln := length_sealed 77 t x (hl x (by simp))
    unfold layW at he ⊢
    split at he
    · rename_i hc; exact absurd he hc
    · rename_i hc
      rw [if_neg hc]
      have hf' : (s.write (logN 256 t) (sealed 77 t x)).fell = false := by
        have h0 : s.writeE (logN 256 t) (sealed 77 t x) = 0 := Decidable.byContradiction hc
        unfold DK.writeE at h0
        rw [if_neg (by rw [hf]; decide), if_neg (by rw [hno, hln]; simp)] at h0
        split at h0
        · simp at h0
        · rename_i ha
          unfold DK.write
          rw [if_neg (by rw [hf]; decide), if_neg (by rw [hno, hln]; simp)]
          show (s.armed == 1) = false
          simp [ha]
      have hsh := fun k => write_shown hf hno hln k
      obtain ⟨a1, a2⟩ := lay_shown l (s.write (logN 256 t) (sealed 77 t x)) (t + 1) (by rw [write_n]; exact hn) hf' (fun y hy => hl y (by simp [hy])) he (by simp at hlen; omega)
      refine ⟨fun k hk => ?_, fun i hi => ?_⟩
      · rw [a1 k (fun i hi e => hk (i + 1) (by simpa using hi) (by rw [e]; congr 1; omega)), hsh, if_neg (by rw [logN_pos]; exact fun e => hk 0 (by simp) e.symm)]
      · cases i with
        | zero =>
          show (layW 256 (s.write (logN 256 t) (sealed 77 t x)) (t + 1) l).1.shown (pos t) = sealed 77 t x
          rw [a1 (pos t) (fun i hi e => by simp at hlen; have := pos_eq e (by omega) (by omega); omega), hsh, if_pos (logN_pos t)]
        | succ i =>
          have := a2 i (by simpa using hi)
          rw [show t + 1 + i = t + (i + 1) by omega] at this
          exact this
theorem cut_get (A C : Nat) (r : List UInt8) (hr : r.length ≤ 8192) : (cutL A C r).length = (Id.mk A C r).cnt ∧ ∀ i (h : i < (cutL A C r).length), sealed 77 (C + i) (cutL A C r)[i] = (Id.mk A C r).sec i := by
  have e : cutL A C r = (framesN A C r).map bytesF := by unfold cutL; rw [if_neg (by omega)]
  have hl := length_frames A C r
  have hc : ((Id.mk A C r).cnt : Int) = countN r.length := (Id.mk A C r).cnt_of
  refine ⟨by rw [e, List.length_map]; omega, fun i h => ?_⟩
  have h2 : i < (framesN A C r).length := by rw [e, List.length_map] at h; exact h
  simp only [e, List.getElem_map, frames_get]
  rfl

/-- A record is appended, wholly or in part. -/
theorem RInv.appends {L : LG} {x : List UInt8} (h : RInv S s ids first next age safe) (hage : L.age = age) (hnx : L.next = next) (hx : x.length ≤ 8192) (hroom : next + (Id.mk age next x).cnt ≤ first + 30) (hb : age < 18446744073709551616) (hn : next + 64 < 9223372036854775808) (hs' : s' = (layW 256 s L.next (cutL L.age L.next x)).1) :
    RInv (fun y => S y ∨ y = ⟨age, next, x⟩) s' (ids ++ [⟨age, next, x⟩]) first (next + (Id.mk age next x).cnt) age safe := by
  obtain ⟨c1, c2⟩ := cut_get age next x hx
  refine h.more ⟨hx, hb, hn⟩ hroom (fun k c hm => ?_)
  rw [hs', hage, hnx] at hm
  rcases lay_may _ _ _ _ _ hm with h1 | ⟨i, hi, h1, h2⟩
  · exact Or.inl h1
  · exact Or.inr ⟨i, by omega, h1, by rw [h2, c2 i hi]⟩
theorem RInv.appended {L : LG} {x : List UInt8} (h : RInv S s ids first next age safe) (hR : ∀ y ∈ ids, Right s y) (hage : L.age = age) (hnx : L.next = next) (hx : x.length ≤ 8192) (hroom : next + (Id.mk age next x).cnt ≤ first + 30) (hsn : s.n = 256) (hf : s.fell = false) (hs' : s' = (layW 256 s L.next (cutL L.age L.next x)).1) (he : (layW 256 s L.next (cutL L.age L.next x)).2 = 0) :
    ∀ y ∈ ids ++ [⟨age, next, x⟩], Right s' y := by
  obtain ⟨c1, c2⟩ := cut_get age next x hx
  rw [hage, hnx] at hs' he
  have hc30 : (cutL age next x).length ≤ 30 := by
    have := chain_le _ _ _ h.links
    omega
  obtain ⟨a1, a2⟩ := lay_shown (cutL age next x) s next hsn hf (cut_short _ _ _) he hc30
  intro y hy i hi
  rw [hs']
  rcases List.mem_append.1 hy with hy | hy
  · have hm := chain_mem _ _ _ h.links y hy
    rw [a1 _ (fun j hj e => by have := pos_eq e (by omega) (by omega); omega)]
    exact hR y hy i hi
  · have hyz : y = ⟨age, next, x⟩ := by simpa using hy
    subst hyz
    have := a2 i (by rw [c1]; exact hi)
    rw [c2 i (by rw [c1]; exact hi)] at this
    exact this
theorem flush_may {s : DK} (hf : s.fell = false) (ha : s.armed ≠ 1) {k : Nat} {c : List UInt8} (h : May s.flush k c) : c = s.shown k := by
  unfold DK.flush at h
  rw [if_neg (by rw [hf]; decide), if_neg ha] at h
  rcases h with h | h
  · rw [h]; exact keepAll_shown k _ _
  · cases h
theorem flush_shown {s : DK} (hf : s.fell = false) (ha : s.armed ≠ 1) (k : Nat) : s.flush.shown k = s.shown k := flush_may hf ha (may_shown _ _)
theorem tick_may {s : DK} {k : Nat} {c : List UInt8} (h : May s.tick k c) : May s k c := h
theorem start_may {s : DK} {k : Nat} {c : List UInt8} (h : May s.start k c) : May s k c := by
  unfold DK.start at h
  split at h
  · rcases h with h | h
    · exact Or.inl h
    · cases h
  · exact h
end
/-- The book's lists are those of the records. -/
structure Lst (b : BK) (ids : List Id) : Prop where
  recs : b.recs = ids.map Id.r
  turns : b.turns = ids.map Id.first
  ages : b.ages = ids.map Id.age
end Go.Proofs.YtpkpjmebkikgdaaGreat

/- The statements of layer 7: a book's log is opened anew. -/
namespace Go.Proofs.YtpkpjmebkikgdaaGreat
open Go.RowKit

theorem BK.least_of {b : BK} {ids : List Id} (h : Lst b ids) : b.least = leastOf b.age ids := by
  unfold BK.least
  rw [h.ages]
  cases ids <;> rfl
theorem book_cells {w : World} {g e : Nat} {a0 a1 a2 a3 a4 a5 a6 a7 a8 a9 a10 a11 a12 a13 a14 a15 a16 a17 a18 : Value} (h : w.heap[g]? = some (.cells #[a0, a1, a2, a3, a4, a5, a6, a7, a8, a9, a10, a11, a12, a13, a14, a15, a16, a17, a18] e (0, 0))) :
    w.cell? ⟨g, 1, none⟩ = some a1 ∧ w.cell? ⟨g, 2, none⟩ = some a2 ∧ w.cell? ⟨g, 3, none⟩ = some a3 ∧ w.cell? ⟨g, 4, none⟩ = some a4 ∧ w.cell? ⟨g, 5, none⟩ = some a5 ∧ w.cell? ⟨g, 6, none⟩ = some a6 ∧ w.cell? ⟨g, 7, none⟩ = some a7 ∧ w.cell? ⟨g, 8, none⟩ = some a8 ∧ w.cell? ⟨g, 9, none⟩ = some a9 := by
  refine ⟨?_, ?_, ?_, ?_, ?_, ?_, ?_, ?_, ?_⟩
  all_goals (rw [cell_of_row w g _ _ e (0, 0) h]; rfl)
theorem TRecs.rows {K : Nat → Prop} {w : World} {v : Value} {ls : List (List UInt8)} (h : TRecs K w v ls) : Rows2 w v ls := by
  obtain ⟨vs, h1, h2, h3⟩ := h
  rcases h2.2 with ⟨rfl, e2⟩ | ⟨k, off, cap, cur, e1, e3, e4, e5, e6, e7⟩
  · rw [e2] at h1
    have : ls = [] := List.eq_nil_of_length_eq_zero (by simpa using h1.symm)
    subst this
    exact Rows2.nil w
  · refine ⟨some ⟨k, off, none⟩, cap, by rw [e1, h1], by omega, e5, (fun h => by cases h), Or.inr ⟨k, off, rfl, fun j hj => ?_⟩⟩
    obtain ⟨t, c1, c2, _⟩ := h3 j hj
    exact ⟨t, e7 j t c1, c2⟩
/-- A book and its log in memory, apart. -/
structure Held (F G K : Nat → Prop) (w : World) (g : Nat) (lp dp : Value) (s : DK) (L : LG) (b : BK) (rv tv av : Value) : Prop where
  both : Both F G w lp dp 256 s L
  at_ : BAt K w g dp lp b rv tv av
  apF : ∀ k, F k → ¬ K k
  apG : ∀ k, G k → ¬ K k
theorem Book.held {F G K : Nat → Prop} {w : World} {g : Nat} {lp dp : Value} {s : DK} {L : LG} {b : BK} {rv tv av : Value} (h : Book F G K w g lp dp s L b rv tv av) : Held F G K w g lp dp s L b rv tv av := ⟨h.both, h.at_, h.apF, h.apG⟩
/-- The book behind an opening that reads its first r records. -/
def BK.takeB (b : BK) (r e sf : Nat) : BK := ⟨b.age + 1, b.recs.take r, b.turns.take r, b.ages.take r, b.first, e, sf, false⟩

theorem twelve_same {w w' : World} {g : Nat} {a0 a1 a2 a3 a4 a5 a6 a7 a8 a9 a11 a15 : Value} (h : w.cell? ⟨g, 0, none⟩ = some a0 ∧ w.cell? ⟨g, 1, none⟩ = some a1 ∧ w.cell? ⟨g, 2, none⟩ = some a2 ∧ w.cell? ⟨g, 3, none⟩ = some a3 ∧ w.cell? ⟨g, 4, none⟩ = some a4 ∧ w.cell? ⟨g, 5, none⟩ = some a5 ∧ w.cell? ⟨g, 6, none⟩ = some a6 ∧ w.cell? ⟨g, 7, none⟩ = some a7 ∧ w.cell? ⟨g, 8, none⟩ = some a8 ∧ w.cell? ⟨g, 9, none⟩ = some a9 ∧ w.cell? ⟨g, 11, none⟩ = some a11 ∧ w.cell? ⟨g, 15, none⟩ = some a15) (hb : Below w.heap.size w w') :
    w'.cell? ⟨g, 0, none⟩ = some a0 ∧ w'.cell? ⟨g, 1, none⟩ = some a1 ∧ w'.cell? ⟨g, 2, none⟩ = some a2 ∧ w'.cell? ⟨g, 3, none⟩ = some a3 ∧ w'.cell? ⟨g, 4, none⟩ = some a4 ∧ w'.cell? ⟨g, 5, none⟩ = some a5 ∧ w'.cell? ⟨g, 6, none⟩ = some a6 ∧ w'.cell? ⟨g, 7, none⟩ = some a7 ∧ w'.cell? ⟨g, 8, none⟩ = some a8 ∧ w'.cell? ⟨g, 9, none⟩ = some a9 ∧ w'.cell? ⟨g, 11, none⟩ = some a11 ∧ w'.cell? ⟨g, 15, none⟩ = some a15 := by
  obtain ⟨h0, h1, h2, h3, h4, h5, h6, h7, h8, h9, h10, h11⟩ := h
  have k : ∀ {p : Addr} {v : Value}, w.cell? p = some v → w'.cell? p = some v := fun hc => (hb.cell (World.block_lt_of_cell? w _ hc)).trans hc
  exact ⟨k h0, k h1, k h2, k h3, k h4, k h5, k h6, k h7, k h8, k h9, k h10, k h11⟩
theorem owns_shape {w : World} {base e sz n : Nat} {v : Value} {xs : List Value} (h : w.ownsRow base e sz v n xs) : ∃ q c, v = .slice q n c := by
  rcases h.2 with ⟨e1, e2⟩ | ⟨g, cap, cur, e1, _⟩
  · exact ⟨none, 0, by rw [e1, e2]⟩
  · exact ⟨_, cap, e1⟩
theorem LRep.ptr {G : Nat → Prop} {w : World} {lp dp : Value} {n : Int} {L : LG} (h : LRep G w lp dp n L) : ∃ lg, lp = .pointer (some lg) := by obtain ⟨g, sv, e, _⟩ := h; exact ⟨_, e⟩
/-- A book whose variable was written anew, with another log. -/
theorem Book.another {F G' K : Nat → Prop} {w : World} {g : Nat} {lp lp' dp : Value} {s : DK} {L' : LG} {b b' : BK} {rv tv av rv' tv' av' : Value} (hat : BAt K w g dp lp b rv tv av) (hdev : DRep F w dp s) (hlog : LRep G' w lp' dp 256 L') (hn : (s.n : Int) = 256) (apF : ∀ k, F k → ¬ K k) (apG : ∀ k, G' k → ¬ K k) (apart : ∀ k, F k → ¬ G' k) (l : List (Nat × Value))
    (hcell : l.foldl (fun c p => c.setIfInBounds p.1 p.2) (bookC dp lp b rv tv av) = bookC dp lp' b' rv' tv' av') (hr : TRecs K w rv' b'.recs) (ht : TRow K w 36 tv' (b'.turns.map U64)) (ha : TRow K w 36 av' (b'.ages.map U64)) (h2 : ∀ k, tv'.ownBlock = some k → av'.ownBlock ≠ some k)
    (e1 : L'.first = b'.first) (e2 : L'.next = b'.next) (e3 : L'.age = b'.age) (e4 : L'.starts = b'.turns.zip b'.ages) (e5 : b'.turns.length = b'.recs.length) (e6 : b'.ages.length = b'.recs.length) :
    Book F G' K ((sets w g l).drew) g lp' dp s L' b' rv' tv' av' ∧ Keep K w ((sets w g l).drew) := by
  have hblk := sets_block g _ l w _ hat.blk
  have hkp := sets_keep g l w
  have hbat : BAt K (sets w g l) g dp lp' b' rv' tv' av' := hat.anew (by rw [hblk, hcell]) hkp.size (fun k hk _ => sets_other g l w k hk) hr ht ha h2
  have hdr : Below (sets w g l).heap.size (sets w g l) (sets w g l).drew := (Below.refl _ _).drew
  have hK2 : Keep K w (sets w g l) := hkp.weak (fun k hk => by rw [hk]; exact hat.fg)
  have hbo : Both F G' (sets w g l) lp' dp 256 s L' := ⟨hdev.stays hK2.size (fun k hk => hK2.block k (hdev.lt k hk) (apF k hk)), hlog.keep hK2 (fun k hk hg => apG k hg hk), apart, hn⟩
  exact ⟨⟨hbo.below hdr, hbat.below hdr, apF, apG, e1, e2, e3, e4, e5, e6⟩, hK2.sdrew⟩

/-- What is so behind an opening. -/
def OpenPost (F K : Nat → Prop) (w w' : World) (g : Nat) (dp : Value) (s : DK) (b : BK) (l1 : List Id) (e sf : Nat) : Prop :=
  ∃ G' lp' rv' tv' av', Book F G' K w' g lp' dp s ⟨b.age + 1, b.first, e, l1.map (fun x => (x.first, x.age)), false⟩ (b.takeB l1.length e sf) rv' tv' av' ∧ (∀ k, G' k → w.heap.size ≤ k) ∧ Keep K w w'
theorem OpenPost.mk {F K G' : Nat → Prop} {w w' : World} {g : Nat} {dp lp' rv' tv' av' : Value} {s : DK} {b : BK} {l1 : List Id} {e sf : Nat} (h : Book F G' K w' g lp' dp s ⟨b.age + 1, b.first, e, l1.map (fun x => (x.first, x.age)), false⟩ (b.takeB l1.length e sf) rv' tv' av' ∧ (∀ k, G' k → w.heap.size ≤ k) ∧ Keep K w w') : OpenPost F K w w' g dp s b l1 e sf := ⟨_, _, _, _, _, h⟩

set_option maxRecDepth 20000 in
set_option maxHeartbeats 8000000 in
theorem bopen_live (F G K : Nat → Prop) (g : Nat) (lp dp : Value) (s : DK) (L : LG) (b : BK) (rv tv av : Value) (l1 l2 : List Id) (e : Nat) (fell : Bool) (w : World) (hB : Held F G K w g lp dp s L b rv tv av) (hd : b.dead = false) (hup : s.fell = false)
    (hl : Lst b (l1 ++ l2)) (hop : opened s 256 b.first b.least (b.age + 1) = (l1.map Id.r, ⟨b.age + 1, b.first, e, l1.map (fun x => (x.first, x.age)), false⟩, 0)) (hsf : b.safe ≤ l1.length) (he1 : l2 = [] → e = b.next) (he2 : ∀ z l3, l2 = z :: l3 → z.first = e)
    (hage : b.age ≤ 1000000) (hle : b.least ≤ b.age + 1) (hfi : b.first ≤ 1000000) (hrl : (l1 ++ l2).length ≤ 100) :
    Calls Tryz.prog 11 #[.pointer (some ⟨g, 0, none⟩), .bool fell] w fun x w' => x = .returned (.bool true) ∧ OpenPost F K w w' g dp s b l1 e (if fell = true then l1.length else b.safe) := by
  obtain ⟨vs, hvl, hvr⟩ := hB.at_.recs.row
  obtain ⟨rq, rc, hrv, _⟩ := hvr.shape
  subst hrv
  obtain ⟨uq, uc, htv, _⟩ := hB.at_.turns.shape
  subst htv
  obtain ⟨aq, ac, hav, _⟩ := hB.at_.ages.shape
  subst hav
  obtain ⟨dg, rfl⟩ := hB.both.dev.ptr
  obtain ⟨lg, hlg⟩ : ∃ lg, lp = .pointer (some lg) := by obtain ⟨g, sv, e, _⟩ := hB.both.log; exact ⟨_, e⟩
  subst hlg
  obtain ⟨rk, hrk⟩ : ∃ rk, rk = l1.length := ⟨_, rfl⟩
  have hlr : b.recs.length = rk + l2.length := by rw [hl.recs, hrk]; simp
  have hlt : b.turns.length = rk + l2.length := by rw [hl.turns, hrk]; simp
  have hla : b.ages.length = rk + l2.length := by rw [hl.ages, hrk]; simp
  -- the slices of the book's rows
  obtain ⟨q1, k1, r1, t1, o1⟩ := hvr.taken (P := Tryz.prog) (t := 37) Tryz.underlying37 (by kernel_rfl) rk (by omega)
  obtain ⟨q2, k2, r2, t2, o2⟩ := hB.at_.turns.taken (P := Tryz.prog) (t := 38) Tryz.underlying38 (by kernel_rfl) rk (by rw [List.length_map]; omega)
  obtain ⟨q3, k3, r3, t3, o3⟩ := hB.at_.ages.taken (P := Tryz.prog) (t := 38) Tryz.underlying38 (by kernel_rfl) rk (by rw [List.length_map]; omega)
  rw [List.length_map] at r2 r3
  have hrecs : TRecs K w (.slice q1 rk k1) (b.recs.take rk) := by
    have := hB.at_.recs.part hvr (v' := .slice q1 rk k1) 0 rk (by omega) (by rw [List.drop_zero]; exact t1)
    rw [List.drop_zero] at this
    exact this
  have htk : b.recs.take rk = l1.map Id.r := by rw [hl.recs, List.map_append, hrk, List.take_left' (by simp)]
  have htt : b.turns.take rk = l1.map Id.first := by rw [hl.turns, List.map_append, hrk, List.take_left' (by simp)]
  have hta : b.ages.take rk = l1.map Id.age := by rw [hl.ages, List.map_append, hrk, List.take_left' (by simp)]
  -- the book with another age
  have hblk0 : w.heap[g]? = some (.cells (bookC (.pointer (some dg)) (.pointer (some lg)) b _ _ _) 40 (0, 0)) := hB.at_.blk
  obtain ⟨W1, hW1⟩ : ∃ W1, W1 = w.setCell ⟨g, 18, none⟩ (.bool false) := ⟨_, rfl⟩
  have hkp1 : Keep (fun k => k = g) w W1 := by rw [hW1]; exact sets_keep g [(18, .bool false)] w
  have hat1 : BAt K W1 g (.pointer (some dg)) (.pointer (some lg)) b (.slice rq vs.length rc) (.slice uq (b.turns.map U64).length uc) (.slice aq (b.ages.map U64).length ac) := by
    refine hB.at_.anew ?_ hkp1.size (fun k hk hlt => hkp1.block k hlt hk) hB.at_.recs hB.at_.turns hB.at_.ages hB.at_.two
    have h := sets_block g _ [(18, Value.bool false)] w _ hblk0
    rw [hW1]
    refine Eq.trans h ?_
    unfold bookC
    rw [hd]
    rfl
  have HBL := hide (bleast_any K g _ _ b _ _ _ W1 hat1)
  have HOP := hide (fun w' (h : DRep F w' (.pointer (some dg)) s) => wopen_any F _ s 256 b.first b.least (b.age + 1) w' h hB.both.size fits256 (by omega) (by omega) hle (by omega))
  rw [lay256, show ((b.age + 1 : Nat) : Int) = (b.age : Int) + 1 from rfl] at HOP
  have hageI : (b.age : Int) ≤ 1000000 := by omega
  obtain ⟨⟨c0, _, c10, c11⟩, ⟨c12, c13, c14⟩, ⟨c15, c16, c17, c18⟩, fz⟩ := nineteen_cells hB.at_.blk
  rw [hd] at c18
  have fz18 := fz 18
  have HB := hide hB
  have HAT1 := hide hat1
  have HW1 := hide hW1
  have HKP1 := hide hkp1
  clear hB fz hat1 hW1 hkp1 hblk0
  go_enter Tryz.func11, Tryz.ntmps11
  go_wp2_with fail
  rw [← unhide HW1]
  refine Calls.mono (unhide HBL) ?_
  rintro e5 w2 ⟨rfl, b2⟩
  have hat2 := (unhide HAT1).below b2
  have hblk2 := hat2.blk
  clear c0 c10 c11 c12 c13 c14 c15 c16 c17 c18
  have c11 := (nineteen_cells hblk2).1.2.2.2
  have f11 := (nineteen_cells hblk2).2.2.2 11
  obtain ⟨W3, hW3⟩ : ∃ W3, W3 = w2.setCell ⟨g, 11, none⟩ (.int .u64 ((b.age : Int) + 1)) := ⟨_, rfl⟩
  have hkp3 : Keep (fun k => k = g) w2 W3 := by rw [hW3]; exact sets_keep g [(11, .int .u64 ((b.age : Int) + 1))] w2
  have hat3 : BAt K W3 g (.pointer (some dg)) (.pointer (some lg)) { b with age := b.age + 1 } (.slice rq vs.length rc) (.slice uq (b.turns.map U64).length uc) (.slice aq (b.ages.map U64).length ac) := by
    refine hat2.anew ?_ hkp3.size (fun k hk hlt => hkp3.block k hlt hk) hat2.recs hat2.turns hat2.ages hat2.two
    have h := sets_block g _ [(11, Value.int .u64 ((b.age : Int) + 1))] w2 _ hblk2
    rw [hW3]
    exact Eq.trans h rfl
  have hK3g : Keep (fun k => k = g) w W3 := ((unhide HKP1).trans (Keep.of_below (F := fun _ => False) b2) (fun _ h => h.elim)).trans hkp3 (fun k hk => Or.inl hk)
  have hK3 : Keep K w W3 := hK3g.weak (G := K) (fun k hk => by rw [hk]; exact (unhide HB).at_.fg)
  have HK3G := hide hK3g
  have hD3 : DRep F W3 (.pointer (some dg)) s := (unhide HB).both.dev.stays hK3.size (fun k hk => hK3.block k ((unhide HB).both.dev.lt k hk) ((unhide HB).apF k hk))
  have hblk3 := hat3.blk
  unfold bookC at hblk3
  obtain ⟨⟨d0, _, _, d11⟩, _, ⟨d15, _⟩, _⟩ := nineteen_cells hblk3
  obtain ⟨d1, d2, d3, d4, d5, d6, d7, d8, d9⟩ := book_cells hblk3
  simp only [show ((b.age + 1 : Nat) : Int) = (b.age : Int) + 1 from rfl] at d11
  have HW3 := hide hW3
  have HAT3 := hide hat3
  have HK3 := hide hK3
  have HD3 := hide hD3
  clear b2 hat2 hblk2 hkp3 hat3 hK3 hK3g hD3 hblk3 hW3 HBL HAT1 HKP1 HW1
  go_wp2_with fail
  rw [← unhide HW3]
  have hdr3 : Below W3.heap.size W3 W3.drew := (Below.refl _ _).drew
  have k0 := twelve_same ⟨d0, d1, d2, d3, d4, d5, d6, d7, d8, d9, d11, d15⟩ hdr3
  have K0 := hide k0
  obtain ⟨d0, d1, d2, d3, d4, d5, d6, d7, d8, d9, d11, d15⟩ := k0
  have HO4 := hide (unhide HOP W3.drew ((unhide HD3).stays hdr3.size (fun k hk => hdr3.block k ((unhide HD3).lt k hk))))
  have HOP2 := hide hop
  have HUP := hide hup
  have HRK := hide hrk
  have HDR3 := hide hdr3
  clear hop hup hrk hdr3 HOP
  go_region_held3 (fun w' => w'.cell? ⟨g, 0, none⟩ = some (.pointer (some dg)) ∧ w'.cell? ⟨g, 1, none⟩ = some (.int .i64 256) ∧ w'.cell? ⟨g, 2, none⟩ = some (.int .i64 3) ∧ w'.cell? ⟨g, 3, none⟩ = some (.int .i64 13) ∧ w'.cell? ⟨g, 4, none⟩ = some (.int .i64 30) ∧ w'.cell? ⟨g, 5, none⟩ = some (.int .i64 43) ∧ w'.cell? ⟨g, 6, none⟩ = some (.int .i64 73) ∧ w'.cell? ⟨g, 7, none⟩ = some (.int .i64 30) ∧ w'.cell? ⟨g, 8, none⟩ = some (.int .i64 103) ∧ w'.cell? ⟨g, 9, none⟩ = some (.int .i64 4) ∧ w'.cell? ⟨g, 11, none⟩ = some (.int .u64 ((b.age : Int) + 1)) ∧ w'.cell? ⟨g, 15, none⟩ = some (.int .u64 (b.first : Int))) (first | assumption | go_keep)
    (first
      | (go_at_call 15; refine Calls.mono (unhide HO4) ?_; rintro e5 w4 ⟨hO, b4⟩; unfold OpenR at hO; rw [if_neg (by rw [unhide HUP]; decide), unhide HOP2, if_neg (by simp)] at hO; obtain ⟨lp', v, G', H, rfl, hr, hlog, hH, hG, hHG⟩ := hO; obtain ⟨vs5, hvs5⟩ := hr.owns; obtain ⟨q5, c5, hv5⟩ := owns_shape hvs5; rw [List.length_map, ← unhide HRK] at hv5; subst hv5; obtain ⟨lg', hlg'⟩ := hlog.ptr; subst hlg'; have k4 := twelve_same (unhide K0) b4; have HB4 := hide ((unhide HDR3).trans b4); have HR4 := hide hr; have HLOG := hide hlog; have HG4 := hide hG; clear b4 hr hlog hH hG hHG hvs5))
  have hst : ∀ k, k ≠ g → k < w.heap.size → w4.heap[k]? = w.heap[k]? := fun k h1 h2 => ((unhide HB4).block k (Nat.lt_of_lt_of_le h2 (unhide HK3G).size)).trans ((unhide HK3G).block k h2 h1)
  have hgb := (unhide HB).at_.blk
  have u1 : TRecs K w4 (.slice q1 rk k1) (l1.map Id.r) := by
    rw [← htk]
    refine hrecs.stays (fun k hK hc => hst k (fun e => ?_) ((unhide HB).at_.lt k hK))
    rcases hc with ⟨cur, hc⟩ | hc
    · rw [e, hgb] at hc; cases hc
    · obtain ⟨cur, hh⟩ := t1.kind k hc
      rw [e, hgb] at hh; cases hh
  have u2 : TRow K w4 36 (.slice q2 rk k2) ((l1.map Id.first).map U64) := by
    rw [← htt, List.map_take]
    refine t2.stays (fun k hk => hst k (fun e => ?_) ((unhide HB).at_.lt k (t2.1 k hk)))
    obtain ⟨cur, hh⟩ := t2.kind k hk
    rw [e, hgb] at hh; cases hh
  have u3 : TRow K w4 36 (.slice q3 rk k3) ((l1.map Id.age).map U64) := by
    rw [← hta, List.map_take]
    refine t3.stays (fun k hk => hst k (fun e => ?_) ((unhide HB).at_.lt k (t3.1 k hk)))
    obtain ⟨cur, hh⟩ := t3.kind k hk
    rw [e, hgb] at hh; cases hh
  have u4 : ∀ k, (Value.slice q2 rk k2).ownBlock = some k → (Value.slice q3 rk k3).ownBlock ≠ some k := fun k h1 h2 => (unhide HB).at_.two k (o2 k h1) (o3 k h2)
  have hat4 := (unhide HAT3).below (unhide HB4)
  have HLI := hide (lists_any (.slice q5 rk c5) (.slice q1 rk k1) (l1.map Id.r) w4 (unhide HR4).rows u1.rows)
  have hs1 : ¬ (rk : Int) < (b.safe : Int) := by have := unhide HRK; omega
  have hs2 : ¬ (vs.length : Int) < (rk : Int) := by omega
  have HU1 := hide u1
  have HU2 := hide u2
  have HU3 := hide u3
  have HU4 := hide u4
  have HAT4 := hide hat4
  have HD4 := hide ((unhide HD3).stays (unhide HB4).size (fun k hk => (unhide HB4).block k ((unhide HD3).lt k hk)))
  obtain ⟨⟨_, _, c10, _⟩, ⟨c12, c13, c14⟩, ⟨_, c16, c17, _⟩, fz⟩ := nineteen_cells hat4.blk
  rw [List.length_map] at c13 c14
  have HVLN : Hid (vs.length = rk + l2.length) := by unfold Hid; omega
  have HLT := hide hlt
  have HLR := hide hlr
  have HLA := hide hla
  have HHL := hide hl
  have HE1 := hide he1
  have HE2 := hide he2
  have HTK := hide htk
  have HTT := hide htt
  have HTA := hide hta
  have HSF := hide hsf
  have HRL := hide hrl
  clear u1 u2 u3 u4 hat4 hst hgb t1 t2 t3 o1 o2 o3 hrecs htk htt hta hvl hvr hlr hlt hla hl he1 he2 hsf hrl hle k4 d0 d1 d2 d3 d4 d5 d6 d7 d8 d9 d11 d15
  go_wp2_with fail
  refine Calls.mono (unhide HLI) ?_
  rintro e6 w5 ⟨rfl, b5⟩
  have hat5 := (unhide HAT4).below b5
  have HAT5 := hide hat5
  have HU15 : Hid (TRecs K w5 (.slice q1 rk k1) (l1.map Id.r)) := (unhide HU1).stays (fun k hK _ => b5.block k ((unhide HAT4).lt k hK))
  have HU25 : Hid (TRow K w5 36 (.slice q2 rk k2) ((l1.map Id.first).map U64)) := (unhide HU2).stays (fun k hk => b5.block k ((unhide HAT4).lt k ((unhide HU2).1 k hk)))
  have HU35 : Hid (TRow K w5 36 (.slice q3 rk k3) ((l1.map Id.age).map U64)) := (unhide HU3).stays (fun k hk => b5.block k ((unhide HAT4).lt k ((unhide HU3).1 k hk)))
  have HD5 := hide ((unhide HD4).stays b5.size (fun k hk => b5.block k ((unhide HD4).lt k hk)))
  have HLOG5 := hide ((unhide HLOG).below b5)
  have HDEAD := hide hd
  have hGN : ∀ k, G' k → w.heap.size ≤ k := fun k hk => Nat.le_trans (unhide HK3).size (Nat.le_trans (unhide HDR3).size (unhide HG4 k hk))
  have HGN := hide hGN
  have HAPG : Hid (∀ k, G' k → ¬ K k) := fun k h1 h2 => by have := hGN k h1; have := (unhide HB).at_.lt k h2; omega
  have HAPA : Hid (∀ k, F k → ¬ G' k) := fun k h1 h2 => by have := hGN k h2; have := (unhide HB).both.dev.lt k h1; omega
  have HK5 : Hid (Keep K w w5) := (unhide HK3).trans (Keep.of_below (F := fun _ => False) ((unhide HB4).trans (b5.mono (unhide HB4).size))) (fun _ h => h.elim)
  clear c10 c12 c13 c14 c16 c17 fz
  obtain ⟨⟨_, _, c10, _⟩, ⟨c12, c13, c14⟩, ⟨_, c16, c17, _⟩, fz⟩ := nineteen_cells hat5.blk
  rw [List.length_map] at c13 c14
  have f10 := fz 10
  have f12 := fz 12
  have f13 := fz 13
  have f14 := fz 14
  have f16 := fz 16
  have f17 := fz 17
  have hrk0 : (0 : Int) ≤ (rk : Int) := by omega
  have HKIND : Hid (∀ k, (Value.slice uq (b.turns.map U64).length uc).ownBlock = some k → k ≠ g) := fun k hk => (fun e => hat5.tg (e ▸ hk))
  clear b5 hat5 hGN fz HLI hs1 hs2 HU1 HU2 HU3 hd
  by_cases hcase : l2 = []
  · have hex : b.next = e := (unhide HE1 hcase).symm
    subst hex
    have hA : ¬ (rk : Int) < (vs.length : Int) := by rw [unhide HVLN, hcase]; simp
    clear hcase
    cases fell with
    | true =>
      go_wp2_with fail
      go_region
      go_wp2_with fail
      obtain ⟨hbk, hkp⟩ := Book.another (b' := b.takeB rk b.next rk) (rv' := .slice q1 rk k1) (tv' := .slice q2 rk k2) (av' := .slice q3 rk k3) (L' := ⟨b.age + 1, b.first, b.next, l1.map (fun x => (x.first, x.age)), false⟩) (unhide HAT5) (unhide HD5) (unhide HLOG5) (unhide HB).both.size (unhide HB).apF (unhide HAPG) (unhide HAPA) [(10, .pointer (some lg')), (12, .slice q1 rk k1), (13, .slice q2 rk k2), (14, .slice q3 rk k3), (17, .int .i64 (rk : Int))] (by simp only [bookC, BK.takeB, unhide HDEAD]; rfl)
        (by show TRecs K w5 _ (b.recs.take rk); rw [unhide HTK]; exact unhide HU15) (by show TRow K w5 _ _ ((b.turns.take rk).map U64); rw [unhide HTT]; exact unhide HU25) (by show TRow K w5 _ _ ((b.ages.take rk).map U64); rw [unhide HTA]; exact unhide HU35) (unhide HU4) rfl rfl rfl (by show _ = (b.turns.take rk).zip (b.ages.take rk); rw [unhide HTT, unhide HTA, List.zip_map']) (by show (b.turns.take rk).length = (b.recs.take rk).length; rw [unhide HTT, unhide HTK]; simp) (by show (b.ages.take rk).length = (b.recs.take rk).length; rw [unhide HTA, unhide HTK]; simp)
      refine Calls.mono (agree_any G' K g _ _ _ _ _ _ _ _ hbk.at_ hbk.both.log hbk.first hbk.next hbk.least) ?_
      rintro e9 w9 ⟨rfl, b9⟩
      have HEND : Hid (Book F G' K w9 g (.pointer (some lg')) (.pointer (some dg)) s ⟨b.age + 1, b.first, b.next, l1.map (fun x => (x.first, x.age)), false⟩ (b.takeB l1.length b.next (if true = true then l1.length else b.safe)) (.slice q1 rk k1) (.slice q2 rk k2) (.slice q3 rk k3) ∧ (∀ k, G' k → w.heap.size ≤ k) ∧ Keep K w w9) := by
        have e0 : b.takeB l1.length b.next (if true = true then l1.length else b.safe) = b.takeB rk b.next rk := by rw [← unhide HRK]; rfl
        rw [e0]
        exact ⟨⟨hbk.both.below b9, hbk.at_.below b9, hbk.apF, hbk.apG, hbk.first, hbk.next, hbk.age, hbk.starts, hbk.tl, hbk.al⟩, unhide HGN, ((unhide HK5).trans hkp (fun k hk => Or.inl hk)).trans (Keep.of_below (F := fun _ => False) b9) (fun _ h => h.elim)⟩
      clear hbk hkp b9 c10 c12 c13 c14 c16 c17 f10 f12 f13 f14 f16 f17 r1 r2 r3
      go_wp2_with fail
      go_ret
      exact ⟨rfl, OpenPost.mk (unhide HEND)⟩
    | false =>
      go_wp2_with fail
      go_region
      go_wp2_with fail
      obtain ⟨hbk, hkp⟩ := Book.another (b' := b.takeB rk b.next b.safe) (rv' := .slice q1 rk k1) (tv' := .slice q2 rk k2) (av' := .slice q3 rk k3) (L' := ⟨b.age + 1, b.first, b.next, l1.map (fun x => (x.first, x.age)), false⟩) (unhide HAT5) (unhide HD5) (unhide HLOG5) (unhide HB).both.size (unhide HB).apF (unhide HAPG) (unhide HAPA) [(10, .pointer (some lg')), (12, .slice q1 rk k1), (13, .slice q2 rk k2), (14, .slice q3 rk k3)] (by simp only [bookC, BK.takeB, unhide HDEAD]; rfl)
        (by show TRecs K w5 _ (b.recs.take rk); rw [unhide HTK]; exact unhide HU15) (by show TRow K w5 _ _ ((b.turns.take rk).map U64); rw [unhide HTT]; exact unhide HU25) (by show TRow K w5 _ _ ((b.ages.take rk).map U64); rw [unhide HTA]; exact unhide HU35) (unhide HU4) rfl rfl rfl (by show _ = (b.turns.take rk).zip (b.ages.take rk); rw [unhide HTT, unhide HTA, List.zip_map']) (by show (b.turns.take rk).length = (b.recs.take rk).length; rw [unhide HTT, unhide HTK]; simp) (by show (b.ages.take rk).length = (b.recs.take rk).length; rw [unhide HTA, unhide HTK]; simp)
      refine Calls.mono (agree_any G' K g _ _ _ _ _ _ _ _ hbk.at_ hbk.both.log hbk.first hbk.next hbk.least) ?_
      rintro e9 w9 ⟨rfl, b9⟩
      have HEND : Hid (Book F G' K w9 g (.pointer (some lg')) (.pointer (some dg)) s ⟨b.age + 1, b.first, b.next, l1.map (fun x => (x.first, x.age)), false⟩ (b.takeB l1.length b.next (if false = true then l1.length else b.safe)) (.slice q1 rk k1) (.slice q2 rk k2) (.slice q3 rk k3) ∧ (∀ k, G' k → w.heap.size ≤ k) ∧ Keep K w w9) := by
        have e0 : b.takeB l1.length b.next (if false = true then l1.length else b.safe) = b.takeB rk b.next b.safe := by rw [← unhide HRK]; rfl
        rw [e0]
        exact ⟨⟨hbk.both.below b9, hbk.at_.below b9, hbk.apF, hbk.apG, hbk.first, hbk.next, hbk.age, hbk.starts, hbk.tl, hbk.al⟩, unhide HGN, ((unhide HK5).trans hkp (fun k hk => Or.inl hk)).trans (Keep.of_below (F := fun _ => False) b9) (fun _ h => h.elim)⟩
      clear hbk hkp b9 c10 c12 c13 c14 c16 c17 f10 f12 f13 f14 f16 f17 r1 r2 r3
      go_wp2_with fail
      go_ret
      exact ⟨rfl, OpenPost.mk (unhide HEND)⟩
  · obtain ⟨z, l3, hz⟩ := List.exists_cons_of_ne_nil hcase
    have hlen2 : rk < vs.length := by rw [unhide HVLN, hz]; simp
    have hB2 : (rk : Int) < (vs.length : Int) := by omega
    have htl5 : rk < (b.turns.map U64).length := by rw [List.length_map, unhide HLT, hz]; simp
    obtain ⟨kt, ot, ct, e4, hcell⟩ := (unhide HAT5).turns.cell rk htl5
    simp only [List.length_map, Value.slice.injEq] at e4
    obtain ⟨rfl, _, rfl⟩ := e4
    have hnx : (b.turns.map U64)[rk] = .int .u64 (e : Int) := by
      have h1 : (b.turns.map U64)[rk]? = some (.int .u64 (e : Int)) := by
        rw [(unhide HHL).turns, hz, List.map_append, List.map_append, List.getElem?_append_right (by simp [unhide HRK])]
        simp [unhide HRK, U64, unhide HE2 z l3 hz]
      rw [List.getElem?_eq_getElem htl5] at h1
      exact Option.some.inj h1
    have hcell2 : w5.cell? ⟨kt, ot + rk, none⟩ = some (.int .u64 (e : Int)) := hcell.trans (congrArg some hnx)
    have hne1 : ¬ kt = g := unhide HKIND kt rfl
    have hne2 : ¬ g = kt := fun h => hne1 h.symm
    have hti : (rk : Int) < (b.turns.length : Int) := by rw [List.length_map] at htl5; omega
    clear hcell hnx htl5 hlen2 hz hcase
    cases fell with
    | true =>
      go_wp2_with fail
      go_region
      go_wp2_with fail
      obtain ⟨hbk, hkp⟩ := Book.another (b' := b.takeB rk e rk) (rv' := .slice q1 rk k1) (tv' := .slice q2 rk k2) (av' := .slice q3 rk k3) (L' := ⟨b.age + 1, b.first, e, l1.map (fun x => (x.first, x.age)), false⟩) (unhide HAT5) (unhide HD5) (unhide HLOG5) (unhide HB).both.size (unhide HB).apF (unhide HAPG) (unhide HAPA) [(10, .pointer (some lg')), (16, .int .u64 (e : Int)), (12, .slice q1 rk k1), (13, .slice q2 rk k2), (14, .slice q3 rk k3), (17, .int .i64 (rk : Int))] (by simp only [bookC, BK.takeB, unhide HDEAD]; rfl)
        (by show TRecs K w5 _ (b.recs.take rk); rw [unhide HTK]; exact unhide HU15) (by show TRow K w5 _ _ ((b.turns.take rk).map U64); rw [unhide HTT]; exact unhide HU25) (by show TRow K w5 _ _ ((b.ages.take rk).map U64); rw [unhide HTA]; exact unhide HU35) (unhide HU4) rfl rfl rfl (by show _ = (b.turns.take rk).zip (b.ages.take rk); rw [unhide HTT, unhide HTA, List.zip_map']) (by show (b.turns.take rk).length = (b.recs.take rk).length; rw [unhide HTT, unhide HTK]; simp) (by show (b.ages.take rk).length = (b.recs.take rk).length; rw [unhide HTA, unhide HTK]; simp)
      refine Calls.mono (agree_any G' K g _ _ _ _ _ _ _ _ hbk.at_ hbk.both.log hbk.first hbk.next hbk.least) ?_
      rintro e9 w9 ⟨rfl, b9⟩
      have HEND : Hid (Book F G' K w9 g (.pointer (some lg')) (.pointer (some dg)) s ⟨b.age + 1, b.first, e, l1.map (fun x => (x.first, x.age)), false⟩ (b.takeB l1.length e (if true = true then l1.length else b.safe)) (.slice q1 rk k1) (.slice q2 rk k2) (.slice q3 rk k3) ∧ (∀ k, G' k → w.heap.size ≤ k) ∧ Keep K w w9) := by
        have e0 : b.takeB l1.length e (if true = true then l1.length else b.safe) = b.takeB rk e rk := by rw [← unhide HRK]; rfl
        rw [e0]
        exact ⟨⟨hbk.both.below b9, hbk.at_.below b9, hbk.apF, hbk.apG, hbk.first, hbk.next, hbk.age, hbk.starts, hbk.tl, hbk.al⟩, unhide HGN, ((unhide HK5).trans hkp (fun k hk => Or.inl hk)).trans (Keep.of_below (F := fun _ => False) b9) (fun _ h => h.elim)⟩
      clear hbk hkp b9 c10 c12 c13 c14 c16 c17 f10 f12 f13 f14 f16 f17 r1 r2 r3
      go_wp2_with fail
      go_ret
      exact ⟨rfl, OpenPost.mk (unhide HEND)⟩
    | false =>
      go_wp2_with fail
      go_region
      go_wp2_with fail
      obtain ⟨hbk, hkp⟩ := Book.another (b' := b.takeB rk e b.safe) (rv' := .slice q1 rk k1) (tv' := .slice q2 rk k2) (av' := .slice q3 rk k3) (L' := ⟨b.age + 1, b.first, e, l1.map (fun x => (x.first, x.age)), false⟩) (unhide HAT5) (unhide HD5) (unhide HLOG5) (unhide HB).both.size (unhide HB).apF (unhide HAPG) (unhide HAPA) [(10, .pointer (some lg')), (16, .int .u64 (e : Int)), (12, .slice q1 rk k1), (13, .slice q2 rk k2), (14, .slice q3 rk k3)] (by simp only [bookC, BK.takeB, unhide HDEAD]; rfl)
        (by show TRecs K w5 _ (b.recs.take rk); rw [unhide HTK]; exact unhide HU15) (by show TRow K w5 _ _ ((b.turns.take rk).map U64); rw [unhide HTT]; exact unhide HU25) (by show TRow K w5 _ _ ((b.ages.take rk).map U64); rw [unhide HTA]; exact unhide HU35) (unhide HU4) rfl rfl rfl (by show _ = (b.turns.take rk).zip (b.ages.take rk); rw [unhide HTT, unhide HTA, List.zip_map']) (by show (b.turns.take rk).length = (b.recs.take rk).length; rw [unhide HTT, unhide HTK]; simp) (by show (b.ages.take rk).length = (b.recs.take rk).length; rw [unhide HTA, unhide HTK]; simp)
      refine Calls.mono (agree_any G' K g _ _ _ _ _ _ _ _ hbk.at_ hbk.both.log hbk.first hbk.next hbk.least) ?_
      rintro e9 w9 ⟨rfl, b9⟩
      have HEND : Hid (Book F G' K w9 g (.pointer (some lg')) (.pointer (some dg)) s ⟨b.age + 1, b.first, e, l1.map (fun x => (x.first, x.age)), false⟩ (b.takeB l1.length e (if false = true then l1.length else b.safe)) (.slice q1 rk k1) (.slice q2 rk k2) (.slice q3 rk k3) ∧ (∀ k, G' k → w.heap.size ≤ k) ∧ Keep K w w9) := by
        have e0 : b.takeB l1.length e (if false = true then l1.length else b.safe) = b.takeB rk e b.safe := by rw [← unhide HRK]; rfl
        rw [e0]
        exact ⟨⟨hbk.both.below b9, hbk.at_.below b9, hbk.apF, hbk.apG, hbk.first, hbk.next, hbk.age, hbk.starts, hbk.tl, hbk.al⟩, unhide HGN, ((unhide HK5).trans hkp (fun k hk => Or.inl hk)).trans (Keep.of_below (F := fun _ => False) b9) (fun _ h => h.elim)⟩
      clear hbk hkp b9 c10 c12 c13 c14 c16 c17 f10 f12 f13 f14 f16 f17 r1 r2 r3
      go_wp2_with fail
      go_ret
      exact ⟨rfl, OpenPost.mk (unhide HEND)⟩
end Go.Proofs.YtpkpjmebkikgdaaGreat

/- The statements of layer 7: a book on a calm device, with all that was written: what append, free, open make of it. -/
namespace Go.Proofs.YtpkpjmebkikgdaaGreat
open Go.RowKit

theorem write_turns (s : DK) (a : Int) (b : List UInt8) : (s.write a b).turns = s.turns := by
  unfold DK.write DK.tick
  repeat' split
  all_goals rfl
theorem lay_turns (n : Int) : ∀ (l : List (List UInt8)) (s : DK) (t : Nat), (layW n s t l).1.turns = s.turns
  | [], _, _ => rfl
  | x :: l, s, t => by
    rw [layW]
    split
    · exact write_turns s _ _
    · rw [lay_turns n l, write_turns]
theorem app_turns (n : Int) (s : DK) (L : LG) (x : List UInt8) : (appS n s L x).turns = s.turns := by
  unfold appS
  repeat' split
  all_goals first | rfl | exact lay_turns n _ _ _
theorem flush_turns (s : DK) : s.flush.turns = s.turns := by
  unfold DK.flush DK.tick
  repeat' split
  all_goals rfl
/-- A book and its log on a calm device; S is all that was ever written, ids the records that it has; m bounds how much was done. -/
structure Run (F G K : Nat → Prop) (w : World) (g : Nat) (lp dp : Value) (s : DK) (L : LG) (b : BK) (rv tv av : Value) (S : Id → Prop) (ids : List Id) (m : Nat) : Prop where
  book : Book F G K w g lp dp s L b rv tv av
  calm : Calm s
  live : L.fallen = false
  dead : b.dead = false
  lst : Lst b ids
  inv : RInv S s ids b.first b.next b.age b.safe
  right : ∀ y ∈ ids, Right s y
  waits : s.waits.length ≤ 64 * m
  ticks : s.ticks ≤ 64 * m
  next : b.next ≤ 64 * m
  age : b.age ≤ m + 1
  small : m ≤ 1000
  turns : s.turns = 0
variable {F G K : Nat → Prop} {w w' : World} {g : Nat} {lp dp : Value} {s : DK} {L : LG} {b : BK} {rv tv av : Value} {S : Id → Prop} {ids : List Id} {m : Nat}
theorem Book.below (h : Book F G K w g lp dp s L b rv tv av) (hb : Below w.heap.size w w') : Book F G K w' g lp dp s L b rv tv av := ⟨h.both.below hb, h.at_.below hb, h.apF, h.apG, h.first, h.next, h.age, h.starts, h.tl, h.al⟩
theorem Run.below (h : Run F G K w g lp dp s L b rv tv av S ids m) (hb : Below w.heap.size w w') : Run F G K w' g lp dp s L b rv tv av S ids m := ⟨h.book.below hb, h.calm, h.live, h.dead, h.lst, h.inv, h.right, h.waits, h.ticks, h.next, h.age, h.small, h.turns⟩
theorem Run.sn (h : Run F G K w g lp dp s L b rv tv av S ids m) : s.n = 256 := by have := h.book.both.size; omega
theorem Run.lt (h : Run F G K w g lp dp s L b rv tv av S ids m) : ∀ k, all3 F G K k → k < w.heap.size := fun k hk => by
  rcases hk with h1 | h1 | h1
  · exact h.book.both.dev.lt k h1
  · exact h.book.both.log.lt k h1
  · exact h.book.at_.lt k h1
theorem Run.len (h : Run F G K w g lp dp s L b rv tv av S ids m) : b.recs.length = ids.length := by rw [h.lst.recs, List.length_map]

/-- What is so behind an append. -/
def AppPost (F G K : Nat → Prop) (w w' : World) (g : Nat) (lp dp : Value) (b : BK) (ids : List Id) (m : Nat) (x : List UInt8) : Prop :=
  ∃ F' G' K' s' L' b' rv' tv' av' S' ids', Run F' G' K' w' g lp dp s' L' b' rv' tv' av' S' ids' (m + 1) ∧ Moves (all3 F G K) (all3 F' G' K') w w' ∧ b'.first = b.first ∧ b'.age = b.age ∧ b'.safe = b.safe ∧
    ((x.length ≤ 8192 ∧ b.next + (Id.mk b.age b.next x).cnt ≤ b.first + 30 ∧ ids' = ids ++ [⟨b.age, b.next, x⟩] ∧ b'.next = b.next + (Id.mk b.age b.next x).cnt) ∨ (¬ (x.length ≤ 8192 ∧ b.next + (Id.mk b.age b.next x).cnt ≤ b.first + 30) ∧ ids' = ids ∧ b'.next = b.next))
theorem run_append (h : Run F G K w g lp dp s L b rv tv av S ids m) (hm : m + 1 ≤ 1000) {xv : Value} {x : List UInt8} (hx : Row w xv x) (hroom : x.length ≤ 140737488351232) (hout : ∀ k off n c, xv = .slice (some ⟨k, off, none⟩) n c → x ≠ [] → ¬ F k ∧ ¬ G k ∧ ¬ K k) :
    Calls Tryz.prog 23 #[.pointer (some ⟨g, 0, none⟩), xv] w fun e w' => e = .returned (.bool true) ∧ AppPost F G K w w' g lp dp b ids m x := by
  have q1 := h.waits
  have q2 := h.ticks
  have q3 := h.next
  have q4 := h.age
  have q5 := h.inv.count
  have q6 := h.len
  have hnx := h.book.next
  obtain ⟨a1, a2, a3, a4, a5, a6, a7⟩ := app_calm (n := 256) (s := s) (L := L) (r := x) fits256 h.book.both.size h.calm h.live
  refine (bappend_calm F G K g lp dp s L b rv tv av xv x w h.book h.calm h.live hx hroom hout (by omega) (by omega) (by omega) (by omega)).mono ?_
  rintro e w' ⟨rfl, F', G', K', rv', tv', av', hB, hM⟩
  refine ⟨rfl, F', G', K', appS 256 s L x, appL 256 s L x, b.app (appE 256 s L x) x, rv', tv', av', ?_⟩
  rw [lz256] at a1
  obtain ⟨z, hz⟩ : ∃ z : Id, z = ⟨b.age, b.next, x⟩ := ⟨_, rfl⟩
  have hcnt : (z.cnt : Int) = countN x.length := by rw [hz]; exact Id.cnt_of _
  have hle := h.book.both.log
  obtain ⟨_, _, _, R⟩ := hle
  have r1 := R.ok.le
  have r2 := R.ok.ring
  rw [lz30] at r2
  have hf1 := h.book.first
  by_cases hE : x.length ≤ 8192 ∧ b.next + z.cnt ≤ b.first + 30
  · have e0 : appE 256 s L x = 0 := by rw [a1, if_neg (by omega), if_neg (by rw [← hcnt]; omega)]
    have eS : appS 256 s L x = (layW 256 s L.next (cutL L.age L.next x)).1 := by
      unfold appS
      rw [if_neg (by omega), if_neg (by rw [h.live, h.calm.1]; simp), if_neg (by rw [lz256, ← hcnt]; omega)]
    have eL : (layW 256 s L.next (cutL L.age L.next x)).2 = 0 := by
      have := e0
      unfold appE at this
      rw [if_neg (by omega), if_neg (by rw [h.live, h.calm.1]; simp), if_neg (by rw [lz256, ← hcnt]; omega)] at this
      exact this
    have ebk : b.app (appE 256 s L x) x = { b with recs := b.recs ++ [x], turns := b.turns ++ [b.next], ages := b.ages ++ [b.age], next := b.next + z.cnt } := by
      unfold BK.app
      rw [if_pos e0, hz]
      rfl
    have hzc : z.cnt ≤ 19 := by
      have := count_le (n := (x.length : Int)) (by omega)
      omega
    refine ⟨(fun y => S y ∨ y = z), ids ++ [z], ⟨hB, a2, a5, ?_, ?_, ?_, ?_, by omega, by omega, ?_, ?_, hm, by rw [app_turns]; exact h.turns⟩, hM, ?_, ?_, ?_, Or.inl ⟨hE.1, by rw [← hz]; exact hE.2, by rw [hz], ?_⟩⟩
    · rw [ebk]; exact h.dead
    · rw [ebk]
      refine ⟨?_, ?_, ?_⟩
      · show b.recs ++ [x] = _; rw [h.lst.recs, List.map_append, hz]; rfl
      · show b.turns ++ [b.next] = _; rw [h.lst.turns, List.map_append, hz]; rfl
      · show b.ages ++ [b.age] = _; rw [h.lst.ages, List.map_append, hz]; rfl
    · rw [ebk, hz]
      exact h.inv.appends (L := L) h.book.age h.book.next hE.1 (by rw [← hz]; exact hE.2) (by omega) (by omega) eS
    · rw [hz]
      exact h.inv.appended (L := L) h.right h.book.age h.book.next hE.1 (by rw [← hz]; exact hE.2) h.sn h.calm.1 eS eL
    · rw [ebk]; show b.next + z.cnt ≤ _; omega
    · rw [ebk]; show b.age ≤ _; omega
    · rw [ebk]
    · rw [ebk]
    · rw [ebk]
    · rw [ebk, hz]
  · have e0 : appE 256 s L x ≠ 0 := by
      rw [a1]
      split
      · simp
      · rw [if_pos (by rw [← hcnt]; omega)]; simp
    have eS : appS 256 s L x = s := by
      unfold appS
      split
      · rfl
      · rw [if_neg (by rw [h.live, h.calm.1]; simp), if_pos (by rw [lz256, ← hcnt]; omega)]
    have ebk : b.app (appE 256 s L x) x = b := by unfold BK.app; rw [if_neg e0]
    refine ⟨S, ids, ⟨hB, a2, a5, by rw [ebk]; exact h.dead, by rw [ebk]; exact h.lst, by rw [ebk, eS]; exact h.inv, by rw [eS]; exact h.right, by omega, by omega, by rw [ebk]; omega, by rw [ebk]; omega, hm, by rw [app_turns]; exact h.turns⟩, hM, by rw [ebk], by rw [ebk], by rw [ebk], Or.inr ⟨by rw [← hz]; exact hE, rfl, by rw [ebk]⟩⟩

theorem chain_take {first next : Nat} {ids : List Id} (h : chain first ids next) (i : Nat) : chain first (ids.take i) ((ids.map Id.first).getD i next) := by
  have h1 := (List.take_append_drop i ids)
  rw [← h1] at h
  obtain ⟨e, c1, c2⟩ := (chain_append _ _ _ _).1 h
  have : e = (ids.map Id.first).getD i next := by
    rw [List.getD_eq_getElem?_getD, List.getElem?_map]
    cases hd : ids.drop i with
    | nil =>
      rw [hd] at c2
      have : ids.length ≤ i := by have := congrArg List.length hd; simp at this; omega
      rw [List.getElem?_eq_none this]
      exact c2
    | cons z l =>
      rw [hd] at c2
      have hz : ids[i]? = some z := by
        have := congrArg (fun l : List Id => l[0]?) hd
        simp only [List.getElem?_drop, Nat.add_zero, List.getElem?_cons_zero] at this
        exact this
      rw [hz]
      exact c2.1.symm
  rw [← this]
  exact c1
/-- What is so behind a freeing. -/
def FreePost (F G K : Nat → Prop) (w w' : World) (g : Nat) (lp dp : Value) (s : DK) (L : LG) (b : BK) (S : Id → Prop) (ids : List Id) (m i : Nat) : Prop :=
  ∃ rv' tv' av', Run F G K w' g lp dp s (L.free (b.turn i)) (b.dropB i (b.turn i)) rv' tv' av' S (ids.drop i) m ∧ Keep (all3 F G K) w w'
theorem run_free (h : Run F G K w g lp dp s L b rv tv av S ids m) (i : Nat) (hi : i ≤ ids.length) :
    Calls Tryz.prog 21 #[.pointer (some ⟨g, 0, none⟩), .int .i64 (i : Int)] w fun e w' => e = .returned (.bool true) ∧ FreePost F G K w w' g lp dp s L b S ids m i := by
  have q5 := h.inv.count
  have q6 := h.len
  have q7 := h.inv.safeLe
  have q3 := h.next
  refine (bfree_any F G K g lp dp s L b rv tv av i w h.book (by omega) (by omega) (by omega)).mono ?_
  rintro e w' ⟨rfl, rv', tv', av', hB, hK⟩
  have hch : chain b.first (ids.take i) (b.turn i) := by
    unfold BK.turn
    rw [h.lst.turns]
    exact chain_take h.inv.links i
  have hinv : RInv S s (ids.drop i) (b.turn i) b.next b.age (b.safe - i) := by
    have h1 := h.inv
    rw [← List.take_append_drop i ids] at h1
    have h2 := h1.free hch
    rw [List.length_take, Nat.min_eq_left hi] at h2
    exact h2
  refine ⟨rfl, rv', tv', av', ⟨hB, h.calm, h.live, h.dead, ⟨?_, ?_, ?_⟩, hinv, fun y hy => h.right y (List.mem_of_mem_drop hy), h.waits, h.ticks, h.next, h.age, h.small, h.turns⟩, hK⟩
  · show b.recs.drop i = _; rw [h.lst.recs, List.map_drop]
  · show b.turns.drop i = _; rw [h.lst.turns, List.map_drop]
  · show b.ages.drop i = _; rw [h.lst.ages, List.map_drop]

/-- What is so behind an opening on a calm device: of the records l1 are left. -/
def ReoPost (F K : Nat → Prop) (w w' : World) (g : Nat) (dp : Value) (s : DK) (b : BK) (S : Id → Prop) (l1 l2 : List Id) (m sf : Nat) : Prop :=
  ∃ G' lp' L' e rv' tv' av', Run F G' K w' g lp' dp s L' (b.takeB l1.length e sf) rv' tv' av' S l1 (m + 1) ∧ (∀ k, G' k → w.heap.size ≤ k) ∧ Keep K w w' ∧ (l2 = [] → e = b.next)
theorem run_open {l1 l2 : List Id} (hH : Held F G K w g lp dp s L b rv tv av) (hd : b.dead = false) (hl : Lst b (l1 ++ l2)) (hinv : RInv S s (l1 ++ l2) b.first b.next b.age b.safe) (hc : Calm s) (h1 : ∀ y ∈ l1, Right s y) (h2 : ∀ z l3, l2 = z :: l3 → ¬ Right s z) (hw : s.waits = [] ∨ l2 = [])
    (fell : Bool) (hfe : fell = true → s.waits = []) (q1 : s.waits.length ≤ 64 * m) (q2 : s.ticks ≤ 64 * m) (q3 : b.next ≤ 64 * m) (q4 : b.age ≤ m + 1) (hm : m + 1 ≤ 1000) (ht : s.turns = 0) :
    Calls Tryz.prog 11 #[.pointer (some ⟨g, 0, none⟩), .bool fell] w fun x w' => x = .returned (.bool true) ∧ ReoPost F K w w' g dp s b S l1 l2 m (if fell = true then l1.length else b.safe) := by
  obtain ⟨e, c1, c2, c3, c4, c5⟩ := hinv.opens h1 h2 (b.age + 1) (by omega)
  have hle := BK.least_of hl
  have hlB : leastOf b.age (l1 ++ l2) ≤ b.age := by
    cases hx : l1 ++ l2 with
    | nil => exact Nat.le_refl _
    | cons x l => exact (hinv.ok x (hinv.mem x (by rw [hx]; simp))).2
  obtain ⟨m0, d1, d2⟩ := (chain_append _ _ _ _).1 hinv.links
  have hme : m0 = e := by rw [← chain_end _ _ _ d1, ← chain_end _ _ _ c1]
  subst hme
  have hle2 := chain_le _ _ _ d2
  have hle1 := chain_le _ _ _ d1
  have hcnt := hinv.count
  refine (bopen_live F G K g lp dp s L b rv tv av l1 l2 m0 fell w hH hd hc.1 hl (by rw [hle]; exact c2) c3 c4 c5 (by omega) (by omega) (by omega) (by omega)).mono ?_
  rintro x w' ⟨rfl, G', lp', rv', tv', av', hB, hG, hK⟩
  refine ⟨rfl, G', lp', _, m0, rv', tv', av', ⟨hB, hc, rfl, rfl, ⟨?_, ?_, ?_⟩, ?_, h1, by omega, by omega, ?_, ?_, hm, ht⟩, hG, hK, c4⟩
  · show b.recs.take l1.length = _; rw [hl.recs, List.map_append, List.take_left' (by simp)]
  · show b.turns.take l1.length = _; rw [hl.turns, List.map_append, List.take_left' (by simp)]
  · show b.ages.take l1.length = _; rw [hl.ages, List.map_append, List.take_left' (by simp)]
  · refine hinv.reopen h1 h2 c1 hw (b.age + 1) (by omega) _ ?_ c3
    split
    · rename_i hf; exact Or.inr ⟨hfe hf, Nat.le_refl _⟩
    · exact Or.inl (Nat.le_refl _)
  · show m0 ≤ _; omega
  · show b.age + 1 ≤ _; omega
end Go.Proofs.YtpkpjmebkikgdaaGreat

/- The statements of layer 7: bytes that a statement makes itself; Sync, and how much is safe. -/
namespace Go.Proofs.YtpkpjmebkikgdaaGreat
open Go.RowKit

/-- 'make' of zero bytes, with the block that they lie in. -/
theorem make_block (w : World) (m : Nat) (hm : m ≤ 100000) : ∃ w8, (Instr.makeSlice 27 (.int .i64 (m : Int)) (.int .i64 (m : Int))).run Tryz.prog w = .ok (.slice (some ⟨w.heap.size, 0, none⟩) m m) w8 ∧ w8.heap[w.heap.size]? = some (.cells ((List.replicate m (0 : UInt8)).map B).toArray 5 (0, 0)) ∧ Below w.heap.size w w8 := by
  obtain ⟨i0, hi, hz0, hz1, hz2⟩ := info_parts Tryz.info5
  obtain ⟨w8, hrun, r1, r2⟩ := run_make_full (P := Tryz.prog) w w.heap.size 27 5 i0 (.int .u8 0) 1 Tryz.underlying27 hi hz0 hz1 .i64 .i64 m (by rw [hz2]; omega) (by unfold maxLen; omega) (Nat.le_refl _)
  have b8 : Below w.heap.size w w8 := (Below.refl _ _).grown r2 (Nat.le_refl _) (fun k hk => by cases hk)
  rw [Nat.mul_one] at r1
  have hblk8 := made_block (m := m) r1
  exact ⟨w8, hrun, hblk8, b8⟩


variable {F G K : Nat → Prop} {w w' : World} {g : Nat} {lp dp : Value} {s : DK} {L : LG} {b : BK} {rv tv av : Value} {S : Id → Prop} {ids : List Id} {m : Nat}
/-- What is so behind a Sync. -/
def SyncPost (F G K : Nat → Prop) (w w' : World) (g : Nat) (lp dp : Value) (L : LG) (b : BK) (rv tv av : Value) (S : Id → Prop) (ids : List Id) (m : Nat) : Prop :=
  ∃ F' s', Run F' G K w' g lp dp s' L b rv tv av S ids (m + 1) ∧ s'.waits = [] ∧ Moves (all3 F G K) (all3 F' G K) w w'
theorem run_sync (h : Run F G K w g lp dp s L b rv tv av S ids m) (hm : m + 1 ≤ 1000) :
    Calls Tryz.prog 13 #[lp] w fun e w' => e = .returned (.int .i64 0) ∧ SyncPost F G K w w' g lp dp L b rv tv av S ids m := by
  have q1 := h.waits
  have q2 := h.ticks
  have q3 := h.next
  have q4 := h.age
  have ha : s.armed ≠ 1 := by rw [h.calm.2]; decide
  refine (wsync_any F G lp dp 256 s L w h.book.both (by omega) (by omega)).mono ?_
  rintro e w' ⟨rfl, F', hB, hM⟩
  have e1 : syncE s L = 0 := by
    unfold syncE DK.flushE
    rw [if_neg (by rw [h.live]; decide), if_neg (by rw [h.calm.1]; decide), if_neg ha]
  have e2 : syncS s L = s.flush := by unfold syncS; rw [if_neg (by rw [h.live]; decide)]
  have e3 : syncL s L = L := by
    unfold syncL DK.flushE
    rw [if_neg (by rw [h.live]; decide), if_neg (by rw [if_neg (by rw [h.calm.1]; decide), if_neg ha]; decide)]
  have e4 : s.flush = { s with kept := keepAll s.kept s.waits, waits := [] }.tick := by
    unfold DK.flush
    rw [if_neg (by rw [h.calm.1]; decide), if_neg ha]
  rw [e1]
  rw [e2, e3] at hB
  have hapF' : ∀ k, F' k → ¬ K k := fun k hk hK => by
    rcases hM.sub k (Or.inl hk) with h1 | h1
    · rcases h1 with h1 | h1
      · exact h.book.apF k h1 hK
      · exact h.book.apG k h1 hK
    · have := h.book.at_.lt k hK; omega
  have hat : BAt K w' g dp lp b rv tv av := h.book.at_.keep hM.keep (fun k hk hK => by
    rcases hk with h1 | h1
    · exact h.book.apF k h1 hK
    · exact h.book.apG k h1 hK)
  have hcalm : Calm s.flush := by
    rw [e4]
    exact ⟨by show (s.armed == 1) = false; rw [h.calm.2]; rfl, by show s.armed - 1 = 0; rw [h.calm.2]⟩
  refine ⟨rfl, F', s.flush, ⟨⟨hB, hat, hapF', h.book.apG, h.book.first, h.book.next, h.book.age, h.book.starts, h.book.tl, h.book.al⟩, hcalm, h.live, h.dead, h.lst, h.inv.less (fun k c hc => by rw [flush_may h.calm.1 ha hc]; exact may_shown s k), fun y hy i hi => by rw [flush_shown h.calm.1 ha]; exact h.right y hy i hi, by rw [e4]; show 0 ≤ _; omega, by rw [e4]; show s.ticks + 1 ≤ _; omega, by omega, by omega, hm, by rw [flush_turns]; exact h.turns⟩, by rw [e4]; rfl, ?_⟩
  refine ⟨hM.keep.weak (fun k hk => hk.elim Or.inl (fun h1 => Or.inr (Or.inl h1))), fun k hk => ?_⟩
  rcases hk with h1 | h1 | h1
  · rcases hM.sub k (Or.inl h1) with h2 | h2
    · exact Or.inl (h2.elim Or.inl (fun h3 => Or.inr (Or.inl h3)))
    · exact Or.inr h2
  · exact Or.inl (Or.inr (Or.inl h1))
  · exact Or.inl (Or.inr (Or.inr h1))
/-- All is safe: the book says so. -/
theorem Run.allSafe (h : Run F G K w g lp dp s L b rv tv av S ids m) (hw : s.waits = []) (u : Nat) (hu : u ≤ ids.length) :
    Run F G K (w.setCell ⟨g, 17, none⟩ (.int .i64 (u : Int))) g lp dp s L { b with safe := u } rv tv av S ids m ∧ Keep (all3 F G K) w (w.setCell ⟨g, 17, none⟩ (.int .i64 (u : Int))) := by
  have hkp : Keep (fun k => k = g) w (w.setCell ⟨g, 17, none⟩ (.int .i64 (u : Int))) := sets_keep g [(17, .int .i64 (u : Int))] w
  have hat : BAt K (w.setCell ⟨g, 17, none⟩ (.int .i64 (u : Int))) g dp lp { b with safe := u } rv tv av := by
    refine h.book.at_.anew ?_ hkp.size (fun k hk hlt => hkp.block k hlt hk) h.book.at_.recs h.book.at_.turns h.book.at_.ages h.book.at_.two
    exact (sets_block g _ [(17, Value.int .i64 (u : Int))] w _ h.book.at_.blk).trans rfl
  have hK : Keep K w (w.setCell ⟨g, 17, none⟩ (.int .i64 (u : Int))) := hkp.weak (fun k hk => by rw [hk]; exact h.book.at_.fg)
  have hi := h.inv
  refine ⟨⟨⟨⟨h.book.both.dev.stays hK.size (fun k hk => hK.block k (h.book.both.dev.lt k hk) (h.book.apF k hk)), h.book.both.log.keep hK (fun k hk hg => h.book.apG k hg hk), h.book.both.apart, h.book.both.size⟩, hat, h.book.apF, h.book.apG, h.book.first, h.book.next, h.book.age, h.book.starts, h.book.tl, h.book.al⟩, h.calm, h.live, h.dead, ⟨h.lst.recs, h.lst.turns, h.lst.ages⟩, ?_, h.right, h.waits, h.ticks, h.next, h.age, h.small, h.turns⟩, hK.weak (fun k hk => Or.inr (Or.inr hk))⟩
  exact ⟨hi.links, hi.ring, hi.rise, hi.ok, hi.uniq, hi.news, hi.same, hi.gap, hi.mem, hi.seen, fun y hy i hi' c hc => by rw [may_nowait hw hc]; exact h.right y (List.mem_of_mem_take hy) i hi', hu⟩
theorem chain_four : ∀ (l : List Id) (t e : Nat), chain t l e → (∀ y ∈ l, y.cnt ≤ 4) → e ≤ t + 4 * l.length
  | [], t, e, h, _ => by simp [chain] at h; simp; omega
  | x :: l, t, e, h, hc => by
    have h1 := chain_four l _ _ h.2 (fun y hy => hc y (by simp [hy]))
    have := hc x (by simp)
    simp only [List.length_cons]
    omega
/-- Cells of bytes are a row of bytes. -/
theorem row_of_u8 {w : World} {gx n : Nat} {cur : Array Value} (h : w.heap[gx]? = some (.cells cur 5 (0, 0))) (hn : cur.size = n) (hm : n ≤ 100000) (hb : ∀ j, j < n → ∃ z : Int, cur[j]? = some (.int .u8 z) ∧ 0 ≤ z ∧ z < 256) : ∃ x : List UInt8, x.length = n ∧ Row w (.slice (some ⟨gx, 0, none⟩) n n) x := by
  have hb2 : ∀ j, j < n → ∃ u : UInt8, cur[j]? = some (B u) := fun j hj => by
    obtain ⟨z, h1, h2, h3⟩ := hb j hj
    refine ⟨UInt8.ofNat z.toNat, ?_⟩
    rw [h1]
    unfold B
    congr 2
    simp
    omega
  have hch : ∃ f : Nat → UInt8, ∀ j, j < n → cur[j]? = some (B (f j)) := by
    refine ⟨fun j => if h : j < n then (hb2 j h).choose else 0, fun j hj => ?_⟩
    simp only [hj, dif_pos]
    exact (hb2 j hj).choose_spec
  obtain ⟨f, hf⟩ := hch
  refine ⟨(List.range n).map f, by simp, ⟨_, n, by simp, by simp, by unfold maxLen; omega, (fun h => by cases h), Or.inr ⟨gx, 0, rfl, fun j hj => ?_⟩⟩⟩
  have hj' : j < n := by simpa using hj
  rw [Nat.zero_add, cell_of_row w gx j cur _ (0, 0) h, hf j hj']
  simp
end Go.Proofs.YtpkpjmebkikgdaaGreat

/- The statements of layer 7: a book's device falls and is started; a record that waits, and of which a fall keeps some sectors. -/
namespace Go.Proofs.YtpkpjmebkikgdaaGreat
open Go.RowKit

variable {F G K : Nat → Prop} {w w' : World} {g : Nat} {lp dp : Value} {s : DK} {L : LG} {b : BK} {rv tv av : Value} {S : Id → Prop} {ids : List Id} {m : Nat}
theorem Held.move {F' : Nat → Prop} {s' : DK} (h : Held F G K w g lp dp s L b rv tv av) (hD : DRep F' w' dp s') (hM : Moves F F' w w') (hn : s'.n = s.n) : Held F' G K w' g lp dp s' L b rv tv av := by
  have hs : ∀ (X : Nat → Prop), (∀ k, F k → ¬ X k) → (∀ k, X k → k < w.heap.size) → ∀ k, F' k → ¬ X k := fun X h1 h2 k hk hX => by
    rcases hM.sub k hk with h3 | h3
    · exact h1 k h3 hX
    · have := h2 k hX; omega
  exact ⟨⟨hD, h.both.log.keep hM.keep h.both.apart, hs G h.both.apart h.both.log.lt, by rw [hn]; exact h.both.size⟩, h.at_.keep hM.keep h.apF, hs K h.apF h.at_.lt, h.apG⟩
def FallPost (F G K : Nat → Prop) (w w' : World) (g : Nat) (lp dp : Value) (s' : DK) (L : LG) (b : BK) (rv tv av : Value) : Prop := ∃ F', Held F' G K w' g lp dp s' L b rv tv av ∧ Moves F F' w w'
theorem held_crash (h : Held F G K w g lp dp s L b rv tv av) {kv : Value} {ks : List Bool} (hks : BRow w kv ks) (ho : ∀ b off n c, kv = .slice (some ⟨b, off, none⟩) n c → 0 < n → ¬ F b) (hw : s.waits.length ≤ 1048576) :
    Calls Tryz.prog 9 #[dp, kv] w fun e w' => e = .returned (.int .i64 0) ∧ FallPost F G K w w' g lp dp (s.crash ks) L b rv tv av := by
  refine (ocrash_any F dp s kv ks w h.both.dev hks ho hw).mono ?_
  rintro e w' ⟨rfl, F', hD, hM⟩
  exact ⟨rfl, F', h.move hD hM rfl, hM⟩
theorem held_start (h : Held F G K w g lp dp s L b rv tv av) :
    Calls Tryz.prog 10 #[dp] w fun e w' => e = .returned (.int .i64 0) ∧ FallPost F G K w w' g lp dp s.start L b rv tv av := by
  refine (ostart_any F dp s w h.both.dev).mono ?_
  rintro e w' ⟨rfl, F', hD, hM⟩
  exact ⟨rfl, F', h.move hD hM (by unfold DK.start; split <;> rfl), hM⟩

/-- What is so behind an append of a record that fits. -/
def FitPost (F G K : Nat → Prop) (w w' : World) (g : Nat) (lp dp : Value) (s : DK) (b : BK) (ids : List Id) (m : Nat) (x : List UInt8) : Prop :=
  ∃ F' G' K' L' rv' tv' av' S', Run F' G' K' w' g lp dp (layW 256 s b.next (cutL b.age b.next x)).1 L' { b with recs := b.recs ++ [x], turns := b.turns ++ [b.next], ages := b.ages ++ [b.age], next := b.next + (Id.mk b.age b.next x).cnt } rv' tv' av' S' (ids ++ [⟨b.age, b.next, x⟩]) (m + 1) ∧ Moves (all3 F G K) (all3 F' G' K') w w'
theorem run_append_fit (h : Run F G K w g lp dp s L b rv tv av S ids m) (hm : m + 1 ≤ 1000) {xv : Value} {x : List UInt8} (hx : Row w xv x) (hroom : x.length ≤ 140737488351232) (hout : ∀ k off n c, xv = .slice (some ⟨k, off, none⟩) n c → x ≠ [] → ¬ F k ∧ ¬ G k ∧ ¬ K k)
    (hE : x.length ≤ 8192 ∧ b.next + (Id.mk b.age b.next x).cnt ≤ b.first + 30) :
    Calls Tryz.prog 23 #[.pointer (some ⟨g, 0, none⟩), xv] w fun e w' => e = .returned (.bool true) ∧ FitPost F G K w w' g lp dp s b ids m x := by
  have q1 := h.waits
  have q2 := h.ticks
  have q3 := h.next
  have q4 := h.age
  have q5 := h.inv.count
  have q6 := h.len
  have hnx := h.book.next
  have hag := h.book.age
  obtain ⟨a1, a2, a3, a4, a5, a6, a7⟩ := app_calm (n := 256) (s := s) (L := L) (r := x) fits256 h.book.both.size h.calm h.live
  refine (bappend_calm F G K g lp dp s L b rv tv av xv x w h.book h.calm h.live hx hroom hout (by omega) (by omega) (by omega) (by omega)).mono ?_
  rintro e w' ⟨rfl, F', G', K', rv', tv', av', hB, hM⟩
  rw [lz256] at a1
  have hcnt : ((Id.mk b.age b.next x).cnt : Int) = countN x.length := Id.cnt_of _
  obtain ⟨_, _, _, R⟩ := h.book.both.log
  have r1 := R.ok.le
  have r2 := R.ok.ring
  rw [lz30] at r2
  have hf1 := h.book.first
  have e0 : appE 256 s L x = 0 := by rw [a1, if_neg (by omega), if_neg (by rw [← hcnt]; omega)]
  have eS : appS 256 s L x = (layW 256 s L.next (cutL L.age L.next x)).1 := by
    unfold appS
    rw [if_neg (by omega), if_neg (by rw [h.live, h.calm.1]; simp), if_neg (by rw [lz256, ← hcnt]; omega)]
  have eL : (layW 256 s L.next (cutL L.age L.next x)).2 = 0 := by
    have := e0
    unfold appE at this
    rw [if_neg (by omega), if_neg (by rw [h.live, h.calm.1]; simp), if_neg (by rw [lz256, ← hcnt]; omega)] at this
    exact this
  have ebk : b.app (appE 256 s L x) x = { b with recs := b.recs ++ [x], turns := b.turns ++ [b.next], ages := b.ages ++ [b.age], next := b.next + (Id.mk b.age b.next x).cnt } := by
    unfold BK.app
    rw [if_pos e0]
    rfl
  have hzc : (Id.mk b.age b.next x).cnt ≤ 19 := by
    have := count_le (n := (x.length : Int)) (by omega)
    omega
  have hi1 := h.inv.appends (L := L) h.book.age h.book.next hE.1 hE.2 (by omega) (by omega) eS
  have hi2 := h.inv.appended (L := L) h.right h.book.age h.book.next hE.1 hE.2 h.sn h.calm.1 eS eL
  have eS2 : appS 256 s L x = (layW 256 s b.next (cutL b.age b.next x)).1 := by rw [eS, hnx, hag]
  rw [ebk, eS2] at hB
  rw [eS2] at a2 a3 a4 hi1 hi2
  refine ⟨rfl, F', G', K', _, rv', tv', av', _, ⟨hB, a2, a5, h.dead, ⟨?_, ?_, ?_⟩, hi1, hi2, by omega, by omega, ?_, ?_, hm, by rw [lay_turns]; exact h.turns⟩, hM⟩
  · show b.recs ++ [x] = _; rw [h.lst.recs, List.map_append]; rfl
  · show b.turns ++ [b.next] = _; rw [h.lst.turns, List.map_append]; rfl
  · show b.ages ++ [b.age] = _; rw [h.lst.ages, List.map_append]; rfl
  · show b.next + _ ≤ _; omega
  · show b.age ≤ _; omega

/-- The writes of a record. -/
def pairs : Nat → List (List UInt8) → List (Nat × List UInt8)
  | _, [] => []
  | t, x :: l => (pos t, sealed 77 t x) :: pairs (t + 1) l
theorem lay_waits : ∀ (ls : List (List UInt8)) (s : DK) (t : Nat), Calm s → s.n = 256 → (∀ x ∈ ls, x.length ≤ 496) → (layW 256 s t ls).1.waits = s.waits ++ pairs t ls ∧ (layW 256 s t ls).1.kept = s.kept
  | [], s, t, _, _, _ => ⟨by simp [layW, pairs], rfl⟩
  | x :: l, s, t, hc, hn, hl => by
    obtain ⟨c1, c2, c3, c4, c5⟩ := calm_write (n := 256) (t := t) hc (by rw [hn]; rfl) fits256 (hl x (by simp))
    unfold layW
    rw [if_neg (by rw [c1]; simp)]
    obtain ⟨i1, i2⟩ := lay_waits l _ (t + 1) c2 (by rw [write_n]; exact hn) (fun y hy => hl y (by simp [hy]))
    refine ⟨?_, by rw [i2, c5]⟩
    rw [i1, c3, logN_pos, pairs, List.append_assoc]
    rfl
theorem keep_pairs (ks : List Bool) : ∀ (ls : List (List UInt8)) (t i0 : Nat) (f : Nat → List UInt8), ls.length ≤ 30 →
    (∀ j (h : j < ls.length), keepSome ks f i0 (pairs t ls) (pos (t + j)) = if ks.getD (i0 + j) false = true then sealed 77 (t + j) ls[j] else f (pos (t + j))) ∧ ∀ k, (∀ j, j < ls.length → k ≠ pos (t + j)) → keepSome ks f i0 (pairs t ls) k = f k
  | [], t, i0, f, _ => ⟨fun j h => by simp at h, fun k _ => rfl⟩
  | x :: l, t, i0, f, hl => by
    obtain ⟨a1, a2⟩ := keep_pairs ks l (t + 1) (i0 + 1) (if ks.getD i0 false = true then keep1 f (pos t, sealed 77 t x) else f) (by simp at hl; omega)
    have hk1 : ∀ k, k ≠ pos t → (if ks.getD i0 false = true then keep1 f (pos t, sealed 77 t x) else f) k = f k := fun k hk => by
      split
      · unfold keep1; rw [if_neg hk]
      · rfl
    refine ⟨fun j h => ?_, fun k hk => ?_⟩
    · show keepSome ks (if ks.getD i0 false = true then keep1 f (pos t, sealed 77 t x) else f) (i0 + 1) (pairs (t + 1) l) (pos (t + j)) = _
      cases j with
      | zero =>
        show keepSome ks (if ks.getD i0 false = true then keep1 f (pos t, sealed 77 t x) else f) (i0 + 1) (pairs (t + 1) l) (pos t) = if ks.getD i0 false = true then sealed 77 t x else f (pos t)
        rw [a2 (pos t) (fun j hj e => by simp at hl; have := pos_eq e (by omega) (by omega); omega)]
        split
        · unfold keep1; rw [if_pos rfl]
        · rfl
      | succ j =>
        have hj : j < l.length := by simpa using h
        have := a1 j hj
        rw [show t + 1 + j = t + (j + 1) by omega, show i0 + 1 + j = i0 + (j + 1) by omega] at this
        rw [this, hk1 _ (fun e => by simp at hl; have := pos_eq e (by omega) (by omega); omega)]
        rfl
    · show keepSome ks (if ks.getD i0 false = true then keep1 f (pos t, sealed 77 t x) else f) (i0 + 1) (pairs (t + 1) l) k = _
      rw [a2 k (fun j hj e => hk (j + 1) (by simpa using hj) (by rw [e]; congr 1; omega)), hk1 k (fun e => hk 0 (by simp) (by rw [e]; rfl))]
/-- Of a record that waits alone a fall keeps just what it is told to. -/
theorem right_iff_kept {first next age safe : Nat} (h : RInv S s ids first next age safe) (hc : Calm s) (hn : s.n = 256) (hw : s.waits = []) {x : List UInt8} (hx : x.length ≤ 8192) (hroom : next + (Id.mk age next x).cnt ≤ first + 30) (hb : age < 18446744073709551616) (hnx : next + 64 < 9223372036854775808) (ks : List Bool) :
    Right (((layW 256 s next (cutL age next x)).1.crash ks).start) ⟨age, next, x⟩ ↔ ∀ i, i < (Id.mk age next x).cnt → ks.getD i false = true := by
  obtain ⟨c1, c2⟩ := cut_get age next x hx
  obtain ⟨w1, w2⟩ := lay_waits (cutL age next x) s next hc hn (cut_short _ _ _)
  have h30 : (cutL age next x).length ≤ 30 := by have := chain_le _ _ _ h.links; omega
  obtain ⟨k1, _⟩ := keep_pairs ks (cutL age next x) next 0 s.kept h30
  have hz : (Id.mk age next x).Ok := ⟨hx, hb, hnx⟩
  have hsh : ∀ k, (((layW 256 s next (cutL age next x)).1.crash ks).start).shown k = keepSome ks s.kept 0 (pairs next (cutL age next x)) k := fun k => by
    show shownB k (keepSome ks (layW 256 s next (cutL age next x)).1.kept 0 (layW 256 s next (cutL age next x)).1.waits k) [] = _
    rw [w1, w2, hw]
    rfl
  constructor
  · intro hR i hi
    have h1 := hR i hi
    rw [hsh] at h1
    have h2 := k1 i (by rw [c1]; exact hi)
    rw [Nat.zero_add] at h2
    cases hk : ks.getD i false with
    | true => rfl
    | false =>
      rw [hk, if_neg (by decide)] at h2
      exfalso
      rw [show (Id.mk age next x).first + i = next + i from rfl, h2] at h1
      rcases h.seen (pos (next + i)) _ (pos_in _).1 (pos_in _).2 (Or.inl h1.symm) with h3 | ⟨y, j, y1, y2, y3, y4⟩
      · exact sec_blank hz hi h3
      · obtain ⟨e1, e2, _⟩ := sec_turn hz (h.ok y y1).1 hi y2 y4
        have e1' : age = y.age := e1
        have e2' : next = y.first := e2
        have := h.news y y1 (by omega)
        omega
  · intro hk i hi
    rw [hsh]
    have h2 := k1 i (by rw [c1]; exact hi)
    rw [Nat.zero_add, if_pos (hk i hi), c2 i (by rw [c1]; exact hi)] at h2
    exact h2
end Go.Proofs.YtpkpjmebkikgdaaGreat
