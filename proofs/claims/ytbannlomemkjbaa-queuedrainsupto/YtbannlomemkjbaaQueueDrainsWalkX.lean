/- The walk of the statement 'QueueDrains'. -/
import Derived.Test.YtbannlomemkjbaaG11
import Derived.Test.YtbannlomemkjbaaG14
import Derived.Test.YtbannlomemkjbaaG15
import Derived.Test.YtbannlomemkjbaaG17
namespace Go.Proofs.Ytbannlomemkjbaa
open Go.RowKit

/-- Items in a row that is not the queue's. -/
def TIA (F : Nat → Prop) (w : World) (v : Value) (l : List It) : Prop := TI w v l ∧ ∀ k, v.ownBlock = some k → ¬ F k ∧ k < w.heap.size
theorem TIA.below {F : Nat → Prop} {w w' : World} {v : Value} {l : List It} (h : TIA F w v l) (hb : Below w.heap.size w w') : TIA F w' v l := ⟨h.1.below hb, fun k hk => ⟨(h.2 k hk).1, Nat.lt_of_lt_of_le (h.2 k hk).2 hb.size⟩⟩
theorem TIA.moves {F F' : Nat → Prop} {w w' : World} {v : Value} {l : List It} (h : TIA F w v l) (hm : Moves F F' w w') : TIA F' w' v l := by
  refine ⟨h.1.keep hm.keep (fun b off n c e _ => (h.2 b (by rw [e]; rfl)).1), fun k hk => ⟨fun hf => ?_, Nat.lt_of_lt_of_le (h.2 k hk).2 hm.keep.size⟩⟩
  rcases hm.sub k hf with h' | h'
  · exact (h.2 k hk).1 h'
  · have := (h.2 k hk).2; omega
theorem TIA.nil (F : Nat → Prop) (w : World) : TIA F w (.slice none 0 0) [] := ⟨TI.nil w, fun k hk => by simp [Value.ownBlock] at hk⟩

def FilledD (b : Nat) (w wr : World) (q k : Nat) (l : List It) : Prop := ∃ F, QAt F wr q (.func (.func 10) #[] #[]) lowI (srt lowI (l.take k)) k ∧ (∀ j, F j → b ≤ j) ∧ Below b w wr ∧ b ≤ wr.heap.size
theorem FilledD.below {b : Nat} {w wr wx : World} {q k : Nat} {l : List It} (h : FilledD b w wr q k l) (hb : Below wr.heap.size wr wx) : FilledD b w wx q k l := by
  obtain ⟨F, h1, h2, h3, h4⟩ := h
  exact ⟨F, h1.below hb, h2, h3.trans (hb.mono h4), Nat.le_trans h4 hb.size⟩
theorem fillD_one {b : Nat} {w wr : World} {q k : Nat} {l : List It} (hk : k < l.length) (h : FilledD b w wr q k l) (hl : l.length ≤ 1048576) :
    Calls Try.prog 14 #[.pointer (some ⟨q, 0, none⟩), .agg #[.int .i64 l[k].1, .string l[k].2]] wr fun e w' => e = .returned (.int .i64 0) ∧ FilledD b w w' q (k + 1) l := by
  obtain ⟨F, h1, h2, h3, h4⟩ := h
  have hlen : (srt lowI (l.take k)).length = k := by rw [length_srt, List.length_take]; omega
  refine (qpush_any lowI F wr q k l[k] _ _ h1 (by rw [hlen]; omega) (by omega)).mono ?_
  rintro e w' ⟨rfl, F', g1, m1⟩
  rw [← srt_snoc, ← List.take_succ_eq_append_getElem hk] at g1
  refine ⟨rfl, F', g1, fun j hj => ?_, h3.trans (m1.keep.below h4 h2), Nat.le_trans h4 m1.keep.size⟩
  rcases m1.sub j hj with h | h
  · exact h2 j h
  · omega
theorem moves_lo {F F' : Nat → Prop} {b : Nat} {w w' : World} (hm : Moves F F' w w') (h : ∀ k, F k → b ≤ k) (hb : b ≤ w.heap.size) : ∀ k, F' k → b ≤ k := fun k hk => by
  rcases hm.sub k hk with h' | h'
  · exact h k h'
  · omega
theorem own_shape {w : World} {base e n : Nat} {v : Value} {xs : List Value} (h : w.ownsRow base e 2 v n xs) : ∃ p c, v = .slice p n c := by
  rcases h.2 with ⟨h', h0⟩ | ⟨g', cap', cur, h', _⟩
  · exact ⟨none, 0, by rw [h', h0]⟩
  · exact ⟨_, _, h'⟩

/-- What is left behind the first part. -/
def LeftD (b : Nat) (w wr : World) (q n k : Nat) (l : List It) (va vw : Value) : Prop :=
  ∃ F, QAt F wr q (.func (.func 10) #[] #[]) lowI ((srt lowI l).drop k) n ∧ TIA F wr va ((srt lowI l).take k) ∧ TIA F wr vw (srt lowI l) ∧ (∀ j, F j → b ≤ j) ∧ Below b w wr ∧ b ≤ wr.heap.size
theorem LeftD.below {b : Nat} {w wr wx : World} {q n k : Nat} {l : List It} {va vw : Value} (h : LeftD b w wr q n k l va vw) (hb : Below wr.heap.size wr wx) : LeftD b w wx q n k l va vw := by
  obtain ⟨F, h1, h2, h3, h4, h5, h6⟩ := h
  exact ⟨F, h1.below hb, h2.below hb, h3.below hb, h4, h5.trans (hb.mono h6), Nat.le_trans h6 hb.size⟩
theorem drain_first {b : Nat} {w wr : World} {q n k : Nat} {l : List It} {vw : Value} (h : LeftD b w wr q n 0 l (.slice none 0 0) vw) (hl : l.length ≤ 1048576) (hk : 0 < k) (hk2 : k ≤ 1048580) :
    Calls Try.prog 16 #[.pointer (some ⟨q, 0, none⟩), .int .i64 (k : Int)] wr fun e w' => ∃ p c, e = .returned (.tuple #[.slice p ((srt lowI l).take k).length c, .bool true]) ∧ LeftD b w w' q n k l (.slice p ((srt lowI l).take k).length c) vw := by
  obtain ⟨F, h1, h2, h3, h4, h5, h6⟩ := h
  rw [List.drop_zero] at h1
  refine (drained_any lowI F wr q n k _ (srt lowI l) h1 (by rw [length_srt]; exact hl) hk hk2).mono ?_
  rintro e w' ⟨v, rfl, F', o1, o2, q1, m1⟩
  obtain ⟨p, c, rfl⟩ := own_shape o1
  exact ⟨p, c, rfl, F', q1, ⟨TI.of_owns o1, fun j hj => ⟨(o2 j hj).2, (o1.lt j hj).2⟩⟩, h3.moves m1, moves_lo m1 h4 h6, h5.trans (m1.keep.below h6 h4), Nat.le_trans h6 m1.keep.size⟩
/-- The rest, all of it. -/
def RestD (b : Nat) (w wr : World) (q n k : Nat) (l : List It) (vb vw : Value) : Prop :=
  ∃ F, QAt F wr q (.func (.func 10) #[] #[]) lowI [] n ∧ TIA F wr vb ((srt lowI l).drop k) ∧ TIA F wr vw (srt lowI l) ∧ (∀ j, F j → b ≤ j) ∧ Below b w wr ∧ b ≤ wr.heap.size
theorem RestD.below {b : Nat} {w wr wx : World} {q n k : Nat} {l : List It} {va vw : Value} (h : RestD b w wr q n k l va vw) (hb : Below wr.heap.size wr wx) : RestD b w wx q n k l va vw := by
  obtain ⟨F, h1, h2, h3, h4, h5, h6⟩ := h
  exact ⟨F, h1.below hb, h2.below hb, h3.below hb, h4, h5.trans (hb.mono h6), Nat.le_trans h6 hb.size⟩
theorem drain_rest {b : Nat} {w wr : World} {q n k : Nat} {l : List It} {va vw : Value} (h : LeftD b w wr q n k l va vw) (hl : l.length ≤ 1048576) :
    Calls Try.prog 16 #[.pointer (some ⟨q, 0, none⟩), .int .i64 ((l.length : Int) + 1)] wr fun e w' => ∃ p c, e = .returned (.tuple #[.slice p ((srt lowI l).drop k).length c, .bool true]) ∧ RestD b w w' q n k l (.slice p ((srt lowI l).drop k).length c) vw := by
  obtain ⟨F, h1, h2, h3, h4, h5, h6⟩ := h
  have hlen : ((srt lowI l).drop k).length ≤ l.length := by rw [List.length_drop, length_srt]; omega
  have hd := drained_any lowI F wr q n (l.length + 1) _ _ h1 (by omega) (by omega) (by omega)
  rw [show (((l.length + 1 : Nat)) : Int) = (l.length : Int) + 1 from by omega] at hd
  refine hd.mono ?_
  rintro e w' ⟨v, rfl, F', o1, o2, q1, m1⟩
  rw [List.take_of_length_le (by omega)] at o1
  rw [List.drop_of_length_le (by omega)] at q1
  obtain ⟨p, c, rfl⟩ := own_shape o1
  exact ⟨p, c, rfl, F', q1, ⟨TI.of_owns o1, fun j hj => ⟨(o2 j hj).2, (o1.lt j hj).2⟩⟩, h3.moves m1, moves_lo m1 h4 h6, h5.trans (m1.keep.below h6 h4), Nat.le_trans h6 m1.keep.size⟩
theorem drain_none {b : Nat} {w wr : World} {q n k : Nat} {l : List It} {vb vw : Value} (h : RestD b w wr q n k l vb vw) :
    Calls Try.prog 16 #[.pointer (some ⟨q, 0, none⟩), .int .i64 5] wr fun e w' => ∃ p c, e = .returned (.tuple #[.slice p 0 c, .bool true]) ∧ RestD b w w' q n k l vb vw := by
  obtain ⟨F, h1, h2, h3, h4, h5, h6⟩ := h
  refine (drained_any lowI F wr q n 5 _ [] h1 (by simp) (by omega) (by omega)).mono ?_
  rintro e w' ⟨v, rfl, F', o1, o2, q1, m1⟩
  obtain ⟨p, c, rfl⟩ := own_shape o1
  exact ⟨p, c, rfl, F', q1, h2.moves m1, h3.moves m1, moves_lo m1 h4 h6, h5.trans (m1.keep.below h6 h4), Nat.le_trans h6 m1.keep.size⟩

set_option maxRecDepth 20000 in
set_option maxHeartbeats 2000000 in
theorem qdrains_any (s : Value) (l : List It) (most : Int) (w : World) (hs : TI w s l) (hl : l.length ≤ 1048576) :
    Calls Try.prog 4 #[s, .int .i64 most] w fun e w' => e = .returned (.bool true) ∧ Below w.heap.size w w' := by
  obtain ⟨kk, hkk, hkk3⟩ : ∃ kk : Nat, (IntKind.u64.wrap most).tmod ((l.length : Int) + 2) = (kk : Int) ∧ kk ≤ l.length + 1 := by
    have h0 : 0 ≤ IntKind.u64.wrap most := by rw [IntKind.wrap_u64]; omega
    have hp : (0 : Int) < (l.length : Int) + 2 := by omega
    have h1 := Int.emod_nonneg (IntKind.u64.wrap most) (show ((l.length : Int) + 2) ≠ 0 by omega)
    have h2 := Int.emod_lt_of_pos (IntKind.u64.wrap most) hp
    refine ⟨((IntKind.u64.wrap most).tmod ((l.length : Int) + 2)).toNat, ?_, ?_⟩
    · rw [Int.tmod_eq_emod_of_nonneg h0]; omega
    · rw [Int.tmod_eq_emod_of_nonneg h0]; omega
  obtain ⟨p, cap, rfl, k1, k2⟩ := hs.shape
  have HS := hide hs
  have HL := hide hl
  have hlI : (l.length : Int) ≤ 1048576 := by omega
  have hkkI : (kk : Int) ≤ 1048577 := by omega
  have hwl : IntKind.u64.wrap ((l.length : Int) + 2) = (l.length : Int) + 2 := by rw [IntKind.wrap_u64]; omega
  have HK3 := hide hkk3
  clear hs hl k1 k2 hkk3
  go_enter Try.func4, Try.ntmps4
  go_wp2_with fail
  refine Calls.mono (qnew_any lowI _ below_C _) ?_
  rintro e w1 ⟨rfl, q1, b1⟩
  have HF1 : Hid (FilledD w.heap.size w w1 w.heap.size 0 l) := ⟨_, q1, fun j e => Nat.le_of_eq e.symm, b1, b1.size⟩
  clear q1 b1
  go_wp2_with fail
  refine Calls.mono (awake_any _) ?_
  rintro e w2 ⟨rfl, b2⟩
  have HF2 := hide ((unhide HF1).below b2)
  clear b2 HF1
  go_wp2_with fail
  go_loopw [6] (fun i wr => ∃ k : Nat, k ≤ l.length ∧ i = .int .i64 (k : Int) ∧ FilledD w.heap.size w wr w.heap.size k l) (fun i _ => l.length - (intOf i).toNat)
  case atStart => exact ⟨0, Nat.zero_le _, rfl, unhide HF2⟩
  case round =>
    clear HF2
    obtain ⟨k, hk, rfl, hF⟩ := hrel
    by_cases hlt : k < l.length
    · have hkI : (k : Int) < (l.length : Int) := by omega
      obtain ⟨b, off, c', e0, _, _, hbl, hat, _⟩ := ((unhide HS).below hF.choose_spec.2.2.1).at (by omega)
      simp only [Value.slice.injEq] at e0
      obtain ⟨rfl, _, rfl⟩ := e0
      obtain ⟨a1, a2⟩ := hat k hlt
      have HP := hide (fillD_one hlt hF (unhide HL))
      have HLT := hide hlt
      generalize l[k] = X at *
      have hdd : decide (k < l.length) = true := decide_eq_true hlt
      clear hk hlt hF hat hbl
      go_wp2_with fail
      refine Calls.mono (unhide HP) ?_
      rintro e w3 ⟨rfl, hF3⟩
      have HF3 := hide hF3
      clear hF3 a1 a2 HP
      go_wp2_with fail
      go_roundw
      case rel => exact ⟨k + 1, unhide HLT, by go_num, unhide HF3⟩
      case measure => (have := unhide HLT; simp [intOf]; omega)
    · have hke : k = l.length := by omega
      subst hke
      obtain ⟨F, h1, h2, h3, h4⟩ := hF
      rw [List.take_length] at h1
      have HR := hide (rsorted_any _ l wr ((unhide HS).below h3) (unhide HL))
      clear hk hlt
      go_wp2_with fail
      refine Calls.mono (unhide HR) ?_
      rintro e w4 ⟨v4, rfl, o4, b4⟩
      have hlen4 : (srt lowI l).length = l.length := length_srt lowI l
      obtain ⟨p4, c4, rfl⟩ := own_shape o4
      have HLD : Hid (LeftD w.heap.size w w4 w.heap.size l.length 0 l (.slice none 0 0) (.slice p4 l.length c4)) := ⟨F, by rw [List.drop_zero]; exact h1.below b4, by rw [List.take_zero]; exact TIA.nil _ _, ⟨TI.of_owns (by rw [hlen4]; exact o4), fun j hj => ⟨fun hf => by have := (o4.lt j hj).1; have := h1.lt j hf; omega, (o4.lt j hj).2⟩⟩, h2, h3.trans (b4.mono h4), Nat.le_trans h4 b4.size⟩
      clear h1 h2 h3 h4 o4 b4 HR
      by_cases hk0 : kk = 0
      · have hmn : ¬ (l.length : Int) < (kk : Int) := by omega
        have hk0I : ¬ (0 : Int) < (kk : Int) := by omega
        have HLK : Hid (LeftD w.heap.size w w4 w.heap.size l.length kk l (.slice none 0 0) (.slice p4 l.length c4)) := by rw [hk0]; exact unhide HLD
        have hsl : (0 : Nat) = ((srt lowI l).take kk).length := by rw [hk0]; rfl
        obtain ⟨k1, hk1⟩ : ∃ k1, k1 = kk := ⟨_, rfl⟩
        subst hk1
        have HK1 : Hid (k1 ≤ l.length) := by unfold Hid; omega
        have HSL := hide hsl
        clear hk0 HLD hsl
        obtain ⟨F5, f1, f2, f3, f4, f5, f6⟩ := unhide HLK
        have T5 := f3.1
        obtain ⟨qa, ca, sl1, t1, _⟩ := T5.taken k1 (by rw [hlen4]; exact unhide HK1)
        have hta : ((srt lowI l).take k1).length = k1 := by rw [List.length_take, hlen4]; have := unhide HK1; omega
        have HPL := hide (plain_true _ _ _ _ f2.1 t1 (by rw [hta]; have := unhide HK1; have := unhide HL; omega))
        have hk1I : (k1 : Int) ≤ (l.length : Int) := by have := unhide HK1; omega
        clear f1 f2 f3 f4 f5 f6 T5 t1
        go_wp2_with fail
        refine Calls.mono (unhide HPL) ?_
        rintro e w6 ⟨rfl, b6⟩
        have HL6 := hide ((unhide HLK).below b6)
        clear b6 HPL sl1
        obtain ⟨F6, g1, _⟩ := unhide HL6
        have hdl : ((srt lowI l).drop k1).length = l.length - k1 := by rw [List.length_drop, hlen4]
        have HQL := hide (qlen_any lowI F6 _ _ _ _ _ g1)
        clear g1
        rw [hdl, show (((l.length - k1 : Nat)) : Int) = (l.length : Int) - (k1 : Int) from by have := unhide HK1; omega] at HQL
        go_wp2_with fail
        refine Calls.mono (unhide HQL) ?_
        rintro e w7 ⟨rfl, b7⟩
        have HL7 := hide ((unhide HL6).below b7)
        clear b7 HQL HL6 HLK
        go_wp2_with fail
        refine Calls.mono (drain_rest (unhide HL7) (unhide HL)) ?_
        rintro e w8 ⟨p8, c8, rfl, hR8⟩
        have HR8 := hide hR8
        clear hR8 HL7
        rw [hdl]
        rw [hdl] at HR8
        go_wp2_with fail
        refine Calls.mono (drain_none (unhide HR8)) ?_
        rintro e w9 ⟨p9, c9, rfl, hR9⟩
        have HR9 := hide hR9
        obtain ⟨F9, g1, g2, g3, g4, g5, g6⟩ := hR9
        obtain ⟨qb, cb, sl2, t2, _⟩ := g3.1.dropped k1 (by rw [hlen4]; exact unhide HK1)
        rw [hlen4] at sl2 t2
        have HP9 := hide (plain_true _ _ _ _ g2.1 t2 (by rw [hdl]; have := unhide HL; omega))
        clear g1 g2 g3 g4 g5 g6 t2 HR8
        go_wp2_with fail
        refine Calls.mono (unhide HP9) ?_
        rintro e w10 ⟨rfl, b10⟩
        have HR10 := hide ((unhide HR9).below b10)
        clear b10 HP9 HR9 sl2
        obtain ⟨F10, g1, g2, g3, g4, g5, g6⟩ := unhide HR10
        have HQ10 := hide (qlen_any lowI F10 _ _ _ _ _ g1)
        have HB10 := hide g5
        clear g1 g2 g3 g4 g5 HR10
        go_wp2_with fail
        refine Calls.mono (unhide HQ10) ?_
        rintro e w11 ⟨rfl, b11⟩
        have HB11 := hide ((unhide HB10).trans (b11.mono g6))
        clear b11 HQ10
        go_wp2_with fail
        go_ret
        exact ⟨rfl, unhide HB11⟩
      · have hk0I : (0 : Int) < (kk : Int) := by omega
        have hk0N : 0 < kk := by omega
        have HD := hide (drain_first (unhide HLD) (unhide HL) hk0N (by have := unhide HK3; have := unhide HL; omega))
        clear hk0 HLD
        go_wp2_with fail
        refine Calls.mono (unhide HD) ?_
        rintro e w5 ⟨p5, c5, rfl, hL5⟩
        by_cases hc : kk ≤ l.length
        · have hmn : ¬ (l.length : Int) < (kk : Int) := by omega
          have hta0 : ((srt lowI l).take kk).length = kk := by rw [List.length_take, hlen4]; omega
          rw [hta0] at hL5 ⊢
          have HLK := hide hL5
          obtain ⟨k1, hk1⟩ : ∃ k1, k1 = kk := ⟨_, rfl⟩
          subst hk1
          have HK1 := hide hc
          clear hc hL5 HD hta0
          obtain ⟨F5, f1, f2, f3, f4, f5, f6⟩ := unhide HLK
          have T5 := f3.1
          obtain ⟨qa, ca, sl1, t1, _⟩ := T5.taken k1 (by rw [hlen4]; exact unhide HK1)
          have hta : ((srt lowI l).take k1).length = k1 := by rw [List.length_take, hlen4]; have := unhide HK1; omega
          have HPL := hide (plain_true _ _ _ _ f2.1 t1 (by rw [hta]; have := unhide HK1; have := unhide HL; omega))
          have hk1I : (k1 : Int) ≤ (l.length : Int) := by have := unhide HK1; omega
          clear f1 f2 f3 f4 f5 f6 T5 t1
          go_wp2_with fail
          refine Calls.mono (unhide HPL) ?_
          rintro e w6 ⟨rfl, b6⟩
          have HL6 := hide ((unhide HLK).below b6)
          clear b6 HPL sl1
          obtain ⟨F6, g1, _⟩ := unhide HL6
          have hdl : ((srt lowI l).drop k1).length = l.length - k1 := by rw [List.length_drop, hlen4]
          have HQL := hide (qlen_any lowI F6 _ _ _ _ _ g1)
          clear g1
          rw [hdl, show (((l.length - k1 : Nat)) : Int) = (l.length : Int) - (k1 : Int) from by have := unhide HK1; omega] at HQL
          go_wp2_with fail
          refine Calls.mono (unhide HQL) ?_
          rintro e w7 ⟨rfl, b7⟩
          have HL7 := hide ((unhide HL6).below b7)
          clear b7 HQL HL6 HLK
          go_wp2_with fail
          refine Calls.mono (drain_rest (unhide HL7) (unhide HL)) ?_
          rintro e w8 ⟨p8, c8, rfl, hR8⟩
          have HR8 := hide hR8
          clear hR8 HL7
          rw [hdl]
          rw [hdl] at HR8
          go_wp2_with fail
          refine Calls.mono (drain_none (unhide HR8)) ?_
          rintro e w9 ⟨p9, c9, rfl, hR9⟩
          have HR9 := hide hR9
          obtain ⟨F9, g1, g2, g3, g4, g5, g6⟩ := hR9
          obtain ⟨qb, cb, sl2, t2, _⟩ := g3.1.dropped k1 (by rw [hlen4]; exact unhide HK1)
          rw [hlen4] at sl2 t2
          have HP9 := hide (plain_true _ _ _ _ g2.1 t2 (by rw [hdl]; have := unhide HL; omega))
          clear g1 g2 g3 g4 g5 g6 t2 HR8
          go_wp2_with fail
          refine Calls.mono (unhide HP9) ?_
          rintro e w10 ⟨rfl, b10⟩
          have HR10 := hide ((unhide HR9).below b10)
          clear b10 HP9 HR9 sl2
          obtain ⟨F10, g1, g2, g3, g4, g5, g6⟩ := unhide HR10
          have HQ10 := hide (qlen_any lowI F10 _ _ _ _ _ g1)
          have HB10 := hide g5
          clear g1 g2 g3 g4 g5 HR10
          go_wp2_with fail
          refine Calls.mono (unhide HQ10) ?_
          rintro e w11 ⟨rfl, b11⟩
          have HB11 := hide ((unhide HB10).trans (b11.mono g6))
          clear b11 HQ10
          go_wp2_with fail
          go_ret
          exact ⟨rfl, unhide HB11⟩
        · have hkl : kk = l.length + 1 := by have := unhide HK3; omega
          have hmn : (l.length : Int) < (kk : Int) := by omega
          have hta0 : (srt lowI l).take kk = (srt lowI l).take l.length := by rw [List.take_of_length_le (by rw [hlen4]; omega), List.take_of_length_le (by rw [hlen4]; omega)]
          have htd0 : (srt lowI l).drop kk = (srt lowI l).drop l.length := by rw [List.drop_of_length_le (by rw [hlen4]; omega), List.drop_of_length_le (by rw [hlen4]; omega)]
          have htl0 : ((srt lowI l).take kk).length = l.length := by rw [hta0, List.length_take, hlen4]; omega
          rw [htl0] at hL5 ⊢
          have HLK : Hid (LeftD w.heap.size w w5 w.heap.size l.length l.length l (.slice p5 l.length c5) (.slice p4 l.length c4)) := by
            obtain ⟨F, a1, a2, a3, a4, a5, a6⟩ := hL5
            rw [htd0] at a1
            rw [hta0] at a2
            exact ⟨F, a1, a2, a3, a4, a5, a6⟩
          have HK1 : Hid (l.length ≤ l.length) := Nat.le_refl _
          clear hc hkl hL5 HD hta0 htd0 htl0
          obtain ⟨F5, f1, f2, f3, f4, f5, f6⟩ := unhide HLK
          have T5 := f3.1
          obtain ⟨qa, ca, sl1, t1, _⟩ := T5.taken l.length (by rw [hlen4]; exact unhide HK1)
          have hta : ((srt lowI l).take l.length).length = l.length := by rw [List.length_take, hlen4]; have := unhide HK1; omega
          have HPL := hide (plain_true _ _ _ _ f2.1 t1 (by rw [hta]; have := unhide HK1; have := unhide HL; omega))
          skip
          clear f1 f2 f3 f4 f5 f6 T5 t1
          go_wp2_with fail
          refine Calls.mono (unhide HPL) ?_
          rintro e w6 ⟨rfl, b6⟩
          have HL6 := hide ((unhide HLK).below b6)
          clear b6 HPL sl1
          obtain ⟨F6, g1, _⟩ := unhide HL6
          have hdl : ((srt lowI l).drop l.length).length = 0 := by rw [List.length_drop, hlen4]; omega
          have HQL := hide (qlen_any lowI F6 _ _ _ _ _ g1)
          clear g1
          rw [hdl] at HQL
          go_wp2_with fail
          refine Calls.mono (unhide HQL) ?_
          rintro e w7 ⟨rfl, b7⟩
          have HL7 := hide ((unhide HL6).below b7)
          clear b7 HQL HL6 HLK
          go_wp2_with fail
          refine Calls.mono (drain_rest (unhide HL7) (unhide HL)) ?_
          rintro e w8 ⟨p8, c8, rfl, hR8⟩
          have HR8 := hide hR8
          clear hR8 HL7
          rw [hdl]
          rw [hdl] at HR8
          go_wp2_with fail
          refine Calls.mono (drain_none (unhide HR8)) ?_
          rintro e w9 ⟨p9, c9, rfl, hR9⟩
          have HR9 := hide hR9
          obtain ⟨F9, g1, g2, g3, g4, g5, g6⟩ := hR9
          obtain ⟨qb, cb, sl2, t2, _⟩ := g3.1.dropped l.length (by rw [hlen4]; exact unhide HK1)
          rw [hlen4, Nat.sub_self] at sl2 t2
          have HP9 := hide (plain_true _ _ _ _ g2.1 t2 (by rw [hdl]; have := unhide HL; omega))
          clear g1 g2 g3 g4 g5 g6 t2 HR8
          go_wp2_with fail
          refine Calls.mono (unhide HP9) ?_
          rintro e w10 ⟨rfl, b10⟩
          have HR10 := hide ((unhide HR9).below b10)
          clear b10 HP9 HR9 sl2
          obtain ⟨F10, g1, g2, g3, g4, g5, g6⟩ := unhide HR10
          have HQ10 := hide (qlen_any lowI F10 _ _ _ _ _ g1)
          have HB10 := hide g5
          clear g1 g2 g3 g4 g5 HR10
          go_wp2_with fail
          refine Calls.mono (unhide HQ10) ?_
          rintro e w11 ⟨rfl, b11⟩
          have HB11 := hide ((unhide HB10).trans (b11.mono g6))
          clear b11 HQ10
          go_wp2_with fail
          go_ret
          exact ⟨rfl, unhide HB11⟩

theorem walk_QueueDrains (s0 : Value) (d0 : Dt) (a1 : Int) (_ : (Lit.int .i64 a1).wf = true) (w : World) (h0 : Reads limUpto w (.row 24 itSh) [s0] d0) :
    Calls Try.prog 4 #[s0, .int .i64 a1] w fun e w' => e = .returned (.bool true) ∧ Below w.heap.size w w' := by
  obtain ⟨l, hl, hl2⟩ := ti_of_reads h0
  exact qdrains_any s0 l a1 w hl hl2
end Go.Proofs.Ytbannlomemkjbaa
