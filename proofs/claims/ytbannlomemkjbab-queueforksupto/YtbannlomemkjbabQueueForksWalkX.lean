/- The walk of the statement 'QueueForks'. -/
import Derived.Test.YtbannlomemkjbabG2
import Derived.Test.YtbannlomemkjbabG9
import Derived.Test.YtbannlomemkjbabG11
import Derived.Test.YtbannlomemkjbabG12
import Derived.Test.YtbannlomemkjbabG13
namespace Go.Proofs.Ytbannlomemkjbab
open Go.RowKit

/-- Two queues apart from each other, in blocks from b on. -/
structure Two (b : Nat) (w wr : World) (q q' n n' : Nat) (Z Z' : List It) : Prop where
  all : ∃ F G, QAt F wr q (.func (.func 5) #[] #[]) lowI Z n ∧ QAt G wr q' (.func (.func 5) #[] #[]) lowI Z' n' ∧ (∀ k, F k → ¬ G k) ∧ (∀ k, F k → b ≤ k) ∧ (∀ k, G k → b ≤ k) ∧ Below b w wr
  size : b ≤ wr.heap.size
theorem Two.below {b : Nat} {w wr wx : World} {q q' n n' : Nat} {Z Z' : List It} (h : Two b w wr q q' n n' Z Z') (hb : Below wr.heap.size wr wx) : Two b w wx q q' n n' Z Z' := by
  obtain ⟨F, G, h1, h2, h3, h4, h5, h6⟩ := h.all
  exact ⟨⟨F, G, h1.below hb, h2.below hb, h3, h4, h5, h6.trans (hb.mono h.size)⟩, Nat.le_trans h.size hb.size⟩
theorem Two.bel {b : Nat} {w wr : World} {q q' n n' : Nat} {Z Z' : List It} (h : Two b w wr q q' n n' Z Z') : Below b w wr := by
  obtain ⟨F, G, h1, h2, h3, h4, h5, h6⟩ := h.all
  exact h6
theorem two_pop {b : Nat} {w wr : World} {q q' n n' : Nat} {Z Z' : List It} (h : Two b w wr q q' n n' Z Z') :
    Calls Try.prog 9 #[.pointer (some ⟨q', 0, none⟩)] wr fun e w' => ∃ x y, e = .returned (.tuple #[x, y]) ∧ Two b w w' q q' n n' Z (Z'.drop 1) := by
  obtain ⟨F, G, h1, h2, h3, h4, h5, h6⟩ := h.all
  cases Z' with
  | nil =>
    refine (qpop_none lowI G wr q' n' _ h2).mono ?_
    rintro e w' ⟨rfl, b1⟩
    exact ⟨_, _, rfl, h.below b1⟩
  | cons z Z' =>
    refine (qpop_some lowI G wr q' n' _ z Z' h2).mono ?_
    rintro e w' ⟨rfl, G', g1, m1⟩
    refine ⟨_, _, rfl, ⟨F, G', h1.keep m1.keep (fun k hf hg => h3 k hf hg), g1, fun k hf hg => ?_, h4, fun k hg => ?_, h6.trans (m1.keep.below h.size h5)⟩, Nat.le_trans h.size m1.keep.size⟩
    · rcases m1.sub k hg with h' | h'
      · exact h3 k hf h'
      · have := h1.lt k hf; omega
    · rcases m1.sub k hg with h' | h'
      · exact h5 k h'
      · exact Nat.le_trans h.size h'
theorem two_push {b : Nat} {w wr : World} {q q' n n' : Nat} {Z Z' : List It} (x : It) (h : Two b w wr q q' n n' Z Z') (hs : (Z'.length + 1) * 32 ≤ 140737488355328) (hn : n' < 4611686018427387904) :
    Calls Try.prog 7 #[.pointer (some ⟨q', 0, none⟩), .agg #[.int .i64 x.1, .string x.2]] wr fun e w' => e = .returned (.int .i64 0) ∧ Two b w w' q q' n (n' + 1) Z (ins lowI x Z') := by
  obtain ⟨F, G, h1, h2, h3, h4, h5, h6⟩ := h.all
  refine (qpush_any lowI G wr q' n' x _ Z' h2 hs hn).mono ?_
  rintro e w' ⟨rfl, G', g1, m1⟩
  refine ⟨rfl, ⟨F, G', h1.keep m1.keep (fun k hf hg => h3 k hf hg), g1, fun k hf hg => ?_, h4, fun k hg => ?_, h6.trans (m1.keep.below h.size h5)⟩, Nat.le_trans h.size m1.keep.size⟩
  · rcases m1.sub k hg with h' | h'
    · exact h3 k hf h'
    · have := h1.lt k hf; omega
  · rcases m1.sub k hg with h' | h'
    · exact h5 k h'
    · exact Nat.le_trans h.size h'

/-- All items pushed into a new queue. -/
def Filled (b : Nat) (w wr : World) (q k : Nat) (l : List It) : Prop := ∃ F, QAt F wr q (.func (.func 5) #[] #[]) lowI (srt lowI (l.take k)) k ∧ (∀ j, F j → b ≤ j) ∧ Below b w wr ∧ b ≤ wr.heap.size
theorem Filled.below {b : Nat} {w wr wx : World} {q k : Nat} {l : List It} (h : Filled b w wr q k l) (hb : Below wr.heap.size wr wx) : Filled b w wx q k l := by
  obtain ⟨F, h1, h2, h3, h4⟩ := h
  exact ⟨F, h1.below hb, h2, h3.trans (hb.mono h4), Nat.le_trans h4 hb.size⟩
theorem fill_one {b : Nat} {w wr : World} {q k : Nat} {l : List It} (hk : k < l.length) (h : Filled b w wr q k l) (hl : l.length ≤ 1048576) :
    Calls Try.prog 7 #[.pointer (some ⟨q, 0, none⟩), .agg #[.int .i64 l[k].1, .string l[k].2]] wr fun e w' => e = .returned (.int .i64 0) ∧ Filled b w w' q (k + 1) l := by
  obtain ⟨F, h1, h2, h3, h4⟩ := h
  have hlen : (srt lowI (l.take k)).length = k := by rw [length_srt, List.length_take]; omega
  refine (qpush_any lowI F wr q k l[k] _ _ h1 (by rw [hlen]; omega) (by omega)).mono ?_
  rintro e w' ⟨rfl, F', g1, m1⟩
  rw [← srt_snoc, ← List.take_succ_eq_append_getElem hk] at g1
  refine ⟨rfl, F', g1, fun j hj => ?_, h3.trans (m1.keep.below h4 h2), Nat.le_trans h4 m1.keep.size⟩
  rcases m1.sub j hj with h | h
  · exact h2 j h
  · omega

set_option maxRecDepth 20000 in
set_option maxHeartbeats 2000000 in
theorem qforks_any (s s2 : Value) (l m : List It) (pops : Int) (w : World) (hs : TI w s l) (hl : l.length ≤ 1048576) (hs2 : TI w s2 m) (hm : m.length ≤ 1048576) :
    Calls Try.prog 3 #[s, .int .i64 pops, s2] w fun e w' => e = .returned (.bool true) ∧ Below w.heap.size w w' := by
  obtain ⟨pp, hpp, hpp3⟩ : ∃ pp : Nat, (IntKind.u64.wrap pops).tmod 20 = (pp : Int) ∧ pp ≤ 19 := by
    have h0 : 0 ≤ IntKind.u64.wrap pops := by rw [IntKind.wrap_u64]; omega
    refine ⟨((IntKind.u64.wrap pops).tmod 20).toNat, ?_, ?_⟩
    · rw [Int.tmod_eq_emod_of_nonneg h0]; omega
    · rw [Int.tmod_eq_emod_of_nonneg h0]; omega
  obtain ⟨p, cap, rfl, k1, k2⟩ := hs.shape
  obtain ⟨p2, cap2, rfl, k3, k4⟩ := hs2.shape
  have HS := hide hs
  have HS2 := hide hs2
  have HL := hide hl
  have HM := hide hm
  have hlI : (l.length : Int) ≤ 1048576 := by omega
  have hmI : (m.length : Int) ≤ 1048576 := by omega
  have hppI : (pp : Int) ≤ 19 := by omega
  have hpw : wrap64 (pp : Int) = (pp : Int) := by simp only [wrap64]; omega
  clear hs hs2 hl hm k1 k2 k3 k4
  go_enter Try.func3, Try.ntmps3
  go_wp2_with fail
  refine Calls.mono (qnew_any lowI _ below_C _) ?_
  rintro e w1 ⟨rfl, q1, b1⟩
  have HF1 : Hid (Filled w.heap.size w w1 w.heap.size 0 l) := ⟨_, q1, fun j e => Nat.le_of_eq e.symm, b1, b1.size⟩
  clear q1 b1
  go_wp2_with fail
  refine Calls.mono (awake_any _) ?_
  rintro e w2 ⟨rfl, b2⟩
  have HF2 := hide ((unhide HF1).below b2)
  clear b2 HF1
  go_wp2_with fail
  go_loopw [8] (fun i wr => ∃ k : Nat, k ≤ l.length ∧ i = .int .i64 (k : Int) ∧ Filled w.heap.size w wr w.heap.size k l) (fun i _ => l.length - (intOf i).toNat)
  case atStart => exact ⟨0, Nat.zero_le _, rfl, unhide HF2⟩
  case round =>
    clear HF2
    obtain ⟨k, hk, rfl, hF⟩ := hrel
    by_cases hlt : k < l.length
    · have hkI : (k : Int) < (l.length : Int) := by omega
      obtain ⟨b, off, c', e0, _, _, hbl, hat, _⟩ := ((unhide HS).below hF.choose_spec.2.2.1).at (by omega)
      simp only [Value.slice.injEq] at e0
      obtain ⟨rfl, _, rfl⟩ := e0
      obtain ⟨a1, a2⟩ := hat k hlt
      have HP := hide (fill_one hlt hF (unhide HL))
      have HLT := hide hlt
      generalize l[k] = X at *
      have hdd : decide (k < l.length) = true := decide_eq_true hlt
      clear hk hlt hF hat hbl
      go_wp2_with fail
      refine Calls.mono (unhide HP) ?_
      rintro e w3 ⟨rfl, hF3⟩
      have HF3 := hide hF3
      clear hF3 a1 a2 HP
      go_wp2_with fail
      go_roundw
      case rel => exact ⟨k + 1, unhide HLT, by go_num, unhide HF3⟩
      case measure => (have := unhide HLT; simp [intOf]; omega)
    · have hke : k = l.length := by omega
      subst hke
      obtain ⟨F, h1, h2, h3, h4⟩ := hF
      rw [List.take_length] at h1
      clear hk hlt
      go_wp2_with fail
      refine Calls.mono (qfork_any lowI F _ _ _ _ _ h1) ?_
      rintro e w4 ⟨q', G, rfl, g1, b4, hG⟩
      have HT : Hid (Two w.heap.size w w4 w.heap.size q' l.length l.length (srt lowI l) (srt lowI l)) := ⟨⟨F, G, h1.below b4, g1, fun k hf hg => by have := hG k hg; have := h1.lt k hf; omega, h2, fun k hg => by have := hG k hg; omega, h3.trans (b4.mono h4)⟩, Nat.le_trans h4 b4.size⟩
      clear h1 h2 h3 h4 g1 b4 hG
      go_wp2_with fail
      go_loopw [10] (fun i wr => ∃ k : Nat, k ≤ pp ∧ i = .int .i64 (k : Int) ∧ Two w.heap.size w wr w.heap.size q' l.length l.length (srt lowI l) ((srt lowI l).drop k)) (fun i _ => pp - (intOf i).toNat)
      case atStart => exact ⟨0, Nat.zero_le _, rfl, unhide HT⟩
      case round =>
        clear HT
        obtain ⟨k, hk, rfl, hT⟩ := hrel
        by_cases hlt : k < pp
        · have hkI : (k : Int) < (pp : Int) := by omega
          have HP := hide (two_pop hT)
          have HLT := hide hlt
          clear hk hlt hT
          go_wp2_with fail
          refine Calls.mono (unhide HP) ?_
          rintro e w5 ⟨x5, y5, rfl, hT5⟩
          rw [List.drop_drop] at hT5
          have HT5 := hide hT5
          clear hT5 HP
          go_wp2_with fail
          go_roundw
          case rel => exact ⟨k + 1, unhide HLT, by go_num, unhide HT5⟩
          case measure => (have := unhide HLT; simp [intOf]; omega)
        · have hke : k = pp := by omega
          subst hke
          have HT := hide hT
          clear hk hlt hT
          go_wp2_with fail
          go_loopw [11] (fun i wr => ∃ (j : Nat) (Z' : List It), j ≤ m.length ∧ i = .int .i64 (j : Int) ∧ Z'.length = (l.length - k) + j ∧ Two w.heap.size w wr w.heap.size q' l.length (l.length + j) (srt lowI l) Z') (fun i _ => m.length - (intOf i).toNat)
          case atStart => exact ⟨0, _, Nat.zero_le _, rfl, by rw [List.length_drop, length_srt]; rfl, unhide HT⟩
          case round =>
            clear HT
            obtain ⟨j, Z', hj, rfl, hZ', hT⟩ := hrel
            by_cases hlt : j < m.length
            · have hjI : (j : Int) < (m.length : Int) := by omega
              obtain ⟨b, off, c', e0, _, _, hbl, hat, _⟩ := ((unhide HS2).below hT.bel).at (by omega)
              simp only [Value.slice.injEq] at e0
              obtain ⟨rfl, _, rfl⟩ := e0
              obtain ⟨a1, a2⟩ := hat j hlt
              have HP := hide (two_push m[j] hT (by rw [hZ']; have := unhide HL; have := unhide HM; omega) (by have := unhide HL; have := unhide HM; omega))
              have HLT := hide hlt
              have HZ := hide hZ'
              generalize m[j] = X at *
              have hdd : decide (j < m.length) = true := decide_eq_true hlt
              clear hj hlt hT hat hbl hZ'
              go_wp2_with fail
              refine Calls.mono (unhide HP) ?_
              rintro e w6 ⟨rfl, hT6⟩
              have HT6 := hide hT6
              clear hT6 a1 a2 HP
              go_wp2_with fail
              go_roundw
              case rel => exact ⟨j + 1, _, unhide HLT, by go_num, by rw [length_ins, unhide HZ]; rfl, unhide HT6⟩
              case measure => (have := unhide HLT; simp [intOf]; omega)
            · have hje : j = m.length := by omega
              subst hje
              obtain ⟨F6, G6, f1, g1, fg, fb, gb, bel6⟩ := hT.all
              have hsz6 := hT.size
              have hlen6 : (srt lowI l).length = l.length := length_srt lowI l
              have HD := hide (drained_any lowI F6 wr w.heap.size l.length (l.length + 1) _ (srt lowI l) f1 (by rw [hlen6]; exact unhide HL) (by omega) (by have := unhide HL; omega))
              rw [show (((l.length + 1 : Nat)) : Int) = (l.length : Int) + 1 from by omega] at HD
              have HZ := hide hZ'
              clear hj hlt hT hZ'
              go_wp2_with fail
              refine Calls.mono (unhide HD) ?_
              rintro e w7 ⟨v7, rfl, F7, o7, ob7, q7, m7⟩
              have ht7 : (srt lowI l).take (l.length + 1) = srt lowI l := List.take_of_length_le (by rw [hlen6]; omega)
              rw [ht7, hlen6] at o7
              have g7 := g1.keep m7.keep (fun k hg hf => fg k hf hg)
              have bel7 : Below w.heap.size w w7 := bel6.trans (m7.keep.below hsz6 fb)
              obtain ⟨p7, c7, rfl⟩ : ∃ p c, v7 = .slice p l.length c := by
                rcases o7.2 with ⟨h', h0⟩ | ⟨g', cap', cur, h', _⟩
                · exact ⟨none, 0, by rw [h', h0]⟩
                · exact ⟨_, _, h'⟩
              have T7 : TI w7 (.slice p7 l.length c7) (srt lowI l) := TI.of_owns (by rw [hlen6]; exact o7)
              have HT7 := hide T7
              have HG7 := hide g7
              have HB7 := hide bel7
              clear HD o7 ob7 q7 m7 g7 T7 bel7 f1 g1 fg fb gb bel6 hsz6 ht7
              go_wp2_with fail
              refine Calls.mono (qsorted_any lowI _ below_C _ l _ ((unhide HS).below (unhide HB7)) (unhide HL)) ?_
              rintro e w8 ⟨v8, rfl, o8, _, b8⟩
              obtain ⟨p8, c8, rfl⟩ : ∃ p c, v8 = .slice p l.length c := by
                rcases o8.2 with ⟨h', h0⟩ | ⟨g', cap', cur, h', _⟩
                · exact ⟨none, 0, by rw [h', h0]⟩
                · exact ⟨_, _, h'⟩
              have HT8 : Hid (TI w8 (.slice p8 l.length c8) (srt lowI l)) := TI.of_owns (by rw [hlen6]; exact o8)
              have HT78 := hide ((unhide HT7).below b8)
              have HG8 := hide ((unhide HG7).below b8)
              have HB8 := hide ((unhide HB7).trans (b8.mono (unhide HB7).size))
              clear o8 b8 HT7 HG7 HB7
              go_wp2_with fail
              refine Calls.mono (plain_true _ _ (srt lowI l) _ (unhide HT78) (unhide HT8) (by rw [hlen6]; have := unhide HL; omega)) ?_
              rintro e w9 ⟨rfl, b9⟩
              have HG9 := hide ((unhide HG8).below b9)
              have HB9 := hide ((unhide HB8).trans (b9.mono (unhide HB8).size))
              clear b9 HT78 HT8 HG8 HB8
              go_wp2_with fail
              refine Calls.mono (qlen_any lowI _ _ _ _ _ _ (unhide HG9)) ?_
              rw [unhide HZ]
              rintro e w10 ⟨rfl, b10⟩
              have HB10 := hide ((unhide HB9).trans (b10.mono (unhide HB9).size))
              clear b10 HG9 HB9
              by_cases hcmp : k < l.length
              · have hc1 : (0 : Int) < (l.length : Int) - (k : Int) := by omega
                have hcc : (((l.length - k + m.length : Nat)) : Int) = (l.length : Int) - (k : Int) + (m.length : Int) := by omega
                rw [hcc]
                clear hcmp hcc
                go_wp2_with fail
                go_ret
                exact ⟨rfl, unhide HB10⟩
              · have hc1 : ¬ (0 : Int) < (l.length : Int) - (k : Int) := by omega
                have hcc : (((l.length - k + m.length : Nat)) : Int) = (m.length : Int) := by omega
                rw [hcc]
                clear hcmp hcc
                go_wp2_with fail
                go_ret
                exact ⟨rfl, unhide HB10⟩

theorem walk_QueueForks (s0 : Value) (d0 : Dt) (a1 : Int) (_ : (Lit.int .i64 a1).wf = true) (s2 : Value) (d2 : Dt) (w : World) (h0 : Reads limUpto w (.row 24 itSh) [s0] d0) (h2 : Reads limUpto w (.row 24 itSh) [s2] d2) :
    Calls Try.prog 3 #[s0, .int .i64 a1, s2] w fun e w' => e = .returned (.bool true) ∧ Below w.heap.size w w' := by
  obtain ⟨l, hl, hl2⟩ := ti_of_reads h0
  obtain ⟨m, hm, hm2⟩ := ti_of_reads h2
  exact qforks_any s0 s2 l m a1 w hl hl2 hm hm2
end Go.Proofs.Ytbannlomemkjbab
