/- The walk of the law DiskTurns, by the contracts of package disk. -/
import Derived.Test.YtkekikfiijbjmaaDiskMany
import Derived.Test.YtkekikfiijbjmaaDiskCalm
import Derived.Test.YtkekikfiijbjmaaDiskRan
import Derived.Test.YtkekikfiijbjmaaBytes
import Derived.Test.YtkekikfiijbjmaaTurnBit
namespace Go.Proofs.Ytkekikfiijbjmaa
open Go.RowKit

theorem calm_flip {n : Nat} {K : Nat → List UInt8} {T : Nat} {a b : Nat} (h1 : (a : Int) < n) (h2 : (b : Int) < 4096) : (calm n K T).flipE a b = 0 ∧ (calm n K T).flip a b = calm n (keep1 K (a, tog (K a) b)) (T + 1) := by
  have h := calm_such (n := n) (K := K) (T := T) (a := (a : Int)) (by omega) h1
  constructor
  · unfold DK.flipE
    rw [h, if_neg (by simp; omega)]
  · unfold DK.flip
    rw [h, if_neg (by simp; omega)]
    rfl
theorem calm_noflip {n : Nat} {K : Nat → List UInt8} {T : Nat} {a b : Int} (h : a < 0 ∨ (n : Int) ≤ a ∨ b < 0 ∨ (4096 : Int) ≤ b) : (calm n K T).flipE a b = 1 ∧ (calm n K T).flip a b = calm n K T := by
  have hc : (calm n K T).noSuch a = true ∨ b < 0 ∨ 4096 ≤ b := by
    by_cases h' : b < 0 ∨ 4096 ≤ b
    · exact Or.inr h'
    · refine Or.inl ?_
      show decide (a < 0 ∨ (n : Int) ≤ a) = true
      rw [decide_eq_true_iff]
      omega
  constructor
  · unfold DK.flipE
    rw [if_pos hc]
  · unfold DK.flip
    rw [if_pos hc]
theorem tog_tog (l : List UInt8) (b : Nat) : tog (tog l b) b = l := by
  unfold tog
  rw [List.set_set]
  by_cases h : b / 8 < l.length
  · have e : (l.set (b / 8) (l.getD (b / 8) 0 ^^^ UInt8.ofNat (2 ^ (b % 8)))).getD (b / 8) 0 = l.getD (b / 8) 0 ^^^ UInt8.ofNat (2 ^ (b % 8)) := by
      simp [List.getD, h]
    rw [e, UInt8.xor_assoc, UInt8.xor_self, UInt8.xor_zero]
    simp [List.getD, List.getElem?_eq_getElem h]
  · rw [List.set_eq_of_length_le (by omega)]
theorem xor_self8 (u : UInt8) : bits .xor .u8 (u.toNat : Int) (u.toNat : Int) = 0 := by
  have hu := u.toNat_lt
  rw [u8_xor_nat _ _ (by omega) (by omega), Nat.xor_self]
  rfl
theorem xor_turn8 (u : UInt8) (r : Nat) (hr : r < 8) : bits .xor .u8 (u.toNat : Int) ((u ^^^ UInt8.ofNat (2 ^ r)).toNat : Int) = ((2 ^ r : Nat) : Int) := by
  have hu := u.toNat_lt
  have hv := (u ^^^ UInt8.ofNat (2 ^ r)).toNat_lt
  rw [u8_xor_nat _ _ (by omega) (by omega), UInt8.toNat_xor, ← Nat.xor_assoc, Nat.xor_self, Nat.zero_xor]
  have : ∀ r : Nat, r < 8 → (UInt8.ofNat (2 ^ r)).toNat = 2 ^ r := by decide
  rw [this r hr]
theorem pow_and8 : ∀ r : Nat, r < 8 → bits .and .u8 ((2 ^ r : Nat) : Int) (((2 ^ r : Nat) : Int) - 1) = 0 ∧ (0 : Int) < ((2 ^ r : Nat) : Int) ∧ ((2 ^ r : Nat) : Int) ≤ 128 := by decide
/-- Where two sectors differ: nowhere (q = 512), or in one bit of the byte q. -/
def Differs (A E : List UInt8) (q r : Nat) : Prop := ∀ (k : Nat) (h1 : k < A.length) (h2 : k < E.length), bits .xor .u8 (A[k].toNat : Int) (E[k].toNat : Int) = if k = q then ((2 ^ r : Nat) : Int) else 0
theorem differs_same {A : List UInt8} (h : A.length = 512) (r : Nat) : Differs A A 512 r := fun k h1 _ => by
  rw [if_neg (by omega)]
  exact xor_self8 _
theorem differs_tog {A : List UInt8} (b : Nat) : Differs A (tog A b) (b / 8) (b % 8) := fun k h1 h2 => by
  have et : (tog A b)[k] = if b / 8 = k then A.getD (b / 8) 0 ^^^ UInt8.ofNat (2 ^ (b % 8)) else A[k] := by simp only [tog, List.getElem_set]
  rw [et]
  by_cases e : k = b / 8
  · subst e
    rw [if_pos rfl, if_pos rfl]
    have : A.getD (b / 8) 0 = A[b / 8] := by simp [List.getD, List.getElem?_eq_getElem h1]
    rw [this]
    exact xor_turn8 _ _ (by omega)
  · rw [if_neg (fun h => e h.symm), if_neg e]
    exact xor_self8 _
theorem row_at {w : World} {v : Value} {A : List UInt8} (h : Row w v A) (hl : A.length = 512) : ∃ b off cap, v = .slice (some ⟨b, off, none⟩) 512 cap ∧ 512 ≤ cap ∧ ∀ (j : Nat) (h : j < A.length), w.cell? ⟨b, off + j, none⟩ = some (.int .u8 (A[j].toNat : Int)) := by
  obtain ⟨a, cap, hs, h1, h2, h3, h4⟩ := h
  rcases h4 with h4 | ⟨b, off, rfl, hc⟩
  · rw [h4] at hl; simp at hl
  · exact ⟨b, off, cap, by rw [hs, hl], by omega, fun j hj => hc j hj⟩

section
variable {DR : (Nat → Prop) → World → Value → DK → Prop} (C : DiskC DR)
include C

set_option maxRecDepth 20000 in
set_option maxHeartbeats 4000000 in
theorem turns_any (sv : Value) (l : List OpD) (a bit : Int) (w : World) (hl : Ops w sv l) : Calls Try.prog 6 #[sv, .int .i64 a, .int .i64 bit] w fun e w' => e = .returned (.bool true) ∧ Below w.heap.size w w' := by
  have HRAN := hide (ran_any C sv l w hl)
  obtain ⟨s, hs⟩ : ∃ s, s = runK l 100 (DK.new 8) := ⟨_, rfl⟩
  have hle := runK_le l 100 (DK.new 8)
  have hsn := runK_n l 100 (DK.new 8)
  rw [← hs] at HRAN hle hsn
  have hsw : s.waits.length ≤ 100 := by have := hle.1; have h0 : (DK.new 8).waits.length = 0 := rfl; omega
  have hst : s.turns ≤ 100 := by have := hle.2.1; have h0 : (DK.new 8).turns = 0 := rfl; omega
  have HSW := hide hsw
  have HST := hide hst
  have HSN := hide hsn
  clear hl hs hle hsw hst hsn
  go_enter Try.func6, Try.ntmps6
  go_wp2_with fail
  refine Calls.mono (unhide HRAN) ?_
  rintro e w1 ⟨da, rfl, ⟨F, hd, hF⟩, hb1⟩
  have HD := hide hd
  have HF := hide hF
  clear HRAN hd hF
  go_wp2_with fail
  refine (awake_any C w1).mono ?_
  rintro e w2 ⟨rfl, hb2⟩
  have B2 := hb1.trans (hb2.mono hb1.size)
  have hd2 := C.stays (unhide HD) hb2.size (fun k hk => hb2.block k (C.lt (unhide HD) k hk))
  have hok := C.ok hd2
  obtain ⟨K, hK, hKl⟩ := calmed s hok
  rw [unhide HSN] at hK
  have H1 := hide (MS.start C (l1 := []) (l2 := []) (MS.one hd2))
  have hw1 : s.start.waits.length ≤ 1048576 := by have := unhide HSW; unfold DK.start; split <;> simp <;> omega
  have hw2 : (s.start.arm 0).waits.length ≤ 1048576 := by unfold DK.arm; split <;> exact hw1
  have hk2 : (s.start.arm 0).ticks = 0 := by
    have h1 : s.start.fell = false := by unfold DK.start; split; rfl; rename_i hf; simpa using hf
    unfold DK.arm
    rw [if_neg (by rw [h1]; decide)]
  have HW2 := hide (And.intro hw2 hk2)
  have HK := hide hK
  have HKL := hide hKl
  clear HD hd2 hb1 hb2 hok hK hKl hw1 hw2 hk2 HSW HSN
  go_wp2_with fail
  refine Calls.mono (unhide H1) ?_
  rintro e w3 ⟨rfl, hm3⟩
  have H2 := hide (MS.arm C (l1 := []) (l2 := []) hm3 0 (by omega))
  clear H1 hm3
  go_wp2_with fail
  refine Calls.mono (unhide H2) ?_
  rintro e w4 ⟨rfl, hm4⟩
  have H3 := hide (MS.flush C (l1 := []) (l2 := []) hm4 (unhide HW2).1 (by rw [(unhide HW2).2]; omega))
  rw [unhide HK] at H3
  clear H2 hm4 HW2
  go_wp2_with fail
  refine Calls.mono (unhide H3) ?_
  rintro e w5 ⟨rfl, hm5⟩
  have H4 := hide (MS.fork C (l1 := []) (l2 := []) hm5 (by show (0 : Nat) ≤ _; omega))
  clear H3 hm5 HK
  go_wp2_with fail
  refine Calls.mono (unhide H4) ?_
  rintro e w6 ⟨fa, rfl, hm6, _⟩
  have hT : (calm (DK.new 8).n K s.turns).turns ≤ 1048576 := by show s.turns ≤ _; have := unhide HST; omega
  have H5 := hide (MS.flip C (l1 := [(.pointer (some fa), calm (DK.new 8).n K s.turns)]) (l2 := []) hm6 a bit hT)
  clear H4 hm6 hT
  go_wp2_with fail
  by_cases hmay : 0 ≤ a ∧ a < 8 ∧ 0 ≤ bit ∧ bit < 4096
  · obtain ⟨g0, g1, g2, g3⟩ := hmay
    obtain ⟨A, rfl⟩ := Int.eq_ofNat_of_zero_le g0
    obtain ⟨b, rfl⟩ := Int.eq_ofNat_of_zero_le g2
    obtain ⟨f1, f2⟩ := calm_flip (n := (DK.new 8).n) (K := K) (T := s.turns) (a := A) (b := b) g1 g3
    rw [f1, f2] at H5
    clear f1 f2
    refine Calls.mono (unhide H5) ?_
    rintro e w7 ⟨rfl, hm7⟩
    have HM7 := hide hm7
    clear H5 hm7
    obtain ⟨K', hK'⟩ : ∃ K', K' = keep1 K (A, tog (K A) b) := ⟨_, rfl⟩
    rw [← hK'] at HM7
    have RB : Hid (∀ (j : Nat) w', (j : Int) < 8 → Below w7.heap.size w7 w' → Calls Try.prog 18 #[.pointer (some fa), .int .i64 (j : Int)] w' fun e w'' => ∃ v, e = .returned (.tuple #[v, .int .i64 0]) ∧ Row w'' v (K j) ∧ Below w'.heap.size w' w'') := fun j w' hj hb => by
      have := MS.read C (l1 := []) (l2 := [(.pointer (some da), calm (DK.new 8).n K' (s.turns + 1))]) (MS.below C (unhide HM7) hb) (j : Int) (by show (0 : Nat) ≤ _; omega)
      rw [(calm_read (n := (DK.new 8).n) hj).1, (calm_read (n := (DK.new 8).n) hj).2] at this
      refine this.mono ?_
      rintro e w'' ⟨v, h1, h2, _, h3⟩
      exact ⟨v, h1, h2.row, h3⟩
    have RD : Hid (∀ (j : Nat) w', (j : Int) < 8 → Below w7.heap.size w7 w' → Calls Try.prog 18 #[.pointer (some da), .int .i64 (j : Int)] w' fun e w'' => ∃ v, e = .returned (.tuple #[v, .int .i64 0]) ∧ Row w'' v (K' j) ∧ Below w'.heap.size w' w'') := fun j w' hj hb => by
      have := MS.read C (l1 := [(.pointer (some fa), calm (DK.new 8).n K s.turns)]) (l2 := []) (MS.below C (unhide HM7) hb) (j : Int) (by show (0 : Nat) ≤ _; omega)
      rw [(calm_read (n := (DK.new 8).n) hj).1, (calm_read (n := (DK.new 8).n) hj).2] at this
      refine this.mono ?_
      rintro e w'' ⟨v, h1, h2, _, h3⟩
      exact ⟨v, h1, h2.row, h3⟩
    have HL' : Hid (∀ k, (K' k).length = 512) := by
      rw [hK']
      exact length_keep1 (unhide HKL) (by rw [length_tog]; exact unhide HKL A)
    have HQ : Hid (∀ j : Nat, ∃ q r, r < 8 ∧ Differs (K j) (K' j) q r ∧ ((j = A ∧ q = b / 8 ∧ r = b % 8 ∧ q < 512) ∨ (j ≠ A ∧ q = 512))) := fun j => by
      by_cases e : j = A
      · subst e
        refine ⟨b / 8, b % 8, by omega, ?_, Or.inl ⟨rfl, rfl, rfl, by omega⟩⟩
        rw [hK']
        unfold keep1
        rw [if_pos rfl]
        exact differs_tog b
      · refine ⟨512, 0, by omega, ?_, Or.inr ⟨e, rfl⟩⟩
        rw [hK']
        unfold keep1
        rw [if_neg e]
        exact differs_same (unhide HKL j) 0
    have HKK := hide hK'
    have B7 := Below.refl w7.heap.size w7
    clear hK'
    go_wp2_with fail
    go_loopw [11] (fun i wr => ∃ k : Nat, k ≤ 8 ∧ i = .int .i64 k ∧ Below w7.heap.size w7 wr) (fun i _ => 8 - (intOf i).toNat)
    case atStart => exact ⟨0, by omega, rfl, B7⟩
    case round =>
      clear B7
      obtain ⟨j, hj, rfl, hbel⟩ := hrel
      by_cases h8 : (j : Int) < 8
      · have H1 := hide (unhide RB j wr h8 hbel)
        clear hj
        go_wp2_with fail
        refine Calls.mono (unhide H1) ?_
        rintro e v1 ⟨t1, rfl, m1, b1⟩
        have B1 := hbel.trans (b1.mono hbel.size)
        have H2 := hide (unhide RD j v1 h8 B1)
        have M1 := hide m1
        clear H1 m1 b1
        go_wp2_with fail
        refine Calls.mono (unhide H2) ?_
        rintro e v2 ⟨t2, rfl, m2, b2⟩
        have B2' := B1.trans (b2.mono B1.size)
        obtain ⟨x1, o1, c1, rfl, hc1, hcell1⟩ := row_at ((unhide M1).below b2) (unhide HKL j)
        obtain ⟨x2, o2, c2, rfl, hc2, hcell2⟩ := row_at m2 (unhide HL' j)
        obtain ⟨q, r, hr, hdf, hq⟩ := unhide HQ j
        have hlen1 := unhide HKL j
        have hlen2 := unhide HL' j
        have HC : Hid (∀ (m : Nat) w', Below v2.heap.size v2 w' → (m : Int) < 512 → ∃ u1 u2 : Int, w'.cell? ⟨x1, o1 + m, none⟩ = some (.int .u8 u1) ∧ w'.cell? ⟨x2, o2 + m, none⟩ = some (.int .u8 u2) ∧ bits .xor .u8 u1 u2 = if m = q then ((2 ^ r : Nat) : Int) else 0) := fun m w' hb hm => ⟨_, _, (hb.cell (World.block_lt_of_cell? v2 _ (hcell1 m (by omega)))).trans (hcell1 m (by omega)), (hb.cell (World.block_lt_of_cell? v2 _ (hcell2 m (by omega)))).trans (hcell2 m (by omega)), hdf m (by omega) (by omega)⟩
        have HQ' := hide hq
        have HR := hide hr
        have hcI1 : (512 : Int) ≤ c1 := by omega
        have hcI2 : (512 : Int) ≤ c2 := by omega
        clear H2 m2 b2 M1 B1 hlen1 hlen2 hcell1 hcell2 hdf hq hr hbel hc1 hc2
        go_wp2_with fail
        go_loopw [17, 16] (fun i n wr => ∃ (m : Nat) (N : Int), m ≤ 512 ∧ i = .int .i64 m ∧ n = .int .i64 N ∧ Hid (N = if q < m then 1 else 0) ∧ 0 ≤ N ∧ N ≤ 1 ∧ Below v2.heap.size v2 wr) (fun i _ _ => 512 - (intOf i).toNat)
        case atStart => exact ⟨0, 0, by omega, rfl, rfl, (by unfold Hid; simp), by omega, by omega, Below.refl _ _⟩
        case round =>
          obtain ⟨m, N, hm, rfl, rfl, hN, hN0, hN1, hb3⟩ := hrel
          by_cases h5 : (m : Int) < 512
          · obtain ⟨u1, u2, y1, y2, hx⟩ := unhide HC m wr hb3 h5
            clear hm
            by_cases hmq : m = q
            · have hN' : N = 0 := by have := hN.out; rw [this, if_neg (by omega)]
              obtain ⟨p1, p2, p3⟩ := pow_and8 r (unhide HR)
              rw [if_pos hmq] at hx
              generalize ((2 ^ r : Nat) : Int) = p at *
              have HMQ := hide hmq
              subst hN'
              clear hmq hN hN0 hN1
              go_wp2
              go_region
              clear hx y1 y2
              go_wp2_with fail
              go_loopw [18, 16] (fun x n wz => ((x = .int .u8 p ∧ n = .int .i64 0) ∨ (x = .int .u8 0 ∧ n = .int .i64 1)) ∧ Below v2.heap.size v2 wz) (fun x _ _ => (intOf x).toNat)
              case atStart => exact ⟨Or.inl ⟨rfl, rfl⟩, hb3.drew⟩
              case round =>
                obtain ⟨hxn | hxn, hb4⟩ := hrel
                · obtain ⟨rfl, rfl⟩ := hxn
                  have hp0 : ¬ p = 0 := by omega
                  go_wp2_with fail
                  go_roundw
                  case rel => exact ⟨Or.inr ⟨by first | rfl | simp [p1], rfl⟩, hb4⟩
                  case measure => simp [intOf]; omega
                · obtain ⟨rfl, rfl⟩ := hxn
                  go_wp2_with fail
                  go_roundw
                  case rel => exact ⟨m + 1, 1, by omega, by go_num, rfl, by unfold Hid; rw [if_pos (by have := unhide HMQ; omega)], by omega, by omega, hb4⟩
                  case measure => simp [intOf]; omega
            · rw [if_neg hmq] at hx
              have HNN : Hid (N = if q < m + 1 then 1 else 0) := by
                have := hN.out
                unfold Hid
                rw [this]
                by_cases q < m
                · rw [if_pos (by omega), if_pos (by omega)]
                · rw [if_neg (by omega), if_neg (by omega)]
              clear hmq hN
              go_wp2
              go_region
              clear hx y1 y2
              go_wp2_with fail
              go_loopw [18, 16] (fun x n wz => x = .int .u8 0 ∧ n = .int .i64 N ∧ Below v2.heap.size v2 wz) (fun x _ _ => (intOf x).toNat)
              case atStart => exact ⟨rfl, rfl, hb3.drew⟩
              case round =>
                obtain ⟨rfl, rfl, hb4⟩ := hrel
                go_wp2_with fail
                go_roundw
                case rel => exact ⟨m + 1, N, by omega, by go_num, rfl, unhide HNN, hN0, hN1, hb4⟩
                case measure => simp [intOf]; omega
          · have hN' := hN.out
            have hb4 := B2'.trans (hb3.mono B2'.size)
            rcases unhide HQ' with ⟨hjA, hq1, hr1, hq2⟩ | ⟨hjA, hq1⟩
            · obtain rfl : N = 1 := by rw [hN', if_pos (by omega)]
              obtain ⟨u1, u2, y1, y2, hx⟩ := unhide HC q wr hb3 (by omega)
              rw [if_pos rfl, hr1] at hx
              rw [hq1] at y1 y2
              have hx' : bits .xor .u8 u1 u2 = (2 : Int) ^ (b % 8) % 256 := by
                rw [hx]
                have : ∀ r : Nat, r < 8 → ((2 ^ r : Nat) : Int) = (2 : Int) ^ r % 256 := by decide
                exact this _ (by omega)
              have HJA := hide hjA
              subst hjA
              have hdiv : (b : Int) / 8 < 512 := by omega
              clear hx hN hN' hN0 hN1 hm hq1 hq2 hr1 HQ' HC
              go_wp2_with fail
              go_region
              go_wp2_with fail
              go_roundw
              case rel => exact ⟨j + 1, by omega, by go_num, hb4.drew⟩
              case measure => simp [intOf]; omega
            · obtain rfl : N = 0 := by rw [hN', if_neg (by omega)]
              have n1 : ((j : Int) == A) = false := by simp; omega
              have n2 : (j == A) = false := by simp; omega
              have n3 : ((j : Int) != A) = true := by simp; omega
              have n4 : (j != A) = true := by simp; omega
              clear hN hN' hN0 hN1 hm hq1 HQ' HC
              go_wp2_with fail
              go_region
              go_wp2_with fail
              go_roundw
              case rel => exact ⟨j + 1, by omega, by go_num, hb4.drew⟩
              case measure => simp [intOf]; omega
      · clear hj RB RD HQ HL'
        have hm8 := MS.below C (unhide HM7) hbel
        have hT : (calm (DK.new 8).n K' (s.turns + 1)).turns ≤ 1048576 := by show s.turns + 1 ≤ _; have := unhide HST; omega
        have H5 := hide (MS.flip C (l1 := [(.pointer (some fa), calm (DK.new 8).n K s.turns)]) (l2 := []) hm8 (A : Int) (b : Int) hT)
        obtain ⟨f1, f2⟩ := calm_flip (n := (DK.new 8).n) (K := K') (T := s.turns + 1) (a := A) (b := b) g1 g3
        have hKK : keep1 K' (A, tog (K' A) b) = K := by
          rw [unhide HKK]
          funext x
          unfold keep1
          by_cases e : x = A
          · subst e
            rw [if_pos rfl, if_pos rfl]
            exact tog_tog _ _
          · rw [if_neg e, if_neg e]
        rw [f1, f2, hKK] at H5
        clear f1 f2 hKK hT hm8 HM7 HKK
        go_wp2_with fail
        refine Calls.mono (unhide H5) ?_
        rintro e z0 ⟨rfl, hz0⟩
        have HM9 := hide hz0
        have HB9 : Hid (Below w.heap.size w z0) := by
          obtain ⟨F', _, hm⟩ := hz0
          exact B2.trans (hm.keep.below B2.size (unhide HF))
        clear H5 hz0
        have RB2 : Hid (∀ (j : Nat) w', (j : Int) < 8 → Below z0.heap.size z0 w' → Calls Try.prog 18 #[.pointer (some fa), .int .i64 (j : Int)] w' fun e w'' => ∃ v, e = .returned (.tuple #[v, .int .i64 0]) ∧ Row w'' v (K j) ∧ Below w'.heap.size w' w'') := fun j w' hj hb => by
          have := MS.read C (l1 := []) (l2 := [(.pointer (some da), calm (DK.new 8).n K (s.turns + 1 + 1))]) (MS.below C (unhide HM9) hb) (j : Int) (by show (0 : Nat) ≤ _; omega)
          rw [(calm_read (n := (DK.new 8).n) hj).1, (calm_read (n := (DK.new 8).n) hj).2] at this
          refine this.mono ?_
          rintro e w'' ⟨v, h1, h2, _, h3⟩
          exact ⟨v, h1, h2.row, h3⟩
        have RD2 : Hid (∀ (j : Nat) w', (j : Int) < 8 → Below z0.heap.size z0 w' → Calls Try.prog 18 #[.pointer (some da), .int .i64 (j : Int)] w' fun e w'' => ∃ v, e = .returned (.tuple #[v, .int .i64 0]) ∧ Row w'' v (K j) ∧ Below w'.heap.size w' w'') := fun j w' hj hb => by
          have := MS.read C (l1 := [(.pointer (some fa), calm (DK.new 8).n K s.turns)]) (l2 := []) (MS.below C (unhide HM9) hb) (j : Int) (by show (0 : Nat) ≤ _; omega)
          rw [(calm_read (n := (DK.new 8).n) hj).1, (calm_read (n := (DK.new 8).n) hj).2] at this
          refine this.mono ?_
          rintro e w'' ⟨v, h1, h2, _, h3⟩
          exact ⟨v, h1, h2.row, h3⟩
        have Z0 := Below.refl z0.heap.size z0
        clear HM9
        go_wp2_with fail
        go_loopw [19] (fun i wr => ∃ k : Nat, k ≤ 8 ∧ i = .int .i64 k ∧ Below z0.heap.size z0 wr) (fun i _ => 8 - (intOf i).toNat)
        case atStart => exact ⟨0, by omega, rfl, Z0⟩
        case round =>
          clear Z0
          obtain ⟨i, hi, rfl, hbi⟩ := hrel
          by_cases hi8 : (i : Int) < 8
          · have H1 := hide (unhide RB2 i wr hi8 hbi)
            clear hi
            go_wp2_with fail
            refine Calls.mono (unhide H1) ?_
            rintro e z1 ⟨t1, rfl, m1, b1⟩
            have B1 := hbi.trans (b1.mono hbi.size)
            have H2 := hide (unhide RD2 i z1 hi8 B1)
            have M1 := hide m1
            clear H1 m1 b1
            go_wp2_with fail
            refine Calls.mono (unhide H2) ?_
            rintro e z2 ⟨t2, rfl, m2, b2⟩
            have BZ := B1.trans (b2.mono B1.size)
            have H3 := hide (bytes_any _ _ _ _ z2 ((unhide M1).below b2) m2)
            rw [show (K i == K i) = true by simp] at H3
            clear H2 m2 b2 M1 B1 hbi
            go_wp2_with fail
            refine Calls.mono (unhide H3) ?_
            rintro e z3 ⟨rfl, rfl⟩
            clear H3
            go_wp2_with fail
            go_roundw
            case rel => exact ⟨i + 1, by omega, by go_num, BZ⟩
            case measure => simp [intOf]; omega
          · clear hi RB2 RD2
            go_wp2_with fail
            go_ret
            exact ⟨rfl, (unhide HB9).trans (hbi.mono (unhide HB9).size)⟩
  · have hno : a < 0 ∨ ((DK.new 8).n : Int) ≤ a ∨ bit < 0 ∨ 4096 ≤ bit := by show a < 0 ∨ (8 : Int) ≤ a ∨ bit < 0 ∨ 4096 ≤ bit; omega
    obtain ⟨f1, f2⟩ := calm_noflip (K := K) (T := s.turns) hno
    rw [f1, f2] at H5
    clear f1 f2
    refine Calls.mono (unhide H5) ?_
    rintro e w7 ⟨rfl, hm7⟩
    have HM7 := hide hm7
    clear H5 hm7
    have RB : Hid (∀ (j : Nat) w', (j : Int) < 8 → Below w7.heap.size w7 w' → Calls Try.prog 18 #[.pointer (some fa), .int .i64 (j : Int)] w' fun e w'' => ∃ v, e = .returned (.tuple #[v, .int .i64 0]) ∧ Row w'' v (K j) ∧ Below w'.heap.size w' w'') := fun j w' hj hb => by
      have := MS.read C (l1 := []) (l2 := [(.pointer (some da), calm (DK.new 8).n K s.turns)]) (MS.below C (unhide HM7) hb) (j : Int) (by show (0 : Nat) ≤ _; omega)
      rw [(calm_read (n := (DK.new 8).n) hj).1, (calm_read (n := (DK.new 8).n) hj).2] at this
      refine this.mono ?_
      rintro e w'' ⟨v, h1, h2, _, h3⟩
      exact ⟨v, h1, h2.row, h3⟩
    have RD : Hid (∀ (j : Nat) w', (j : Int) < 8 → Below w7.heap.size w7 w' → Calls Try.prog 18 #[.pointer (some da), .int .i64 (j : Int)] w' fun e w'' => ∃ v, e = .returned (.tuple #[v, .int .i64 0]) ∧ Row w'' v (K j) ∧ Below w'.heap.size w' w'') := fun j w' hj hb => by
      have := MS.read C (l1 := [(.pointer (some fa), calm (DK.new 8).n K s.turns)]) (l2 := []) (MS.below C (unhide HM7) hb) (j : Int) (by show (0 : Nat) ≤ _; omega)
      rw [(calm_read (n := (DK.new 8).n) hj).1, (calm_read (n := (DK.new 8).n) hj).2] at this
      refine this.mono ?_
      rintro e w'' ⟨v, h1, h2, _, h3⟩
      exact ⟨v, h1, h2.row, h3⟩
    have B7 := Below.refl w7.heap.size w7
    have hsp : ∀ P : Prop, (a < 0 → P) → (¬ a < 0 → ¬ a < 8 → P) → (¬ a < 0 → a < 8 → bit < 0 → P) → (¬ a < 0 → a < 8 → ¬ bit < 0 → ¬ bit < 4096 → P) → P := fun P h1 h2 h3 h4 => by
      by_cases e1 : a < 0
      · exact h1 e1
      · by_cases e2 : a < 8
        · by_cases e3 : bit < 0
          · exact h3 e1 e2 e3
          · exact h4 e1 e2 e3 (fun e4 => hmay ⟨by omega, e2, by omega, e4⟩)
        · exact h2 e1 e2
    clear hmay hno
    refine hsp _ (fun q1 => ?_) (fun q1 q2 => ?_) (fun q1 q2 q3 => ?_) (fun q1 q2 q3 q4 => ?_)
    all_goals
      clear hsp
      go_wp2_with fail
      try rw [decide_eq_false (show ¬ bit < 4096 by omega)]
      try rw [show (!false) = true from rfl]
      go_loopw [11] (fun i wr => ∃ k : Nat, k ≤ 8 ∧ i = .int .i64 k ∧ Below w7.heap.size w7 wr) (fun i _ => 8 - (intOf i).toNat)
      case atStart => exact ⟨0, by omega, rfl, B7⟩
      case round =>
        clear B7
        obtain ⟨j, hj, rfl, hbel⟩ := hrel
        by_cases h8 : (j : Int) < 8
        · have H1 := hide (unhide RB j wr h8 hbel)
          clear hj
          go_wp2_with fail
          refine Calls.mono (unhide H1) ?_
          rintro e v1 ⟨t1, rfl, m1, b1⟩
          have B1 := hbel.trans (b1.mono hbel.size)
          have H2 := hide (unhide RD j v1 h8 B1)
          have M1 := hide m1
          clear H1 m1 b1
          go_wp2_with fail
          refine Calls.mono (unhide H2) ?_
          rintro e v2 ⟨t2, rfl, m2, b2⟩
          have B2' := B1.trans (b2.mono B1.size)
          obtain ⟨x1, o1, c1, rfl, hc1, hcell1⟩ := row_at ((unhide M1).below b2) (unhide HKL j)
          obtain ⟨x2, o2, c2, rfl, hc2, hcell2⟩ := row_at m2 (unhide HKL j)
          have hlen1 := unhide HKL j
          have HC : Hid (∀ (m : Nat) w', Below v2.heap.size v2 w' → (m : Int) < 512 → ∃ u1 u2 : Int, w'.cell? ⟨x1, o1 + m, none⟩ = some (.int .u8 u1) ∧ w'.cell? ⟨x2, o2 + m, none⟩ = some (.int .u8 u2) ∧ bits .xor .u8 u1 u2 = 0) := fun m w' hb hm => ⟨_, _, (hb.cell (World.block_lt_of_cell? v2 _ (hcell1 m (by omega)))).trans (hcell1 m (by omega)), (hb.cell (World.block_lt_of_cell? v2 _ (hcell2 m (by omega)))).trans (hcell2 m (by omega)), xor_self8 _⟩
          have hcI1 : (512 : Int) ≤ c1 := by omega
          have hcI2 : (512 : Int) ≤ c2 := by omega
          clear H2 m2 b2 M1 B1 hlen1 hcell1 hcell2 hbel hc1 hc2
          go_wp2_with fail
          go_loopw [17, 16] (fun i n wr => ∃ (m : Nat), m ≤ 512 ∧ i = .int .i64 m ∧ n = .int .i64 0 ∧ Below v2.heap.size v2 wr) (fun i _ _ => 512 - (intOf i).toNat)
          case atStart => exact ⟨0, by omega, rfl, rfl, Below.refl _ _⟩
          case round =>
            obtain ⟨m, hm, rfl, rfl, hb3⟩ := hrel
            by_cases h5 : (m : Int) < 512
            · obtain ⟨u1, u2, y1, y2, hx⟩ := unhide HC m wr hb3 h5
              clear hm
              go_wp2
              go_region
              clear hx y1 y2
              go_wp2_with fail
              go_loopw [18, 16] (fun x n wz => x = .int .u8 0 ∧ n = .int .i64 0 ∧ Below v2.heap.size v2 wz) (fun x _ _ => (intOf x).toNat)
              case atStart => exact ⟨rfl, rfl, hb3.drew⟩
              case round =>
                obtain ⟨rfl, rfl, hb4⟩ := hrel
                go_wp2_with fail
                go_roundw
                case rel => exact ⟨m + 1, by omega, by go_num, rfl, hb4⟩
                case measure => simp [intOf]; omega
            · have hb4 := B2'.trans (hb3.mono B2'.size)
              clear hm HC
              go_wp2_with fail
              go_region
              go_wp2_with fail
              go_roundw
              case rel => exact ⟨j + 1, by omega, by go_num, hb4.drew⟩
              case measure => simp [intOf]; omega
        · clear hj RB RD
          obtain ⟨z0, hz⟩ : ∃ z, z = wr := ⟨_, rfl⟩
          have HM9 := hide (MS.below C (unhide HM7) hbel)
          have HB9 : Hid (Below w.heap.size w wr) := by
            obtain ⟨F', _, hm⟩ := unhide HM9
            exact B2.trans (hm.keep.below B2.size (unhide HF))
          rw [← hz] at HM9 HB9
          rw [← hz]
          clear hbel hz HM7
          have RB2 : Hid (∀ (j : Nat) w', (j : Int) < 8 → Below z0.heap.size z0 w' → Calls Try.prog 18 #[.pointer (some fa), .int .i64 (j : Int)] w' fun e w'' => ∃ v, e = .returned (.tuple #[v, .int .i64 0]) ∧ Row w'' v (K j) ∧ Below w'.heap.size w' w'') := fun j w' hj hb => by
            have := MS.read C (l1 := []) (l2 := [(.pointer (some da), calm (DK.new 8).n K s.turns)]) (MS.below C (unhide HM9) hb) (j : Int) (by show (0 : Nat) ≤ _; omega)
            rw [(calm_read (n := (DK.new 8).n) hj).1, (calm_read (n := (DK.new 8).n) hj).2] at this
            refine this.mono ?_
            rintro e w'' ⟨v, h1, h2, _, h3⟩
            exact ⟨v, h1, h2.row, h3⟩
          have RD2 : Hid (∀ (j : Nat) w', (j : Int) < 8 → Below z0.heap.size z0 w' → Calls Try.prog 18 #[.pointer (some da), .int .i64 (j : Int)] w' fun e w'' => ∃ v, e = .returned (.tuple #[v, .int .i64 0]) ∧ Row w'' v (K j) ∧ Below w'.heap.size w' w'') := fun j w' hj hb => by
            have := MS.read C (l1 := [(.pointer (some fa), calm (DK.new 8).n K s.turns)]) (l2 := []) (MS.below C (unhide HM9) hb) (j : Int) (by show (0 : Nat) ≤ _; omega)
            rw [(calm_read (n := (DK.new 8).n) hj).1, (calm_read (n := (DK.new 8).n) hj).2] at this
            refine this.mono ?_
            rintro e w'' ⟨v, h1, h2, _, h3⟩
            exact ⟨v, h1, h2.row, h3⟩
          have Z0 := Below.refl z0.heap.size z0
          clear HM9
          go_wp2_with fail
          go_loopw [19] (fun i wr => ∃ k : Nat, k ≤ 8 ∧ i = .int .i64 k ∧ Below z0.heap.size z0 wr) (fun i _ => 8 - (intOf i).toNat)
          case atStart => exact ⟨0, by omega, rfl, Z0⟩
          case round =>
            clear Z0
            obtain ⟨i, hi, rfl, hbi⟩ := hrel
            by_cases hi8 : (i : Int) < 8
            · have H1 := hide (unhide RB2 i wr hi8 hbi)
              clear hi
              go_wp2_with fail
              refine Calls.mono (unhide H1) ?_
              rintro e z1 ⟨t1, rfl, m1, b1⟩
              have B1 := hbi.trans (b1.mono hbi.size)
              have H2 := hide (unhide RD2 i z1 hi8 B1)
              have M1 := hide m1
              clear H1 m1 b1
              go_wp2_with fail
              refine Calls.mono (unhide H2) ?_
              rintro e z2 ⟨t2, rfl, m2, b2⟩
              have BZ := B1.trans (b2.mono B1.size)
              have H3 := hide (bytes_any _ _ _ _ z2 ((unhide M1).below b2) m2)
              rw [show (K i == K i) = true by simp] at H3
              clear H2 m2 b2 M1 B1 hbi
              go_wp2_with fail
              refine Calls.mono (unhide H3) ?_
              rintro e z3 ⟨rfl, rfl⟩
              clear H3
              go_wp2_with fail
              go_roundw
              case rel => exact ⟨i + 1, by omega, by go_num, BZ⟩
              case measure => simp [intOf]; omega
            · clear hi RB2 RD2
              go_wp2_with fail
              go_ret
              exact ⟨rfl, (unhide HB9).trans (hbi.mono (unhide HB9).size)⟩
end
end Go.Proofs.Ytkekikfiijbjmaa
