/- What 'behind', 'right' and the reference's Turn do. -/
import Derived.Test.YtndlnppgihhepaaCrcOwn2
import Derived.Test.YtndlnppgihhepaaBytes
namespace Go.Proofs.Ytndlnppgihhepaa
open Go.RowKit

theorem four_row (w : World) (v : Nat) : Row (w.alloc (.cells #[.int .u8 ((v : Int) % 256), .int .u8 ((v : Int) / 256 % 256), .int .u8 ((v : Int) / 65536 % 256), .int .u8 ((v : Int) / 16777216 % 256)] 5)) (.slice (some ⟨w.heap.size, 0, none⟩) 4 4) (four v) := by
  refine ⟨_, 4, rfl, by simp [four], by unfold maxLen; omega, by simp, Or.inr ⟨_, 0, rfl, fun j hj => ?_⟩⟩
  rw [Nat.zero_add]
  have hj' : j < 4 := by simpa [four] using hj
  rw [cell_of_row _ _ j _ _ (0, 0) (heap_alloc_new _ _)]
  match j, hj' with
  | 0, _ => simp [four, B]
  | 1, _ => simp [four, B]
  | 2, _ => simp [four, B]
  | 3, _ => simp [four, B]

theorem right_false (a b : List UInt8) (h : a.length ≠ b.length) : (a == b) = false := by
  rw [beq_eq_false_iff_ne]
  intro e
  exact h (by rw [e])

/-- Whether the last four bytes are the sum of the others. -/
def rightB (bs : List UInt8) : Bool := if bs.length < 4 then false else (bs.take (bs.length - 4) ++ four (more 0 (bs.take (bs.length - 4)))) == bs

/-- A slice of ints that reads as these places. -/
def IRow (w : World) (s : Value) (ps : List Nat) : Prop :=
  ∃ b cap, s = .slice (some ⟨b, 0, none⟩) ps.length cap ∧ ps.length ≤ cap ∧ ∀ j (h : j < ps.length), w.cell? ⟨b, j, none⟩ = some (.int .i64 (ps[j] : Int))

theorem IRow.below {w w' : World} {s : Value} {ps : List Nat} (h : IRow w s ps) (hb : Below w.heap.size w w') : IRow w' s ps := by
  obtain ⟨b, cap, hs, h1, hc⟩ := h
  exact ⟨b, cap, hs, h1, fun j hj => (hb.cell (World.block_lt_of_cell? w _ (hc j hj))).trans (hc j hj)⟩

theorem turnAll_snoc (bs : List UInt8) (ps : List Nat) (p : Nat) : turnAll bs (ps ++ [p]) = if p < 8 * bs.length then turn (turnAll bs ps) p else turnAll bs ps := by
  induction ps generalizing bs with
  | nil => rfl
  | cons q r ih =>
    rw [List.cons_append, turnAll, turnAll, ih]
    congr 2
    by_cases h : q < 8 * bs.length
    · rw [if_pos h, length_turn]
    · rw [if_neg h]
theorem length_turnAll (bs : List UInt8) (ps : List Nat) : (turnAll bs ps).length = bs.length := by
  induction ps generalizing bs with
  | nil => rfl
  | cons q r ih =>
    rw [turnAll, ih]
    by_cases h : q < 8 * bs.length
    · rw [if_pos h, length_turn]
    · rw [if_neg h]
theorem turnAll_take (bs : List UInt8) (ps : List Nat) (k : Nat) (hk : k < ps.length) : turnAll bs (ps.take (k + 1)) = if ps[k] < 8 * bs.length then turn (turnAll bs (ps.take k)) ps[k] else turnAll bs (ps.take k) := by
  rw [List.take_succ_eq_append_getElem hk, turnAll_snoc]
theorem shift8 : ∀ r : Nat, r < 8 → (2 ^ r % 256 : Nat) = (UInt8.ofNat (2 ^ r)).toNat := by decide
theorem turn_bit (u : UInt8) (r : Nat) (hr : r < 8) : bits .xor .u8 (u.toNat : Int) ((2 : Int) ^ r % 256) = ((u ^^^ UInt8.ofNat (2 ^ r)).toNat : Int) := by
  have hu := u.toNat_lt
  have e : (2 : Int) ^ r % 256 = ((2 ^ r % 256 : Nat) : Int) := by rw [Int.natCast_emod, Int.natCast_pow]; rfl
  rw [e, u8_xor_nat _ _ (by omega) (by omega), UInt8.toNat_xor, ← shift8 r hr]
theorem set_cells {cur : Array Value} {l : List UInt8} {n q : Nat} {u : UInt8} (h : cur.toList.take n = l.map B) (_hq : q < n) : (cur.setIfInBounds q (B u)).toList.take n = (l.set q u).map B := by
  rw [Array.toList_setIfInBounds, List.take_set, h, List.map_set]

set_option maxHeartbeats 1000000 in
theorem turn_any (s t : Value) (bs : List UInt8) (ps : List Nat) (w : World) (hs : Row w s bs) (ht : IRow w t ps) (hroom : bs.length ≤ 1048576) (hps : ∀ p ∈ ps, p < 9223372036854775808) (hpl : ps.length ≤ 1048576) :
    Calls Try.prog 21 #[s, t] w fun e w' => ∃ t, e = .returned t ∧ w'.ownsRow w.heap.size 5 1 t bs.length ((turnAll bs ps).map B) ∧ Below w.heap.size w w' := by
  obtain ⟨i0, hi, hz0, hz1, hz2⟩ := info_parts Try.info5
  have HS := hide hs
  obtain ⟨b, cap, rfl, hcap, hcell⟩ := ht
  have HC := hide hcell
  clear hs hcell
  go_enter Try.func21, Try.ntmps21
  go_wp2_with (at_builtin; refine wpList_append_row rfl _ _ 23 rfl w.heap.size 5 i0 (.int .u8 0) Try.underlying23 hi hz0 hz1 hz2 rfl _ 0 [] rfl (World.ownsRow_nil _ _ _ _) _ bs rfl (unhide HS) (by omega) (Nat.le_refl _) ?_)
  intro v5 w5 hown5 hgrow5
  have B5 : Below w.heap.size w w5 := (Below.refl _ _).grown hgrow5 (Nat.le_refl _) (fun k hk => by cases hk)
  have O5 : w5.ownsRow w.heap.size 5 1 v5 bs.length (bs.map B) := by simpa using hown5
  clear hown5 hgrow5
  rcases O5.2 with ⟨rfl, h0⟩ | ⟨g, cp, cur, rfl, hg, hh, hnc, hcp, hcs, htake⟩
  · obtain rfl : bs = [] := List.eq_nil_of_length_eq_zero h0
    go_wp2_with fail
    go_loop [6] (fun i => ∃ k : Nat, k ≤ ps.length ∧ i = .int .i64 k) (fun i => ps.length - (intOf i).toNat)
    case atStart => exact ⟨0, Nat.zero_le _, rfl⟩
    case round =>
      obtain ⟨k, hk, rfl⟩ := hrel
      by_cases hlt : k < ps.length
      · have hc0 := unhide HC k hlt
        have hc := (B5.cell (World.block_lt_of_cell? w _ hc0)).trans hc0
        have hp := hps _ (List.getElem_mem hlt)
        have hk0 : (k : Int) < ps.length := by omega
        generalize ps[k] = P at *
        clear hc0 hps
        have hq : ¬ (P : Int) / 8 < 0 := by omega
        go_wp2
        go_round
        case rel => exact ⟨k + 1, by omega, by go_num⟩
        case measure => simp [intOf]; omega
      · obtain rfl : k = ps.length := by omega
        have HT := hide (show turnAll [] ps = [] from List.eq_nil_of_length_eq_zero (length_turnAll [] ps))
        have HO := hide O5
        clear O5
        go_wp2
        go_ret
        refine ⟨_, rfl, ?_, B5⟩
        rw [unhide HT]
        exact unhide HO
  · clear O5
    go_wp2_with fail
    go_loopw [6] (fun i wr => ∃ (k : Nat) (cur : Array Value), k ≤ ps.length ∧ i = .int .i64 k ∧ wr.heap[g]? = some (.cells cur 5 (0, 0)) ∧ cur.size = cp ∧ Hid (cur.toList.take bs.length = (turnAll bs (ps.take k)).map B) ∧ Below w.heap.size w wr)
      (fun i _ => ps.length - (intOf i).toNat)
    case atStart => exact ⟨0, cur, Nat.zero_le _, rfl, hh, by simpa using hcs, by unfold Hid; rw [List.take_zero, turnAll]; simpa using htake, B5⟩
    case round =>
      obtain ⟨k, cur, hk, rfl, hblk, hcs, htk, hbel⟩ := hrel
      by_cases hlt : k < ps.length
      · have hc0 := unhide HC k hlt
        have hc := (hbel.cell (World.block_lt_of_cell? w _ hc0)).trans hc0
        have hp := hps _ (List.getElem_mem hlt)
        have hk0 : (k : Int) < ps.length := by omega
        have HT := hide (turnAll_take bs ps k hlt)
        have hlen := length_turnAll bs (ps.take k)
        generalize turnAll bs (ps.take k) = L at *
        generalize ps[k] = P at *
        clear hc0 hps
        by_cases hin : P / 8 < bs.length
        · rw [if_pos (by omega)] at HT
          have hq : (P : Int) / 8 < bs.length := by omega
          obtain ⟨u0, hu0⟩ : ∃ u0 : UInt8, u0 = L.getD (P / 8) 0 := ⟨_, rfl⟩
          have hcell : wr.cell? ⟨g, P / 8, none⟩ = some (.int .u8 (u0.toNat : Int)) := by
            rw [cell_of_row wr g (P / 8) _ _ (0, 0) hblk]
            have e1 : cur[P / 8]? = (cur.toList.take bs.length)[P / 8]? := by rw [List.getElem?_take_of_lt hin]; simp
            rw [e1, htk.out, hu0, List.getElem?_map, List.getElem?_eq_getElem (by omega)]
            simp [B, List.getD, List.getElem?_eq_getElem (show P / 8 < L.length by omega)]
          have hfz : wr.frozen? ⟨g, P / 8, none⟩ = false := frozen_of_block hblk
          have HBK := hide hblk
          have HT' : Hid (turnAll bs (ps.take (k + 1)) = L.set (P / 8) (u0 ^^^ UInt8.ofNat (2 ^ (P % 8)))) := by
            unfold Hid
            rw [unhide HT, hu0]
            rfl
          have HV := hide (turn_bit u0 (P % 8) (by omega))
          clear hblk hu0 HT
          go_wp2
          go_region
          go_wp2
          go_roundw
          case rel =>
            rw [unhide HV]
            refine ⟨k + 1, cur.setIfInBounds (P / 8) (B (u0 ^^^ UInt8.ofNat (2 ^ (P % 8)))), by omega, by go_num, heap_setCell_same wr _ _ cur _ _ (unhide HBK), by simpa using hcs, ?_, (hbel.setCell hg _).drew⟩
            unfold Hid
            rw [unhide HT']
            exact set_cells htk.out hin
          case measure => simp [intOf]; omega
        · rw [if_neg (by omega)] at HT
          have hq : ¬ (P : Int) / 8 < bs.length := by omega
          go_wp2
          go_roundw
          case rel => exact ⟨k + 1, cur, by omega, by go_num, hblk, hcs, by rw [unhide HT]; exact htk, hbel⟩
          case measure => simp [intOf]; omega
      · obtain rfl : k = ps.length := by omega
        rw [List.take_of_length_le (Nat.le_refl _)] at htk
        go_wp2
        go_ret
        refine ⟨_, rfl, ⟨by rw [List.length_map, length_turnAll, Nat.mul_one], Or.inr ⟨g, cp, cur, rfl, hg, hblk, hnc, hcp, by rw [hcs, Nat.mul_one], by rw [Nat.mul_one]; exact htk.out⟩⟩, hbel⟩
end Go.Proofs.Ytndlnppgihhepaa
