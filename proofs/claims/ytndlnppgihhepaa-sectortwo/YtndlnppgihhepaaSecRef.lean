/- What the reference of package sector does: Known, number, Seal. -/
import Derived.Test.YtndlnppgihhepaaCrcRef
import Derived.Test.YtndlnppgihhepaaSecPlain
import Derived.Deep.LoopGhost
namespace Go.Proofs.Ytndlnppgihhepaa
open Go.RowKit

theorem byte_test (k : UInt8) (n : Nat) (hn : n < 256) : ((k.toNat : Int) == (n : Int)) = (k == UInt8.ofNat n) := by
  rw [Bool.eq_iff_iff]
  simp only [beq_iff_eq]
  constructor
  · intro h
    apply UInt8.toNat_inj.1
    simp
    omega
  · intro h
    rw [h]
    simp
    omega

theorem known_int (k : UInt8) : knownB k = ((k.toNat : Int) == 23 || (k.toNat : Int) == 43 || (k.toNat : Int) == 77 || (k.toNat : Int) == 142 || (k.toNat : Int) == 113 || (k.toNat : Int) == 178) := by
  have t1 := byte_test k 23 (by omega)
  have t2 := byte_test k 43 (by omega)
  have t3 := byte_test k 77 (by omega)
  have t4 := byte_test k 142 (by omega)
  have t5 := byte_test k 113 (by omega)
  have t6 := byte_test k 178 (by omega)
  simp only [Int.cast_ofNat_Int] at t1 t2 t3 t4 t5 t6
  rw [t1, t2, t3, t4, t5, t6]
  rfl

theorem rknown_any (k : UInt8) (w : World) : Calls Try.prog 13 #[.int .u8 (k.toNat : Int)] w fun e w' => e = .returned (.bool (knownB k)) ∧ w' = w := by
  have HK := hide (known_int k)
  generalize knownB k = r at *
  generalize (k.toNat : Int) = z at *
  go_enter Try.func13, Try.ntmps13
  go_wp2
  all_goals (go_ret; exact ⟨by rw [unhide HK]; simp [*], rfl⟩)

theorem one_row (w : World) (z : Int) (u : UInt8) (h : z = (u.toNat : Int)) : Row (w.alloc (.cells #[.int .u8 z] 5)) (.slice (some ⟨w.heap.size, 0, none⟩) 1 1) [u] := by
  refine ⟨_, 1, rfl, by simp, by unfold maxLen; omega, by simp, Or.inr ⟨_, 0, rfl, fun j hj => ?_⟩⟩
  have hj' : j < 1 := by simpa using hj
  rw [Nat.zero_add, cell_of_row _ _ j _ _ (0, 0) (heap_alloc_new _ _)]
  match j, hj' with
  | 0, _ => rw [h]; rfl

set_option maxHeartbeats 1000000 in
theorem number_any (s : Value) (bs : List UInt8) (v n base : Nat) (w : World) (hown : w.ownsRow base 5 1 s bs.length (bs.map B)) (hb : base ≤ w.heap.size) (hroom : bs.length ≤ 1048576) (hn : n ≤ 8) :
    Calls Try.prog 25 #[s, .int .u64 v, .int .i64 n] w fun e w' => ∃ t, e = .returned t ∧ w'.ownsRow base 5 1 t (bs ++ le n v).length ((bs ++ le n v).map B) ∧ Below base w w' := by
  obtain ⟨i0, hi, hz0, hz1, hz2⟩ := info_parts Try.info5
  have HO := hide hown
  clear hown
  go_enter Try.func25, Try.ntmps25
  go_wp2
  go_loopw [0, 7] (fun t i wr => ∃ k : Nat, k ≤ n ∧ i = .int .i64 k ∧ Hid (wr.ownsRow base 5 1 t (bs ++ le k v).length ((bs ++ le k v).map B)) ∧ Below base w wr) (fun _ i _ => n - (intOf i).toNat)
  case atStart => exact ⟨0, Nat.zero_le _, rfl, by unfold Hid; simpa [le] using unhide HO, Below.refl _ _⟩
  case round =>
    obtain ⟨k, hk, rfl, hown, hbel⟩ := hrel
    by_cases hlt : k < n
    · have hk0 : (k : Int) < n := by omega
      have hk8 : k < 8 := by omega
      have hlen : (bs ++ le k v).length = bs.length + k := by simp [length_le]
      have HP := hide (put_byte v k)
      have S0 := Nat.le_trans hb hbel.size
      have HA := hide (And.intro (owns_below (unhide hown) ((Below.refl wr.heap.size wr).alloc (Nat.le_refl _) (.cells #[.int .u8 ((v : Int) / 2 ^ (8 * k) % 256)] 5))) (hbel.alloc S0 (.cells #[.int .u8 ((v : Int) / 2 ^ (8 * k) % 256)] 5)))
      have S1 : base ≤ (wr.alloc (.cells #[.int .u8 ((v : Int) / 2 ^ (8 * k) % 256)] 5)).heap.size := Nat.le_trans hb (unhide HA).2.size
      clear hown hbel
      go_wp2_with (at_builtin; refine wpList_append_row rfl _ _ 23 rfl base 5 i0 (.int .u8 0) Try.underlying23 hi hz0 hz1 hz2 rfl _ _ _ rfl (unhide HA).1 _ [UInt8.ofNat (v / 256 ^ k)] rfl (one_row wr _ _ (unhide HP)) (by rw [hlen]; simp; omega) S1 ?_)
      intro v6 w6 hown6 hgrow6
      have B6 := hide ((unhide HA).2.grown hgrow6 S1 (fun j hj => ((unhide HA).1.lt j hj).1))
      have O6 : Hid (w6.ownsRow base 5 1 v6 (bs ++ le (k + 1) v).length ((bs ++ le (k + 1) v).map B)) := by
        unfold Hid
        rw [le_succ, ← List.append_assoc]
        simpa [length_le, Nat.add_assoc] using hown6
      clear hown6 hgrow6 HA S1
      go_wp2
      go_roundw
      case rel => exact ⟨k + 1, by omega, by go_num, unhide O6, unhide B6⟩
      case measure => simp [intOf]; omega
    · obtain rfl : k = n := by omega
      go_wp2
      go_ret
      exact ⟨_, rfl, unhide hown, hbel⟩

theorem rseal_arg (k : UInt8) (turn : Int) (s : Value) (w : World) (hk : knownB k = false) :
    Calls Try.prog 10 #[.int .u8 (k.toNat : Int), .int .u64 turn, s] w fun e w' => e = .returned (.tuple #[.slice none 0 0, .int .i64 1]) ∧ w' = w := by
  go_enter Try.func10, Try.ntmps10
  go_wp2_with fail
  refine (rknown_any k w).mono ?_
  rintro e w ⟨rfl, rfl⟩
  rw [hk]
  go_wp2
  go_ret2
  exact ⟨rfl, rfl⟩

theorem rseal_large (k : UInt8) (turn : Int) (s : Value) (p : List UInt8) (w : World) (hs : Row w s p) (hk : knownB k = true) (hl : 496 < p.length) :
    Calls Try.prog 10 #[.int .u8 (k.toNat : Int), .int .u64 turn, s] w fun e w' => e = .returned (.tuple #[.slice none 0 0, .int .i64 4]) ∧ w' = w := by
  obtain ⟨q, c, l, rfl, hl2⟩ := hs.shape
  subst hl2
  clear hs
  go_enter Try.func10, Try.ntmps10
  go_wp2_with fail
  refine (rknown_any k w).mono ?_
  rintro e w ⟨rfl, rfl⟩
  rw [hk]
  go_wp2
  go_ret2
  exact ⟨rfl, rfl⟩

theorem two_owns (w : World) (z : Int) (k : UInt8) (h : z = (k.toNat : Int)) : (w.alloc (.cells #[.int .u8 z, .int .u8 0] 5)).ownsRow w.heap.size 5 1 (.slice (some ⟨w.heap.size, 0, none⟩) 2 2) [k, 0].length ([k, 0].map B) := by
  refine owns_of_block (bs := [k, 0]) ?_ (Nat.le_refl _) (by unfold maxLen; simp)
  rw [heap_alloc_new, h]
  rfl
theorem zero_row (w : World) : Row (w.alloc (.cells #[.int .u8 0] 5)) (.slice (some ⟨w.heap.size, 0, none⟩) 1 1) [0] := one_row w 0 0 rfl

set_option maxHeartbeats 1000000 in
theorem rseal_ok (k : UInt8) (turn : Nat) (s : Value) (p : List UInt8) (w : World) (hs : Row w s p) (hk : knownB k = true) (hl : p.length ≤ 496) :
    Calls Try.prog 10 #[.int .u8 (k.toNat : Int), .int .u64 turn, s] w fun e w' => ∃ t, e = .returned (.tuple #[t, .int .i64 0]) ∧ w'.ownsRow w.heap.size 5 1 t (sealed k turn p).length ((sealed k turn p).map B) ∧ Below w.heap.size w w' := by
  obtain ⟨i0, hi, hz0, hz1, hz2⟩ := info_parts Try.info5
  obtain ⟨q, c, l, rfl, hl2⟩ := hs.shape
  subst hl2
  have HS := hide hs
  clear hs
  go_enter Try.func10, Try.ntmps10
  go_wp2_with fail
  refine (rknown_any k w).mono ?_
  rintro e w ⟨rfl, rfl⟩
  rw [hk]
  have BA := (Below.refl w.heap.size w).alloc (Nat.le_refl _) (.cells #[.int .u8 (k.toNat : Int), .int .u8 0] 5)
  have OA := two_owns w (k.toNat : Int) k rfl
  have HA := hide (And.intro BA OA)
  clear BA OA
  go_wp2_with fail
  refine (number_any _ [k, 0] p.length 2 w.heap.size _ (unhide HA).2 (unhide HA).1.size (by simp) (by omega)).mono ?_
  rintro e w1 ⟨t1, rfl, o1, b1⟩
  have B1 := (unhide HA).1.trans b1
  clear HA b1
  go_wp2_with fail
  refine (number_any _ _ turn 8 w.heap.size w1 o1 B1.size (by simp [length_le]) (by omega)).mono ?_
  rintro e w2 ⟨t2, rfl, o2, b2⟩
  have B2 := B1.trans b2
  clear o1 B1 b2
  have S2 := B2.size
  have hl12 : ([k, 0] ++ le 2 p.length ++ le 8 turn).length = 12 := by simp [length_le]
  go_wp2_with (at_builtin; refine wpList_append_row rfl _ _ 23 rfl w.heap.size 5 i0 (.int .u8 0) Try.underlying23 hi hz0 hz1 hz2 rfl _ _ _ rfl o2 _ p rfl ((unhide HS).below B2) (by rw [hl12]; omega) S2 ?_)
  intro v3 w3 hown3 hgrow3
  have B3 := hide (B2.grown hgrow3 S2 (fun j hj => (o2.lt j hj).1))
  have O3 : Hid (w3.ownsRow w.heap.size 5 1 v3 ([k, 0] ++ le 2 p.length ++ le 8 turn ++ p).length (([k, 0] ++ le 2 p.length ++ le 8 turn ++ p).map B)) := by
    unfold Hid
    rw [List.length_append, List.map_append]
    exact hown3
  clear hown3 hgrow3 o2 B2 S2
  have hl3 : ([k, 0] ++ le 2 p.length ++ le 8 turn ++ p).length = 12 + p.length := by rw [List.length_append, hl12]
  have HB : Hid (body k turn p = ([k, 0] ++ le 2 p.length ++ le 8 turn ++ p) ++ List.replicate (496 - p.length) 0) := rfl
  have HL3 := hide hl3
  clear hl12
  generalize [k, 0] ++ le 2 p.length ++ le 8 turn ++ p = A at *
  clear hl3
  go_wp2_with fail
  go_loopg [8] (496 - p.length) (fun n t wr => ∃ (m l : Nat) (pp : Option Addr) (cc : Nat), n + m = 496 - p.length ∧ l + n = 508 ∧ t = .slice pp l cc ∧ Hid (wr.ownsRow w.heap.size 5 1 (.slice pp l cc) (A ++ List.replicate m 0).length ((A ++ List.replicate m 0).map B)) ∧ Below w.heap.size w wr)
  case atStart =>
    obtain ⟨pp, cc, l, e, hl2⟩ := (row_of_owns (unhide O3)).shape
    have hA := unhide HL3
    refine ⟨0, l, pp, cc, rfl, by omega, e, ?_, unhide B3⟩
    unfold Hid
    rw [← e, List.replicate_zero, List.append_nil]
    exact unhide O3
  case round =>
    obtain ⟨m, l, pp, cc, hm, hlk, rfl, hown, hbel⟩ := hrel
    have hlen : (A ++ List.replicate m (0 : UInt8)).length = l := by rw [List.length_append, List.length_replicate, unhide HL3]; omega
    by_cases h0 : gk = 0
    · obtain rfl : l = 508 := by omega
      obtain rfl : m = 496 - p.length := by omega
      subst h0
      clear hm hlk
      rw [← unhide HB] at hown hlen
      have R := row_of_owns (unhide hown)
      have HR := hide R
      have hs32 : more 0 (body k turn p) < 4294967296 := Nat.xor_lt_two_pow (n := 32) (raw_lt _ _ (by decide)) (by omega)
      clear R
      go_wp2_with fail
      refine (rsum_any _ _ wr (unhide HR) (by rw [hlen]; omega)).mono ?_
      rintro e wr ⟨rfl, rfl⟩
      go_wp2_with fail
      refine (number_any _ _ (more 0 (body k turn p)) 4 w.heap.size wr (unhide hown) hbel.size (by rw [hlen]; omega) (by omega)).mono ?_
      rintro e w5 ⟨t5, rfl, o5, b5⟩
      have B5 := hbel.trans b5
      clear hown HR
      go_wp2
      go_ret2
      exact ⟨t5, rfl, o5, B5⟩
    · have hlt : (l : Int) < 508 := by omega
      have S0 := hbel.size
      have HA := hide (And.intro (owns_below (unhide hown) ((Below.refl wr.heap.size wr).alloc (Nat.le_refl _) (.cells #[.int .u8 0] 5))) (hbel.alloc S0 (.cells #[.int .u8 0] 5)))
      have HM := hide (And.intro hm (And.intro hlk h0))
      have HLN := hide hlen
      clear hown hbel S0 hm hlk hlen h0
      go_wp2_with (at_builtin; refine wpList_append_row rfl _ _ 23 rfl w.heap.size 5 i0 (.int .u8 0) Try.underlying23 hi hz0 hz1 hz2 rfl _ _ _ rfl (unhide HA).1 _ [0] rfl (zero_row wr) (by rw [unhide HLN]; simp; omega) (unhide HA).2.size ?_)
      intro v6 w6 hown6 hgrow6
      have B6 := hide ((unhide HA).2.grown hgrow6 (unhide HA).2.size (fun j hj => ((unhide HA).1.lt j hj).1))
      have O6 : Hid (w6.ownsRow w.heap.size 5 1 v6 (A ++ List.replicate (m + 1) 0).length ((A ++ List.replicate (m + 1) 0).map B)) := by
        unfold Hid
        have e1 : (A ++ List.replicate (m + 1) (0 : UInt8)).length = A.length + m + 1 := by simp [Nat.add_assoc]
        rw [e1, List.replicate_succ', List.map_append, List.map_append, List.map_replicate]
        exact hown6
      clear hown6 hgrow6 HA
      obtain ⟨pp6, cc6, l6, e6, hl6⟩ := (row_of_owns (unhide O6)).shape
      subst e6
      have hl6' : l6 + (gk - 1) = 508 := by
        obtain ⟨hm, hlk, h0⟩ := unhide HM
        rw [List.length_append, List.length_replicate, unhide HL3] at hl6
        omega
      clear hl6
      have HN := hide hl6'
      clear hl6'
      go_wp2
      go_roundg (gk - 1)
      case rel => exact ⟨m + 1, l6, pp6, cc6, by obtain ⟨hm, hlk, h0⟩ := unhide HM; omega, unhide HN, rfl, unhide O6, unhide B6⟩
      case measure => obtain ⟨hm, hlk, h0⟩ := unhide HM; omega

theorem rseal_any (k : UInt8) (turn : Nat) (s : Value) (p : List UInt8) (w : World) (hs : Row w s p) :
    Calls Try.prog 10 #[.int .u8 (k.toNat : Int), .int .u64 turn, s] w fun e w' => ∃ t, e = .returned (.tuple #[t, .int .i64 (sealE k p)]) ∧ w'.ownsRow w.heap.size 5 1 t (sealB k turn p).length ((sealB k turn p).map B) ∧ Below w.heap.size w w' := by
  unfold sealE sealB
  cases hk : knownB k with
  | false =>
    rw [if_pos rfl, if_pos rfl]
    refine (rseal_arg k turn s w hk).mono ?_
    rintro e w' ⟨rfl, rfl⟩
    exact ⟨_, rfl, World.ownsRow_nil _ _ _ _, Below.refl _ _⟩
  | true =>
    rw [if_neg (show ¬ (true = false) by decide), if_neg (show ¬ (true = false) by decide)]
    by_cases hl : 496 < p.length
    · rw [if_pos hl, if_pos hl]
      refine (rseal_large k turn s p w hs hk hl).mono ?_
      rintro e w' ⟨rfl, rfl⟩
      exact ⟨_, rfl, World.ownsRow_nil _ _ _ _, Below.refl _ _⟩
    · rw [if_neg hl, if_neg hl]
      exact rseal_ok k turn s p w hs hk (by omega)
end Go.Proofs.Ytndlnppgihhepaa
