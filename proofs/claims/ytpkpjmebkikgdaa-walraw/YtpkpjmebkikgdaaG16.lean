/- Texts of ours, one behind the other: SecRef, CrcOwn, CrcOwn2. -/
import Derived.Test.YtpkpjmebkikgdaaG1
import Derived.Test.YtpkpjmebkikgdaaG5
import Derived.Deep.LoopGhost
/- What the reference of package sector does: Known, number, Seal. -/
namespace Go.Proofs.Ytpkpjmebkikgdaa
open Go.RowKit

theorem byte_test (k : UInt8) (n : Nat) (hn : n < 256) : ((k.toNat : Int) == (n : Int)) = (k == UInt8.ofNat n) := by
  rw [Bool.eq_iff_iff]
  simp only [beq_iff_eq]
  constructor
  · intro h
    apply UInt8.toNat_inj.1
    simp
    omega
  · intro h
    rw [h]
    simp
    omega

theorem known_int (k : UInt8) : knownB k = ((k.toNat : Int) == 23 || (k.toNat : Int) == 43 || (k.toNat : Int) == 77 || (k.toNat : Int) == 142 || (k.toNat : Int) == 113 || (k.toNat : Int) == 178) := by
  have t1 := byte_test k 23 (by omega)
  have t2 := byte_test k 43 (by omega)
  have t3 := byte_test k 77 (by omega)
  have t4 := byte_test k 142 (by omega)
  have t5 := byte_test k 113 (by omega)
  have t6 := byte_test k 178 (by omega)
  simp only [Int.cast_ofNat_Int] at t1 t2 t3 t4 t5 t6
  rw [t1, t2, t3, t4, t5, t6]
  rfl

set_option maxRecDepth 20000 in
theorem rknown_any (k : UInt8) (w : World) : Calls Try.prog 41 #[.int .u8 (k.toNat : Int)] w fun e w' => e = .returned (.bool (knownB k)) ∧ w' = w := by
  have HK := hide (known_int k)
  generalize knownB k = r at *
  generalize (k.toNat : Int) = z at *
  go_enter Try.func41, Try.ntmps41
  go_wp2
  all_goals (go_ret; exact ⟨by rw [unhide HK]; simp [*], rfl⟩)

theorem one_row (w : World) (z : Int) (u : UInt8) (h : z = (u.toNat : Int)) : Row (w.alloc (.cells #[.int .u8 z] 5)) (.slice (some ⟨w.heap.size, 0, none⟩) 1 1) [u] := by
  refine ⟨_, 1, rfl, by simp, by unfold maxLen; omega, by simp, Or.inr ⟨_, 0, rfl, fun j hj => ?_⟩⟩
  have hj' : j < 1 := by simpa using hj
  rw [Nat.zero_add, cell_of_row _ _ j _ _ (0, 0) (heap_alloc_new _ _)]
  match j, hj' with
  | 0, _ => rw [h]; rfl

theorem two_owns (w : World) (z : Int) (k : UInt8) (h : z = (k.toNat : Int)) : (w.alloc (.cells #[.int .u8 z, .int .u8 0] 5)).ownsRow w.heap.size 5 1 (.slice (some ⟨w.heap.size, 0, none⟩) 2 2) [k, 0].length ([k, 0].map B) := by
  refine owns_of_block (bs := [k, 0]) ?_ (Nat.le_refl _) (by unfold maxLen; simp)
  rw [heap_alloc_new, h]
  rfl
theorem zero_row (w : World) : Row (w.alloc (.cells #[.int .u8 0] 5)) (.slice (some ⟨w.heap.size, 0, none⟩) 1 1) [0] := one_row w 0 0 rfl

end Go.Proofs.Ytpkpjmebkikgdaa

/- What package crc does: bitsOn, times. -/
namespace Go.Proofs.Ytpkpjmebkikgdaa
open Go.RowKit

theorem low_bit (s : Nat) (h : s < 4294967296) (h1 : s % 2 = 1) : bits .xor .u32 ((s : Int) / 2) 2197175160 = ((stp s : Nat) : Int) := by
  rw [show (s : Int) / 2 = ((s / 2 : Nat) : Int) by omega, show (2197175160 : Int) = ((2197175160 : Nat) : Int) from rfl, bits_xor32 _ _ (by omega) (by omega)]
  unfold stp
  rw [if_pos h1]

set_option maxHeartbeats 1000000 in
theorem bitsOn_any (s n : Nat) (w : World) (h : s < 4294967296) (hn : n ≤ 9223372036854775807) :
    Calls Try.prog 85 #[.int .u32 s, .int .i64 n] w fun e w' => e = .returned (.int .u32 (stps n s : Nat)) ∧ w' = w := by
  go_enter Try.func85, Try.ntmps85
  go_wp2
  go_loop [0, 7] (fun t i => ∃ k : Nat, k ≤ n ∧ i = .int .i64 k ∧ t = .int .u32 (stps k s : Nat)) (fun _ i => n - (intOf i).toNat)
  case atStart => exact ⟨0, Nat.zero_le _, rfl, rfl⟩
  case round =>
    obtain ⟨k, hk, rfl, rfl⟩ := hrel
    have hq := stps_lt k s h
    by_cases hlt : k < n
    · have HS := hide (stps_succ k s)
      generalize stps k s = q at *
      by_cases h1 : q % 2 = 1
      · have ht : (bits .and .u32 (q : Int) 1 == 1) = true := by rw [bits_and1 q hq, h1]; rfl
        have E := hide (low_bit q hq h1)
        clear h1
        go_wp2
        go_round
        case rel => exact ⟨k + 1, by omega, by go_num, by rw [unhide HS, ← unhide E]⟩
        case measure => simp [intOf]; omega
      · have ht : (bits .and .u32 (q : Int) 1 == 1) = false := by rw [bits_and1 q hq, show q % 2 = 0 by omega]; rfl
        have e : (q : Int) / 2 = ((stp q : Nat) : Int) := by
          unfold stp
          rw [if_neg h1]
          omega
        have E := hide e
        clear e h1
        go_wp2
        go_round
        case rel => exact ⟨k + 1, by omega, by go_num, by rw [unhide HS, ← unhide E]⟩
        case measure => simp [intOf]; omega
    · obtain rfl : k = n := by omega
      go_wp2
      go_ret
      exact ⟨rfl, rfl⟩

theorem tacc_nil (n p b : Nat) : tacc n p 0 b = p := by
  induction n generalizing b with
  | zero => rfl
  | succ n ih => rw [tacc, if_neg (by omega)]; exact ih _

theorem left_zero (x n : Nat) (hx : x < 4294967296) (hd : 2 ^ (32 - n) ∣ x) (h : n = 0) : x = 0 := by
  subst h
  obtain ⟨c, rfl⟩ := hd
  rcases c with _ | c
  · rfl
  · simp only [Nat.mul_succ] at hx
    omega
theorem left_step (x m : Nat) (hm : m + 1 ≤ 32) (hd : 2 ^ (32 - (m + 1)) ∣ x) : 2 ^ (32 - m) ∣ x * 2 % 4294967296 := by
  have e : 32 - m = (32 - (m + 1)) + 1 := by omega
  have h1 : 2 ^ (32 - m) ∣ x * 2 := by rw [e, Nat.pow_succ]; exact Nat.mul_dvd_mul_right hd 2
  have h2 : 2 ^ (32 - m) ∣ 4294967296 := by
    show 2 ^ (32 - m) ∣ 2 ^ 32
    exact Nat.pow_dvd_pow 2 (by omega)
  exact (Nat.dvd_mod_iff h2).2 h1

end Go.Proofs.Ytpkpjmebkikgdaa

/- What package crc does: More, Sum, Join. -/
namespace Go.Proofs.Ytpkpjmebkikgdaa
open Go.RowKit

/-- Block g holds the table of the first k fours. -/
def Tab (w : World) (g k : Nat) : Prop := ∃ cur : Array Value, w.heap[g]? = some (.cells cur 147 (0, 0)) ∧ cur.size = 16 ∧ ∀ j, j < k → cur[j]? = some (.int .u32 (stps 4 j : Nat))

theorem Tab.lt {w : World} {g k : Nat} (h : Tab w g k) : g < w.heap.size := by
  obtain ⟨cur, h, _⟩ := h
  exact (Array.getElem?_eq_some_iff.1 h).1
theorem Tab.cell {w : World} {g k : Nat} (h : Tab w g k) (j : Nat) (hj : j < k) : w.cell? ⟨g, j, none⟩ = some (.int .u32 (stps 4 j : Nat)) := by
  obtain ⟨cur, h1, h2, h3⟩ := h
  rw [cell_of_row w g j _ _ (0, 0) h1]
  exact h3 j hj
theorem Tab.any {w : World} {g k : Nat} (h : Tab w g k) (j : Nat) (hj : j < 16) : ∃ u, w.cell? ⟨g, j, none⟩ = some u := by
  obtain ⟨cur, h1, h2, h3⟩ := h
  exact ⟨cur[j]'(by omega), by rw [cell_of_row w g j _ _ (0, 0) h1]; exact Array.getElem?_eq_getElem (by omega)⟩
theorem Tab.frozen {w : World} {g k : Nat} (h : Tab w g k) (j : Nat) : w.frozen? ⟨g, j, none⟩ = false := by
  obtain ⟨cur, h1, h2, h3⟩ := h
  simp [World.frozen?, h1]
theorem Tab.set {w : World} {g k : Nat} (h : Tab w g k) (hk : k < 16) : Tab (w.setCell ⟨g, k, none⟩ (.int .u32 (stps 4 k : Nat))) g (k + 1) := by
  obtain ⟨cur, h1, h2, h3⟩ := h
  refine ⟨cur.setIfInBounds k (.int .u32 (stps 4 k : Nat)), heap_setCell_same w _ k cur _ _ h1, by simpa using h2, fun j hj => ?_⟩
  by_cases e : j = k
  · subst e
    rw [Array.getElem?_setIfInBounds_self_of_lt (by omega)]
  · rw [Array.getElem?_setIfInBounds_ne (by omega)]
    exact h3 j (by omega)

theorem bits_and15 (s : Nat) (h : s < 4294967296) : bits .and .u32 (s : Int) 15 = ((s % 16 : Nat) : Int) := by
  rw [show (15 : Int) = ((15 : Nat) : Int) from rfl, u32_and_nat _ _ h (by omega)]
  congr 1
  exact Nat.and_two_pow_sub_one_eq_mod s 4

theorem four_bits (s : Nat) (h : s < 4294967296) : bits .xor .u32 ((s : Int) / 16) ((stps 4 (s % 16) : Nat) : Int) = ((stps 4 s : Nat) : Int) := by
  rw [show (s : Int) / 16 = ((s / 16 : Nat) : Int) by omega, bits_xor32 _ _ (by omega) (stps_lt 4 _ (by omega)), stps_low 4 s, Nat.xor_comm]

theorem bits_not32 (s : Nat) (h : s < 4294967296) : bits .xor .u32 IntKind.u32.max (s : Int) = ((s ^^^ 4294967295 : Nat) : Int) := by
  rw [show IntKind.u32.max = ((4294967295 : Nat) : Int) from by decide, bits_xor32 _ _ (by omega) h, Nat.xor_comm]

set_option maxHeartbeats 1000000 in
theorem more_any (sum : Nat) (s : Value) (bs : List UInt8) (w : World) (hs : Row w s bs) (hsum : sum < 4294967296) (hroom : bs.length ≤ 140737488351232) :
    Calls Try.prog 73 #[.int .u32 sum, s] w fun e w' => e = .returned (.int .u32 (more sum bs : Nat)) ∧ Below w.heap.size w w' := by
  have e0 := bits_not32 sum hsum
  have hx : sum ^^^ 4294967295 < 4294967296 := Nat.xor_lt_two_pow (n := 32) hsum (by omega)
  obtain ⟨y, hy⟩ : ∃ y, y = sum ^^^ 4294967295 := ⟨_, rfl⟩
  rw [← hy] at e0 hx
  have HY := hide hy
  clear hy
  have hcx : ∀ k (h : k < bs.length), ∃ b off cap, s = .slice (some ⟨b, off, none⟩) bs.length cap ∧ bs.length ≤ cap ∧ w.cell? ⟨b, off + k, none⟩ = some (.int .u8 (bs[k].toNat : Int)) := by
    intro k hk
    obtain ⟨b, off, cap, h1, h2, h3, h4⟩ := hs.open (by intro e; rw [e] at hk; simp at hk)
    exact ⟨b, off, cap, h1, h2, h4 k hk⟩
  obtain ⟨p, c, l, rfl, hl⟩ := hs.shape
  subst hl
  have HCX := hide hcx
  clear hcx hs
  go_enter Try.func73, Try.ntmps73
  go_wp2
  go_loopw [10] (fun i wr => ∃ k : Nat, k ≤ 16 ∧ i = .int .i64 k ∧ Tab wr w.heap.size k ∧ Below w.heap.size w wr) (fun i _ => 16 - (intOf i).toNat)
  case atStart => exact ⟨0, by omega, rfl, ⟨_, heap_alloc_new _ _, rfl, fun j hj => absurd hj (by omega)⟩, (Below.refl _ _).alloc (Nat.le_refl _) _⟩
  case round =>
    obtain ⟨k, hk, rfl, htab, hbel⟩ := hrel
    by_cases hlt : k < 16
    · obtain ⟨u, hu⟩ := htab.any k hlt
      have hfz := htab.frozen k
      have HT := hide (htab.set hlt)
      have HC := hide (bitsOn_any k 4 wr (by omega) (by omega))
      clear htab
      go_wp2_with fail
      refine Calls.mono (unhide HC) ?_
      rintro e w2 ⟨rfl, rfl⟩
      go_wp2
      go_roundw
      case rel => exact ⟨k + 1, by omega, by go_num, unhide HT, hbel.setCell (Nat.le_refl _) _⟩
      case measure => simp [intOf]; omega
    · obtain rfl : k = 16 := by omega
      have HT := hide htab
      clear htab
      go_wp2
      go_loop [7, 23] (fun t i => ∃ k : Nat, k ≤ bs.length ∧ i = .int .i64 k ∧ t = .int .u32 (raw y (bs.take k) : Nat)) (fun _ i => bs.length - (intOf i).toNat)
      case atStart => exact ⟨0, Nat.zero_le _, rfl, by simp [raw]⟩
      case round =>
        obtain ⟨k, hk, rfl, rfl⟩ := hrel
        have hr := raw_lt y (bs.take k) hx
        by_cases hlt : k < bs.length
        · obtain ⟨b, off, cap, es, hcap, hcell0⟩ := unhide HCX k hlt
          simp only [Value.slice.injEq, true_and] at es
          obtain ⟨rfl, rfl⟩ := es
          have hcell := (hbel.cell (World.block_lt_of_cell? w _ hcell0)).trans hcell0
          have HR := hide (raw_succ y bs k hlt)
          have hb8 := (bs[k]).toNat_lt
          have ex : bits .xor .u32 ((raw y (bs.take k) : Nat) : Int) (bs[k].toNat : Int) = ((raw y (bs.take k) ^^^ bs[k].toNat : Nat) : Int) := bits_xor32 _ _ hr (by omega)
          have hxl : raw y (bs.take k) ^^^ bs[k].toNat < 4294967296 := Nat.xor_lt_two_pow (n := 32) hr (by omega)
          unfold feed at HR
          generalize raw y (bs.take k) = R at *
          generalize bs[k].toNat = c at *
          generalize hQ : R ^^^ c = Q at *
          clear hQ hcell0
          have h1 := bits_and15 Q hxl
          have h2 := four_bits Q hxl
          have h3 := (unhide HT).cell (Q % 16) (by omega)
          have hi1 : Q % 16 < 16 := by omega
          have hl2 := stps_lt 4 Q hxl
          have HS : Hid (stps 8 Q = stps 4 (stps 4 Q)) := stps_add 4 4 Q
          generalize stps 4 Q = Q2 at *
          have h4 := bits_and15 Q2 hl2
          have h5 := four_bits Q2 hl2
          have h6 := (unhide HT).cell (Q2 % 16) (by omega)
          have hi2 : Q2 % 16 < 16 := by omega
          generalize stps 4 Q2 = Q3 at *
          generalize stps 4 (Q % 16) = T1 at *
          generalize stps 4 (Q2 % 16) = T2 at *
          generalize Q % 16 = I1 at *
          generalize Q2 % 16 = I2 at *
          go_wp2
          go_round
          case rel => exact ⟨k + 1, by omega, by go_num, by rw [unhide HR, unhide HS]⟩
          case measure => simp [intOf]; omega
        · have hkn : k = bs.length := by omega
          subst hkn
          rw [List.take_of_length_le (Nat.le_refl _)] at hr ⊢
          have e1 := bits_not32 (raw y bs) hr
          have HM : Hid (more sum bs = raw y bs ^^^ 4294967295) := by unfold Hid more; rw [unhide HY]
          go_wp2
          go_ret
          exact ⟨by rw [unhide HM]; rfl, hbel⟩

theorem sum_any (s : Value) (bs : List UInt8) (w : World) (hs : Row w s bs) (hroom : bs.length ≤ 140737488351232) :
    Calls Try.prog 63 #[s] w fun e w' => e = .returned (.int .u32 (more 0 bs : Nat)) ∧ Below w.heap.size w w' := by
  go_enter Try.func63, Try.ntmps63
  go_wp2_with fail
  refine (more_any 0 s bs w hs (by omega) hroom).mono ?_
  rintro e w1 ⟨rfl, hb⟩
  go_wp2
  go_ret
  exact ⟨rfl, hb⟩

end Go.Proofs.Ytpkpjmebkikgdaa
