/- Texts of ours, one behind the other: Base, Mine, CrcRef, CrcRef2, LayCon, LayRef, LayRef2, LayRef3, LayMin, LayEq, Bytes. -/
import Derived.Test.YtpkpjmebkikgdaaGreatG1
import Derived.Test.YtpkpjmebkikgdaaGreatG3
import Derived.Test.YtpkpjmebkikgdaaGreatG5
import Derived.Test.YtpkpjmebkikgdaaGreatProg
import Derived.Laws.BytesArg
import Derived.Laws.IdiomStrings
/- Closed facts on the program's types. -/
namespace Go.Proofs.YtpkpjmebkikgdaaGreat

theorem Tryz.info5 : (Tryz.prog.info? 5).map (fun i => (i.zero, i.size, i.bytes)) = some (some (.int .u8 0), 1, 1) := by kernel_rfl
theorem Tryz.size5 : (Tryz.prog.info? 5).map (·.size) = some 1 := by kernel_rfl
end Go.Proofs.YtpkpjmebkikgdaaGreat

/- Bytes in memory of the call's own, wherever in a block they lie, and what the helper Spoil does to them. -/
namespace Go.Proofs.YtpkpjmebkikgdaaGreat
open Go.RowKit

/-- A slice that reads as these bytes and, where there are any, lies in a block not below 'base' that may be written. -/
def Mine (w : World) (base : Nat) (t : Value) (bs : List UInt8) : Prop :=
  Row w t bs ∧ (bs = [] ∨ ∃ g off cap e cur, t = .slice (some ⟨g, off, none⟩) bs.length cap ∧ base ≤ g ∧ w.heap[g]? = some (.cells cur e (0, 0)))

theorem Mine.row {w : World} {base : Nat} {t : Value} {bs : List UInt8} (h : Mine w base t bs) : Row w t bs := h.1
theorem Mine.below {w w' : World} {base : Nat} {t : Value} {bs : List UInt8} (h : Mine w base t bs) (hb : Below w.heap.size w w') : Mine w' base t bs := by
  refine ⟨h.1.below hb, ?_⟩
  rcases h.2 with h2 | ⟨g, off, cap, e, cur, ht, hg, hh⟩
  · exact Or.inl h2
  · exact Or.inr ⟨g, off, cap, e, cur, ht, hg, (hb.block g (Array.getElem?_eq_some_iff.1 hh).1).trans hh⟩
theorem Mine.base {w : World} {base base' : Nat} {t : Value} {bs : List UInt8} (h : Mine w base t bs) (hb : base' ≤ base) : Mine w base' t bs :=
  ⟨h.1, h.2.elim Or.inl fun ⟨g, off, cap, e, cur, ht, hg, hh⟩ => Or.inr ⟨g, off, cap, e, cur, ht, Nat.le_trans hb hg, hh⟩⟩
theorem mine_nil (w : World) (base : Nat) : Mine w base (.slice none 0 0) [] := ⟨Row.nil w, Or.inl rfl⟩
theorem mine_of_owns {w : World} {base e : Nat} {t : Value} {bs : List UInt8} (h : w.ownsRow base e 1 t bs.length (bs.map B)) : Mine w base t bs := by
  refine ⟨row_of_owns h, ?_⟩
  rcases h.2 with ⟨_, h2⟩ | ⟨g, cap, cur, rfl, hg, hh, _⟩
  · exact Or.inl (List.eq_nil_of_length_eq_zero h2)
  · exact Or.inr ⟨g, 0, cap, e, cur, rfl, hg, hh⟩

theorem spoil_mine (s : Value) (bs : List UInt8) (base : Nat) (w : World) (ho : Mine w base s bs) :
    Calls Tryz.prog 50 #[s] w fun e w' => e = .returned (.tuple #[]) ∧ Below base w w' := by
  by_cases h0 : bs = []
  · subst h0
    obtain ⟨p, c, l, rfl, hl⟩ := ho.1.shape
    simp only [List.length_nil] at hl
    subst hl
    go_enter Tryz.func50, Tryz.ntmps50
    go_wp2
    refine wp_loop_rounds 1 ?_
    rw [rounds_succ]
    go_wp2
    go_end0
    exact ⟨rfl, Below.refl _ _⟩
  · rcases ho.2 with h2 | ⟨g, off, cap, e, cur, rfl, hg, hh⟩
    · exact absurd h2 h0
    obtain ⟨g', off', cap', e', hc1, hc2, hcell⟩ := ho.1.open h0
    simp only [Value.slice.injEq, Option.some.injEq, Addr.mk.injEq, and_true, true_and] at e'
    obtain ⟨⟨rfl, rfl⟩, rfl⟩ := e'
    have hint : ∀ j, j < bs.length → ∃ z : Int, cur[off + j]? = some (.int .u8 z) := fun j hj => by
      have h := hcell j hj
      rw [cell_of_row w g (off + j) cur _ (0, 0) hh] at h
      exact ⟨(bs[j].toNat : Int), h⟩
    clear ho hcell
    unfold maxLen at hc2
    go_enter Tryz.func50, Tryz.ntmps50
    go_wp2
    go_loopw [2] (fun i wr => ∃ (k : Nat) (cur : Array Value), k ≤ bs.length ∧ i = .int .i64 k ∧ wr.heap[g]? = some (.cells cur e (0, 0)) ∧ Hid (∀ j, j < bs.length → ∃ z : Int, cur[off + j]? = some (.int .u8 z)) ∧ Below base w wr)
      (fun i _ => bs.length - (intOf i).toNat)
    case atStart => exact ⟨0, cur, Nat.zero_le _, rfl, hh, hint, Below.refl _ _⟩
    case round =>
      obtain ⟨k, cur, hk, rfl, hblk, hint, hbel⟩ := hrel
      by_cases hlt : k < bs.length
      · obtain ⟨z, hz⟩ := hint.out k hlt
        have hc : wr.cell? ⟨g, off + k, none⟩ = some (.int .u8 z) := by rw [cell_of_row wr g (off + k) cur _ (0, 0) hblk]; exact hz
        have hf : wr.frozen? ⟨g, off + k, none⟩ = false := frozen_of_block hblk
        have hsz : off + k < cur.size := (Array.getElem?_eq_some_iff.1 hz).1
        clear hz
        go_wp2
        go_roundw
        case rel =>
          refine ⟨k + 1, cur.setIfInBounds (off + k) _, by omega, by go_num, heap_setCell_same wr g (off + k) cur _ _ hblk, ?_, hbel.setCell hg _⟩
          intro j hj
          by_cases hjk : k = j
          · subst hjk
            exact ⟨_, by rw [Array.getElem?_setIfInBounds_self_of_lt hsz]⟩
          · rw [Array.getElem?_setIfInBounds_ne (by omega)]
            exact hint.out j hj
        case measure => simp [intOf]; omega
      · have hkn : k = bs.length := by omega
        subst hkn
        go_wp2
        go_end0
        exact ⟨rfl, hbel⟩
end Go.Proofs.YtpkpjmebkikgdaaGreat

/- What the reference of package crc does: step, More, Sum, times, power, Join. -/
namespace Go.Proofs.YtpkpjmebkikgdaaGreat
open Go.RowKit

theorem and1 (s : Nat) : s &&& 1 = s % 2 := by
  have h := Nat.and_two_pow_sub_one_eq_mod s 1
  exact h
theorem bits_and1 (s : Nat) (h : s < 4294967296) : bits .and .u32 (s : Int) 1 = ((s % 2 : Nat) : Int) := by
  rw [show (1 : Int) = ((1 : Nat) : Int) from rfl, u32_and_nat _ _ h (by omega), and1]
theorem bits_xor32 (a b : Nat) (ha : a < 4294967296) (hb : b < 4294967296) : bits .xor .u32 (a : Int) (b : Int) = ((a ^^^ b : Nat) : Int) := u32_xor_nat a b ha hb

theorem raw_succ (s : Nat) (bs : List UInt8) (k : Nat) (h : k < bs.length) : raw s (bs.take (k + 1)) = feed (raw s (bs.take k)) bs[k] := by
  rw [List.take_succ_eq_append_getElem h, raw_append]
  rfl

theorem and_top (a : Nat) (h : a < 4294967296) : bits .and .u32 (a : Int) 2147483648 = ((if 2147483648 ≤ a then 2147483648 else 0 : Nat) : Int) := by
  rw [show (2147483648 : Int) = ((2147483648 : Nat) : Int) from rfl, u32_and_nat _ _ h (by omega)]
  congr 1
  have hb : a.testBit 31 = decide (2 ^ 31 ≤ a) := by
    rw [Nat.testBit_eq_decide_div_mod_eq]
    have h31 : a / 2 ^ 31 % 2 = 1 ↔ 2 ^ 31 ≤ a := by omega
    simp [h31]
  have key : a &&& 2 ^ 31 = if 2 ^ 31 ≤ a then 2 ^ 31 else 0 := by
    apply Nat.eq_of_testBit_eq
    intro i
    rw [Nat.testBit_and, Nat.testBit_two_pow]
    by_cases hi : 31 = i
    · subst hi
      rw [hb]
      by_cases h2 : 2 ^ 31 ≤ a
      · rw [if_pos h2, Nat.testBit_two_pow]
        simp [h2]
      · rw [if_neg h2]
        simp [h2]
    · by_cases h2 : 2 ^ 31 ≤ a
      · rw [if_pos h2, Nat.testBit_two_pow]
        simp [hi]
      · rw [if_neg h2]
        simp [hi]
  exact key

theorem and_one_i64 (r : Nat) : bits .and .i64 (r : Int) 1 = ((r % 2 : Nat) : Int) := by
  have h1 : (BitVec.ofInt 64 1).toNat = 2 ^ 1 - 1 := by decide
  have key : (BitVec.ofInt 64 (r : Int) &&& BitVec.ofInt 64 1).toNat = ((r : Int) % ((2 ^ 64 : Nat) : Int)).toNat % 2 ^ 1 := by
    rw [BitVec.toNat_and, BitVec.toNat_ofInt, h1, Nat.and_two_pow_sub_one_eq_mod]
  show IntKind.i64.wrap ((BitVec.ofInt 64 (r : Int) &&& BitVec.ofInt 64 1).toNat : Nat) = _
  rw [key, IntKind.wrap_i64]
  omega

theorem tacc_lt (n p a b : Nat) (hp : p < 4294967296) (hb : b < 4294967296) : tacc n p a b < 4294967296 := by
  induction n generalizing p a b with
  | zero => exact hp
  | succ n ih =>
    rw [tacc]
    refine ih _ _ _ ?_ (stp_lt b hb)
    split
    · exact Nat.xor_lt_two_pow (n := 32) hp hb
    · exact hp
theorem tms_lt (a b : Nat) (hb : b < 4294967296) : tms a b < 4294967296 := tacc_lt 32 0 a b (by omega) hb

end Go.Proofs.YtpkpjmebkikgdaaGreat

/- What the reference of package crc does: power, Join. -/
namespace Go.Proofs.YtpkpjmebkikgdaaGreat
open Go.RowKit

end Go.Proofs.YtpkpjmebkikgdaaGreat

/- What the statements of layer 5 ask of package layout, as contracts; and 'awake' by them. -/
namespace Go.Proofs.YtpkpjmebkikgdaaGreat
open Go.RowKit

/-- An int. -/
def I64 (a : Int) : Prop := -9223372036854775808 ≤ a ∧ a ≤ 9223372036854775807
theorem i64_of_wf {a : Int} (h : (Lit.int .i64 a).wf = true) : I64 a := by
  simp [Lit.wf, IntKind.min, IntKind.max, IntKind.signed, IntKind.bits] at h
  exact ⟨h.1, by omega⟩

structure LayC : Prop where
  plan : ∀ (n : Int) w, I64 n → Calls Tryz.prog 34 #[.int .i64 n] w fun e w' => e = .returned (.tuple #[planV n, .int .i64 (planE n)]) ∧ Below w.heap.size w w'
  logAt : ∀ (n : Int) (t : Nat) w, Fits n → t < 18446744073709551616 → Calls Tryz.prog 62 #[layV n, .int .u64 (t : Int)] w fun e w' => e = .returned (.int .i64 (logN n t)) ∧ Below w.heap.size w w'

theorem fits256 : Fits 256 := by unfold Fits; omega
theorem plan_fits {n : Int} (h : Fits n) : planV n = layV n ∧ planE n = 0 := by unfold planV planE; rw [if_pos h, if_pos h]; exact ⟨rfl, rfl⟩
theorem plan_not {n : Int} (h : ¬ Fits n) : planV n = layZ ∧ planE n = 1 := by unfold planV planE; rw [if_neg h, if_neg h]; exact ⟨rfl, rfl⟩
end Go.Proofs.YtpkpjmebkikgdaaGreat

/- What the reference of package layout does. -/
namespace Go.Proofs.YtpkpjmebkikgdaaGreat
open Go.RowKit

theorem rplan_any (n : Int) (w : World) :
    Calls Tryz.prog 41 #[.int .i64 n] w fun e w' => e = .returned (.tuple #[planV n, .int .i64 (planE n)]) ∧ Below w.heap.size w w' := by
  by_cases h : Fits n
  · have HE := hide (show planV n = layV n ∧ planE n = 0 by unfold planV planE; rw [if_pos h, if_pos h]; exact ⟨rfl, rfl⟩)
    obtain ⟨d1, d2⟩ := h
    go_enter Tryz.func41, Tryz.ntmps41
    go_wp2
    refine bodyPost_ret (v := .tuple #[layV n, .int .i64 0]) (by simp [results, Tryz.results41, go_sem, layV, lz, lseg]) rfl ⟨by rw [(unhide HE).1, (unhide HE).2], ((Below.refl _ _).alloc (Nat.le_refl _) _).alloc (by simp) _⟩
  · have HE := hide (show planV n = layZ ∧ planE n = 1 by unfold planV planE; rw [if_neg h, if_neg h]; exact ⟨rfl, rfl⟩)
    by_cases h1 : n < 256
    · clear h
      go_enter Tryz.func41, Tryz.ntmps41
      go_wp2
      refine bodyPost_ret (v := .tuple #[layZ, .int .i64 1]) (by simp [results, Tryz.results41, go_sem, layZ]) rfl ⟨by rw [(unhide HE).1, (unhide HE).2], (Below.refl _ _).alloc (Nat.le_refl _) _⟩
    · have h2 : 65536 < n := by unfold Fits at h; omega
      clear h
      go_enter Tryz.func41, Tryz.ntmps41
      go_wp2
      refine bodyPost_ret (v := .tuple #[layZ, .int .i64 1]) (by simp [results, Tryz.results41, go_sem, layZ]) rfl ⟨by rw [(unhide HE).1, (unhide HE).2], (Below.refl _ _).alloc (Nat.le_refl _) _⟩

/-- The layout's variable within Region. -/
def layO (n : Int) : Obj := .cells #[.int .i64 n, .int .i64 3, .int .i64 13, .int .i64 (lz n), .int .i64 (13 + lz n), .int .i64 (13 + 2 * lz n), .int .i64 (lz n), .int .i64 (13 + 3 * lz n), .int .i64 (lseg n)] 34

end Go.Proofs.YtpkpjmebkikgdaaGreat

/- What the reference of package layout does: Segment, Capacity, Phys, Logic, LogAt. -/
namespace Go.Proofs.YtpkpjmebkikgdaaGreat
open Go.RowKit

theorem lay_below (n : Int) (w : World) : Below w.heap.size w (w.alloc (layO n)) := (Below.refl w.heap.size w).alloc (Nat.le_refl _) (layO n)

end Go.Proofs.YtpkpjmebkikgdaaGreat

/- What the reference of package layout does: Phys, Logic. -/
namespace Go.Proofs.YtpkpjmebkikgdaaGreat
open Go.RowKit

theorem reg7 (n a : Int) (h : Fits n) : regN n a = 7 ↔ 13 + 3 * lz n ≤ a ∧ a < 13 + 3 * lz n + lseg n * 32 := by
  obtain ⟨z1, z2, _, _⟩ := lz_le n h
  obtain ⟨s1, s2, _, _⟩ := lseg_le n h
  unfold regN
  repeat' split
  all_goals omega

end Go.Proofs.YtpkpjmebkikgdaaGreat

/- What package layout's 'bounded' does, with slices.Min and slices.Max. -/
namespace Go.Proofs.YtpkpjmebkikgdaaGreat
open Go.RowKit

theorem smin_any (b : Nat) (f : Nat → Int) (w : World) (h : ∀ j, j < 9 → w.cell? ⟨b, j, none⟩ = some (.int .i64 (f j))) (hf : ∀ j, j < 9 → 0 ≤ f j ∧ f j ≤ 65536) :
    Calls Tryz.prog 89 #[.slice (some ⟨b, 0, none⟩) 9 9] w fun e w' => ∃ r : Int, e = .returned (.int .i64 r) ∧ 0 ≤ r ∧ r ≤ 65536 ∧ w' = w := by
  have h0 := h 0 (by omega)
  obtain ⟨g1, g2⟩ := hf 0 (by omega)
  have H := hide h
  have HF := hide hf
  clear h hf
  go_enter Tryz.func89, Tryz.ntmps89
  go_wp2_with fail
  go_loop [3, 4] (fun m i => ∃ (k : Nat) (r : Int), k ≤ 9 ∧ i = .int .i64 k ∧ m = .int .i64 r ∧ 0 ≤ r ∧ r ≤ 65536) (fun _ i => 9 - (intOf i).toNat)
  case atStart => exact ⟨1, _, by omega, rfl, rfl, g1, g2⟩
  case round =>
    obtain ⟨k, r, hk, rfl, rfl, r1, r2⟩ := hrel
    by_cases hlt : k < 9
    · have hc := unhide H k hlt
      obtain ⟨e1, e2⟩ := unhide HF k hlt
      have hk0 : (k : Int) < 9 := by omega
      clear h0 g1 g2
      generalize f k = x at *
      go_wp2
      all_goals
        go_round
        case rel => exact ⟨k + 1, _, by omega, by go_num, rfl, by omega, by omega⟩
        case measure => simp [intOf]; omega
    · obtain rfl : k = 9 := by omega
      go_wp2
      go_ret
      exact ⟨r, rfl, r1, r2, rfl⟩

theorem smax_any (b : Nat) (f : Nat → Int) (w : World) (h : ∀ j, j < 9 → w.cell? ⟨b, j, none⟩ = some (.int .i64 (f j))) (hf : ∀ j, j < 9 → 0 ≤ f j ∧ f j ≤ 65536) :
    Calls Tryz.prog 90 #[.slice (some ⟨b, 0, none⟩) 9 9] w fun e w' => ∃ r : Int, e = .returned (.int .i64 r) ∧ 0 ≤ r ∧ r ≤ 65536 ∧ w' = w := by
  have h0 := h 0 (by omega)
  obtain ⟨g1, g2⟩ := hf 0 (by omega)
  have H := hide h
  have HF := hide hf
  clear h hf
  go_enter Tryz.func90, Tryz.ntmps90
  go_wp2_with fail
  go_loop [3, 4] (fun m i => ∃ (k : Nat) (r : Int), k ≤ 9 ∧ i = .int .i64 k ∧ m = .int .i64 r ∧ 0 ≤ r ∧ r ≤ 65536) (fun _ i => 9 - (intOf i).toNat)
  case atStart => exact ⟨1, _, by omega, rfl, rfl, g1, g2⟩
  case round =>
    obtain ⟨k, r, hk, rfl, rfl, r1, r2⟩ := hrel
    by_cases hlt : k < 9
    · have hc := unhide H k hlt
      obtain ⟨e1, e2⟩ := unhide HF k hlt
      have hk0 : (k : Int) < 9 := by omega
      clear h0 g1 g2
      generalize f k = x at *
      go_wp2
      all_goals
        go_round
        case rel => exact ⟨k + 1, _, by omega, by go_num, rfl, by omega, by omega⟩
        case measure => simp [intOf]; omega
    · obtain rfl : k = 9 := by omega
      go_wp2
      go_ret
      exact ⟨r, rfl, r1, r2, rfl⟩

set_option maxHeartbeats 1000000 in
theorem bounded_any (n : Int) (w : World) (h : Fits n) :
    Calls Tryz.prog 77 #[layV n] w fun e w' => e = .returned (.bool true) ∧ Below w.heap.size w w' := by
  obtain ⟨z1, z2, z3, z4⟩ := lz_le n h
  obtain ⟨s1, s2, s3, s4⟩ := lseg_le n h
  obtain ⟨n1, n2⟩ := h
  unfold layV
  generalize lz n = z at *
  generalize lseg n = m at *
  obtain ⟨f, hf⟩ : ∃ f : Nat → Int, f = fun j => match j with | 0 => n | 1 => 3 | 2 => 13 | 3 => z | 4 => 13 + z | 5 => 13 + 2 * z | 6 => z | 7 => 13 + 3 * z | _ => m := ⟨_, rfl⟩
  have HF : Hid (∀ j, j < 9 → 0 ≤ f j ∧ f j ≤ 65536) := by
    intro j hj
    match j, hj with
    | 0, _ => rw [hf]; exact ⟨show 0 ≤ n by omega, show n ≤ 65536 by omega⟩
    | 1, _ => rw [hf]; exact ⟨show (0 : Int) ≤ 3 by omega, show (3 : Int) ≤ 65536 by omega⟩
    | 2, _ => rw [hf]; exact ⟨show (0 : Int) ≤ 13 by omega, show (13 : Int) ≤ 65536 by omega⟩
    | 3, _ => rw [hf]; exact ⟨show 0 ≤ z by omega, show z ≤ 65536 by omega⟩
    | 4, _ => rw [hf]; exact ⟨show 0 ≤ 13 + z by omega, show 13 + z ≤ 65536 by omega⟩
    | 5, _ => rw [hf]; exact ⟨show 0 ≤ 13 + 2 * z by omega, show 13 + 2 * z ≤ 65536 by omega⟩
    | 6, _ => rw [hf]; exact ⟨show 0 ≤ z by omega, show z ≤ 65536 by omega⟩
    | 7, _ => rw [hf]; exact ⟨show 0 ≤ 13 + 3 * z by omega, show 13 + 3 * z ≤ 65536 by omega⟩
    | 8, _ => rw [hf]; exact ⟨show 0 ≤ m by omega, show m ≤ 65536 by omega⟩
  obtain ⟨O1, hO1⟩ : ∃ O : Obj, O = .cells #[.int .i64 n, .int .i64 3, .int .i64 13, .int .i64 z, .int .i64 (13 + z), .int .i64 (13 + 2 * z), .int .i64 z, .int .i64 (13 + 3 * z), .int .i64 m] 34 := ⟨_, rfl⟩
  have HC : Hid (∀ j, j < 9 → ((w.alloc O1).alloc (.cells #[.int .i64 n, .int .i64 3, .int .i64 13, .int .i64 z, .int .i64 (13 + z), .int .i64 (13 + 2 * z), .int .i64 z, .int .i64 (13 + 3 * z), .int .i64 m] 3)).cell? ⟨w.heap.size + 1, j, none⟩ = some (.int .i64 (f j))) := by
    obtain ⟨c0, c1, c2, c3, c4, c5, c6, c7, c8⟩ := nine_cells (heap_alloc_new (w.alloc O1) (.cells #[.int .i64 n, .int .i64 3, .int .i64 13, .int .i64 z, .int .i64 (13 + z), .int .i64 (13 + 2 * z), .int .i64 z, .int .i64 (13 + 3 * z), .int .i64 m] 3))
    rw [World.size_alloc] at *
    intro j hj
    rw [hf]
    match j, hj with
    | 0, _ => exact c0
    | 1, _ => exact c1
    | 2, _ => exact c2
    | 3, _ => exact c3
    | 4, _ => exact c4
    | 5, _ => exact c5
    | 6, _ => exact c6
    | 7, _ => exact c7
    | 8, _ => exact c8
  rw [hO1] at HC
  clear hf hO1
  go_enter Tryz.func77, Tryz.ntmps77
  go_wp2_with (first
    | (go_at_call 89; refine (smin_any _ f _ (unhide HC) (unhide HF)).mono ?_; rintro e w' ⟨r, rfl, r1, r2, rfl⟩)
    | (go_at_call 90; refine (smax_any _ f _ (unhide HC) (unhide HF)).mono ?_; rintro e w' ⟨r', rfl, r3, r4, rfl⟩))
  go_ret
  exact ⟨rfl, ((Below.refl _ _).alloc (Nat.le_refl _) _).alloc (by simp) _⟩
end Go.Proofs.YtpkpjmebkikgdaaGreat

/- Layouts held against each other. -/
namespace Go.Proofs.YtpkpjmebkikgdaaGreat
open Go.RowKit

theorem Tryz.layHeld : Tryz.prog.stoodInHeld 34 = false := by kernel_rfl
theorem Tryz.imgHeld : Tryz.prog.stoodInHeld 32 = false := by kernel_rfl
theorem eq_int (d : Nat) (x : Int) (w : World) : (Op.equalIn (d + 1) 3 (.int .i64 x) (.int .i64 x)).run Tryz.prog w = .ok true w := by
  rw [run_equalIn_int w d _ .i64 .i64 x x Tryz.underlying3]
  simp
theorem agg_int (w : World) : (isAgg 3).run Tryz.prog w = .ok false w := by
  unfold isAgg
  rw [Sem.run_bind, run_underlying Tryz.underlying3 w]
  rfl
theorem agg_two (w : World) : (isAgg 32).run Tryz.prog w = .ok true w := by
  unfold isAgg
  rw [Sem.run_bind, run_underlying Tryz.underlying32 w]
  rfl
theorem size_of_info {P : Program} {t : TypeId} {n : Nat} (h : (P.info? t).map (·.size) = some n) (w : World) : (sizeOf t).run P w = .ok n w := by
  cases hq : P.info? t with
  | none => simp [hq] at h
  | some i =>
    have : i.size = n := by simpa [hq] using h
    simp [sizeOf, typeInfo, hq, this]
theorem Tryz.sizeInt1 : (Tryz.prog.info? 3).map (·.size) = some 1 := by kernel_rfl
theorem Tryz.sizeTwo : (Tryz.prog.info? 32).map (·.size) = some 2 := by kernel_rfl
theorem eq_two (d : Nat) (x y : Int) (w : World) : (Op.equalIn (d + 2) 32 (.agg #[.int .i64 x, .int .i64 y]) (.agg #[.int .i64 x, .int .i64 y])).run Tryz.prog w = .ok true w := by
  have s := size_of_info Tryz.sizeInt1
  simp [Op.equalIn, run_underlying Tryz.underlying32, s, part, Std.Legacy.Range.forIn_eq_forIn_range', List.range'_succ]
theorem lay_ne (a b c d e f g h i : Int) (w : World) : (binOp .neq 34 (.agg #[.int .i64 a, .int .i64 b, .int .i64 c, .int .i64 d, .int .i64 e, .int .i64 f, .int .i64 g, .int .i64 h, .int .i64 i]) (.agg #[.int .i64 a, .int .i64 b, .int .i64 c, .int .i64 d, .int .i64 e, .int .i64 f, .int .i64 g, .int .i64 h, .int .i64 i])).run Tryz.prog w = .ok (.bool false) w := by
  rw [run_neq_struct]
  have hf : Tryz.prog.underlying 34 = some (.struct (Tryz.prog.fieldsOf 34)) := by kernel_rfl
  rw [show (10000 : Nat) = 9999 + 1 from rfl, run_equalIn_agg w 9999 _ _ _ hf Tryz.layHeld]
  have hfs : (Tryz.prog.fieldsOf 34) = match Tryz.prog.underlying 34 with | some (.struct fs) => fs | _ => #[] := by kernel_rfl
  rw [hfs, Tryz.underlying34]
  have e := fun x w => eq_int 9998 x w
  have e2 := fun x y w => eq_two 9997 x y w
  have s := size_of_info Tryz.sizeTwo
  simp only [Op.eqFields]
  simp [part, e, e2, s]
end Go.Proofs.YtpkpjmebkikgdaaGreat

/- What 'Bytes' of the verifier's helpers does: whether two rows of bytes are the same. -/
namespace Go.Proofs.YtpkpjmebkikgdaaGreat
open Go.RowKit

theorem conv_row {w : World} {s : Value} {bs : List UInt8} (h : Row w s bs) : (convert 27 9 s).run Tryz.prog w = .ok (.string ⟨bs.toArray⟩) w := by
  obtain ⟨a, cap, rfl, h1, h2, h3, h4⟩ := h
  rcases h4 with rfl | ⟨b, off, rfl, hc⟩
  · cases a with
    | none => exact run_convert_bytes_nil w 27 5 Tryz.underlying27 Tryz.underlying5 0 cap 9 Tryz.underlying9
    | some x => exact run_convert_bytes_back w 27 9 5 x cap [] Tryz.underlying27 Tryz.underlying5 Tryz.underlying9 (fun j hj => by simp at hj)
  · exact run_convert_bytes_back w 27 9 5 ⟨b, off, none⟩ cap bs Tryz.underlying27 Tryz.underlying5 Tryz.underlying9 (fun j hj => by rw [Addr.add_lit]; exact hc j hj)

set_option maxRecDepth 20000 in
theorem bytes_any (s1 s2 : Value) (b1 b2 : List UInt8) (w : World) (h1 : Row w s1 b1) (h2 : Row w s2 b2) :
    Calls Tryz.prog 39 #[s1, s2] w fun e w' => e = .returned (.bool (b1 == b2)) ∧ w' = w := by
  have e1 := conv_row h1
  have e2 := conv_row h2
  clear h1 h2
  go_enter Tryz.func39, Tryz.ntmps39
  go_wp2
  go_ret
  exact ⟨rfl, rfl⟩
end Go.Proofs.YtpkpjmebkikgdaaGreat
