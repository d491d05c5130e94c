/- Texts of ours, one behind the other: Base, Mine, Bytes, CrcRef, LayCon, LayEq, CrcRef2, LayRef, LayRef2, LayRef3, LayMin, RowHeld. -/
import Derived.Test.YtpkpjmebkikgdaaG1
import Derived.Test.YtpkpjmebkikgdaaG3
import Derived.Test.YtpkpjmebkikgdaaG4
import Derived.Test.YtpkpjmebkikgdaaProg
import Derived.Laws.BytesArg
import Derived.Laws.IdiomStrings
/- Closed facts on the program's types. -/
namespace Go.Proofs.Ytpkpjmebkikgdaa

theorem Try.info5 : (Try.prog.info? 5).map (fun i => (i.zero, i.size, i.bytes)) = some (some (.int .u8 0), 1, 1) := by kernel_rfl
theorem Try.size5 : (Try.prog.info? 5).map (·.size) = some 1 := by kernel_rfl
end Go.Proofs.Ytpkpjmebkikgdaa

/- Bytes in memory of the call's own, wherever in a block they lie, and what the helper Spoil does to them. -/
namespace Go.Proofs.Ytpkpjmebkikgdaa
open Go.RowKit

/-- A slice that reads as these bytes and, where there are any, lies in a block not below 'base' that may be written. -/
def Mine (w : World) (base : Nat) (t : Value) (bs : List UInt8) : Prop :=
  Row w t bs ∧ (bs = [] ∨ ∃ g off cap e cur, t = .slice (some ⟨g, off, none⟩) bs.length cap ∧ base ≤ g ∧ w.heap[g]? = some (.cells cur e (0, 0)))

theorem Mine.row {w : World} {base : Nat} {t : Value} {bs : List UInt8} (h : Mine w base t bs) : Row w t bs := h.1
theorem Mine.below {w w' : World} {base : Nat} {t : Value} {bs : List UInt8} (h : Mine w base t bs) (hb : Below w.heap.size w w') : Mine w' base t bs := by
  refine ⟨h.1.below hb, ?_⟩
  rcases h.2 with h2 | ⟨g, off, cap, e, cur, ht, hg, hh⟩
  · exact Or.inl h2
  · exact Or.inr ⟨g, off, cap, e, cur, ht, hg, (hb.block g (Array.getElem?_eq_some_iff.1 hh).1).trans hh⟩
theorem Mine.base {w : World} {base base' : Nat} {t : Value} {bs : List UInt8} (h : Mine w base t bs) (hb : base' ≤ base) : Mine w base' t bs :=
  ⟨h.1, h.2.elim Or.inl fun ⟨g, off, cap, e, cur, ht, hg, hh⟩ => Or.inr ⟨g, off, cap, e, cur, ht, Nat.le_trans hb hg, hh⟩⟩
theorem mine_nil (w : World) (base : Nat) : Mine w base (.slice none 0 0) [] := ⟨Row.nil w, Or.inl rfl⟩
theorem mine_of_owns {w : World} {base e : Nat} {t : Value} {bs : List UInt8} (h : w.ownsRow base e 1 t bs.length (bs.map B)) : Mine w base t bs := by
  refine ⟨row_of_owns h, ?_⟩
  rcases h.2 with ⟨_, h2⟩ | ⟨g, cap, cur, rfl, hg, hh, _⟩
  · exact Or.inl (List.eq_nil_of_length_eq_zero h2)
  · exact Or.inr ⟨g, 0, cap, e, cur, rfl, hg, hh⟩

end Go.Proofs.Ytpkpjmebkikgdaa

/- What 'Bytes' of the verifier's helpers does: whether two rows of bytes are the same. -/
namespace Go.Proofs.Ytpkpjmebkikgdaa
open Go.RowKit

theorem conv_row {w : World} {s : Value} {bs : List UInt8} (h : Row w s bs) : (convert 31 9 s).run Try.prog w = .ok (.string ⟨bs.toArray⟩) w := by
  obtain ⟨a, cap, rfl, h1, h2, h3, h4⟩ := h
  rcases h4 with rfl | ⟨b, off, rfl, hc⟩
  · cases a with
    | none => exact run_convert_bytes_nil w 31 5 Try.underlying31 Try.underlying5 0 cap 9 Try.underlying9
    | some x => exact run_convert_bytes_back w 31 9 5 x cap [] Try.underlying31 Try.underlying5 Try.underlying9 (fun j hj => by simp at hj)
  · exact run_convert_bytes_back w 31 9 5 ⟨b, off, none⟩ cap bs Try.underlying31 Try.underlying5 Try.underlying9 (fun j hj => by rw [Addr.add_lit]; exact hc j hj)

set_option maxRecDepth 20000 in
theorem bytes_any (s1 s2 : Value) (b1 b2 : List UInt8) (w : World) (h1 : Row w s1 b1) (h2 : Row w s2 b2) :
    Calls Try.prog 29 #[s1, s2] w fun e w' => e = .returned (.bool (b1 == b2)) ∧ w' = w := by
  have e1 := conv_row h1
  have e2 := conv_row h2
  clear h1 h2
  go_enter Try.func29, Try.ntmps29
  go_wp2
  go_ret
  exact ⟨rfl, rfl⟩
end Go.Proofs.Ytpkpjmebkikgdaa

/- What the reference of package crc does: step, More, Sum, times, power, Join. -/
namespace Go.Proofs.Ytpkpjmebkikgdaa
open Go.RowKit

theorem and1 (s : Nat) : s &&& 1 = s % 2 := by
  have h := Nat.and_two_pow_sub_one_eq_mod s 1
  exact h
theorem bits_and1 (s : Nat) (h : s < 4294967296) : bits .and .u32 (s : Int) 1 = ((s % 2 : Nat) : Int) := by
  rw [show (1 : Int) = ((1 : Nat) : Int) from rfl, u32_and_nat _ _ h (by omega), and1]
theorem bits_xor32 (a b : Nat) (ha : a < 4294967296) (hb : b < 4294967296) : bits .xor .u32 (a : Int) (b : Int) = ((a ^^^ b : Nat) : Int) := u32_xor_nat a b ha hb

theorem rstep_any (s : Nat) (w : World) (h : s < 4294967296) :
    Calls Try.prog 70 #[.int .u32 s] w fun e w' => e = .returned (.int .u32 (stp s : Nat)) ∧ w' = w := by
  by_cases h1 : s % 2 = 1
  · have ht : (bits .and .u32 (s : Int) 1 == 1) = true := by rw [bits_and1 s h, h1]; rfl
    have e : bits .xor .u32 ((s : Int) / 2) 2197175160 = ((stp s : Nat) : Int) := by
      rw [show (s : Int) / 2 = ((s / 2 : Nat) : Int) by omega, show (2197175160 : Int) = ((2197175160 : Nat) : Int) from rfl, bits_xor32 _ _ (by omega) (by omega)]
      unfold stp
      rw [if_pos h1]
    have E := hide e
    clear e h1
    go_enter Try.func70, Try.ntmps70
    go_wp2
    go_ret
    exact ⟨by rw [← unhide E]; rfl, rfl⟩
  · have ht : (bits .and .u32 (s : Int) 1 == 1) = false := by rw [bits_and1 s h, show s % 2 = 0 by omega]; rfl
    have e : (s : Int) / 2 = ((stp s : Nat) : Int) := by
      unfold stp
      rw [if_neg h1]
      omega
    have E := hide e
    clear e h1
    go_enter Try.func70, Try.ntmps70
    go_wp2
    go_ret
    exact ⟨by rw [← unhide E]; rfl, rfl⟩

theorem raw_succ (s : Nat) (bs : List UInt8) (k : Nat) (h : k < bs.length) : raw s (bs.take (k + 1)) = feed (raw s (bs.take k)) bs[k] := by
  rw [List.take_succ_eq_append_getElem h, raw_append]
  rfl

set_option maxHeartbeats 1000000 in
theorem rmore_any (sum : Nat) (s : Value) (bs : List UInt8) (w : World) (hs : Row w s bs) (hsum : sum < 4294967296) (hroom : bs.length ≤ 140737488351232) :
    Calls Try.prog 55 #[.int .u32 sum, s] w fun e w' => e = .returned (.int .u32 (more sum bs : Nat)) ∧ w' = w := by
  have e0 : bits .xor .u32 (sum : Int) 4294967295 = ((sum ^^^ 4294967295 : Nat) : Int) := by
    rw [show (4294967295 : Int) = ((4294967295 : Nat) : Int) from rfl, bits_xor32 _ _ hsum (by omega)]
  have hx : sum ^^^ 4294967295 < 4294967296 := Nat.xor_lt_two_pow (n := 32) hsum (by omega)
  have hcx : ∀ k (h : k < bs.length), ∃ b off cap, s = .slice (some ⟨b, off, none⟩) bs.length cap ∧ bs.length ≤ cap ∧ w.cell? ⟨b, off + k, none⟩ = some (.int .u8 (bs[k].toNat : Int)) := by
    intro k hk
    obtain ⟨b, off, cap, h1, h2, h3, h4⟩ := hs.open (by intro e; rw [e] at hk; simp at hk)
    exact ⟨b, off, cap, h1, h2, h4 k hk⟩
  obtain ⟨p, c, l, rfl, hl⟩ := hs.shape
  subst hl
  have HCX := hide hcx
  generalize hy : sum ^^^ 4294967295 = y at *
  have HY := hide hy
  clear hcx hs hy
  go_enter Try.func55, Try.ntmps55
  go_wp2
  go_loop [5, 6] (fun t i => ∃ k : Nat, k ≤ bs.length ∧ i = .int .i64 k ∧ t = .int .u32 (raw y (bs.take k) : Nat)) (fun _ i => bs.length - (intOf i).toNat)
  case atStart => exact ⟨0, Nat.zero_le _, rfl, by simp [raw]⟩
  case round =>
    obtain ⟨k, hk, rfl, rfl⟩ := hrel
    have hr := raw_lt y (bs.take k) hx
    by_cases hlt : k < bs.length
    · obtain ⟨b, off, cap, es, hcap, hcell⟩ := unhide HCX k hlt
      simp only [Value.slice.injEq, true_and] at es
      obtain ⟨rfl, rfl⟩ := es
      have HR := hide (raw_succ y bs k hlt)
      have hb8 := (bs[k]).toNat_lt
      have ex : bits .xor .u32 ((raw y (bs.take k) : Nat) : Int) (bs[k].toNat : Int) = ((raw y (bs.take k) ^^^ bs[k].toNat : Nat) : Int) := bits_xor32 _ _ hr (by omega)
      have hxl : raw y (bs.take k) ^^^ bs[k].toNat < 4294967296 := Nat.xor_lt_two_pow (n := 32) hr (by omega)
      unfold feed at HR
      generalize raw y (bs.take k) = R at *
      generalize bs[k].toNat = c at *
      generalize hQ : R ^^^ c = Q at *
      clear hQ
      go_wp2
      go_loop [5, 7] (fun t j => ∃ m : Nat, m ≤ 8 ∧ j = .int .i64 m ∧ t = .int .u32 (stps m Q : Nat)) (fun _ j => 8 - (intOf j).toNat)
      case atStart => exact ⟨0, by omega, rfl, rfl⟩
      case round =>
        obtain ⟨m, hm, rfl, rfl⟩ := hrel
        have hq := stps_lt m Q hxl
        by_cases hm8 : m < 8
        · have HS := hide (stps_succ m Q)
          go_wp2_with fail
          refine (rstep_any _ _ hq).mono ?_
          rintro e w ⟨rfl, rfl⟩
          go_wp2
          go_round
          case rel => exact ⟨m + 1, by omega, by go_num, by rw [unhide HS]⟩
          case measure => simp [intOf]; omega
        · obtain rfl : m = 8 := by omega
          go_wp2
          go_round
          case rel => exact ⟨k + 1, by omega, by go_num, by rw [unhide HR]⟩
          case measure => simp [intOf]; omega
    · have hkn : k = bs.length := by omega
      subst hkn
      rw [List.take_of_length_le (Nat.le_refl _)] at hr ⊢
      have e1 : bits .xor .u32 ((raw y bs : Nat) : Int) 4294967295 = ((raw y bs ^^^ 4294967295 : Nat) : Int) := by
        rw [show (4294967295 : Int) = ((4294967295 : Nat) : Int) from rfl, bits_xor32 _ _ hr (by omega)]
      have HM : Hid (more sum bs = raw y bs ^^^ 4294967295) := by unfold Hid more; rw [unhide HY]
      go_wp2
      go_ret
      exact ⟨by rw [unhide HM]; rfl, rfl⟩

theorem rsum_any (s : Value) (bs : List UInt8) (w : World) (hs : Row w s bs) (hroom : bs.length ≤ 140737488351232) :
    Calls Try.prog 40 #[s] w fun e w' => e = .returned (.int .u32 (more 0 bs : Nat)) ∧ w' = w := by
  go_enter Try.func40, Try.ntmps40
  go_wp2_with fail
  refine (rmore_any 0 s bs w hs (by omega) hroom).mono ?_
  rintro e w ⟨rfl, rfl⟩
  go_wp2
  go_ret
  exact ⟨rfl, rfl⟩

theorem and_top (a : Nat) (h : a < 4294967296) : bits .and .u32 (a : Int) 2147483648 = ((if 2147483648 ≤ a then 2147483648 else 0 : Nat) : Int) := by
  rw [show (2147483648 : Int) = ((2147483648 : Nat) : Int) from rfl, u32_and_nat _ _ h (by omega)]
  congr 1
  have hb : a.testBit 31 = decide (2 ^ 31 ≤ a) := by
    rw [Nat.testBit_eq_decide_div_mod_eq]
    have h31 : a / 2 ^ 31 % 2 = 1 ↔ 2 ^ 31 ≤ a := by omega
    simp [h31]
  have key : a &&& 2 ^ 31 = if 2 ^ 31 ≤ a then 2 ^ 31 else 0 := by
    apply Nat.eq_of_testBit_eq
    intro i
    rw [Nat.testBit_and, Nat.testBit_two_pow]
    by_cases hi : 31 = i
    · subst hi
      rw [hb]
      by_cases h2 : 2 ^ 31 ≤ a
      · rw [if_pos h2, Nat.testBit_two_pow]
        simp [h2]
      · rw [if_neg h2]
        simp [h2]
    · by_cases h2 : 2 ^ 31 ≤ a
      · rw [if_pos h2, Nat.testBit_two_pow]
        simp [hi]
      · rw [if_neg h2]
        simp [hi]
  exact key

theorem and_one_i64 (r : Nat) : bits .and .i64 (r : Int) 1 = ((r % 2 : Nat) : Int) := by
  have h1 : (BitVec.ofInt 64 1).toNat = 2 ^ 1 - 1 := by decide
  have key : (BitVec.ofInt 64 (r : Int) &&& BitVec.ofInt 64 1).toNat = ((r : Int) % ((2 ^ 64 : Nat) : Int)).toNat % 2 ^ 1 := by
    rw [BitVec.toNat_and, BitVec.toNat_ofInt, h1, Nat.and_two_pow_sub_one_eq_mod]
  show IntKind.i64.wrap ((BitVec.ofInt 64 (r : Int) &&& BitVec.ofInt 64 1).toNat : Nat) = _
  rw [key, IntKind.wrap_i64]
  omega

theorem tacc_lt (n p a b : Nat) (hp : p < 4294967296) (hb : b < 4294967296) : tacc n p a b < 4294967296 := by
  induction n generalizing p a b with
  | zero => exact hp
  | succ n ih =>
    rw [tacc]
    refine ih _ _ _ ?_ (stp_lt b hb)
    split
    · exact Nat.xor_lt_two_pow (n := 32) hp hb
    · exact hp
theorem tms_lt (a b : Nat) (hb : b < 4294967296) : tms a b < 4294967296 := tacc_lt 32 0 a b (by omega) hb

end Go.Proofs.Ytpkpjmebkikgdaa

/- What the statements of layer 5 ask of package layout, as contracts; and 'awake' by them. -/
namespace Go.Proofs.Ytpkpjmebkikgdaa
open Go.RowKit

/-- An int. -/
def I64 (a : Int) : Prop := -9223372036854775808 ≤ a ∧ a ≤ 9223372036854775807
theorem i64_of_wf {a : Int} (h : (Lit.int .i64 a).wf = true) : I64 a := by
  simp [Lit.wf, IntKind.min, IntKind.max, IntKind.signed, IntKind.bits] at h
  exact ⟨h.1, by omega⟩

structure LayC : Prop where
  plan : ∀ (n : Int) w, I64 n → Calls Try.prog 20 #[.int .i64 n] w fun e w' => e = .returned (.tuple #[planV n, .int .i64 (planE n)]) ∧ Below w.heap.size w w'
  logAt : ∀ (n : Int) (t : Nat) w, Fits n → t < 18446744073709551616 → Calls Try.prog 52 #[layV n, .int .u64 (t : Int)] w fun e w' => e = .returned (.int .i64 (logN n t)) ∧ Below w.heap.size w w'

theorem fits256 : Fits 256 := by unfold Fits; omega
theorem plan_fits {n : Int} (h : Fits n) : planV n = layV n ∧ planE n = 0 := by unfold planV planE; rw [if_pos h, if_pos h]; exact ⟨rfl, rfl⟩
theorem plan_not {n : Int} (h : ¬ Fits n) : planV n = layZ ∧ planE n = 1 := by unfold planV planE; rw [if_neg h, if_neg h]; exact ⟨rfl, rfl⟩
end Go.Proofs.Ytpkpjmebkikgdaa

/- Layouts held against each other. -/
namespace Go.Proofs.Ytpkpjmebkikgdaa
open Go.RowKit

theorem Try.layHeld : Try.prog.stoodInHeld 27 = false := by kernel_rfl
theorem Try.imgHeld : Try.prog.stoodInHeld 25 = false := by kernel_rfl
theorem eq_int (d : Nat) (x : Int) (w : World) : (Op.equalIn (d + 1) 3 (.int .i64 x) (.int .i64 x)).run Try.prog w = .ok true w := by
  rw [run_equalIn_int w d _ .i64 .i64 x x Try.underlying3]
  simp
theorem agg_int (w : World) : (isAgg 3).run Try.prog w = .ok false w := by
  unfold isAgg
  rw [Sem.run_bind, run_underlying Try.underlying3 w]
  rfl
theorem agg_two (w : World) : (isAgg 25).run Try.prog w = .ok true w := by
  unfold isAgg
  rw [Sem.run_bind, run_underlying Try.underlying25 w]
  rfl
theorem size_of_info {P : Program} {t : TypeId} {n : Nat} (h : (P.info? t).map (·.size) = some n) (w : World) : (sizeOf t).run P w = .ok n w := by
  cases hq : P.info? t with
  | none => simp [hq] at h
  | some i =>
    have : i.size = n := by simpa [hq] using h
    simp [sizeOf, typeInfo, hq, this]
theorem Try.sizeInt1 : (Try.prog.info? 3).map (·.size) = some 1 := by kernel_rfl
theorem Try.sizeTwo : (Try.prog.info? 25).map (·.size) = some 2 := by kernel_rfl
theorem eq_two (d : Nat) (x y : Int) (w : World) : (Op.equalIn (d + 2) 25 (.agg #[.int .i64 x, .int .i64 y]) (.agg #[.int .i64 x, .int .i64 y])).run Try.prog w = .ok true w := by
  have s := size_of_info Try.sizeInt1
  simp [Op.equalIn, run_underlying Try.underlying25, s, part, Std.Legacy.Range.forIn_eq_forIn_range', List.range'_succ]
theorem lay_ne (a b c d e f g h i : Int) (w : World) : (binOp .neq 27 (.agg #[.int .i64 a, .int .i64 b, .int .i64 c, .int .i64 d, .int .i64 e, .int .i64 f, .int .i64 g, .int .i64 h, .int .i64 i]) (.agg #[.int .i64 a, .int .i64 b, .int .i64 c, .int .i64 d, .int .i64 e, .int .i64 f, .int .i64 g, .int .i64 h, .int .i64 i])).run Try.prog w = .ok (.bool false) w := by
  rw [run_neq_struct]
  have hf : Try.prog.underlying 27 = some (.struct (Try.prog.fieldsOf 27)) := by kernel_rfl
  rw [show (10000 : Nat) = 9999 + 1 from rfl, run_equalIn_agg w 9999 _ _ _ hf Try.layHeld]
  have hfs : (Try.prog.fieldsOf 27) = match Try.prog.underlying 27 with | some (.struct fs) => fs | _ => #[] := by kernel_rfl
  rw [hfs, Try.underlying27]
  have e := fun x w => eq_int 9998 x w
  have e2 := fun x y w => eq_two 9997 x y w
  have s := size_of_info Try.sizeTwo
  simp only [Op.eqFields]
  simp [part, e, e2, s]
end Go.Proofs.Ytpkpjmebkikgdaa

/- What the reference of package crc does: power, Join. -/
namespace Go.Proofs.Ytpkpjmebkikgdaa
open Go.RowKit

end Go.Proofs.Ytpkpjmebkikgdaa

/- What the reference of package layout does. -/
namespace Go.Proofs.Ytpkpjmebkikgdaa
open Go.RowKit

theorem rplan_any (n : Int) (w : World) :
    Calls Try.prog 13 #[.int .i64 n] w fun e w' => e = .returned (.tuple #[planV n, .int .i64 (planE n)]) ∧ Below w.heap.size w w' := by
  by_cases h : Fits n
  · have HE := hide (show planV n = layV n ∧ planE n = 0 by unfold planV planE; rw [if_pos h, if_pos h]; exact ⟨rfl, rfl⟩)
    obtain ⟨d1, d2⟩ := h
    go_enter Try.func13, Try.ntmps13
    go_wp2
    refine bodyPost_ret (v := .tuple #[layV n, .int .i64 0]) (by simp [results, Try.results13, go_sem, layV, lz, lseg]) rfl ⟨by rw [(unhide HE).1, (unhide HE).2], ((Below.refl _ _).alloc (Nat.le_refl _) _).alloc (by simp) _⟩
  · have HE := hide (show planV n = layZ ∧ planE n = 1 by unfold planV planE; rw [if_neg h, if_neg h]; exact ⟨rfl, rfl⟩)
    by_cases h1 : n < 256
    · clear h
      go_enter Try.func13, Try.ntmps13
      go_wp2
      refine bodyPost_ret (v := .tuple #[layZ, .int .i64 1]) (by simp [results, Try.results13, go_sem, layZ]) rfl ⟨by rw [(unhide HE).1, (unhide HE).2], (Below.refl _ _).alloc (Nat.le_refl _) _⟩
    · have h2 : 65536 < n := by unfold Fits at h; omega
      clear h
      go_enter Try.func13, Try.ntmps13
      go_wp2
      refine bodyPost_ret (v := .tuple #[layZ, .int .i64 1]) (by simp [results, Try.results13, go_sem, layZ]) rfl ⟨by rw [(unhide HE).1, (unhide HE).2], (Below.refl _ _).alloc (Nat.le_refl _) _⟩

/-- The layout's variable within Region. -/
def layO (n : Int) : Obj := .cells #[.int .i64 n, .int .i64 3, .int .i64 13, .int .i64 (lz n), .int .i64 (13 + lz n), .int .i64 (13 + 2 * lz n), .int .i64 (lz n), .int .i64 (13 + 3 * lz n), .int .i64 (lseg n)] 27

end Go.Proofs.Ytpkpjmebkikgdaa

/- What the reference of package layout does: Segment, Capacity, Phys, Logic, LogAt. -/
namespace Go.Proofs.Ytpkpjmebkikgdaa
open Go.RowKit

theorem lay_below (n : Int) (w : World) : Below w.heap.size w (w.alloc (layO n)) := (Below.refl w.heap.size w).alloc (Nat.le_refl _) (layO n)

end Go.Proofs.Ytpkpjmebkikgdaa

/- What the reference of package layout does: Phys, Logic. -/
namespace Go.Proofs.Ytpkpjmebkikgdaa
open Go.RowKit

theorem reg7 (n a : Int) (h : Fits n) : regN n a = 7 ↔ 13 + 3 * lz n ≤ a ∧ a < 13 + 3 * lz n + lseg n * 32 := by
  obtain ⟨z1, z2, _, _⟩ := lz_le n h
  obtain ⟨s1, s2, _, _⟩ := lseg_le n h
  unfold regN
  repeat' split
  all_goals omega

end Go.Proofs.Ytpkpjmebkikgdaa

/- What package layout's 'bounded' does, with slices.Min and slices.Max. -/
namespace Go.Proofs.Ytpkpjmebkikgdaa
open Go.RowKit

theorem smin_any (b : Nat) (f : Nat → Int) (w : World) (h : ∀ j, j < 9 → w.cell? ⟨b, j, none⟩ = some (.int .i64 (f j))) (hf : ∀ j, j < 9 → 0 ≤ f j ∧ f j ≤ 65536) :
    Calls Try.prog 74 #[.slice (some ⟨b, 0, none⟩) 9 9] w fun e w' => ∃ r : Int, e = .returned (.int .i64 r) ∧ 0 ≤ r ∧ r ≤ 65536 ∧ w' = w := by
  have h0 := h 0 (by omega)
  obtain ⟨g1, g2⟩ := hf 0 (by omega)
  have H := hide h
  have HF := hide hf
  clear h hf
  go_enter Try.func74, Try.ntmps74
  go_wp2_with fail
  go_loop [3, 4] (fun m i => ∃ (k : Nat) (r : Int), k ≤ 9 ∧ i = .int .i64 k ∧ m = .int .i64 r ∧ 0 ≤ r ∧ r ≤ 65536) (fun _ i => 9 - (intOf i).toNat)
  case atStart => exact ⟨1, _, by omega, rfl, rfl, g1, g2⟩
  case round =>
    obtain ⟨k, r, hk, rfl, rfl, r1, r2⟩ := hrel
    by_cases hlt : k < 9
    · have hc := unhide H k hlt
      obtain ⟨e1, e2⟩ := unhide HF k hlt
      have hk0 : (k : Int) < 9 := by omega
      clear h0 g1 g2
      generalize f k = x at *
      go_wp2
      all_goals
        go_round
        case rel => exact ⟨k + 1, _, by omega, by go_num, rfl, by omega, by omega⟩
        case measure => simp [intOf]; omega
    · obtain rfl : k = 9 := by omega
      go_wp2
      go_ret
      exact ⟨r, rfl, r1, r2, rfl⟩

theorem smax_any (b : Nat) (f : Nat → Int) (w : World) (h : ∀ j, j < 9 → w.cell? ⟨b, j, none⟩ = some (.int .i64 (f j))) (hf : ∀ j, j < 9 → 0 ≤ f j ∧ f j ≤ 65536) :
    Calls Try.prog 75 #[.slice (some ⟨b, 0, none⟩) 9 9] w fun e w' => ∃ r : Int, e = .returned (.int .i64 r) ∧ 0 ≤ r ∧ r ≤ 65536 ∧ w' = w := by
  have h0 := h 0 (by omega)
  obtain ⟨g1, g2⟩ := hf 0 (by omega)
  have H := hide h
  have HF := hide hf
  clear h hf
  go_enter Try.func75, Try.ntmps75
  go_wp2_with fail
  go_loop [3, 4] (fun m i => ∃ (k : Nat) (r : Int), k ≤ 9 ∧ i = .int .i64 k ∧ m = .int .i64 r ∧ 0 ≤ r ∧ r ≤ 65536) (fun _ i => 9 - (intOf i).toNat)
  case atStart => exact ⟨1, _, by omega, rfl, rfl, g1, g2⟩
  case round =>
    obtain ⟨k, r, hk, rfl, rfl, r1, r2⟩ := hrel
    by_cases hlt : k < 9
    · have hc := unhide H k hlt
      obtain ⟨e1, e2⟩ := unhide HF k hlt
      have hk0 : (k : Int) < 9 := by omega
      clear h0 g1 g2
      generalize f k = x at *
      go_wp2
      all_goals
        go_round
        case rel => exact ⟨k + 1, _, by omega, by go_num, rfl, by omega, by omega⟩
        case measure => simp [intOf]; omega
    · obtain rfl : k = 9 := by omega
      go_wp2
      go_ret
      exact ⟨r, rfl, r1, r2, rfl⟩

set_option maxHeartbeats 1000000 in
theorem bounded_any (n : Int) (w : World) (h : Fits n) :
    Calls Try.prog 64 #[layV n] w fun e w' => e = .returned (.bool true) ∧ Below w.heap.size w w' := by
  obtain ⟨z1, z2, z3, z4⟩ := lz_le n h
  obtain ⟨s1, s2, s3, s4⟩ := lseg_le n h
  obtain ⟨n1, n2⟩ := h
  unfold layV
  generalize lz n = z at *
  generalize lseg n = m at *
  obtain ⟨f, hf⟩ : ∃ f : Nat → Int, f = fun j => match j with | 0 => n | 1 => 3 | 2 => 13 | 3 => z | 4 => 13 + z | 5 => 13 + 2 * z | 6 => z | 7 => 13 + 3 * z | _ => m := ⟨_, rfl⟩
  have HF : Hid (∀ j, j < 9 → 0 ≤ f j ∧ f j ≤ 65536) := by
    intro j hj
    match j, hj with
    | 0, _ => rw [hf]; exact ⟨show 0 ≤ n by omega, show n ≤ 65536 by omega⟩
    | 1, _ => rw [hf]; exact ⟨show (0 : Int) ≤ 3 by omega, show (3 : Int) ≤ 65536 by omega⟩
    | 2, _ => rw [hf]; exact ⟨show (0 : Int) ≤ 13 by omega, show (13 : Int) ≤ 65536 by omega⟩
    | 3, _ => rw [hf]; exact ⟨show 0 ≤ z by omega, show z ≤ 65536 by omega⟩
    | 4, _ => rw [hf]; exact ⟨show 0 ≤ 13 + z by omega, show 13 + z ≤ 65536 by omega⟩
    | 5, _ => rw [hf]; exact ⟨show 0 ≤ 13 + 2 * z by omega, show 13 + 2 * z ≤ 65536 by omega⟩
    | 6, _ => rw [hf]; exact ⟨show 0 ≤ z by omega, show z ≤ 65536 by omega⟩
    | 7, _ => rw [hf]; exact ⟨show 0 ≤ 13 + 3 * z by omega, show 13 + 3 * z ≤ 65536 by omega⟩
    | 8, _ => rw [hf]; exact ⟨show 0 ≤ m by omega, show m ≤ 65536 by omega⟩
  obtain ⟨O1, hO1⟩ : ∃ O : Obj, O = .cells #[.int .i64 n, .int .i64 3, .int .i64 13, .int .i64 z, .int .i64 (13 + z), .int .i64 (13 + 2 * z), .int .i64 z, .int .i64 (13 + 3 * z), .int .i64 m] 27 := ⟨_, rfl⟩
  have HC : Hid (∀ j, j < 9 → ((w.alloc O1).alloc (.cells #[.int .i64 n, .int .i64 3, .int .i64 13, .int .i64 z, .int .i64 (13 + z), .int .i64 (13 + 2 * z), .int .i64 z, .int .i64 (13 + 3 * z), .int .i64 m] 3)).cell? ⟨w.heap.size + 1, j, none⟩ = some (.int .i64 (f j))) := by
    obtain ⟨c0, c1, c2, c3, c4, c5, c6, c7, c8⟩ := nine_cells (heap_alloc_new (w.alloc O1) (.cells #[.int .i64 n, .int .i64 3, .int .i64 13, .int .i64 z, .int .i64 (13 + z), .int .i64 (13 + 2 * z), .int .i64 z, .int .i64 (13 + 3 * z), .int .i64 m] 3))
    rw [World.size_alloc] at *
    intro j hj
    rw [hf]
    match j, hj with
    | 0, _ => exact c0
    | 1, _ => exact c1
    | 2, _ => exact c2
    | 3, _ => exact c3
    | 4, _ => exact c4
    | 5, _ => exact c5
    | 6, _ => exact c6
    | 7, _ => exact c7
    | 8, _ => exact c8
  rw [hO1] at HC
  clear hf hO1
  go_enter Try.func64, Try.ntmps64
  go_wp2_with (first
    | (go_at_call 74; refine (smin_any _ f _ (unhide HC) (unhide HF)).mono ?_; rintro e w' ⟨r, rfl, r1, r2, rfl⟩)
    | (go_at_call 75; refine (smax_any _ f _ (unhide HC) (unhide HF)).mono ?_; rintro e w' ⟨r', rfl, r3, r4, rfl⟩))
  go_ret
  exact ⟨rfl, ((Below.refl _ _).alloc (Nat.le_refl _) _).alloc (by simp) _⟩
end Go.Proofs.Ytpkpjmebkikgdaa

/- An array of slices of bytes in a block of the call's own, apart from what belongs to a device: for the laws DiskSubset and DiskKeeps. -/
namespace Go.Proofs.Ytpkpjmebkikgdaa
open Go.RowKit

/-- v reads as bs, and its bytes lie neither in F nor in the block x. -/
def Held (F : Nat → Prop) (w : World) (x : Nat) (v : Value) (bs : List UInt8) : Prop :=
  Row w v bs ∧ ∀ b off n c, v = .slice (some ⟨b, off, none⟩) n c → 0 < n → ¬ F b ∧ b ≠ x ∧ b < w.heap.size

theorem Held.nil (F : Nat → Prop) (w : World) (x : Nat) : Held F w x (.slice none 0 0) [] := ⟨Row.nil w, fun b off n c e => by cases e⟩
theorem Held.keep {F G F' : Nat → Prop} {w w' : World} {x : Nat} {v : Value} {bs : List UInt8} (h : Held F w x v bs) (hk : Keep G w w') (hG : ∀ b, G b → F b ∨ b = x) (hF : ∀ b, F' b → F b ∨ w.heap.size ≤ b) : Held F' w' x v bs := by
  refine ⟨h.1.keep hk (fun b off c e hne hg => ?_), fun b off n c e hn => ?_⟩
  · obtain ⟨q1, q2, _⟩ := h.2 b off _ c e (List.length_pos_iff.2 hne)
    rcases hG b hg with h1 | h1
    · exact q1 h1
    · exact q2 h1
  · obtain ⟨q1, q2, q3⟩ := h.2 b off n c e hn
    refine ⟨fun hf => ?_, q2, Nat.lt_of_lt_of_le q3 hk.size⟩
    rcases hF b hf with h1 | h1
    · exact q1 h1
    · omega
theorem Held.of_mine {F : Nat → Prop} {w : World} {lo x : Nat} {v : Value} {bs : List UInt8} (h : Mine w lo v bs) (hF : ∀ b, F b → b < lo) (hx : x < lo) : Held F w x v bs := by
  refine ⟨h.row, fun b off n c e hn => ?_⟩
  subst e
  rcases h.2 with h0 | ⟨g, o, cap, e', cur, q1, q2, q3⟩
  · obtain ⟨p', c', l', e', hl'⟩ := h.row.shape
    simp only [Value.slice.injEq] at e'
    rw [h0] at hl'
    simp at hl'
    omega
  · simp only [Value.slice.injEq, Option.some.injEq, Addr.mk.injEq] at q1
    obtain ⟨⟨rfl, _⟩, _⟩ := q1
    exact ⟨fun hf => by have := hF _ hf; omega, by omega, (Array.getElem?_eq_some_iff.1 q3).1⟩

/-- The block x holds n slices of bytes, that read as G says. -/
def ArrH (F : Nat → Prop) (w : World) (x t n : Nat) (G : Nat → List UInt8) : Prop :=
  ∃ cur : Array Value, w.heap[x]? = some (.cells cur t (0, 0)) ∧ cur.size = n ∧ ¬ F x ∧ ∀ j, j < n → ∃ v, cur[j]? = some v ∧ Held F w x v (G j)

/-- The device moves. -/
theorem ArrH.moves {F F' : Nat → Prop} {w w' : World} {x t n : Nat} {G : Nat → List UInt8} (h : ArrH F w x t n G) (hm : Moves F F' w w') : ArrH F' w' x t n G := by
  obtain ⟨cur, h1, h2, h3, h4⟩ := h
  have hx : x < w.heap.size := (Array.getElem?_eq_some_iff.1 h1).1
  refine ⟨cur, (hm.keep.block x hx h3).trans h1, h2, fun hf => ?_, fun j hj => ?_⟩
  · rcases hm.sub x hf with h | h
    · exact h3 h
    · omega
  · obtain ⟨v, e, hv⟩ := h4 j hj
    exact ⟨v, e, hv.keep hm.keep (fun b hb => Or.inl hb) hm.sub⟩
theorem ArrH.below {F : Nat → Prop} {w w' : World} {x t n : Nat} {G : Nat → List UInt8} (h : ArrH F w x t n G) (hb : Below w.heap.size w w') : ArrH F w' x t n G := h.moves (Moves.of_below hb)
/-- One slice is laid into it. -/
theorem ArrH.store {F : Nat → Prop} {w : World} {x t n : Nat} {G : Nat → List UInt8} (h : ArrH F w x t n G) (j : Nat) (hj : j < n) (v : Value) (r : List UInt8) (hv : Held F w x v r) : ArrH F (w.setCell ⟨x, j, none⟩ v) x t n (fun k => if k = j then r else G k) := by
  obtain ⟨cur, h1, h2, h3, h4⟩ := h
  have hk : Keep (fun k => k = x) w (w.setCell ⟨x, j, none⟩ v) := ⟨rfl, rfl, rfl, by simp, fun k _ hn => by rw [Below.heap_setCell _ _ _ _ hn]⟩
  have hst : ∀ {u bs}, Held F w x u bs → Held F (w.setCell ⟨x, j, none⟩ v) x u bs := fun hu => hu.keep hk (fun b hb => Or.inr hb) (fun b hb => Or.inl hb)
  refine ⟨cur.setIfInBounds j v, heap_setCell_same w x j cur _ v h1, by simpa using h2, h3, fun k hkn => ?_⟩
  by_cases e : k = j
  · subst e
    refine ⟨v, by simp [h2, hj], ?_⟩
    show Held F _ x v (if k = k then r else G k)
    rw [if_pos rfl]
    exact hst hv
  · obtain ⟨u, hu, hm⟩ := h4 k hkn
    refine ⟨u, ?_, by
      show Held F _ x u (if k = j then r else G k)
      rw [if_neg e]
      exact hst hm⟩
    rw [Array.getElem?_setIfInBounds, if_neg (fun h => e h.symm)]
    exact hu
theorem ArrH.at {F : Nat → Prop} {w : World} {x t n : Nat} {G : Nat → List UInt8} (h : ArrH F w x t n G) (j : Nat) (hj : j < n) : ∃ v, w.cell? ⟨x, j, none⟩ = some v ∧ w.frozen? ⟨x, j, none⟩ = false ∧ Held F w x v (G j) := by
  obtain ⟨cur, h1, h2, h3, h4⟩ := h
  obtain ⟨v, e, hm⟩ := h4 j hj
  refine ⟨v, ?_, frozen_of_block h1, hm⟩
  rw [cell_of_row w x j _ _ (0, 0) h1]
  exact e
theorem ArrH.lt {F : Nat → Prop} {w : World} {x t n : Nat} {G : Nat → List UInt8} (h : ArrH F w x t n G) : x < w.heap.size := by
  obtain ⟨cur, h1, _⟩ := h
  exact (Array.getElem?_eq_some_iff.1 h1).1
theorem ArrH.congr {F : Nat → Prop} {w : World} {x t n : Nat} {G G' : Nat → List UInt8} (h : ArrH F w x t n G) (hG : ∀ j, j < n → G j = G' j) : ArrH F w x t n G' := by
  obtain ⟨cur, h1, h2, h3, h4⟩ := h
  refine ⟨cur, h1, h2, h3, fun j hj => ?_⟩
  rw [← hG j hj]
  exact h4 j hj
theorem ArrH.made (F : Nat → Prop) (w : World) (t n : Nat) (hF : ∀ k, F k → k < w.heap.size) : ArrH F (w.alloc (.cells (List.replicate n (Value.slice none 0 0)).toArray t)) w.heap.size t n (fun _ => []) := by
  refine ⟨_, heap_alloc_new _ _, by simp, fun hf => absurd (hF _ hf) (Nat.lt_irrefl _), fun j hj => ⟨.slice none 0 0, by simp [hj], Held.nil _ _ _⟩⟩
end Go.Proofs.Ytpkpjmebkikgdaa
