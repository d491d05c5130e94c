/- What each function of package word does, as a contract a function: mayCount, hasRoom, the walk over bytes, Zero, Var, Put, Get; and that 'awake' answers true. -/
import Derived.Test.YtndlnppgihhepaaBase
import Derived.BigQuiet
namespace Go.Proofs.Ytndlnppgihhepaa
open Go.RowKit

theorem may_yes (n : Int) (w : World) (h1 : 1 ≤ n) (h2 : n ≤ 8) : Calls Try.prog 42 #[.int .i64 n] w fun e w' => e = .returned (.bool true) ∧ w' = w := by
  go_enter Try.func42, Try.ntmps42
  go_wp2
  go_ret
  exact ⟨rfl, rfl⟩

theorem may_no (n : Int) (w : World) (h : n < 1 ∨ 8 < n) : Calls Try.prog 42 #[.int .i64 n] w fun e w' => e = .returned (.bool false) ∧ w' = w := by
  rcases h with h | h
  · go_enter Try.func42, Try.ntmps42
    go_wp2
    go_ret
    exact ⟨rfl, rfl⟩
  · have h1 : 1 ≤ n := by omega
    have h2 : decide (n ≤ 8) = false := by simp; omega
    go_enter Try.func42, Try.ntmps42
    go_wp2
    go_ret
    exact ⟨rfl, rfl⟩

theorem room_any (v n : Nat) (w : World) (hv : v < 18446744073709551616) (h1 : 1 ≤ n) (h2 : n ≤ 8) :
    Calls Try.prog 43 #[.int .u64 v, .int .i64 n] w fun e w' => e = .returned (.bool (decide (v < 256 ^ n))) ∧ w' = w := by
  by_cases h8 : n = 8
  · subst h8
    have hd : decide (v < 256 ^ 8) = true := by simp; omega
    rw [hd]
    clear hd
    go_enter Try.func43, Try.ntmps43
    go_wp2
    go_ret
    exact ⟨rfl, rfl⟩
  · have hn : ((n : Int) == 8) = false := by simp; omega
    have hr := room_div v n
    generalize decide (v < 256 ^ n) = d at hr
    go_enter Try.func43, Try.ntmps43
    go_wp2
    go_ret
    exact ⟨rfl, rfl⟩

theorem over_any (k : Nat) (caps : Array Value) (b off len cap : Nat) (w : World) (I J : Nat → World → Prop) (hm : len ≤ 9223372036854775807)
    (hent : ∀ (args : Array Value) (w : World), (callFunc k args).run Try.prog w = .ok (.enter k args) w)
    (h0 : I 0 (w.alloc (.cells #[.func (.func k) #[] caps] 65)))
    (hbox : ∀ i wr, I i wr → wr.cell? ⟨w.heap.size, 0, none⟩ = some (.func (.func k) #[] caps))
    (hcell : ∀ i wr, i < len → I i wr → ∃ c : Int, wr.cell? ⟨b, off + i, none⟩ = some (.int .u8 c))
    (hstep : ∀ (i : Nat) (c : Int) wr, i < len → I i wr → wr.cell? ⟨b, off + i, none⟩ = some (.int .u8 c) →
      Calls Try.prog k (#[.int .i64 i, .int .u8 c] ++ caps) wr fun e w' => (e = .returned (.bool true) ∧ I (i + 1) w') ∨ (e = .returned (.bool false) ∧ J i w')) :
    Calls Try.prog 39 #[.agg #[.func (.func k) #[] caps], .slice (some ⟨b, off, none⟩) len cap] w fun e w' =>
      (e = .returned (.bool true) ∧ I len w') ∨ (e = .returned (.bool false) ∧ ∃ i, i < len ∧ J i w') := by
  have H0 : Hid (I 0 (w.alloc (.cells #[.func (.func k) #[] caps] 65))) := h0
  clear h0
  go_enter Try.func39, Try.ntmps39
  go_wp2
  go_loopw [9] (fun i wr => ∃ n : Nat, n ≤ len ∧ i = .int .i64 n ∧ I n wr) (fun i _ => len - (intOf i).toNat)
  case atStart => exact ⟨0, Nat.zero_le _, rfl, H0.out⟩
  case round =>
    obtain ⟨n, hn, rfl, hI⟩ := hrel
    have hb := hbox n wr hI
    by_cases hlt : n < len
    · obtain ⟨c, hc⟩ := hcell n wr hlt hI
      have HS : Hid (Calls Try.prog k (#[.int .i64 n, .int .u8 c] ++ caps) wr fun e w' => (e = .returned (.bool true) ∧ I (n + 1) w') ∨ (e = .returned (.bool false) ∧ J n w')) := hstep n c wr hlt hI hc
      clear hstep hbox hcell
      go_wp2_with fail
      refine Calls.mono HS.out ?_
      rintro e w' (⟨rfl, hI'⟩ | ⟨rfl, hJ⟩)
      · go_wp2
        go_roundw
        case rel => exact ⟨n + 1, by omega, by go_num, hI'⟩
        case measure => simp [intOf]; omega
      · go_wp2
        go_ret
        exact Or.inr ⟨rfl, n, hlt, hJ⟩
    · clear hstep hbox hcell
      have hnl : n = len := by omega
      subst hnl
      go_wp2
      go_ret
      exact Or.inl ⟨rfl, hI⟩

theorem over_empty (f : Value) (a : Option Addr) (cap : Nat) (w : World) :
    Calls Try.prog 39 #[.agg #[f], .slice a 0 cap] w fun e w' => e = .returned (.bool true) ∧ w' = w.alloc (.cells #[f] 65) := by
  go_enter Try.func39, Try.ntmps39
  go_wp2
  refine wp_loop_rounds 1 ?_
  rw [rounds_succ]
  go_wp2
  go_ret
  exact ⟨rfl, rfl⟩

theorem put1_any (i o l cp v bv bn g : Nat) (c : Int) (w : World) (hi : i < l) (hl : i < 8)
    (hcv : w.cell? ⟨bv, 0, none⟩ = some (.int .u64 v)) (hcn : w.cell? ⟨bn, 0, none⟩ = some (.slice (some ⟨g, o, none⟩) l cp))
    (c0 : Value) (hcg : w.cell? ⟨g, o + i, none⟩ = some c0) (hfg : w.frozen? ⟨g, o + i, none⟩ = false) :
    Calls Try.prog 44 #[.int .i64 i, .int .u8 c, .pointer (some ⟨bv, 0, none⟩), .pointer (some ⟨bn, 0, none⟩)] w fun e w' =>
      e = .returned (.bool true) ∧ w' = (w.setCell ⟨g, o + i, none⟩ (B (UInt8.ofNat (v / 256 ^ i)))).drew := by
  go_enter Try.func44, Try.ntmps44
  go_wp2
  go_region
  go_wp2
  go_ret
  exact ⟨rfl, by rw [B, ← put_byte]⟩

theorem get1_any (i x bv : Nat) (c : UInt8) (w : World) (hl : i < 8) (hx : x < 256 ^ i)
    (hcv : w.cell? ⟨bv, 0, none⟩ = some (.int .u64 x)) (hfg : w.frozen? ⟨bv, 0, none⟩ = false) :
    Calls Try.prog 47 #[.int .i64 i, .int .u8 (c.toNat : Int), .pointer (some ⟨bv, 0, none⟩)] w fun e w' =>
      e = .returned (.bool true) ∧ w' = (w.setCell ⟨bv, 0, none⟩ (.int .u64 ((x + c.toNat * 256 ^ i : Nat) : Int))).drew := by
  have hc := c.toNat_lt
  have hx64 : x < 18446744073709551616 := by have := pow_le8 i hl; omega
  have HX : Hid (x < 256 ^ i) := hx
  clear hx
  go_enter Try.func47, Try.ntmps47
  go_wp2
  go_region
  go_wp2
  go_ret
  exact ⟨rfl, by rw [get_bits x i c hl HX.out]⟩

theorem zero1_any (i c : Int) (w : World) : Calls Try.prog 38 #[.int .i64 i, .int .u8 c] w fun e w' => e = .returned (.bool (c == 0)) ∧ w' = w := by
  go_enter Try.func38, Try.ntmps38
  go_wp2
  go_ret
  exact ⟨rfl, rfl⟩

theorem ent_put1 (args : Array Value) (w : World) : (callFunc 44 args).run Try.prog w = .ok (.enter 44 args) w := by
  first | rfl | simp [callFunc, Try.func44]
theorem ent_get1 (args : Array Value) (w : World) : (callFunc 47 args).run Try.prog w = .ok (.enter 47 args) w := by
  first | rfl | simp [callFunc, Try.func47]
theorem ent_zero1 (args : Array Value) (w : World) : (callFunc 38 args).run Try.prog w = .ok (.enter 38 args) w := by
  first | rfl | simp [callFunc, Try.func38]

end Go.Proofs.Ytndlnppgihhepaa
