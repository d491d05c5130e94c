/- Texts of ours, one behind the other: Word. -/
import Derived.Test.YtehnjanllemnlaaG11
import Derived.BigQuiet
/- What each function of package word does, as a contract a function: mayCount, hasRoom, the walk over bytes, Zero, Var, Put, Get; and that 'awake' answers true. -/
namespace Go.Proofs.Ytehnjanllemnlaa
open Go.RowKit

theorem may_yes (n : Int) (w : World) (h1 : 1 ≤ n) (h2 : n ≤ 8) : Calls Try.prog 72 #[.int .i64 n] w fun e w' => e = .returned (.bool true) ∧ w' = w := by
  go_enter Try.func72, Try.ntmps72
  go_wp2
  go_ret
  exact ⟨rfl, rfl⟩

theorem may_no (n : Int) (w : World) (h : n < 1 ∨ 8 < n) : Calls Try.prog 72 #[.int .i64 n] w fun e w' => e = .returned (.bool false) ∧ w' = w := by
  rcases h with h | h
  · go_enter Try.func72, Try.ntmps72
    go_wp2
    go_ret
    exact ⟨rfl, rfl⟩
  · have h1 : 1 ≤ n := by omega
    have h2 : decide (n ≤ 8) = false := by simp; omega
    go_enter Try.func72, Try.ntmps72
    go_wp2
    go_ret
    exact ⟨rfl, rfl⟩

theorem over_any (k : Nat) (caps : Array Value) (b off len cap : Nat) (w : World) (I J : Nat → World → Prop) (hm : len ≤ 9223372036854775807)
    (hent : ∀ (args : Array Value) (w : World), (callFunc k args).run Try.prog w = .ok (.enter k args) w)
    (h0 : I 0 (w.alloc (.cells #[.func (.func k) #[] caps] 108)))
    (hbox : ∀ i wr, I i wr → wr.cell? ⟨w.heap.size, 0, none⟩ = some (.func (.func k) #[] caps))
    (hcell : ∀ i wr, i < len → I i wr → ∃ c : Int, wr.cell? ⟨b, off + i, none⟩ = some (.int .u8 c))
    (hstep : ∀ (i : Nat) (c : Int) wr, i < len → I i wr → wr.cell? ⟨b, off + i, none⟩ = some (.int .u8 c) →
      Calls Try.prog k (#[.int .i64 i, .int .u8 c] ++ caps) wr fun e w' => (e = .returned (.bool true) ∧ I (i + 1) w') ∨ (e = .returned (.bool false) ∧ J i w')) :
    Calls Try.prog 74 #[.agg #[.func (.func k) #[] caps], .slice (some ⟨b, off, none⟩) len cap] w fun e w' =>
      (e = .returned (.bool true) ∧ I len w') ∨ (e = .returned (.bool false) ∧ ∃ i, i < len ∧ J i w') := by
  have H0 : Hid (I 0 (w.alloc (.cells #[.func (.func k) #[] caps] 108))) := h0
  clear h0
  go_enter Try.func74, Try.ntmps74
  go_wp2
  go_loopw [9] (fun i wr => ∃ n : Nat, n ≤ len ∧ i = .int .i64 n ∧ I n wr) (fun i _ => len - (intOf i).toNat)
  case atStart => exact ⟨0, Nat.zero_le _, rfl, H0.out⟩
  case round =>
    obtain ⟨n, hn, rfl, hI⟩ := hrel
    have hb := hbox n wr hI
    by_cases hlt : n < len
    · obtain ⟨c, hc⟩ := hcell n wr hlt hI
      have HS : Hid (Calls Try.prog k (#[.int .i64 n, .int .u8 c] ++ caps) wr fun e w' => (e = .returned (.bool true) ∧ I (n + 1) w') ∨ (e = .returned (.bool false) ∧ J n w')) := hstep n c wr hlt hI hc
      clear hstep hbox hcell
      go_wp2_with fail
      refine Calls.mono HS.out ?_
      rintro e w' (⟨rfl, hI'⟩ | ⟨rfl, hJ⟩)
      · go_wp2
        go_roundw
        case rel => exact ⟨n + 1, by omega, by go_num, hI'⟩
        case measure => simp [intOf]; omega
      · go_wp2
        go_ret
        exact Or.inr ⟨rfl, n, hlt, hJ⟩
    · clear hstep hbox hcell
      have hnl : n = len := by omega
      subst hnl
      go_wp2
      go_ret
      exact Or.inl ⟨rfl, hI⟩

theorem over_empty (f : Value) (a : Option Addr) (cap : Nat) (w : World) :
    Calls Try.prog 74 #[.agg #[f], .slice a 0 cap] w fun e w' => e = .returned (.bool true) ∧ w' = w.alloc (.cells #[f] 108) := by
  go_enter Try.func74, Try.ntmps74
  go_wp2
  refine wp_loop_rounds 1 ?_
  rw [rounds_succ]
  go_wp2
  go_ret
  exact ⟨rfl, rfl⟩

theorem get1_any (i x bv : Nat) (c : UInt8) (w : World) (hl : i < 8) (hx : x < 256 ^ i)
    (hcv : w.cell? ⟨bv, 0, none⟩ = some (.int .u64 x)) (hfg : w.frozen? ⟨bv, 0, none⟩ = false) :
    Calls Try.prog 73 #[.int .i64 i, .int .u8 (c.toNat : Int), .pointer (some ⟨bv, 0, none⟩)] w fun e w' =>
      e = .returned (.bool true) ∧ w' = (w.setCell ⟨bv, 0, none⟩ (.int .u64 ((x + c.toNat * 256 ^ i : Nat) : Int))).drew := by
  have hc := c.toNat_lt
  have hx64 : x < 18446744073709551616 := by have := pow_le8 i hl; omega
  have HX : Hid (x < 256 ^ i) := hx
  clear hx
  go_enter Try.func73, Try.ntmps73
  go_wp2
  go_region
  go_wp2
  go_ret
  exact ⟨rfl, by rw [get_bits x i c hl HX.out]⟩

theorem ent_get1 (args : Array Value) (w : World) : (callFunc 73 args).run Try.prog w = .ok (.enter 73 args) w := by
  first | kernel_rfl | rfl | simp [callFunc, Try.func73]
set_option maxRecDepth 20000 in
set_option maxHeartbeats 800000 in
theorem var_any (v : Nat) (hv : v < 18446744073709551616) (w : World) :
    Calls Try.prog 24 #[.int .u64 v] w fun e w' => ∃ s, e = .returned s ∧ w'.ownsRow w.heap.size 5 1 s (varF 9 v).length ((varF 9 v).map B) ∧ Below w.heap.size w w' := by
  obtain ⟨i0, hi, hz0, hz1, hz2⟩ := info_parts Try.info5
  go_enter Try.func24, Try.ntmps24
  go_wp2
  go_loopw [0, 3] (fun t s wr => ∃ (f x : Nat) (pre : List UInt8), t = .int .u64 x ∧ Hid (pre ++ varF f x = varF 9 v) ∧ pre.length + f = 9 ∧ Hid (x < 128 ^ (f + 1)) ∧ x < 18446744073709551616 ∧ wr.ownsRow w.heap.size 5 1 s pre.length (pre.map B) ∧ Below w.heap.size w wr)
     (fun t _ _ => (intOf t).toNat)
  case atStart => exact ⟨9, v, [], rfl, rfl, rfl, by unfold Hid; omega, hv, World.ownsRow_nil _ _ _ _, Below.refl _ _⟩
  case round =>
    obtain ⟨f, x, pre, rfl, hpre, hlen, hx, hx64, hown, hnx⟩ := hrel
    have hsz := hnx.size
    by_cases h : 127 < x
    · go_wp2_with (at_builtin; refine wpList_append_own _ rfl _ _ 30 rfl w.heap.size 5 i0 (.int .u8 0) 1 1 Try.underlying30 hi hz0 hz1 hz2 rfl (by decide) _ _ _ rfl (hown.alloc _) ⟨wr.heap.size, 0, none⟩ 1 1 [.int .u8 (bits BinOp.or .u8 ((x : Int) % 256) 128)] rfl rfl ?c1 ?c2 ?c3 ?c4 ?c5 ?_)
      case c1 =>
        intro j u hj
        match j, hj with
        | 0, hj => simp at hj; subst hj; simp [Addr.add]
      case c2 => intro u hu; simp at hu; subst hu; rfl
      case c3 => unfold maxLen; omega
      case c4 => omega
      case c5 => simp; omega
      intro v' w1 hown' hgrow _
      have hb' : Below w.heap.size w w1 := (hnx.alloc (by omega) _).grown hgrow (by simp; omega) (fun k hk => (hown.lt k hk).1)
      clear hown hgrow hnx
      go_wp2
      go_roundw
      case rel =>
        match f, hx with
        | 0, hx => have := hx.out; omega
        | f + 1, hx =>
          refine ⟨f, x / 128, pre ++ [UInt8.ofNat (x % 128 + 128)], by go_num, ?_, by simp; omega, pow_step f x hx.out, by omega, ?_, hb'⟩
          · unfold Hid; rw [← hpre.out, varF_go f x (by omega)]; simp
          · rw [List.length_append, List.map_append, List.map_singleton, B_or128]; exact hown'
      case measure => simp [intOf]; omega
    · have hle : (x : Int) ≤ 127 := by omega
      go_wp2_with (at_builtin; refine wpList_append_own _ rfl _ _ 30 rfl w.heap.size 5 i0 (.int .u8 0) 1 1 Try.underlying30 hi hz0 hz1 hz2 rfl (by decide) _ _ _ rfl (hown.alloc _) ⟨wr.heap.size, 0, none⟩ 1 1 [.int .u8 ((x : Int))] rfl rfl ?d1 ?d2 ?d3 ?d4 ?d5 ?_)
      case d1 =>
        intro j u hj
        match j, hj with
        | 0, hj => simp at hj; subst hj; simp [Addr.add]
      case d2 => intro u hu; simp at hu; subst hu; rfl
      case d3 => unfold maxLen; omega
      case d4 => omega
      case d5 => simp; omega
      intro v' w1 hown' hgrow _
      have hb' : Below w.heap.size w w1 := (hnx.alloc (by omega) _).grown hgrow (by simp; omega) (fun k hk => (hown.lt k hk).1)
      clear hown hgrow hnx
      go_wp2
      go_ret
      refine ⟨_, rfl, ?_, hb'⟩
      have e : varF 9 v = pre ++ [UInt8.ofNat x] := by rw [← hpre.out, varF_stop f x (by omega)]
      rw [e]
      simpa [B, Nat.mod_eq_of_lt (show x < 256 by omega)] using hown'
end Go.Proofs.Ytehnjanllemnlaa
