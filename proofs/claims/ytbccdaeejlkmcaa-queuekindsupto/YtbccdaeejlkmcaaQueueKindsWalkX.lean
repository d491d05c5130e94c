/- The walk of the statement 'QueueKinds'. -/
import Derived.Test.YtbccdaeejlkmcaaG2
import Derived.Test.YtbccdaeejlkmcaaG10
import Derived.Test.YtbccdaeejlkmcaaG12
import Derived.OpenShut
import Derived.BigQuiet
import Derived.BigRegion
namespace Go.Proofs.Ytbccdaeejlkmcaa
open Go.RowKit

/-- What is so while it is pushed: the first k are in. -/
def KPu (b : Nat) (w wr : World) (q r p : Nat) (l : List It) (k : Nat) : Prop :=
  ∃ X : List ByteArray, X = srt lowS ((l.take k).map (·.2)) ∧ T3 (fun _ => False) b w wr q r p k k k X (X.map prS) (l.take k)
/-- .. and while it is popped: the first k are out. -/
def KPo (b : Nat) (w wr : World) (q r p : Nat) (l : List It) (X : List ByteArray) (k : Nat) : Prop :=
  T3 (fun _ => False) b w wr q r p l.length l.length l.length (X.drop k) ((X.drop k).map prS) (l.drop k)
theorem kbelow_drewN {b : Nat} {w w' : World} (h : Below b w w') (n : Nat) : Below b w (w'.drewN n) := ⟨h.os, h.tape, h.output, h.size, h.block⟩
theorem it_neq_self (x : It) (W : World) : (binOp .neq 33 (.agg #[.int .i64 x.1, .string x.2]) (.agg #[.int .i64 x.1, .string x.2])).run Try.prog W = .ok (.bool false) W := by
  rw [run_neq_struct, run_equalIn_agg]
  · simp [go_sem]
  · kernel_rfl
  · exact Try.itemHeld

set_option maxRecDepth 20000 in
set_option maxHeartbeats 2000000 in
theorem qkinds_any (s : Value) (l : List It) (z : Int) (w : World) (hs : TI w s l) (hl : l.length ≤ 1048576) :
    Calls Try.prog 3 #[s, .int .i64 z] w fun e w' => e = .returned (.bool true) ∧ Below w.heap.size w w' := by
  obtain ⟨p, cap, rfl, k1, k2⟩ := hs.shape
  obtain ⟨M, hM1, hM2⟩ : ∃ M : Nat, (IntKind.u64.wrap z).tmod 100 = (M : Int) ∧ M < 100 := by
    have h0 : 0 ≤ IntKind.u64.wrap z := by rw [IntKind.wrap_u64]; omega
    refine ⟨((IntKind.u64.wrap z).tmod 100).toNat, ?_, ?_⟩
    · rw [Int.tmod_eq_emod_of_nonneg h0]; omega
    · rw [Int.tmod_eq_emod_of_nonneg h0]; omega
  have hMw : wrap64 (M : Int) = (M : Int) := by simp only [wrap64]; omega
  have HS := hide hs
  have HL := hide hl
  have hlI : (l.length : Int) ≤ 1048576 := by omega
  clear hs hl k1 k2 hM2
  go_enter Try.func3, Try.ntmps3
  go_wp2_with fail
  refine Calls.mono (K1.qnew_any lowS _ below1_C _) ?_
  rintro e w1 ⟨rfl, q1, b1⟩
  obtain ⟨qa, hqa⟩ : ∃ qa, qa = w.heap.size := ⟨_, rfl⟩
  rw [← hqa] at q1 ⊢
  have HQ1 := hide q1
  have HB1 := hide b1
  have HQA := hide hqa
  clear q1 b1 hqa
  go_wp2_with fail
  refine Calls.mono (K2.qnew_any lowP _ below2_C _) ?_
  rintro e w2 ⟨rfl, q2, b2⟩
  obtain ⟨qb, hqb⟩ : ∃ qb, qb = w1.heap.size := ⟨_, rfl⟩
  rw [← hqb] at q2 ⊢
  have HQ2 := hide q2
  have HB2 := hide b2
  have HQB := hide hqb
  clear q2 b2 hqb
  go_wp2_with fail
  refine Calls.mono (qnew_any never _ never_C _) ?_
  rintro e w3 ⟨rfl, q3, b3⟩
  obtain ⟨qc, hqc⟩ : ∃ qc, qc = w2.heap.size := ⟨_, rfl⟩
  rw [← hqc] at q3 ⊢
  have HT : Hid (T3 (fun _ => False) w.heap.size w w3 qa qb qc 0 0 0 [] [] []) := by
    have h1 := unhide HQ1
    have h0 := unhide HB1
    have h2 := unhide HQ2
    have h0' := unhide HB2
    have e0 := unhide HQA
    have e1 := unhide HQB
    have hlt := h1.lt qa rfl
    have hlt2 := h2.lt qb rfl
    have s1 := h0.size
    have s2 := h0'.size
    exact ⟨⟨_, _, _, (h1.below h0').below b3, h2.below b3, q3, fun k hk hk' => by omega, fun k hk hk' => by omega, fun k hk hk' => by omega, fun k hk => ⟨by omega, id⟩, fun k hk => ⟨by omega, id⟩, fun k hk => ⟨by omega, id⟩⟩, fun k hk => hk.elim, (h0.trans (h0'.mono s1)).trans (b3.mono (by omega)), by have := b3.size; omega⟩
  clear q3 b3 hqc HQ1 HB1 HQA HQ2 HB2 HQB
  go_wp2_with fail
  refine Calls.mono (awake_any _) ?_
  rintro e w4 ⟨rfl, b4⟩
  have HI0 : Hid (KPu w.heap.size w w4 qa qb qc l 0) := ⟨[], rfl, (unhide HT).below b4⟩
  clear b4 HT
  go_wp2_with fail
  go_loopw [8] (fun i wr => ∃ k : Nat, k ≤ l.length ∧ i = .int .i64 (k : Int) ∧ KPu w.heap.size w wr qa qb qc l k) (fun i _ => l.length - (intOf i).toNat)
  case atStart => exact ⟨0, Nat.zero_le _, rfl, unhide HI0⟩
  case round =>
    clear HI0
    obtain ⟨k, hk, rfl, X, hX, hT⟩ := hrel
    by_cases hlt : k < l.length
    · have hkI : (k : Int) < (l.length : Int) := by omega
      have hXl : X.length = k := by rw [hX, length_srt, List.length_map, List.length_take]; omega
      have HX : Hid (ins lowS l[k].2 X = srt lowS ((l.take (k + 1)).map (·.2))) := by
        unfold Hid
        rw [List.take_succ_eq_append_getElem hlt, List.map_append, List.map_singleton, srt_snoc, hX]
      have HZ : Hid (ins never l[k] (l.take k) = l.take (k + 1)) := by
        unfold Hid
        rw [ins_never, List.take_succ_eq_append_getElem hlt]
      have HTI := hide fun W (h : Below w.heap.size w W) => ((unhide HS).below h).at (by omega)
      obtain ⟨bz, oz, c', e0, _, _, hbl, hat, _⟩ := ((unhide HS).below hT.bel).at (by omega)
      simp only [Value.slice.injEq] at e0
      obtain ⟨rfl, _, rfl⟩ := e0
      obtain ⟨a1, a2⟩ := hat k hlt
      have HC : Hid (∀ W, Below w.heap.size w W → W.cell? ⟨bz, oz + k * 2, none⟩ = some (.int .i64 l[k].1) ∧ W.cell? ⟨bz, oz + k * 2 + 1, none⟩ = some (.string l[k].2)) := fun W h => by
        obtain ⟨bz', oz', c', e0, _, _, _, hat, _⟩ := ((unhide HS).below h).at (by omega)
        simp only [Value.slice.injEq, Option.some.injEq, Addr.mk.injEq, and_true] at e0
        obtain ⟨⟨rfl, rfl⟩, _, rfl⟩ := e0
        exact hat k hlt
      have HP1 := hide (t3_push1 l[k].2 hT (by have := unhide HL; omega) (by have := unhide HL; omega))
      have HXL := hide hXl
      have HLT := hide hlt
      have HK := hide (show k < 1048576 by have := unhide HL; omega)
      have HTL : Hid ((l.take k).length = k) := by unfold Hid; rw [List.length_take]; omega
      have hdd : decide (k < l.length) = true := decide_eq_true hlt
      generalize l[k] = x at *
      clear hk hlt hT hat hbl hX hXl HTI
      go_wp2_with fail
      refine Calls.mono (unhide HP1) ?_
      rintro e w5 ⟨rfl, hA5, _⟩
      obtain ⟨b1, b2⟩ := unhide HC _ hA5.bel
      have HP2 := hide (t3_push2 (prS x.2) hA5 (by rw [List.length_map, unhide HXL]; have := unhide HK; omega) (by have := unhide HK; omega))
      clear a1 a2 hA5 HP1
      go_wp2_with fail
      refine Calls.mono (unhide HP2) ?_
      rintro e w6 ⟨rfl, hA6, _⟩
      rw [ins_pr] at hA6
      obtain ⟨c1, c2⟩ := unhide HC _ hA6.bel
      have HP3 := hide (t3_push3 x hA6 (by rw [unhide HTL]; have := unhide HK; omega) (by have := unhide HK; omega))
      clear b1 b2 hA6 HP2
      go_wp2_with fail
      refine Calls.mono (unhide HP3) ?_
      rintro e w7 ⟨rfl, hA7, _⟩
      rw [unhide HZ] at hA7
      have HI7 : Hid (KPu w.heap.size w w7 qa qb qc l (k + 1)) := ⟨_, unhide HX, hA7⟩
      clear c1 c2 hA7 HP3 HX HZ HC
      go_wp2_with fail
      go_roundw
      case rel => exact ⟨k + 1, unhide HLT, by go_num, unhide HI7⟩
      case measure => (have := unhide HLT; simp [intOf]; omega)
    · have hke : k = l.length := by omega
      subst hke
      rw [List.take_length] at hX hT
      have HXL : Hid (X.length = l.length) := by unfold Hid; rw [hX, length_srt, List.length_map]
      have HI1 : Hid (KPo w.heap.size w wr qa qb qc l X 0) := hT
      clear hT hX hk hlt
      go_wp2_with fail
      go_loopw [9] (fun i wr => ∃ k : Nat, k ≤ l.length ∧ i = .int .i64 (k : Int) ∧ KPo w.heap.size w wr qa qb qc l X k) (fun i _ => l.length - (intOf i).toNat)
      case atStart => exact ⟨0, Nat.zero_le _, rfl, unhide HI1⟩
      case round =>
        clear HI1
        obtain ⟨k, hk, rfl, hT⟩ := hrel
        unfold KPo at hT
        by_cases hlt : k < l.length
        · have hkI : (k : Int) < (l.length : Int) := by omega
          have hdd : decide (k < l.length) = true := decide_eq_true hlt
          by_cases hm : (k : Int) ≤ (M : Int)
          · have hkX : k < X.length := by rw [unhide HXL]; exact hlt
            rw [List.drop_eq_getElem_cons hkX, List.map_cons, List.drop_eq_getElem_cons hlt] at hT
            have HC : Hid (∃ bz oz, p = some ⟨bz, oz, none⟩ ∧ ∀ W, Below w.heap.size w W → W.cell? ⟨bz, oz + k * 2, none⟩ = some (.int .i64 l[k].1) ∧ W.cell? ⟨bz, oz + k * 2 + 1, none⟩ = some (.string l[k].2)) := by
              obtain ⟨bz, oz, c', e0, _, _, hbl, _, _⟩ := ((unhide HS).below hT.bel).at (by omega)
              simp only [Value.slice.injEq] at e0
              obtain ⟨rfl, _, rfl⟩ := e0
              refine ⟨bz, oz, rfl, fun W h => ?_⟩
              obtain ⟨bz', oz', c', e0, _, _, _, hat, _⟩ := ((unhide HS).below h).at (by omega)
              simp only [Value.slice.injEq, Option.some.injEq, Addr.mk.injEq, and_true] at e0
              obtain ⟨⟨rfl, rfl⟩, _, rfl⟩ := e0
              exact hat k hlt
            obtain ⟨bz, oz, rfl, HC⟩ := HC
            have HCC := hide HC
            clear HC
            have HP1 := hide (t3_pop1 hT)
            have HLT := hide hlt
            have hmD : decide (k ≤ M) = true := decide_eq_true (by omega)
            clear hT
            generalize l[k] = x at *
            generalize X[k] = y at *
            clear hk hlt hkX
            go_wp2_with fail
            refine Calls.mono (unhide HP1) ?_
            rintro e w5 ⟨rfl, hA5, _⟩
            have HP2 := hide (t3_pop2 hA5)
            clear hA5 HP1
            go_wp2_with fail
            refine Calls.mono (unhide HP2) ?_
            rintro e w6 ⟨rfl, hA6, _⟩
            have b6 : Below w6.heap.size w6 (w6.alloc (.cells #[.string ⟨#[]⟩, .string y] 28)) := (Below.refl _ _).alloc (Nat.le_refl _) _
            obtain ⟨ga, hga⟩ : ∃ ga, ga = w6.heap.size := ⟨_, rfl⟩
            have hbx : (w6.alloc (.cells #[.string ⟨#[]⟩, .string y] 28)).heap[ga]? = some (.cells #[.string ⟨#[]⟩, .string y] 28) := by rw [hga]; exact heap_alloc_new w6 _
            have hA7 := hA6.more (K' := fun k => k = ga) b6 (fun k hk => Or.inr ⟨by omega, by rw [hk]; exact (Array.getElem?_eq_some_iff.1 hbx).1⟩)
            have HP3 := hide (t3_pop3 hA7)
            have HBX := hide hbx
            clear hA6 HP2 b6 hA7 hbx
            unfold prS
            go_wp2_with fail
            rw [← hga]
            refine Calls.mono (unhide HP3) ?_
            rintro e w8 ⟨rfl, hA8, hS8⟩
            have b8 : Below w8.heap.size w8 (w8.alloc (.cells #[.int .i64 x.1, .string x.2] 33)) := (Below.refl _ _).alloc (Nat.le_refl _) _
            have h8 := (hS8 ga rfl).trans (unhide HBX)
            have hgl8 : ga < w8.heap.size := (Array.getElem?_eq_some_iff.1 h8).1
            have h9 := (b8.block ga hgl8).trans h8
            have x1 : (w8.alloc (.cells #[.int .i64 x.1, .string x.2] 33)).cell? ⟨ga, 1, none⟩ = some (.string y) := by
              rw [cell_of_row _ ga _ _ _ (0, 0) h9]; rfl
            have y0 : (w8.alloc (.cells #[.int .i64 x.1, .string x.2] 33)).cell? ⟨w8.heap.size, 0, none⟩ = some (.int .i64 x.1) := by simp
            have y1 : (w8.alloc (.cells #[.int .i64 x.1, .string x.2] 33)).cell? ⟨w8.heap.size, 1, none⟩ = some (.string x.2) := by simp
            have hA9 := hA8.less.below b8
            obtain ⟨z0, z1⟩ := unhide HCC _ hA9.bel
            have HI9 : Hid (KPo w.heap.size w (w8.alloc (.cells #[.int .i64 x.1, .string x.2] 33)) qa qb qc l X (k + 1)) := hA9
            have hne := it_neq_self x
            clear hA8 hS8 b8 h8 hgl8 h9 hA9 HP3 HBX hga HCC
            go_wp2_with fail
            generalize w8.heap.size = gc at *
            generalize (w8.alloc (.cells #[.int .i64 x.1, .string x.2] 33)) = w9 at *
            go_quiet (fail)
            go_wp2_with fail
            go_roundw
            case rel => exact ⟨k + 1, unhide HLT, by go_num, T3.below (unhide HI9) (kbelow_drewN (Below.refl _ _) nq)⟩
            case measure => (have := unhide HLT; simp [intOf]; omega)
          · have hmD : decide (k ≤ M) = false := decide_eq_false (by omega)
            have HB := hide hT.bel
            clear hT hk hlt
            go_wp2_with fail
            go_ret
            exact ⟨rfl, unhide HB⟩
        · have hke : k = l.length := by omega
          subst hke
          have HB := hide hT.bel
          clear hT hk hlt
          go_wp2_with fail
          go_ret
          exact ⟨rfl, unhide HB⟩

theorem walk_QueueKinds (s0 : Value) (d0 : Dt) (a1 : Int) (_w1 : (Lit.int .i64 a1).wf = true) (w : World) (h0 : Reads limUpto w (.row 24 itSh) [s0] d0) :
    Calls Try.prog 3 #[s0, .int .i64 a1] w fun e w' => e = .returned (.bool true) ∧ Below w.heap.size w w' := by
  obtain ⟨l, hl, hl2⟩ := ti_of_reads h0
  exact qkinds_any s0 l a1 w hl hl2
end Go.Proofs.Ytbccdaeejlkmcaa
