/- The walk of the law LayoutPlaces, by the contracts of package layout. -/
import Derived.Test.YtpjgkdegkodpmaaLayCon
import Derived.Test.YtpjgkdegkodpmaaLayNine
namespace Go.Proofs.Ytpjgkdegkodpmaa
open Go.RowKit

theorem reg_seg (n a : Int) (h : Fits n) : regN n a = 7 ↔ 13 + 3 * lz n ≤ a ∧ a < 13 + 3 * lz n + lseg n * 32 := by
  obtain ⟨z1, z2, _, _⟩ := lz_le n h
  obtain ⟨s1, s2, _, _⟩ := lseg_le n h
  unfold regN
  repeat' split
  all_goals omega
theorem phys_true {n a : Int} (hp : physB n a = true) : 0 ≤ a ∧ a < lseg n * 31 ∧ physN n a = 13 + 3 * lz n + a / 31 * 32 + 1 + a % 31 := by
  have hc : ¬ (a < 0 ∨ capN n ≤ a) := of_decide_eq_true hp
  have he : physN n a = 13 + 3 * lz n + a / 31 * 32 + 1 + a % 31 := by unfold physN; rw [if_neg hc]
  have hcap : capN n = lseg n * 31 := rfl
  rw [hcap] at hc
  exact ⟨by omega, by omega, he⟩
theorem phys_of {n a : Int} (h0 : 0 ≤ a) (h1 : a < lseg n * 31) : physB n a = true ∧ physN n a = 13 + 3 * lz n + a / 31 * 32 + 1 + a % 31 := by
  have hcap : capN n = lseg n * 31 := rfl
  have hc : ¬ (a < 0 ∨ capN n ≤ a) := by rw [hcap]; omega
  exact ⟨decide_eq_true hc, by unfold physN; rw [if_neg hc]⟩
theorem logic_true {n a : Int} (h : Fits n) (hp : logicB n a = true) : 13 + 3 * lz n ≤ a ∧ a < 13 + 3 * lz n + lseg n * 32 ∧ (a - (13 + 3 * lz n)) % 32 ≠ 0 ∧ logicN n a = (a - (13 + 3 * lz n)) / 32 * 31 + (a - (13 + 3 * lz n)) % 32 - 1 := by
  have hc : isVal n a := of_decide_eq_true hp
  obtain ⟨q1, q2⟩ := (reg_seg n a h).1 hc.1
  exact ⟨q1, q2, hc.2, by unfold logicN; rw [if_pos hc]⟩
theorem logic_of {n a : Int} (h : Fits n) (h0 : 13 + 3 * lz n ≤ a) (h1 : a < 13 + 3 * lz n + lseg n * 32) (h2 : (a - (13 + 3 * lz n)) % 32 ≠ 0) : logicB n a = true ∧ logicN n a = (a - (13 + 3 * lz n)) / 32 * 31 + (a - (13 + 3 * lz n)) % 32 - 1 := by
  have hc : isVal n a := ⟨(reg_seg n a h).2 ⟨h0, h1⟩, h2⟩
  exact ⟨decide_eq_true hc, by unfold logicN; rw [if_pos hc]⟩
/-- There and back. -/
theorem phys_back {n a : Int} (h : Fits n) (hp : physB n a = true) : logicB n (physN n a) = true ∧ logicN n (physN n a) = a ∧ regN n (physN n a) = 7 ∧ 0 ≤ physN n a ∧ physN n a < n := by
  obtain ⟨a0, a1, he⟩ := phys_true hp
  obtain ⟨z1, z2, _, _⟩ := lz_le n h
  obtain ⟨s1, s2, s3, _⟩ := lseg_le n h
  obtain ⟨l1, l2⟩ := logic_of (n := n) (a := physN n a) h (by omega) (by omega) (by omega)
  exact ⟨l1, by rw [l2]; omega, (reg_seg n _ h).2 ⟨by omega, by omega⟩, by omega, by omega⟩
theorem phys_rise {n a b : Int} (ha : physB n a = true) (hb : physB n b = true) : (decide (a < b)) = decide (physN n a < physN n b) := by
  obtain ⟨a0, a1, ea⟩ := phys_true ha
  obtain ⟨b0, b1, eb⟩ := phys_true hb
  rw [decide_eq_decide]
  omega
theorem logic_back {n a : Int} (h : Fits n) (hp : logicB n a = true) : physB n (logicN n a) = true ∧ physN n (logicN n a) = a ∧ I64 (logicN n a) := by
  obtain ⟨q1, q2, q3, he⟩ := logic_true h hp
  obtain ⟨z1, z2, _, _⟩ := lz_le n h
  obtain ⟨s1, s2, s3, _⟩ := lseg_le n h
  obtain ⟨p1, p2⟩ := phys_of (n := n) (a := logicN n a) (by omega) (by omega)
  exact ⟨p1, by rw [p2]; omega, by unfold I64; omega⟩

theorem lplaces_no (C : LayC) (n a b : Int) (w : World) (hn : I64 n) (h : ¬ Fits n) :
    Calls Try.prog 4 #[.int .i64 n, .int .i64 a, .int .i64 b] w fun e w' => e = .returned (.bool true) ∧ Below w.heap.size w w' := by
  have HP := hide (C.plan n w hn)
  rw [(plan_not h).1, (plan_not h).2] at HP
  unfold layZ at HP
  have HA := hide (fun w' => lawake_any C w')
  clear h hn
  go_enter Try.func4, Try.ntmps4
  go_wp2_with fail
  refine Calls.mono (unhide HP) ?_
  rintro e w1 ⟨rfl, hb1⟩
  go_wp2_with fail
  refine Calls.mono (unhide HA _) ?_
  rintro e w2 ⟨rfl, hb2⟩
  have hB : Below w.heap.size w (w1.alloc (.cells #[.int .i64 0, .int .i64 0, .int .i64 0, .int .i64 0, .int .i64 0, .int .i64 0, .int .i64 0, .int .i64 0, .int .i64 0] 25)) := hb1.alloc hb1.size _
  have HB := hide (hB.trans (hb2.mono hB.size))
  clear hb1 hb2 hB
  go_wp2_with fail
  refine Calls.mono (unhide HA _) ?_
  rintro e w3 ⟨rfl, hb3⟩
  go_wp2
  go_ret
  exact ⟨rfl, (unhide HB).trans (hb3.mono (unhide HB).size)⟩

set_option maxHeartbeats 4000000 in
theorem lplaces_any (C : LayC) (n a b : Int) (w : World) (hn : I64 n) (ha : I64 a) (hb : I64 b) :
    Calls Try.prog 4 #[.int .i64 n, .int .i64 a, .int .i64 b] w fun e w' => e = .returned (.bool true) ∧ Below w.heap.size w w' := by
  by_cases h : Fits n
  · have HP := hide (C.plan n w hn)
    rw [(plan_fits h).1, (plan_fits h).2] at HP
    have HA := hide (fun w' => lawake_any C w')
    have L1 := hide (fun w' => C.phys n a w' h ha)
    have L2 := hide (fun w' => C.phys n b w' h hb)
    have L5 := hide (fun w' => C.logic n a w' h ha)
    have HBK : Hid (physB n a = true → (∀ w', Calls Try.prog 12 #[layV n, .int .i64 (physN n a)] w' fun e w'' => e = .returned (.tuple #[.int .i64 a, .bool true]) ∧ Below w'.heap.size w' w'') ∧ (∀ w', Calls Try.prog 14 #[layV n, .int .i64 (physN n a)] w' fun e w'' => e = .returned (.int .i64 7) ∧ Below w'.heap.size w' w'') ∧ 0 ≤ physN n a ∧ physN n a < n) := by
      intro hp
      obtain ⟨k1, k2, k3, k4, k5⟩ := phys_back h hp
      have hi : I64 (physN n a) := by have := h.2; unfold I64; omega
      refine ⟨fun w' => ?_, fun w' => ?_, k4, k5⟩
      · have := C.logic n (physN n a) w' h hi
        rw [k1, k2] at this
        exact this
      · have := C.region n (physN n a) w' h hi
        rw [k3] at this
        exact this
    have HRI : Hid (physB n a = true → physB n b = true → (decide (a < b)) = decide (physN n a < physN n b)) := fun p q => phys_rise p q
    have HLB : Hid (logicB n a = true → ∀ w', Calls Try.prog 10 #[layV n, .int .i64 (logicN n a)] w' fun e w'' => e = .returned (.tuple #[.int .i64 a, .bool true]) ∧ Below w'.heap.size w' w'') := by
      intro hp w'
      obtain ⟨k1, k2, k3⟩ := logic_back h hp
      have := C.phys n (logicN n a) w' h k3
      rw [k1, k2] at this
      exact this
    generalize physB n a = pa at *
    generalize physB n b = pb at *
    generalize logicB n a = la at *
    generalize physN n a = A at *
    generalize physN n b = B2 at *
    generalize logicN n a = Lc at *
    unfold layV at HP L1 L2 L5 HBK HLB
    generalize lz n = z at *
    generalize lseg n = m at *
    clear h hn ha hb
    go_enter Try.func4, Try.ntmps4
    go_wp2_with fail
    refine Calls.mono (unhide HP) ?_
    rintro e w1 ⟨rfl, hb1⟩
    obtain ⟨wB, hwB⟩ : ∃ wB, wB = w1.alloc (.cells #[.int .i64 n, .int .i64 3, .int .i64 13, .int .i64 z, .int .i64 (13 + z), .int .i64 (13 + 2 * z), .int .i64 z, .int .i64 (13 + 3 * z), .int .i64 m] 25) := ⟨_, rfl⟩
    have hxB : wB.heap[w1.heap.size]? = some (.cells #[.int .i64 n, .int .i64 3, .int .i64 13, .int .i64 z, .int .i64 (13 + z), .int .i64 (13 + 2 * z), .int .i64 z, .int .i64 (13 + 3 * z), .int .i64 m] 25 (0, 0)) := by rw [hwB]; exact heap_alloc_new _ _
    have hbB : Below w.heap.size w wB := by rw [hwB]; exact hb1.alloc hb1.size _
    have hxl : w1.heap.size < wB.heap.size := (Array.getElem?_eq_some_iff.1 hxB).1
    have HX := hide (fun W' (hb : Below wB.heap.size wB W') => nine_cells ((hb.block _ hxl).trans hxB))
    have HB := hide hbB
    have HWB := hide hwB
    clear HP hb1 hwB hxB hbB hxl
    go_wp2_with fail
    rw [← unhide HWB]
    generalize w1.heap.size = x at *
    refine Calls.mono (unhide HA _) ?_
    rintro e w2 ⟨rfl, hb2⟩
    obtain ⟨x0, x1, x2, x3, x4, x5, x6, x7, x8⟩ := unhide HX w2 hb2
    have HB2 := hide hb2
    clear hb2 HWB HA
    go_wp2_with fail
    refine Calls.mono (unhide L1 _) ?_
    rintro e w3 ⟨rfl, hb⟩
    have hb3 := (unhide HB2).trans (hb.mono (unhide HB2).size)
    clear x0 x1 x2 x3 x4 x5 x6 x7 x8
    obtain ⟨x0, x1, x2, x3, x4, x5, x6, x7, x8⟩ := unhide HX w3 hb3
    have HB3 := hide hb3
    clear hb hb3 HB2
    go_wp2_with fail
    refine Calls.mono (unhide L2 _) ?_
    rintro e w4 ⟨rfl, hb⟩
    have hb4 := (unhide HB3).trans (hb.mono (unhide HB3).size)
    clear x0 x1 x2 x3 x4 x5 x6 x7 x8
    obtain ⟨x0, x1, x2, x3, x4, x5, x6, x7, x8⟩ := unhide HX w4 hb4
    have HB4 := hide hb4
    clear hb hb4 HB3
    -- what follows of the second half, in whatever world
    cases pa with
    | false =>
      go_wp2_with fail
      refine Calls.mono (unhide L5 _) ?_
      rintro e w5 ⟨rfl, hb⟩
      have hb5 := (unhide HB4).trans (hb.mono (unhide HB4).size)
      clear x0 x1 x2 x3 x4 x5 x6 x7 x8
      obtain ⟨x0, x1, x2, x3, x4, x5, x6, x7, x8⟩ := unhide HX w5 hb5
      have HB5 := hide hb5
      clear hb hb5 HB4
      cases la with
      | false =>
        go_wp2
        go_ret
        exact ⟨rfl, (unhide HB).trans ((unhide HB5).mono (unhide HB).size)⟩
      | true =>
        have HL2 := hide (unhide HLB rfl)
        clear HLB
        go_wp2_with fail
        refine Calls.mono (unhide HL2 _) ?_
        rintro e w6 ⟨rfl, hb6⟩
        go_wp2
        go_ret
        exact ⟨by simp, (unhide HB).trans (((unhide HB5).trans (hb6.mono (unhide HB5).size)).mono (unhide HB).size)⟩
    | true =>
      obtain ⟨hk1, hk2, hk3, hk4⟩ := unhide HBK rfl
      have HK1 := hide hk1
      have HK2 := hide hk2
      have hA0 : ¬ A < 0 := by omega
      have hAn : ¬ n ≤ A := by omega
      have HR2 := hide (fun hq => unhide HRI rfl hq)
      clear HBK HRI hk1 hk2 hk3 hk4
      go_wp2_with fail
      refine Calls.mono (unhide HK1 _) ?_
      rintro e w5 ⟨rfl, hb⟩
      have hb5 := (unhide HB4).trans (hb.mono (unhide HB4).size)
      clear x0 x1 x2 x3 x4 x5 x6 x7 x8
      obtain ⟨x0, x1, x2, x3, x4, x5, x6, x7, x8⟩ := unhide HX w5 hb5
      have HB5 := hide hb5
      clear hb hb5 HB4
      go_wp2_with fail
      refine Calls.mono (unhide HK2 _) ?_
      rintro e w6 ⟨rfl, hb⟩
      have hb6 := (unhide HB5).trans (hb.mono (unhide HB5).size)
      clear x0 x1 x2 x3 x4 x5 x6 x7 x8
      obtain ⟨x0, x1, x2, x3, x4, x5, x6, x7, x8⟩ := unhide HX w6 hb6
      have HB6 := hide hb6
      clear hb hb6 HB5
      have hrise : pb = true → (decide (a < b)) = decide (A < B2) := unhide HR2
      have hcmp : pb = false ∨ (pb = true ∧ a < b ∧ A < B2) ∨ (pb = true ∧ ¬ a < b ∧ ¬ A < B2) := by
        cases pb with
        | false => exact Or.inl rfl
        | true =>
          have := hrise rfl
          rw [decide_eq_decide] at this
          by_cases hab : a < b
          · exact Or.inr (Or.inl ⟨rfl, hab, this.1 hab⟩)
          · exact Or.inr (Or.inr ⟨rfl, hab, fun hc => hab (this.2 hc)⟩)
      clear hrise HR2
      rcases hcmp with hpb | ⟨hpb, hl1, hl2⟩ | ⟨hpb, hl1, hl2⟩
      all_goals
        subst hpb
        go_wp2_with fail
        try (rename_i hf; exfalso; revert hf; rw [decide_eq_false (show ¬ a < b by omega), decide_eq_false (show ¬ A < B2 by omega)]; exact fun hf => nomatch hf)
        refine Calls.mono (unhide L5 _) ?_
        rintro e w7 ⟨rfl, hb⟩
        have hb7 := (unhide HB6).trans (hb.mono (unhide HB6).size)
        clear x0 x1 x2 x3 x4 x5 x6 x7 x8
        obtain ⟨x0, x1, x2, x3, x4, x5, x6, x7, x8⟩ := unhide HX w7 hb7
        have HB7 := hide hb7
        clear hb hb7 HB6
        cases la with
        | false =>
          go_wp2
          go_ret
          exact ⟨rfl, (unhide HB).trans ((unhide HB7).mono (unhide HB).size)⟩
        | true =>
          have HL2 := hide (unhide HLB rfl)
          clear HLB
          go_wp2_with fail
          refine Calls.mono (unhide HL2 _) ?_
          rintro e w8 ⟨rfl, hb8⟩
          go_wp2
          go_ret
          exact ⟨by simp, (unhide HB).trans (((unhide HB7).trans (hb8.mono (unhide HB7).size)).mono (unhide HB).size)⟩
  · exact lplaces_no C n a b w hn h
end Go.Proofs.Ytpjgkdegkodpmaa
