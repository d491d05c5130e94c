/- Texts of ours, one behind the other: BatMay1, BatMay2. -/
import Derived.Test.YtehnjanllemnlaaG5
import Derived.Test.YtehnjanllemnlaaG7
import Derived.BigQuiet
import Derived.BigRegion
/- The landed package batch: which changes may be. -/
namespace Go.Proofs.Ytehnjanllemnlaa
open Go.RowKit

theorem bwithin_any (v lo hi : Int) (w : World) : Calls Try.prog 57 #[.int .i64 v, .int .i64 lo, .int .i64 hi] w fun e w' => e = .returned (.bool (decide (lo ≤ v) && decide (v ≤ hi))) ∧ w' = w := by
  go_enter Try.func57, Try.ntmps57
  go_wp2
  all_goals
    go_ret
    refine ⟨?_, rfl⟩
    simp <;> omega
theorem bmayplace_any (v : Int) (w : World) : Calls Try.prog 64 #[.int .i64 v] w fun e w' => e = .returned (.bool (decide (0 ≤ v) && decide (v ≤ 65536))) ∧ w' = w := by
  go_enter Try.func64, Try.ntmps64
  go_wp2_with (go_at_call 57; refine Calls.mono (bwithin_any _ _ _ _) ?_; rintro e w1 ⟨rfl, rfl⟩)
  go_ret
  exact ⟨rfl, rfl⟩
theorem kmayB_eq (a : ByteArray) : kmay a = kmayB a := rfl
set_option maxRecDepth 20000 in
set_option maxHeartbeats 1000000 in
theorem bmaychange_any (c : Chg) (w : World) : Calls Try.prog 67 #[chgV c] w fun e w' => e = .returned (.bool (mayChg c)) ∧ Below w.heap.size w w' := by
  obtain ⟨key, ser, pos, len, del⟩ := c
  unfold mayChg chgV
  simp only
  have hk := fun w => kmay_any key w
  rw [kmayB_eq] at hk
  generalize kmayB key = K at *
  have HB := hide (fun o => (Below.refl w.heap.size w).alloc (Nat.le_refl _) o)
  cases K with
  | false =>
    go_enter Try.func67, Try.ntmps67
    go_wp2_with (go_at_call 45; refine Calls.mono (hk _) ?_; rintro e w1 ⟨rfl, rfl⟩)
    all_goals
      go_ret
      exact ⟨rfl, unhide HB _⟩
  | true =>
    cases del with
    | true =>
      go_enter Try.func67, Try.ntmps67
      go_wp2_with (go_at_call 45; refine Calls.mono (hk _) ?_; rintro e w1 ⟨rfl, rfl⟩)
      all_goals
        go_ret
        refine ⟨?_, unhide HB _⟩
        simp [zeroRef] <;> omega
    | false =>
      go_enter Try.func67, Try.ntmps67
      go_wp2_with (first
        | (go_at_call 45; refine Calls.mono (hk _) ?_; rintro e w1 ⟨rfl, rfl⟩)
        | (go_at_call 64; refine Calls.mono (bmayplace_any _ _) ?_; rintro e w1 ⟨rfl, rfl⟩)
        | (go_at_call 57; refine Calls.mono (bwithin_any _ _ _ _) ?_; rintro e w1 ⟨rfl, rfl⟩))
      all_goals
        go_ret
        refine ⟨?_, unhide HB _⟩
        simp [mayRef] <;> omega
end Go.Proofs.Ytehnjanllemnlaa

/- The landed package batch: which lists of changes may be. -/
namespace Go.Proofs.Ytehnjanllemnlaa
open Go.RowKit

/-- A region that draws its order, by a class of worlds that all its operations keep: one walk, in the order of the text. -/
theorem region_calm {P : Program} {id : Nat} {Q : Exit → Act → World → Prop} {a : Act} {w : World} {l : List Oper} (C : World → Prop) (hm : P.follows .mixedOrders = true) (hB : Region.lexB .any l.toArray = true) (hC : C { w with drawn := w.drawn + 1 })
    (h : wpQuiet P l.toArray C (fun a' => ∀ w', C w' → Q .normal a' w') l a) : (Code.region id l.toArray true).wp P Q a w :=
  wp_region_quiet hm hB hC (by simpa using h)

theorem rise_step {l : List Chg} {k : Nat} (h : k < l.length) (hp : ∀ i (hi : i < l.length), i < k → mayChg l[i] = true ∧ (0 < i → tl (l[i - 1]'(by omega)).key.toList l[i].key.toList = true))
    (h1 : mayChg l[k] = true) (h2 : ∀ (h0 : 0 < k), tl (l[k - 1]'(by omega)).key.toList l[k].key.toList = true) :
    ∀ i (hi : i < l.length), i < k + 1 → mayChg l[i] = true ∧ (0 < i → tl (l[i - 1]'(by omega)).key.toList l[i].key.toList = true) := by
  intro i hi hk
  by_cases e : i = k
  · subst e; exact ⟨h1, h2⟩
  · exact hp i hi (by omega)

set_option maxRecDepth 20000 in
set_option maxHeartbeats 4000000 in
theorem bmaychanges_any (v : Value) (l : List Chg) (w : World) (hl : CL w v l) : Calls Try.prog 58 #[v] w fun e w' => e = .returned (.bool (riseB l)) ∧ Below w.heap.size w w' := by
  by_cases h0 : l.length = 0
  · obtain rfl : l = [] := List.eq_nil_of_length_eq_zero h0
    obtain ⟨p, c, rfl, _⟩ := KRow.shape hl
    rw [riseB_true (fun i h => absurd h (by simp))]
    simp only [List.length_nil]
    go_enter Try.func58, Try.ntmps58
    go_wp2
    refine wp_loop_rounds 1 ?_
    rw [rounds_succ]
    go_wp2
    go_ret
    exact ⟨rfl, Below.refl _ _⟩
  obtain ⟨b, off, cap, rfl, hc1, hc2, hcell⟩ := hl.open (by omega)
  have HC := hide (fun w' (hb : Below w.heap.size w w') j (hj : j < l.length) => show w'.cell? ⟨b, off + j * 5, none⟩ = some (.string l[j].key) ∧ w'.cell? ⟨b, off + j * 5 + 1, none⟩ = some (.int .u64 (l[j].ser : Int)) ∧
      w'.cell? ⟨b, off + j * 5 + 2, none⟩ = some (.int .i64 l[j].pos) ∧ w'.cell? ⟨b, off + j * 5 + 3, none⟩ = some (.int .i64 l[j].len) ∧ w'.cell? ⟨b, off + j * 5 + 4, none⟩ = some (.bool l[j].del) from by
    obtain ⟨a0, a1, a2, a3, a4⟩ := hcell j hj
    have hlt := World.block_lt_of_cell? w _ a0
    have hc := fun i => hb.cell (p := ⟨b, i, none⟩) hlt
    exact ⟨(hc _).trans a0, (hc _).trans a1, (hc _).trans a2, (hc _).trans a3, (hc _).trans a4⟩)
  unfold maxLen at hc2
  have hl0 : (l.length : Int) ≤ 9223372036854775807 := by omega
  clear hcell hl
  go_enter Try.func58, Try.ntmps58
  go_wp2
  go_loopw [7] (fun i wr => ∃ k : Nat, k ≤ l.length ∧ i = .int .i64 k ∧ Hid (∀ i (hi : i < l.length), i < k → mayChg l[i] = true ∧ (0 < i → tl (l[i - 1]'(by omega)).key.toList l[i].key.toList = true)) ∧ Hid (Below w.heap.size w wr)) (fun i _ => l.length - (intOf i).toNat)
  case atStart => exact ⟨0, Nat.zero_le _, rfl, fun i _ h => absurd h (by omega), Below.refl _ _⟩
  case round =>
    obtain ⟨k, hk, rfl, hp, hbel⟩ := hrel
    by_cases hlt : k < l.length
    · obtain ⟨a0, a1, a2, a3, a4⟩ := unhide HC wr (unhide hbel) k hlt
      have hkl : (k : Int) < l.length := by omega
      have HST := hide (fun h1 h2 => rise_step hlt (unhide hp) h1 h2)
      have HN1 := hide (fun (h1 : mayChg l[k] = false) => show riseB l = false from riseB_false (fun h => by have := (h k hlt).1; rw [h1] at this; cases this))
      have HN2 := hide (fun (h0 : 0 < k) (h1 : tl (l[k - 1]'(by omega)).key.toList l[k].key.toList = false) => show riseB l = false from riseB_false (fun h => by have := (h k hlt).2 h0; rw [h1] at this; cases this))
      have HPV := hide (fun (h0 : 0 < k) => (unhide HC wr (unhide hbel) (k - 1) (by omega)).1)
      have HMC := hide (fun w' => bmaychange_any l[k] w')
      unfold chgV at HMC
      generalize hM : mayChg l[k] = M at *
      generalize hK : l[k] = C at *
      obtain ⟨W1, hW1⟩ : ∃ W1, W1 = wr.alloc (.cells #[.string C.key, .int .u64 (C.ser : Int), .int .i64 C.pos, .int .i64 C.len, .bool C.del] 54) := ⟨_, rfl⟩
      have hb1 : Below wr.heap.size wr W1 := by rw [hW1]; exact (Below.refl _ _).alloc (Nat.le_refl _) _
      have hBW : Below w.heap.size w W1 := (unhide hbel).trans (hb1.mono (unhide hbel).size)
      have hn5 : W1.cell? ⟨wr.heap.size, 0, none⟩ = some (.string C.key) ∧ W1.cell? ⟨wr.heap.size, 1, none⟩ = some (.int .u64 (C.ser : Int)) ∧ W1.cell? ⟨wr.heap.size, 2, none⟩ = some (.int .i64 C.pos) ∧ W1.cell? ⟨wr.heap.size, 3, none⟩ = some (.int .i64 C.len) ∧ W1.cell? ⟨wr.heap.size, 4, none⟩ = some (.bool C.del) := by
        rw [hW1]; simp
      obtain ⟨CC, hCC⟩ : ∃ CC : World → Prop, CC = fun w' => Below W1.heap.size W1 w' := ⟨_, rfl⟩
      have HC0 : Hid (CC { W1 with drawn := W1.drawn + 1 }) := by
        unfold Hid
        rw [hCC]
        exact (Below.refl _ _).drew
      have hW1l : wr.heap.size < W1.heap.size := World.block_lt_of_cell? W1 _ hn5.1
      have HCC : Hid (∀ w', CC w' → w'.cell? ⟨wr.heap.size, 0, none⟩ = some (.string C.key) ∧ w'.cell? ⟨wr.heap.size, 1, none⟩ = some (.int .u64 (C.ser : Int)) ∧ w'.cell? ⟨wr.heap.size, 2, none⟩ = some (.int .i64 C.pos) ∧ w'.cell? ⟨wr.heap.size, 3, none⟩ = some (.int .i64 C.len) ∧ w'.cell? ⟨wr.heap.size, 4, none⟩ = some (.bool C.del)) := by
        unfold Hid
        rw [hCC]
        intro w' hb
        have hc := fun i => hb.cell (p := ⟨wr.heap.size, i, none⟩) hW1l
        exact ⟨(hc _).trans hn5.1, (hc _).trans hn5.2.1, (hc _).trans hn5.2.2.1, (hc _).trans hn5.2.2.2.1, (hc _).trans hn5.2.2.2.2⟩
      have HCW : Hid (∀ w', CC w' → Below w.heap.size w w') := by
        unfold Hid
        rw [hCC]
        exact fun w' hb => hBW.trans (hb.mono hBW.size)
      have HCP : Hid (∀ w' (h0 : 0 < k), CC w' → w'.cell? ⟨b, off + (k - 1) * 5, none⟩ = some (.string (l[k - 1]'(by omega)).key)) := by
        unfold Hid
        rw [hCC]
        intro w' h0 hb
        have c0 := unhide HPV h0
        have c1 := (hb1.cell (World.block_lt_of_cell? wr _ c0)).trans c0
        exact (hb.cell (World.block_lt_of_cell? W1 _ c1)).trans c1
      have HMC2 : Hid (∀ w', CC w' → Calls Try.prog 67 #[.agg #[.string C.key, .int .u64 (C.ser : Int), .int .i64 C.pos, .int .i64 C.len, .bool C.del]] w' fun e w'' => e = .returned (.bool M) ∧ CC w'') := by
        unfold Hid
        rw [hCC]
        exact fun w' hb => (unhide HMC w').mono fun e w'' hx => ⟨hx.1, hb.trans (hx.2.mono hb.size)⟩
      clear hCC hn5 hb1 hBW HMC HPV hW1l hK
      have HW1 := hide hW1
      clear hW1
      cases M with
      | false =>
        have HN := hide (unhide HN1 rfl)
        clear HN1 HN2 HST HCP hM
        go_wp2_with fail
        rw [← unhide HW1]
        refine region_calm CC (by kernel_rfl) (by kernel_rfl) (unhide HC0) ?_
        repeat (first
          | go_big_quiet_skip
          | (go_big_quiet_want
             apply Exists.intro
             refine ⟨fun w' hw' => ?_, ?_⟩
             · obtain ⟨c0, c1, c2, c3, c4⟩ := unhide HCC w' hw'
               go_simp
               first | done | rfl | exact unhide HMC2 w' hw'
             simp only [Act.put, List.setIfInBounds_toArray, List.set_cons_zero, List.set_cons_succ]
             go_big_quiet_on))
        refine wpQuiet_nil ?_
        intro w' hw'
        have HBW := hide (unhide HCW w' hw')
        go_wp2
        go_ret
        exact ⟨by rw [unhide HN]; rfl, unhide HBW⟩
      | true =>
        by_cases hk0 : k = 0
        · subst hk0
          simp only [Nat.zero_mul, Nat.add_zero] at a0 a1 a2 a3 a4
          have HS := hide (unhide HST rfl (fun h => absurd h (by omega)))
          clear HN1 HN2 HST HCP hM
          go_wp2_with fail
          rw [← unhide HW1]
          refine region_calm CC (by kernel_rfl) (by kernel_rfl) (unhide HC0) ?_
          repeat (first
            | go_big_quiet_skip
            | (go_big_quiet_want
               apply Exists.intro
               refine ⟨fun w' hw' => ?_, ?_⟩
               · obtain ⟨c0, c1, c2, c3, c4⟩ := unhide HCC w' hw'
                 go_simp
                 first | done | rfl | exact unhide HMC2 w' hw'
               simp only [Act.put, List.setIfInBounds_toArray, List.set_cons_zero, List.set_cons_succ]
               go_big_quiet_on))
          refine wpQuiet_nil ?_
          intro w' hw'
          have HBW := hide (unhide HCW w' hw')
          go_wp2
          go_roundw
          case rel => exact ⟨0 + 1, by omega, by go_num, unhide HS, HBW⟩
          case measure => simp [intOf]; omega
        · obtain ⟨m, rfl⟩ : ∃ m, k = m + 1 := ⟨k - 1, by omega⟩
          simp only [Nat.add_sub_cancel] at HCP HST HN2
          have HCP2 := hide (fun w' hw => unhide HCP w' (by omega) hw)
          have hm1 : (m : Int) < l.length := by omega
          have hwm : IntKind.i64.wrap (m : Int) = m := by rw [IntKind.wrap_i64]; omega
          cases hT : tl (l[m]'(by omega)).key.toList C.key.toList with
          | false =>
            have HN := hide (unhide HN2 (by omega) hT)
            have HKL := hide (fun w => kless_any (l[m]'(by omega)).key C.key w)
            rw [hT] at HKL
            generalize (l[m]'(by omega)).key = KM at *
            clear HN1 HN2 HST HCP hM hT
            go_wp2_with fail
            rw [← unhide HW1]
            refine region_calm CC (by kernel_rfl) (by kernel_rfl) (unhide HC0) ?_
            repeat (first
              | go_big_quiet_skip
              | (go_big_quiet_want
                 apply Exists.intro
                 refine ⟨fun w' hw' => ?_, ?_⟩
                 · obtain ⟨c0, c1, c2, c3, c4⟩ := unhide HCC w' hw'
                   have c5 := unhide HCP2 w' hw'
                   go_simp
                   first | done | rfl | exact unhide HMC2 w' hw' | exact Calls.mono (unhide HKL w') (fun e w'' hx => ⟨hx.1, hx.2 ▸ hw'⟩)
                 simp only [Act.put, List.setIfInBounds_toArray, List.set_cons_zero, List.set_cons_succ]
                 go_big_quiet_on))
            refine wpQuiet_nil ?_
            intro w' hw'
            have HBW := hide (unhide HCW w' hw')
            go_wp2
            go_ret
            exact ⟨by rw [unhide HN]; rfl, unhide HBW⟩
          | true =>
            have HS := hide (unhide HST (by first | rfl | trivial) (fun _ => hT))
            have HKL := hide (fun w => kless_any (l[m]'(by omega)).key C.key w)
            rw [hT] at HKL
            generalize (l[m]'(by omega)).key = KM at *
            clear HN1 HN2 HST HCP hM hT
            go_wp2_with fail
            rw [← unhide HW1]
            refine region_calm CC (by kernel_rfl) (by kernel_rfl) (unhide HC0) ?_
            repeat (first
              | go_big_quiet_skip
              | (go_big_quiet_want
                 apply Exists.intro
                 refine ⟨fun w' hw' => ?_, ?_⟩
                 · obtain ⟨c0, c1, c2, c3, c4⟩ := unhide HCC w' hw'
                   have c5 := unhide HCP2 w' hw'
                   go_simp
                   first | done | rfl | exact unhide HMC2 w' hw' | exact Calls.mono (unhide HKL w') (fun e w'' hx => ⟨hx.1, hx.2 ▸ hw'⟩)
                 simp only [Act.put, List.setIfInBounds_toArray, List.set_cons_zero, List.set_cons_succ]
                 go_big_quiet_on))
            refine wpQuiet_nil ?_
            intro w' hw'
            have HBW := hide (unhide HCW w' hw')
            go_wp2
            go_roundw
            case rel => exact ⟨m + 1 + 1, by omega, by go_num, unhide HS, HBW⟩
            case measure => simp [intOf]; omega
    · obtain rfl : k = l.length := by omega
      have HR := hide (riseB_true (fun i h => unhide hp i h h))
      clear hp
      go_wp2
      go_ret
      exact ⟨by rw [unhide HR]; rfl, unhide hbel⟩
end Go.Proofs.Ytehnjanllemnlaa
