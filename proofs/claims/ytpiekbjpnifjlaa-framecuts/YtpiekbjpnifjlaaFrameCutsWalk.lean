/- The walk of the law FrameCuts. -/
import Derived.Test.YtpiekbjpnifjlaaFrRef3
import Derived.Test.YtpiekbjpnifjlaaFrHelp
import Derived.Test.YtpiekbjpnifjlaaFrAwake
import Derived.Test.YtpiekbjpnifjlaaHelp
namespace Go.Proofs.Ytpiekbjpnifjlaa
open Go.RowKit

theorem Keep.setCell {F : Nat → Prop} {w w' : World} (h : Keep F w w') {p : Addr} (hp : F p.block) (v : Value) : Keep F w (w'.setCell p v) := by
  have hb : Below p.block w' (w'.setCell p v) := (Below.refl _ _).setCell (Nat.le_refl _) v
  refine ⟨hb.os.trans h.os, hb.tape.trans h.tape, hb.output.trans h.output, Nat.le_trans h.size hb.size, fun k hk hF => ?_⟩
  have hne : k ≠ p.block := fun e => hF (by rw [e]; exact hp)
  rw [Below.heap_setCell _ _ _ _ hne]
  exact h.block k hk hF

set_option maxRecDepth 20000 in
theorem spoil_keep (g n c : Nat) (w : World) (hc : n ≤ c) (hm : c ≤ maxLen) (e : TypeId) (cur : Array Value) (hh : w.heap[g]? = some (.cells cur e (0, 0))) (hint : ∀ j, j < n → ∃ z : Int, cur[j]? = some (.int .u8 z)) :
    Calls Try.prog 18 #[.slice (some ⟨g, 0, none⟩) n c] w fun x w' => x = .returned (.tuple #[]) ∧ Keep (fun b => b = g) w w' := by
  unfold maxLen at hm
  go_enter Try.func18, Try.ntmps18
  go_wp2
  go_loopw [2] (fun i wr => ∃ (k : Nat) (cur : Array Value), k ≤ n ∧ i = .int .i64 k ∧ wr.heap[g]? = some (.cells cur e (0, 0)) ∧ Hid (∀ j, j < n → ∃ z : Int, cur[j]? = some (.int .u8 z)) ∧ Hid (Keep (fun b => b = g) w wr))
    (fun i _ => n - (intOf i).toNat)
  case atStart => exact ⟨0, cur, Nat.zero_le _, rfl, hh, hint, Keep.refl _ _⟩
  case round =>
    obtain ⟨k, cur, hk, rfl, hblk, hint, hbel⟩ := hrel
    by_cases hlt : k < n
    · obtain ⟨z, hz⟩ := hint.out k hlt
      have hc : wr.cell? ⟨g, k, none⟩ = some (.int .u8 z) := by rw [cell_of_row wr g k cur _ (0, 0) hblk]; exact hz
      have hf : wr.frozen? ⟨g, k, none⟩ = false := frozen_of_block hblk
      have hsz : k < cur.size := (Array.getElem?_eq_some_iff.1 hz).1
      clear hz
      go_wp2
      go_roundw
      case rel =>
        refine ⟨k + 1, cur.setIfInBounds k _, by omega, by go_num, heap_setCell_same wr g k cur _ _ hblk, ?_, (unhide hbel).setCell rfl _⟩
        intro j hj
        by_cases hjk : k = j
        · subst hjk
          exact ⟨_, by rw [Array.getElem?_setIfInBounds_self_of_lt hsz]⟩
        · rw [Array.getElem?_setIfInBounds_ne (by omega)]
          exact hint.out j hj
      case measure => simp [intOf]; omega
    · have hkn : k = n := by omega
      subst hkn
      go_wp2
      go_end0
      exact ⟨rfl, unhide hbel⟩

/-- One part of them, for the walk. -/
theorem PartsAt.one {w : World} {g : Nat} {cur : Array Value} {blk : Nat → Nat} {ls : List (List UInt8)} (h : PartsAt w g cur blk ls ls.length) (hblk : w.heap[g]? = some (.cells cur 23 (0, 0))) (j : Nat) (hj : j < ls.length) :
    ∃ c, w.cell? ⟨g, j, none⟩ = some (.slice (some ⟨blk j, 0, none⟩) ls[j].length c) ∧ Row w (.slice (some ⟨blk j, 0, none⟩) ls[j].length c) ls[j] ∧ g < blk j ∧ blk j < w.heap.size ∧ ∃ cells : Array Value, w.heap[blk j]? = some (.cells cells 5 (0, 0)) ∧ (0 < ls[j].length → ∀ i, i < ls[j].length → ∃ z : Int, cells[i]? = some (.int .u8 z)) := by
  obtain ⟨c, cells, e1, e2, e3, e4⟩ := h.1 j hj hj
  refine ⟨c, by rw [cell_of_row w g j cur _ (0, 0) hblk]; exact e1, e2, e4, (Array.getElem?_eq_some_iff.1 e3).1, cells, e3, fun h0 i hi => ?_⟩
  obtain ⟨b', off', c', e', _, _, hc⟩ := e2.open (List.length_pos_iff.1 h0)
  simp only [Value.slice.injEq, Option.some.injEq, Addr.mk.injEq, and_true, true_and] at e'
  obtain ⟨⟨rfl, rfl⟩, _⟩ := e'
  have := hc i hi
  rw [Nat.zero_add, cell_of_row w _ i cells _ (0, 0) e3] at this
  exact ⟨(ls[j][i].toNat : Int), this⟩

/-- A part that has not been written over yet, where the first m have. -/
theorem parts_keep {w wq : World} {g m : Nat} {cur : Array Value} {blk : Nat → Nat} {ls : List (List UInt8)} (h : PartsAt w g cur blk ls ls.length) (hblk : w.heap[g]? = some (.cells cur 23 (0, 0)))
    (hk : Keep (fun b => ∃ j, j < m ∧ b = blk j) w wq) (k : Nat) (hmk : m ≤ k) (hkl : k < ls.length) :
    ∃ c, wq.cell? ⟨g, k, none⟩ = some (.slice (some ⟨blk k, 0, none⟩) ls[k].length c) ∧ Row wq (.slice (some ⟨blk k, 0, none⟩) ls[k].length c) ls[k] ∧ ∃ cells : Array Value, wq.heap[blk k]? = some (.cells cells 5 (0, 0)) ∧ (0 < ls[k].length → ∀ i, i < ls[k].length → ∃ z : Int, cells[i]? = some (.int .u8 z)) := by
  obtain ⟨c, h1, h2, h3, h4, cells, h5, h6⟩ := h.one hblk k hkl
  have hng : ¬ ∃ j, j < m ∧ g = blk j := by
    rintro ⟨j, hj, e⟩
    obtain ⟨_, _, _, h3', _⟩ := h.one hblk j (by omega)
    omega
  have hnk : ¬ ∃ j, j < m ∧ blk k = blk j := by
    rintro ⟨j, hj, e⟩
    have := h.2 j k (by omega) hkl
    omega
  refine ⟨c, (hk.cell (p := ⟨g, k, none⟩) (World.block_lt_of_cell? w _ h1) hng).trans h1, h2.keep hk (fun b off c' e hne hf => ?_), cells, (hk.block _ h4 hnk).trans h5, h6⟩
  simp only [Value.slice.injEq, Option.some.injEq, Addr.mk.injEq, and_true, true_and] at e
  obtain ⟨⟨rfl, _⟩, _⟩ := e
  exact hnk hf
theorem Owned.keep {F : Nat → Prop} {w w' : World} {g : Nat} {bs : List UInt8} {f : UInt8} (h : Owned w g bs f) (hk : Keep F w w') (hn : ¬ F g) : Owned w' g bs f := (hk.block g h.lt hn).trans h

set_option maxRecDepth 20000 in
set_option maxHeartbeats 2000000 in
theorem fcuts_any (A C : Nat) (hA : A < 18446744073709551616) (hC : C < 18446744073709551616) (s : Value) (r : List UInt8) (w : World) (hs : Row w s r) (hroom : r.length ≤ 140737488351232) :
    Calls Try.prog 4 #[.int .u64 (A : Int), .int .u64 (C : Int), s] w fun e w' => e = .returned (.bool true) ∧ Below w.heap.size w w' := by
  have HOW := hide (own_any s r 71 71 rfl w hs hroom)
  have HCU := hide (fun g w' (ho : Owned w' g r 71) => cut_any A C hA hC (.slice (some ⟨g, 0, none⟩) r.length (r.length + 3)) r w' (ho.row (by unfold maxLen; omega)))
  have HRC := hide (fun w' (hb : Below w.heap.size w w') => rcut_any A C hA hC s r w' (hs.below hb))
  have HA := hide awake_any
  have HS := hide hs
  have HCL : Hid (∀ j (h : j < (cutL A C r).length), 0 < (cutL A C r)[j].length) := by
    intro j h
    by_cases h8 : 8192 < r.length
    · unfold cutL at h; rw [if_pos h8] at h; simp at h
    · rw [cutL_get A C r h8 j h]; exact bytesF_pos _
  have hlen : ((cutL A C r).length : Int) ≤ 19 := by
    by_cases h8 : 8192 < r.length
    · unfold cutL; rw [if_pos h8]; simp
    · rw [length_cutL A C r h8]; exact count_le (by omega)
  generalize cutE r = E at *
  generalize cutL A C r = ls at *
  obtain ⟨q, c, l, e0, hl⟩ := hs.shape
  subst e0
  subst hl
  clear hs
  have hee : (E != E) = false := by simp
  go_enter Try.func4, Try.ntmps4
  go_wp2_with fail
  refine Calls.mono (unhide HOW) ?_
  rintro e w1 ⟨g0, rfl, hg0, ho1, b1⟩
  have HC1 := hide (unhide HCU g0 w1 ho1)
  have HO1 := hide ho1
  have HB1 := hide b1
  have hlt1 := ho1.lt
  have hs01 := b1.size
  clear b1 ho1 HCU HOW
  go_wp2_with fail
  refine Calls.mono (unhide HC1) ?_
  rintro e w2 ⟨v2, rfl, hp2, b2⟩
  have B2 := (unhide HB1).trans (b2.mono (unhide HB1).size)
  have HR2 := hide (unhide HRC w2 B2)
  have HO2 := hide ((unhide HO1).below b2)
  have HB2 := hide B2
  have hs12 := b2.size
  clear b2 B2 HC1 HRC HO1 HB1
  rcases hp2 with ⟨_, hv2, hls⟩ | ⟨_, g, cur, blk, hv2, hlo, hblk2, hcs, hpa2⟩
  · subst hv2 hls
    go_wp2_with fail
    refine Calls.mono (unhide HR2) ?_
    rintro e w3 ⟨v3, rfl, hr3, b3⟩
    have B3 := (unhide HB2).trans (b3.mono (unhide HB2).size)
    obtain ⟨p3, c3, e3, _⟩ := hr3.rows.shape
    subst e3
    have HO3 := hide ((unhide HO2).below b3)
    have HR3 := hide hr3
    have HB3 := hide B3
    clear b3 B3 hr3 HR2 HO2 HB2
    go_wp2_with fail
    refine Calls.mono (unhide HA _) ?_
    rintro e w4 ⟨rfl, b4⟩
    have HL := hide (lists_any (.slice none 0 0) _ [] w4 (Rows2.nil _) ((unhide HR3).below b4).rows)
    have HO4 := hide ((unhide HO3).below b4)
    have HB4 := hide ((unhide HB3).trans (b4.mono (unhide HB3).size))
    clear b4 HB3 HO3 HR3
    go_wp2_with fail
    refine Calls.mono (unhide HL) ?_
    rintro e w5 ⟨rfl, b5⟩
    have B5 := (unhide HB4).trans (b5.mono (unhide HB4).size)
    have HK := hide (kept_any g0 (.slice q r.length c) r 71 71 rfl w5 ((unhide HO4).below b5) ((unhide HS).below B5) hroom)
    have HB5 := hide B5
    clear b5 B5 HB4 HO4
    go_wp2_with fail
    refine wp_loop_rounds 1 ?_
    rw [rounds_succ]
    go_wp2_with fail
    refine Calls.mono (unhide HK) ?_
    rintro e w6 ⟨rfl, b6⟩
    go_wp2
    go_ret
    exact ⟨rfl, (unhide HB5).trans (b6.mono (unhide HB5).size)⟩
  · subst hv2
    have HP2 := hide (And.intro hblk2 hpa2)
    have HBS : Hid (∀ j, j < ls.length → g < blk j ∧ blk j < w2.heap.size) := fun j hj => by
      obtain ⟨_, _, _, h3, h4, _⟩ := hpa2.one hblk2 j hj
      exact ⟨h3, h4⟩
    clear hblk2 hpa2
    go_wp2_with fail
    refine Calls.mono (unhide HR2) ?_
    rintro e w3 ⟨v3, rfl, hr3, b3⟩
    have B3 := (unhide HB2).trans (b3.mono (unhide HB2).size)
    obtain ⟨p3, c3, e3, hc3, hm3, _⟩ := hr3.rows.shape
    subst e3
    have hg2 : g < w2.heap.size := (Array.getElem?_eq_some_iff.1 (unhide HP2).1).1
    have HO3 := hide ((unhide HO2).below b3)
    have HP3 := hide (And.intro ((b3.block g hg2).trans (unhide HP2).1) ((unhide HP2).2.below b3))
    have HR3 := hide hr3
    have HB3 := hide B3
    have hs23 := b3.size
    clear b3 B3 hr3 HR2 HO2 HB2 HP2
    go_wp2_with fail
    refine Calls.mono (unhide HA _) ?_
    rintro e w4 ⟨rfl, b4⟩
    have hP4 := And.intro ((b4.block g (by omega)).trans (unhide HP3).1) ((unhide HP3).2.below b4)
    have hpr : Parts w4 w1.heap.size (.slice (some ⟨g, 0, none⟩) ls.length ls.length) ls := ⟨g, cur, blk, rfl, hlo, hP4.1, hcs, hP4.2⟩
    have HL := hide (lists_any _ _ ls w4 (hpr.rows (by unfold maxLen; omega)) ((unhide HR3).below b4).rows)
    have HO4 := hide ((unhide HO3).below b4)
    have HR4 := hide ((unhide HR3).below b4)
    have HP4 := hide hP4
    have HB4 := hide ((unhide HB3).trans (b4.mono (unhide HB3).size))
    have hs34 := b4.size
    clear b4 HB3 HO3 HR3 hpr hP4 HP3
    go_wp2_with fail
    refine Calls.mono (unhide HL) ?_
    rintro e w5 ⟨rfl, b5⟩
    have HB5 := hide ((unhide HB4).trans (b5.mono (unhide HB4).size))
    have HP5 := hide (And.intro ((b5.block g (by omega)).trans (unhide HP4).1) ((unhide HP4).2.below b5))
    have HO5 := hide ((unhide HO4).below b5)
    have HR5 := hide ((unhide HR4).below b5)
    have hs45 := b5.size
    clear b5 HB4 HO4 HR4 HP4 HL
    go_wp2_with fail
    go_loopw [12] (fun i wr => ∃ m : Nat, m ≤ ls.length ∧ i = .int .i64 m ∧ Hid (Keep (fun b => ∃ j, j < m ∧ b = blk j) w5 wr)) (fun i _ => ls.length - (intOf i).toNat)
    case atStart => exact ⟨0, Nat.zero_le _, rfl, Keep.refl _ _⟩
    case round =>
      obtain ⟨m, hm, rfl, hK⟩ := hrel
      by_cases hlt : m < ls.length
      · obtain ⟨ci, d0, r0, cells, hb0, hint⟩ := parts_keep (unhide HP5).2 (unhide HP5).1 (unhide hK) m (Nat.le_refl _) hlt
        have hcc : ls[m].length ≤ ci ∧ ci ≤ maxLen := by
          obtain ⟨_, cc, ee, h1, h2, _⟩ := r0
          simp only [Value.slice.injEq, true_and] at ee
          obtain ⟨_, rfl⟩ := ee
          exact ⟨h1, h2⟩
        have hpos := unhide HCL m hlt
        have HSP := hide (spoil_keep (blk m) ls[m].length ci wr hcc.1 hcc.2 _ cells hb0 (hint hpos))
        have hml : (m : Int) < ls.length := by omega
        clear r0 hb0 hint hcc
        generalize ls[m].length = L at *
        go_wp2_with fail
        refine Calls.mono (unhide HSP) ?_
        rintro e w6 ⟨rfl, k6⟩
        have hK6 : Keep (fun b => ∃ j, j < m + 1 ∧ b = blk j) w5 w6 := by
          have h1 : Keep (fun b => ∃ j, j < m + 1 ∧ b = blk j) w5 wr := (unhide hK).weak (fun b ⟨j, hj, e⟩ => ⟨j, by omega, e⟩)
          refine h1.trans k6 (fun b hb => Or.inl ⟨m, by omega, hb⟩)
        have HK6 := hide hK6
        clear k6 hK6 HSP d0 hK
        go_wp2_with fail
        go_loopw [13] (fun i wq => ∃ k : Nat, m + 1 ≤ k ∧ k ≤ ls.length ∧ i = .int .i64 k ∧ Hid (Below w6.heap.size w6 wq)) (fun i _ => ls.length - (intOf i).toNat)
        case atStart => exact ⟨m + 1, Nat.le_refl _, by omega, by go_num, Below.refl _ _⟩
        case round =>
          obtain ⟨k, hk1, hk2, rfl, hbq⟩ := hrel
          have hKq : Keep (fun b => ∃ j, j < m + 1 ∧ b = blk j) w5 wr := (unhide HK6).trans (Keep.of_below (F := fun _ => False) (unhide hbq)) (fun b hb => hb.elim)
          by_cases hlk : k < ls.length
          · obtain ⟨ck, d1, r1, _⟩ := parts_keep (unhide HP5).2 (unhide HP5).1 hKq k hk1 hlk
            have hRq := ((unhide HR5).keep hKq (fun b ⟨j, hj, e⟩ => by have := (unhide HBS j (by omega)).2; omega)).rows
            obtain ⟨b3', o3, c3', e3', _, _, hc3'⟩ := hRq.open (by intro e; rw [e] at hlk; simp at hlk)
            simp only [Value.slice.injEq, true_and] at e3'
            obtain ⟨rfl, rfl⟩ := e3'
            obtain ⟨v3, d2, r2⟩ := hc3' k hlk
            have HBY := hide (fun n => bytes_any (.slice (some ⟨blk k, 0, none⟩) ls[k].length ck) v3 ls[k] ls[k] (wr.drewN n) (r1.below (below_drewN (Below.refl _ _) n)) (r2.below (below_drewN (Below.refl _ _) n)))
            rw [show (ls[k] == ls[k]) = true by simp] at HBY
            have hk0 : (0 : Int) ≤ k := by omega
            have hkl : (k : Int) < ls.length := by omega
            clear r1 r2 hc3' hRq hKq
            go_wp2_with fail
            go_quiet ((go_at_call 14; exact Calls.quiet_of_same (unhide HBY _)))
            go_wp2
            go_roundw
            case rel => exact ⟨k + 1, by omega, by omega, by go_num, below_drewN (unhide hbq) _⟩
            case measure => simp [intOf]; omega
          · have hkn : k = ls.length := by omega
            subst hkn
            have HKQ := hide hKq
            clear hKq
            go_wp2
            go_roundw
            case rel => exact ⟨m + 1, by omega, by go_num, unhide HKQ⟩
            case measure => simp [intOf]; omega
      · have hmn : m = ls.length := by omega
        subst hmn
        have hK' := unhide hK
        have Bq : Below w.heap.size w wr := by
          have h1 : Below w1.heap.size w5 wr := hK'.below (by omega) (fun b ⟨j, hj, e⟩ => by have := (unhide HBS j hj).1; omega)
          exact (unhide HB5).trans (h1.mono hs01)
        have HK := hide (kept_any g0 (.slice q r.length c) r 71 71 rfl wr ((unhide HO5).keep hK' (fun ⟨j, hj, e⟩ => by have := (unhide HBS j hj).1; omega)) ((unhide HS).below Bq) hroom)
        have HBq := hide Bq
        clear Bq hK'
        go_wp2_with fail
        refine Calls.mono (unhide HK) ?_
        rintro e w6 ⟨rfl, b6⟩
        go_wp2
        go_ret
        exact ⟨rfl, (unhide HBq).trans (b6.mono (unhide HBq).size)⟩

theorem walk_FrameCuts (a0 : Int) (w0 : (Lit.int .u64 a0).wf = true) (a1 : Int) (w1 : (Lit.int .u64 a1).wf = true) (s2 : Value) (b2 : List UInt8) (w : World) (h2 : Row w s2 b2) (room2 : b2.length ≤ 140737488351232) :
    Calls Try.prog 4 #[.int .u64 a0, .int .u64 a1, s2] w fun e w' => e = .returned (.bool true) ∧ Below w.heap.size w w' := by
  have hb0 := bounds_u64 w0
  have hb1 := bounds_u64 w1
  obtain ⟨A, rfl⟩ := Int.eq_ofNat_of_zero_le hb0.1
  obtain ⟨C, rfl⟩ := Int.eq_ofNat_of_zero_le hb1.1
  exact fcuts_any A C (by omega) (by omega) s2 b2 w h2 room2
end Go.Proofs.Ytpiekbjpnifjlaa
