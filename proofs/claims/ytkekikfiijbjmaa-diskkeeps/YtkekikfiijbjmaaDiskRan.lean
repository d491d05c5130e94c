/- 'ran' of layer 4's statements: a device behind a script, by the contracts of package disk. -/
import Derived.Test.YtkekikfiijbjmaaDiskOne
import Derived.Deep.RegionHeld3
namespace Go.Proofs.Ytkekikfiijbjmaa
open Go.RowKit

section
variable {DR : (Nat → Prop) → World → Value → DK → Prop} (C : DiskC DR)
include C

set_option maxRecDepth 20000 in
set_option maxHeartbeats 8000000 in
theorem ran_any (sv : Value) (l : List OpD) (w : World) (hl : Ops w sv l) : Calls Try.prog 14 #[sv] w fun e w' => ∃ a, e = .returned (.pointer (some a)) ∧ (∃ F, DR F w' (.pointer (some a)) (runK l 100 (DK.new 8)) ∧ ∀ k, F k → w.heap.size ≤ k) ∧ Below w.heap.size w w' := by
  have HN := hide (C.newOk 8 w (by omega) (by omega))
  have HL := hide hl
  obtain ⟨sa, sc, rfl, hlc, hcm⟩ := hl.shape
  have hlI : (l.length : Int) ≤ 9223372036854775807 := by unfold maxLen at hcm; omega
  clear hl hcm
  go_enter Try.func14, Try.ntmps14
  go_wp2_with fail
  refine Calls.mono (unhide HN) ?_
  rintro e w1 ⟨d, rfl, ⟨F, hd, hF⟩, hb1⟩
  obtain ⟨da, rfl⟩ := C.ptr hd
  have HD := hide (DS.start_ (DR := DR) hd)
  have HF := hide hF
  clear HN hd hF
  go_wp2_with fail
  go_loopw [5] (fun i wr => ∃ k : Nat, k ≤ 100 ∧ k ≤ l.length ∧ i = .int .i64 k ∧ Hid (DS DR F w1 wr (.pointer (some da)) (runK l k (DK.new 8)))) (fun i _ => 100 - (intOf i).toNat)
  case atStart => exact ⟨0, by omega, by omega, rfl, by unfold Hid; rw [runK_zero]; exact unhide HD⟩
  case round =>
    obtain ⟨k, hk, hkl, rfl, hS⟩ := hrel
    have hbel : Below w.heap.size w wr := by
      obtain ⟨F', _, hm⟩ := hS.out
      exact hb1.trans (hm.keep.below hb1.size (unhide HF))
    have hend : ¬ ((k : Int) < l.length ∧ (k : Int) < 100) → Hid (∃ F, DR F wr (.pointer (some da)) (runK l 100 (DK.new 8)) ∧ ∀ x, F x → w.heap.size ≤ x) := by
      intro hn
      have e : runK l 100 (DK.new 8) = runK l k (DK.new 8) := by
        unfold runK
        by_cases h : k = 100
        · rw [h]
        · rw [List.take_of_length_le (show l.length ≤ 100 by omega), List.take_of_length_le (show l.length ≤ k by omega)]
      obtain ⟨F', hd', hm⟩ := hS.out
      refine ⟨F', by rw [e]; exact hd', fun x hx => ?_⟩
      rcases hm.sub x hx with h | h
      · exact unhide HF x h
      · exact Nat.le_trans hb1.size h
    by_cases hlt : (k : Int) < l.length
    · by_cases h8 : (k : Int) < 100
      · clear hend
        have hkn : k < l.length := by omega
        obtain ⟨b, off, cap, kv, es, hbl, hcap, hkb, hkl2, hn, hcells⟩ := (unhide HL).at k hkn
        simp only [Value.slice.injEq, true_and] at es
        obtain ⟨rfl, rfl⟩ := es
        obtain ⟨c0, c1, c2, c3, c4, c5, hks⟩ := hcells wr hbel
        have hrun := runK_succ l k (DK.new 8) hkn
        have hle := runK_le l k (DK.new 8)
        have hle1 : (runK l k (DK.new 8)).waits.length ≤ 1048576 := by have := hle.1; have h0 : (DK.new 8).waits.length = 0 := rfl; omega
        have hle2 : (runK l k (DK.new 8)).turns ≤ 1048576 := by have := hle.2.1; have h0 : (DK.new 8).turns = 0 := rfl; omega
        have hle3 : (runK l k (DK.new 8)).ticks ≤ 1048576 := by have := hle.2.2; have h0 : (DK.new 8).ticks = 0 := rfl; omega
        have HRUN := hide hrun
        generalize runK l k (DK.new 8) = s at *
        -- from wr on
        have hS0 : ∃ F', DR F' wr (.pointer (some da)) s ∧ (∀ x, x < w.heap.size → ¬ F' x) ∧ Moves F F' w1 wr := by
          obtain ⟨F', hd', hm⟩ := hS.out
          refine ⟨F', hd', fun x hx hf => ?_, hm⟩
          rcases hm.sub x hf with h | h
          · have := unhide HF x h; omega
          · have := hb1.size; omega
        obtain ⟨F', hd', hnF, hm⟩ := hS0
        obtain ⟨kq, kc, rfl, _, _⟩ := hks.shape
        obtain ⟨wb, hwb⟩ : ∃ wb, wb = wr.alloc (.cells #[.int .i64 l[k].kind, .int .i64 l[k].at_, .int .i64 l[k].n, .int .u8 (l[k].v.toNat : Int), .bool l[k].short, .slice kq l[k].keep.length kc] 34) := ⟨_, rfl⟩
        have hbb : Below wr.heap.size wr wb := by rw [hwb]; exact (Below.refl _ _).alloc (Nat.le_refl _) _
        have hSb : DS DR F' wb wb (.pointer (some da)) s := DS.start_ (C.stays hd' hbb.size (fun x hx => hbb.block x (C.lt hd' x hx)))
        have hbox : wb.heap[wr.heap.size]? = some (.cells #[.int .i64 l[k].kind, .int .i64 l[k].at_, .int .i64 l[k].n, .int .u8 (l[k].v.toNat : Int), .bool l[k].short, .slice kq l[k].keep.length kc] 34 (0, 0)) := by rw [hwb]; exact heap_alloc_new _ _
        have hltb : wr.heap.size < wb.heap.size := (Array.getElem?_eq_some_iff.1 hbox).1
        have hnb : ¬ F' wr.heap.size := fun hf => by have := C.lt hd' _ hf; omega
        have hksb := hks.below hbb
        have HKS := hide hksb
        have HKO : Hid (∀ x off n c, Value.slice kq l[k].keep.length kc = .slice (some ⟨x, off, none⟩) n c → 0 < n → x < wb.heap.size ∧ ¬ F' x) := fun x o' n' c' e hn' => by
          have := hkb x o' n' c' e hn'
          exact ⟨Nat.lt_of_lt_of_le this (Nat.le_trans hbel.size hbb.size), hnF x this⟩
        -- what each call leaves, as the loop has it
        have HFIN : Hid (∀ w', DS DR F' wb w' (.pointer (some da)) (l[k].on s) → DS DR F w1 w' (.pointer (some da)) (runK l (k + 1) (DK.new 8))) := by
          rintro w' ⟨F2, hd2, hm2⟩
          rw [unhide HRUN]
          exact ⟨F2, hd2, hm.trans ((Moves.of_below hbb).trans hm2)⟩
        obtain ⟨b0, b1, b2, b3, b4, b5, _⟩ := six_cells hbox
        have HSB := hide hSb
        have HWB := hide hwb
        clear hS hks hcells hd' hm hkb hkl2 hk hrun hle hbox hksb hnF hSb hbb HRUN
        generalize l[k] = o at *
        -- the kinds
        by_cases k1 : o.kind = 1
        · have hon : o.on s = s := by unfold OpD.on; rw [if_pos k1]
          rw [hon] at HFIN
          have t1 : (o.kind == 1) = true := by rw [beq_iff_eq]; exact k1
          have HC := hide (DS.read C (unhide HSB) o.at_ hle1)
          clear hon HKS HKO HSB b0 b1 b2 b3 b4 b5 hnb hltb hn k1
          go_wp2_with fail
          rw [← unhide HWB]
          refine Calls.mono (unhide HC) ?_
          rintro e w2 ⟨t, rfl, _, hs2, _⟩
          clear HC
          go_wp2
          go_roundw
          case rel => exact ⟨k + 1, by omega, by omega, by go_num, unhide HFIN _ hs2⟩
          case measure => simp [intOf]; omega
        by_cases k2 : o.kind = 2
        · have hon : o.on s = s.flush := by unfold OpD.on; rw [if_neg k1, if_pos k2]
          rw [hon] at HFIN
          have t1 : (o.kind == 1) = false := by rw [beq_eq_false_iff_ne]; exact k1
          have t2 : (o.kind == 2) = true := by rw [beq_iff_eq]; exact k2
          have HC := hide (DS.flush C (unhide HSB) hle1 hle3)
          clear hon HKS HKO HSB b0 b1 b2 b3 b4 b5 hnb hltb hn k1 k2
          go_wp2_with fail
          rw [← unhide HWB]
          refine Calls.mono (unhide HC) ?_
          rintro e w2 ⟨rfl, hs2⟩
          clear HC
          go_wp2
          go_roundw
          case rel => exact ⟨k + 1, by omega, by omega, by go_num, unhide HFIN _ hs2⟩
          case measure => simp [intOf]; omega
        by_cases k3 : o.kind = 3
        · have hon : o.on s = s.arm o.n := by unfold OpD.on; rw [if_neg k1, if_neg k2, if_pos k3]
          rw [hon] at HFIN
          have t1 : (o.kind == 1) = false := by rw [beq_eq_false_iff_ne]; exact k1
          have t2 : (o.kind == 2) = false := by rw [beq_eq_false_iff_ne]; exact k2
          have t3 : (o.kind == 3) = true := by rw [beq_iff_eq]; exact k3
          have HC := hide (DS.arm C (unhide HSB) o.n hn)
          clear hon HKS HKO HSB b0 b1 b2 b3 b4 b5 hnb hltb hn k1 k2 k3
          go_wp2_with fail
          rw [← unhide HWB]
          refine Calls.mono (unhide HC) ?_
          rintro e w2 ⟨rfl, hs2⟩
          clear HC
          go_wp2
          go_roundw
          case rel => exact ⟨k + 1, by omega, by omega, by go_num, unhide HFIN _ hs2⟩
          case measure => simp [intOf]; omega
        by_cases k4 : o.kind = 4
        · have hon : o.on s = s.crash o.keep := by unfold OpD.on; rw [if_neg k1, if_neg k2, if_neg k3, if_pos k4]
          rw [hon] at HFIN
          have t1 : (o.kind == 1) = false := by rw [beq_eq_false_iff_ne]; exact k1
          have t2 : (o.kind == 2) = false := by rw [beq_eq_false_iff_ne]; exact k2
          have t3 : (o.kind == 3) = false := by rw [beq_eq_false_iff_ne]; exact k3
          have t4 : (o.kind == 4) = true := by rw [beq_iff_eq]; exact k4
          have HC := hide (DS.crash C (unhide HSB) _ o.keep (unhide HKS) (unhide HKO) hle1)
          clear hon HKS HKO HSB b0 b1 b2 b3 b4 b5 hnb hltb hn k1 k2 k3 k4
          go_wp2_with fail
          rw [← unhide HWB]
          refine Calls.mono (unhide HC) ?_
          rintro e w2 ⟨rfl, hs2⟩
          clear HC
          go_wp2
          go_roundw
          case rel => exact ⟨k + 1, by omega, by omega, by go_num, unhide HFIN _ hs2⟩
          case measure => simp [intOf]; omega
        by_cases k5 : o.kind = 5
        · have hon : o.on s = s.start := by unfold OpD.on; rw [if_neg k1, if_neg k2, if_neg k3, if_neg k4, if_pos k5]
          rw [hon] at HFIN
          have t1 : (o.kind == 1) = false := by rw [beq_eq_false_iff_ne]; exact k1
          have t2 : (o.kind == 2) = false := by rw [beq_eq_false_iff_ne]; exact k2
          have t3 : (o.kind == 3) = false := by rw [beq_eq_false_iff_ne]; exact k3
          have t4 : (o.kind == 4) = false := by rw [beq_eq_false_iff_ne]; exact k4
          have t5 : (o.kind == 5) = true := by rw [beq_iff_eq]; exact k5
          have HC := hide (DS.start C (unhide HSB))
          clear hon HKS HKO HSB b0 b1 b2 b3 b4 b5 hnb hltb hn k1 k2 k3 k4 k5
          go_wp2_with fail
          rw [← unhide HWB]
          refine Calls.mono (unhide HC) ?_
          rintro e w2 ⟨rfl, hs2⟩
          clear HC
          go_wp2
          go_roundw
          case rel => exact ⟨k + 1, by omega, by omega, by go_num, unhide HFIN _ hs2⟩
          case measure => simp [intOf]; omega
        by_cases k6 : o.kind = 6
        · have hon : o.on s = s.flip o.at_ o.n := by unfold OpD.on; rw [if_neg k1, if_neg k2, if_neg k3, if_neg k4, if_neg k5, if_pos k6]
          rw [hon] at HFIN
          have t1 : (o.kind == 1) = false := by rw [beq_eq_false_iff_ne]; exact k1
          have t2 : (o.kind == 2) = false := by rw [beq_eq_false_iff_ne]; exact k2
          have t3 : (o.kind == 3) = false := by rw [beq_eq_false_iff_ne]; exact k3
          have t4 : (o.kind == 4) = false := by rw [beq_eq_false_iff_ne]; exact k4
          have t5 : (o.kind == 5) = false := by rw [beq_eq_false_iff_ne]; exact k5
          have t6 : (o.kind == 6) = true := by rw [beq_iff_eq]; exact k6
          have HC := hide (DS.flip C (unhide HSB) o.at_ o.n hle2)
          clear hon HKS HKO HSB b0 b1 b2 b3 b4 b5 hnb hltb hn k1 k2 k3 k4 k5 k6
          go_wp2_with fail
          rw [← unhide HWB]
          refine Calls.mono (unhide HC) ?_
          rintro e w2 ⟨rfl, hs2⟩
          clear HC
          go_wp2
          go_roundw
          case rel => exact ⟨k + 1, by omega, by omega, by go_num, unhide HFIN _ hs2⟩
          case measure => simp [intOf]; omega
        have hon : o.on s = s.write o.at_ (fullS o.v o.short) := by unfold OpD.on; rw [if_neg k1, if_neg k2, if_neg k3, if_neg k4, if_neg k5, if_neg k6]
        rw [hon] at HFIN
        have t1 : (o.kind == 1) = false := by rw [beq_eq_false_iff_ne]; exact k1
        have t2 : (o.kind == 2) = false := by rw [beq_eq_false_iff_ne]; exact k2
        have t3 : (o.kind == 3) = false := by rw [beq_eq_false_iff_ne]; exact k3
        have t4 : (o.kind == 4) = false := by rw [beq_eq_false_iff_ne]; exact k4
        have t5 : (o.kind == 5) = false := by rw [beq_eq_false_iff_ne]; exact k5
        have t6 : (o.kind == 6) = false := by rw [beq_eq_false_iff_ne]; exact k6
        have KB := hide (fun w' (h : Below wb.heap.size wb w') => And.intro ((h.cell (p := ⟨wr.heap.size, 1, none⟩) hltb).trans b1) (And.intro ((h.cell (p := ⟨wr.heap.size, 3, none⟩) hltb).trans b3) ((h.cell (p := ⟨wr.heap.size, 4, none⟩) hltb).trans b4)))
        have KB2 := hide (fun s' w' (h : DS DR F' wb w' (.pointer (some da)) s') => And.intro ((h.cell (a := ⟨wr.heap.size, 1, none⟩) hltb hnb).trans b1) (And.intro ((h.cell (a := ⟨wr.heap.size, 3, none⟩) hltb hnb).trans b3) ((h.cell (a := ⟨wr.heap.size, 4, none⟩) hltb hnb).trans b4)))
        have CW := hide (fun w' t (hb : Below wb.heap.size wb.drew w') (hm : Mine w' wb.heap.size t (fullS o.v o.short)) => DS.writeNew C (w := w') (DS.drew C (unhide HSB)) hb o.at_ t _ hm hle1 hle3)
        clear hon HKS HKO b0 b2 b5 hnb hn k1 k2 k3 k4 k5 k6
        have hwb := unhide HWB
        subst hwb
        go_wp2_with fail
        go_region_held3 (fun w' => w'.cell? ⟨wr.heap.size, 1, none⟩ = some (.int .i64 o.at_) ∧ w'.cell? ⟨wr.heap.size, 3, none⟩ = some (.int .u8 (o.v.toNat : Int)) ∧ w'.cell? ⟨wr.heap.size, 4, none⟩ = some (.bool o.short)) (first | assumption | go_keep)
          (first
            | (go_at_call 20; refine (full_any _ _ _).mono ?_; rintro e w2 ⟨t, rfl, hm2, hb2⟩; have hS2 := unhide KB w2 ((Below.refl _ _).drew.trans hb2))
            | (go_at_call 19; refine Calls.mono (unhide CW _ _ hb2 hm2) ?_; rintro e w3 ⟨rfl, hs2⟩; have hS3 := unhide KB2 _ _ hs2))
        all_goals
          go_wp2
          go_roundw
          case rel => exact ⟨k + 1, by omega, by omega, by go_num, unhide HFIN _ hs2⟩
          case measure => simp [intOf]; omega
      · have HE := hend (by omega)
        clear hend hk hkl hS
        go_wp2
        go_ret
        exact ⟨da, rfl, unhide HE, hbel⟩
    · have HE := hend (by omega)
      clear hend hk hkl hS
      go_wp2
      go_ret
      exact ⟨da, rfl, unhide HE, hbel⟩
end
end Go.Proofs.Ytkekikfiijbjmaa
