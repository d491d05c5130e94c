/- The walk of the law DiskForks, by the contracts of package disk. -/
import Derived.Test.YtkekikfiijbjmaaDiskMany
import Derived.Test.YtkekikfiijbjmaaDiskRan
import Derived.Test.YtkekikfiijbjmaaBytes
namespace Go.Proofs.Ytkekikfiijbjmaa
open Go.RowKit

/-- What becomes of a copy by one call of the second script: there is no reading in it. -/
def OpD.onF (o : OpD) (s : DK) : DK :=
  if o.kind = 2 then s.flush else if o.kind = 4 then s.crash o.keep else if o.kind = 5 then s.start else if o.kind = 3 then s.arm o.n else if o.kind = 6 then s.flip o.at_ o.n else s.write o.at_ (fullS o.v o.short)
theorem onF_le (o : OpD) (s : DK) : (o.onF s).waits.length ≤ s.waits.length + 1 ∧ (o.onF s).turns ≤ s.turns + 1 ∧ (o.onF s).ticks ≤ s.ticks + 1 := by
  unfold OpD.onF
  repeat' split
  · unfold DK.flush
    repeat' split
    all_goals simp [DK.tick]
  · simp [DK.crash]
  · unfold DK.start
    split <;> simp
  · unfold DK.arm
    split <;> simp
  · unfold DK.flip
    split <;> simp
  · unfold DK.write
    repeat' split
    all_goals simp [DK.tick]

theorem Ops.below {w w' : World} {v : Value} {l : List OpD} (h : Ops w v l) (hb : Below w.heap.size w w') : Ops w' v l := by
  obtain ⟨a, cap, h1, h2, h3, h4⟩ := h
  refine ⟨a, cap, h1, h2, h3, h4.imp id ?_⟩
  rintro ⟨b, off, ha, hc⟩
  refine ⟨b, off, ha, fun j hj => ?_⟩
  obtain ⟨kv, c0, c1, c2, c3, c4, c5, hk, hr⟩ := hc j hj
  have hlt : b < w.heap.size := World.block_lt_of_cell? w _ c0
  exact ⟨kv, (hb.cell hlt).trans c0, (hb.cell hlt).trans c1, (hb.cell hlt).trans c2, (hb.cell hlt).trans c3, (hb.cell hlt).trans c4, (hb.cell hlt).trans c5, hk.below hb, hr⟩

section
variable {DR : (Nat → Prop) → World → Value → DK → Prop} (C : DiskC DR)
include C

set_option maxRecDepth 20000 in
set_option maxHeartbeats 16000000 in
theorem forks_any (sv mv : Value) (l m : List OpD) (w : World) (hl : Ops w sv l) (hm : Ops w mv m) : Calls Try.prog 5 #[sv, mv] w fun e w' => e = .returned (.bool true) ∧ Below w.heap.size w w' := by
  have HL := hide hl
  have HM := hide hm
  obtain ⟨ma, mc, rfl, hmc, hmm⟩ := hm.shape
  have hmI : (m.length : Int) ≤ 9223372036854775807 := by unfold maxLen at hmm; omega
  have HRAN := hide (ran_any C sv l w hl)
  obtain ⟨s, hs⟩ : ∃ s, s = runK l 100 (DK.new 8) := ⟨_, rfl⟩
  have hle := runK_le l 100 (DK.new 8)
  rw [← hs] at HRAN hle
  have hsw : s.waits.length ≤ 100 := by have := hle.1; have h0 : (DK.new 8).waits.length = 0 := rfl; omega
  have hst : s.turns ≤ 100 ∧ s.ticks ≤ 100 := by have := hle.2; have h0 : (DK.new 8).turns = 0 := rfl; have h1 : (DK.new 8).ticks = 0 := rfl; omega
  have HS0 := hide hs
  have HSW := hide hsw
  have HST := hide hst
  clear hl hm hmm hs hle hsw hst
  go_enter Try.func5, Try.ntmps5
  go_wp2_with fail
  refine Calls.mono (unhide HRAN) ?_
  rintro e w1 ⟨da, rfl, ⟨F, hd, hF⟩, hb1⟩
  have HD := hide hd
  have HF := hide hF
  clear HRAN hd hF
  go_wp2_with fail
  refine (awake_any C w1).mono ?_
  rintro e w2 ⟨rfl, hb2⟩
  have B2 := hb1.trans (hb2.mono hb1.size)
  have hd2 := C.stays (unhide HD) hb2.size (fun k hk => hb2.block k (C.lt (unhide HD) k hk))
  have HM2 := hide (MS.fork C (l1 := []) (l2 := []) (MS.one hd2) (by have := unhide HSW; omega))
  clear HD hd2 hb1 hb2
  go_wp2_with fail
  refine Calls.mono (unhide HM2) ?_
  rintro e w3 ⟨fa, rfl, hm3, _⟩
  have HM3 := hide (MS.fork C (l1 := [(.pointer (some fa), s)]) (l2 := []) hm3 (by have := unhide HSW; omega))
  clear HM2 hm3
  go_wp2_with fail
  refine Calls.mono (unhide HM3) ?_
  rintro e w4 ⟨ga, rfl, hm4, _⟩
  have HM4 := hide hm4
  clear HM3 hm4
  go_wp2_with fail
  go_loopw [8] (fun i wr => ∃ (k : Nat) (t : DK), k ≤ 60 ∧ k ≤ m.length ∧ i = .int .i64 k ∧ Hid (MS DR F w2 wr [(.pointer (some ga), t), (.pointer (some fa), t), (.pointer (some da), s)] ∧ t.waits.length ≤ 100 + k ∧ (t.turns ≤ 100 + k ∧ t.ticks ≤ 100 + k))) (fun i _ => 60 - (intOf i).toNat)
  case atStart => exact ⟨0, s, by omega, by omega, rfl, unhide HM4, unhide HSW, unhide HST⟩
  case round =>
    clear HM4
    obtain ⟨k, t, hk, hkl, rfl, hS⟩ := hrel
    have hbel : Below w.heap.size w wr := by
      obtain ⟨F', _, hm⟩ := hS.out.1
      exact B2.trans (hm.keep.below B2.size (unhide HF))
    by_cases hgo : (k : Int) < m.length ∧ (k : Int) < 60
    · obtain ⟨hlt, h8⟩ := hgo
      have hkn : k < m.length := by omega
      obtain ⟨b, off, cap, kv, es, hbl, hcap, hkb, hkl2, hn, hcells⟩ := (unhide HM).at k hkn
      simp only [Value.slice.injEq, true_and] at es
      obtain ⟨rfl, rfl⟩ := es
      obtain ⟨c0, c1, c2, c3, c4, c5, hks⟩ := hcells wr hbel
      obtain ⟨⟨F', hMany, hMv⟩, htw, htt⟩ := hS.out
      have hnF : ∀ x, x < w.heap.size → ¬ F' x := fun x hx hf => by
        rcases hMv.sub x hf with h | h
        · have := unhide HF x h; omega
        · have := B2.size; omega
      obtain ⟨kq, kc, rfl, _, _⟩ := hks.shape
      obtain ⟨wb, hwb⟩ : ∃ wb, wb = wr.alloc (.cells #[.int .i64 m[k].kind, .int .i64 m[k].at_, .int .i64 m[k].n, .int .u8 (m[k].v.toNat : Int), .bool m[k].short, .slice kq m[k].keep.length kc] 34) := ⟨_, rfl⟩
      have hbb : Below wr.heap.size wr wb := by rw [hwb]; exact (Below.refl _ _).alloc (Nat.le_refl _) _
      have hbox : wb.heap[wr.heap.size]? = some (.cells #[.int .i64 m[k].kind, .int .i64 m[k].at_, .int .i64 m[k].n, .int .u8 (m[k].v.toNat : Int), .bool m[k].short, .slice kq m[k].keep.length kc] 34 (0, 0)) := by rw [hwb]; exact heap_alloc_new _ _
      have hltb : wr.heap.size < wb.heap.size := (Array.getElem?_eq_some_iff.1 hbox).1
      have hnb : ¬ F' wr.heap.size := fun hf => by have := Many.lt C hMany _ hf; omega
      have HFU := hide (full_any m[k].v m[k].short wb)
      have HKS := hide (hks.below hbb)
      have HKO := hide (fun x o' n' c' e (hn' : 0 < n') => And.intro (hkb x o' n' c' e hn') (hnF x (hkb x o' n' c' e hn')))
      have HMN := hide hMany
      have HBB := hide hbb
      have HBX := hide hbox
      have HWB := hide hwb
      have HMV := hide hMv
      have HTW := hide htw
      have HTT := hide htt
      clear hS hks hcells hkb hkl2 hbox hnF hbb hMany hMv htw htt hwb hk
      have HON := hide (onF_le m[k] t)
      generalize m[k] = o at *
      go_wp2_with fail
      rw [← unhide HWB]
      refine Calls.mono (unhide HFU) ?_
      rintro e w5 ⟨bt, rfl, hm5, hb5⟩
      have hb05 := (unhide HBB).trans (hb5.mono (unhide HBB).size)
      have hMany5 := Many.stays C hb05.size (unhide HMN) (fun x hx => hb05.block x (Many.lt C (unhide HMN) x hx))
      have hS5 : MS DR F' w5 w5 [(.pointer (some ga), t), (.pointer (some fa), t), (.pointer (some da), s)] := MS.start_ hMany5
      have hx5 := (hb5.block _ hltb).trans (unhide HBX)
      have hlt5 : wr.heap.size < w5.heap.size := (Array.getElem?_eq_some_iff.1 hx5).1
      obtain ⟨b0, b1, b2, b3, b4, b5, _⟩ := six_cells hx5
      have HKS5 := hide ((unhide HKS).below hb5)
      have HKO5 : Hid (∀ x o' n' c', Value.slice kq o.keep.length kc = .slice (some ⟨x, o', none⟩) n' c' → 0 < n' → x < w5.heap.size ∧ ¬ F' x) := fun x o' n' c' e hn' => by
        obtain ⟨q1, q2⟩ := unhide HKO x o' n' c' e hn'
        exact ⟨Nat.lt_of_lt_of_le q1 (Nat.le_trans hbel.size hb05.size), q2⟩
      have HR5 := hide hm5.row
      have HBO5 : Hid (∀ x o' n' c', bt = .slice (some ⟨x, o', none⟩) n' c' → 0 < n' → x < w5.heap.size ∧ ¬ F' x) := by
        rintro x o' n' c' rfl hn'
        rcases hm5.2 with h0 | ⟨g, o'', cc, e, cur, q1, q2, q3⟩
        · obtain ⟨p', c'', l', e', hl'⟩ := hm5.row.shape
          simp only [Value.slice.injEq] at e'
          rw [h0] at hl'
          simp at hl'
          omega
        · simp only [Value.slice.injEq, Option.some.injEq, Addr.mk.injEq] at q1
          obtain ⟨⟨rfl, _⟩, _⟩ := q1
          exact ⟨(Array.getElem?_eq_some_iff.1 q3).1, fun hf => by have := Many.lt C (unhide HMN) _ hf; omega⟩
      have KB := hide (fun ls w' (h : MS DR F' w5 w' ls) => And.intro ((h.cell (a := ⟨wr.heap.size, 1, none⟩) hlt5 hnb).trans b1) (And.intro ((h.cell (a := ⟨wr.heap.size, 2, none⟩) hlt5 hnb).trans b2) ((h.cell (a := ⟨wr.heap.size, 5, none⟩) hlt5 hnb).trans b5)))
      have HFIN : Hid (∀ w', MS DR F' w5 w' [(.pointer (some ga), o.onF t), (.pointer (some fa), o.onF t), (.pointer (some da), s)] → MS DR F w2 w' [(.pointer (some ga), o.onF t), (.pointer (some fa), o.onF t), (.pointer (some da), s)] ∧ (o.onF t).waits.length ≤ 100 + (k + 1) ∧ ((o.onF t).turns ≤ 100 + (k + 1) ∧ (o.onF t).ticks ≤ 100 + (k + 1))) := by
        rintro w' ⟨F2, hm2, hM2⟩
        have h1 := unhide HTW
        have h2 := unhide HTT
        have h3 := unhide HON
        exact ⟨⟨F2, hm2, (unhide HMV).trans ((Moves.of_below hb05).trans hM2)⟩, by omega, by omega⟩
      have HS5 := hide hS5
      have HTW' : Hid (t.waits.length ≤ 1048576) := by have := unhide HTW; unfold Hid; omega
      have HTT' : Hid (t.turns ≤ 1048576) := by have := unhide HTT; unfold Hid; omega
      have HTK' : Hid (t.ticks ≤ 1048576) := by have := unhide HTT; unfold Hid; omega
      clear HFU hm5 hb5 hb05 hMany5 hS5 hx5 HKS HKO HMN HBB HBX HMV HTW HTT HON c0 c1 c2 c3 c4 c5 hnb hltb
      by_cases k2 : o.kind = 2
      · have hon : o.onF t = t.flush := by unfold OpD.onF; rw [if_pos k2]
        rw [hon] at HFIN
        have t2 : (o.kind == 2) = true := by rw [beq_iff_eq]; exact k2
        have heq : (t.flushE != t.flushE) = false := by simp
        have C1 := hide (fun w' (h : MS DR F' w5 w' [(.pointer (some ga), t), (.pointer (some fa), t), (.pointer (some da), s)]) => MS.flush C (l1 := [(.pointer (some ga), t)]) (l2 := [(.pointer (some da), s)]) h (unhide HTW') (unhide HTK'))
        have C2 := hide (fun w' (h : MS DR F' w5 w' [(.pointer (some ga), t), (.pointer (some fa), t.flush), (.pointer (some da), s)]) => MS.flush C (l1 := []) (l2 := [(.pointer (some fa), t.flush), (.pointer (some da), s)]) h (unhide HTW') (unhide HTK'))
        clear hon k2
        go_wp2_with fail
        refine Calls.mono (unhide C1 _ (unhide HS5)) ?_
        rintro e w6 ⟨rfl, hs6⟩
        obtain ⟨x1, x2, x5⟩ := unhide KB _ _ hs6
        clear b0 b1 b2 b3 b4 b5
        go_wp2_with fail
        refine Calls.mono (unhide C2 _ hs6) ?_
        rintro e w7 ⟨rfl, hs7⟩
        clear x1 x2 x5
        go_wp2
        go_roundw
        case rel => exact ⟨k + 1, _, by omega, by omega, by go_num, unhide HFIN _ hs7⟩
        case measure => simp [intOf]; omega
      by_cases k4 : o.kind = 4
      · have hon : o.onF t = t.crash o.keep := by unfold OpD.onF; rw [if_neg k2, if_pos k4]
        rw [hon] at HFIN
        have t2 : (o.kind == 2) = false := by rw [beq_eq_false_iff_ne]; exact k2
        have t4 : (o.kind == 4) = true := by rw [beq_iff_eq]; exact k4
        have C1 := hide (fun w' (h : MS DR F' w5 w' [(.pointer (some ga), t), (.pointer (some fa), t), (.pointer (some da), s)]) => MS.crash C (l1 := [(.pointer (some ga), t)]) (l2 := [(.pointer (some da), s)]) h _ o.keep (by obtain ⟨F2, _, hM2⟩ := h; exact (unhide HKS5).keep hM2.keep (fun x o' c' e hne => (unhide HKO5 x o' _ c' e (List.length_pos_iff.2 hne)).2)) (unhide HKO5) (unhide HTW'))
        have C2 := hide (fun w' (h : MS DR F' w5 w' [(.pointer (some ga), t), (.pointer (some fa), t.crash o.keep), (.pointer (some da), s)]) => MS.crash C (l1 := []) (l2 := [(.pointer (some fa), t.crash o.keep), (.pointer (some da), s)]) h _ o.keep (by obtain ⟨F2, _, hM2⟩ := h; exact (unhide HKS5).keep hM2.keep (fun x o' c' e hne => (unhide HKO5 x o' _ c' e (List.length_pos_iff.2 hne)).2)) (unhide HKO5) (unhide HTW'))
        clear hon k2 k4
        go_wp2_with fail
        refine Calls.mono (unhide C1 _ (unhide HS5)) ?_
        rintro e w6 ⟨rfl, hs6⟩
        obtain ⟨x1, x2, x5⟩ := unhide KB _ _ hs6
        clear b0 b1 b2 b3 b4 b5
        go_wp2_with fail
        refine Calls.mono (unhide C2 _ hs6) ?_
        rintro e w7 ⟨rfl, hs7⟩
        clear x1 x2 x5
        go_wp2
        go_roundw
        case rel => exact ⟨k + 1, _, by omega, by omega, by go_num, unhide HFIN _ hs7⟩
        case measure => simp [intOf]; omega
      by_cases k5 : o.kind = 5
      · have hon : o.onF t = t.start := by unfold OpD.onF; rw [if_neg k2, if_neg k4, if_pos k5]
        rw [hon] at HFIN
        have t2 : (o.kind == 2) = false := by rw [beq_eq_false_iff_ne]; exact k2
        have t4 : (o.kind == 4) = false := by rw [beq_eq_false_iff_ne]; exact k4
        have t5 : (o.kind == 5) = true := by rw [beq_iff_eq]; exact k5
        have C1 := hide (fun w' (h : MS DR F' w5 w' [(.pointer (some ga), t), (.pointer (some fa), t), (.pointer (some da), s)]) => MS.start C (l1 := [(.pointer (some ga), t)]) (l2 := [(.pointer (some da), s)]) h)
        have C2 := hide (fun w' (h : MS DR F' w5 w' [(.pointer (some ga), t), (.pointer (some fa), t.start), (.pointer (some da), s)]) => MS.start C (l1 := []) (l2 := [(.pointer (some fa), t.start), (.pointer (some da), s)]) h)
        clear hon k2 k4 k5
        go_wp2_with fail
        refine Calls.mono (unhide C1 _ (unhide HS5)) ?_
        rintro e w6 ⟨rfl, hs6⟩
        obtain ⟨x1, x2, x5⟩ := unhide KB _ _ hs6
        clear b0 b1 b2 b3 b4 b5
        go_wp2_with fail
        refine Calls.mono (unhide C2 _ hs6) ?_
        rintro e w7 ⟨rfl, hs7⟩
        clear x1 x2 x5
        go_wp2
        go_roundw
        case rel => exact ⟨k + 1, _, by omega, by omega, by go_num, unhide HFIN _ hs7⟩
        case measure => simp [intOf]; omega
      by_cases k3 : o.kind = 3
      · have hon : o.onF t = t.arm o.n := by unfold OpD.onF; rw [if_neg k2, if_neg k4, if_neg k5, if_pos k3]
        rw [hon] at HFIN
        have t2 : (o.kind == 2) = false := by rw [beq_eq_false_iff_ne]; exact k2
        have t4 : (o.kind == 4) = false := by rw [beq_eq_false_iff_ne]; exact k4
        have t5 : (o.kind == 5) = false := by rw [beq_eq_false_iff_ne]; exact k5
        have t3 : (o.kind == 3) = true := by rw [beq_iff_eq]; exact k3
        have heq : (t.armE != t.armE) = false := by simp
        have C1 := hide (fun w' (h : MS DR F' w5 w' [(.pointer (some ga), t), (.pointer (some fa), t), (.pointer (some da), s)]) => MS.arm C (l1 := [(.pointer (some ga), t)]) (l2 := [(.pointer (some da), s)]) h o.n hn)
        have C2 := hide (fun w' (h : MS DR F' w5 w' [(.pointer (some ga), t), (.pointer (some fa), t.arm o.n), (.pointer (some da), s)]) => MS.arm C (l1 := []) (l2 := [(.pointer (some fa), t.arm o.n), (.pointer (some da), s)]) h o.n hn)
        clear hon k2 k4 k5 k3
        go_wp2_with fail
        go_region_held3 (fun w' => w'.cell? ⟨wr.heap.size, 1, none⟩ = some (.int .i64 o.at_) ∧ w'.cell? ⟨wr.heap.size, 2, none⟩ = some (.int .i64 o.n) ∧ w'.cell? ⟨wr.heap.size, 5, none⟩ = some (.slice kq o.keep.length kc)) (first | assumption | go_keep)
          (first
            | (go_at_call_of 16 (Value.pointer (some fa)); refine Calls.mono (unhide C1 _ (MS.drew C (unhide HS5))) ?_; rintro e w6 ⟨rfl, hs6⟩; have hK6 := unhide KB _ _ hs6)
            | (go_at_call_of 16 (Value.pointer (some ga)); refine Calls.mono (unhide C2 _ hs6) ?_; rintro e w7 ⟨rfl, hs7⟩; have hK7 := unhide KB _ _ hs7))
        all_goals
          go_wp2
          go_roundw
          case rel => exact ⟨k + 1, _, by omega, by omega, by go_num, unhide HFIN _ hs7⟩
          case measure => simp [intOf]; omega
      by_cases k6 : o.kind = 6
      · have hon : o.onF t = t.flip o.at_ o.n := by unfold OpD.onF; rw [if_neg k2, if_neg k4, if_neg k5, if_neg k3, if_pos k6]
        rw [hon] at HFIN
        have t2 : (o.kind == 2) = false := by rw [beq_eq_false_iff_ne]; exact k2
        have t4 : (o.kind == 4) = false := by rw [beq_eq_false_iff_ne]; exact k4
        have t5 : (o.kind == 5) = false := by rw [beq_eq_false_iff_ne]; exact k5
        have t3 : (o.kind == 3) = false := by rw [beq_eq_false_iff_ne]; exact k3
        have t6 : (o.kind == 6) = true := by rw [beq_iff_eq]; exact k6
        have heq : (t.flipE o.at_ o.n != t.flipE o.at_ o.n) = false := by simp
        have C1 := hide (fun w' (h : MS DR F' w5 w' [(.pointer (some ga), t), (.pointer (some fa), t), (.pointer (some da), s)]) => MS.flip C (l1 := [(.pointer (some ga), t)]) (l2 := [(.pointer (some da), s)]) h o.at_ o.n (unhide HTT'))
        have C2 := hide (fun w' (h : MS DR F' w5 w' [(.pointer (some ga), t), (.pointer (some fa), t.flip o.at_ o.n), (.pointer (some da), s)]) => MS.flip C (l1 := []) (l2 := [(.pointer (some fa), t.flip o.at_ o.n), (.pointer (some da), s)]) h o.at_ o.n (unhide HTT'))
        clear hon k2 k4 k5 k3 k6
        go_wp2_with fail
        go_region_held3 (fun w' => w'.cell? ⟨wr.heap.size, 1, none⟩ = some (.int .i64 o.at_) ∧ w'.cell? ⟨wr.heap.size, 2, none⟩ = some (.int .i64 o.n) ∧ w'.cell? ⟨wr.heap.size, 5, none⟩ = some (.slice kq o.keep.length kc)) (first | assumption | go_keep)
          (first
            | (go_at_call_of 24 (Value.pointer (some fa)); refine Calls.mono (unhide C1 _ (MS.drew C (unhide HS5))) ?_; rintro e w6 ⟨rfl, hs6⟩; have hK6 := unhide KB _ _ hs6)
            | (go_at_call_of 24 (Value.pointer (some ga)); refine Calls.mono (unhide C2 _ hs6) ?_; rintro e w7 ⟨rfl, hs7⟩; have hK7 := unhide KB _ _ hs7))
        all_goals
          go_wp2
          go_roundw
          case rel => exact ⟨k + 1, _, by omega, by omega, by go_num, unhide HFIN _ hs7⟩
          case measure => simp [intOf]; omega
      have hon : o.onF t = t.write o.at_ (fullS o.v o.short) := by unfold OpD.onF; rw [if_neg k2, if_neg k4, if_neg k5, if_neg k3, if_neg k6]
      rw [hon] at HFIN
      have t2 : (o.kind == 2) = false := by rw [beq_eq_false_iff_ne]; exact k2
      have t4 : (o.kind == 4) = false := by rw [beq_eq_false_iff_ne]; exact k4
      have t5 : (o.kind == 5) = false := by rw [beq_eq_false_iff_ne]; exact k5
      have t3 : (o.kind == 3) = false := by rw [beq_eq_false_iff_ne]; exact k3
      have t6 : (o.kind == 6) = false := by rw [beq_eq_false_iff_ne]; exact k6
      have heq : (t.writeE o.at_ (fullS o.v o.short) != t.writeE o.at_ (fullS o.v o.short)) = false := by simp
      have C1 := hide (fun w' (h : MS DR F' w5 w' [(.pointer (some ga), t), (.pointer (some fa), t), (.pointer (some da), s)]) => MS.write C (l1 := [(.pointer (some ga), t)]) (l2 := [(.pointer (some da), s)]) h o.at_ bt _ (by obtain ⟨F2, _, hM2⟩ := h; exact (unhide HR5).keep hM2.keep (fun x o' c' e hne => (unhide HBO5 x o' _ c' e (List.length_pos_iff.2 hne)).2)) (unhide HBO5) (unhide HTW') (unhide HTK'))
      have C2 := hide (fun w' (h : MS DR F' w5 w' [(.pointer (some ga), t), (.pointer (some fa), t.write o.at_ (fullS o.v o.short)), (.pointer (some da), s)]) => MS.write C (l1 := []) (l2 := [(.pointer (some fa), t.write o.at_ (fullS o.v o.short)), (.pointer (some da), s)]) h o.at_ bt _ (by obtain ⟨F2, _, hM2⟩ := h; exact (unhide HR5).keep hM2.keep (fun x o' c' e hne => (unhide HBO5 x o' _ c' e (List.length_pos_iff.2 hne)).2)) (unhide HBO5) (unhide HTW') (unhide HTK'))
      clear hon k2 k4 k5 k3 k6
      go_wp2_with fail
      go_region_held3 (fun w' => w'.cell? ⟨wr.heap.size, 1, none⟩ = some (.int .i64 o.at_) ∧ w'.cell? ⟨wr.heap.size, 2, none⟩ = some (.int .i64 o.n) ∧ w'.cell? ⟨wr.heap.size, 5, none⟩ = some (.slice kq o.keep.length kc)) (first | assumption | go_keep)
        (first
          | (go_at_call_of 19 (Value.pointer (some fa)); refine Calls.mono (unhide C1 _ (MS.drew C (unhide HS5))) ?_; rintro e w6 ⟨rfl, hs6⟩; have hK6 := unhide KB _ _ hs6)
          | (go_at_call_of 19 (Value.pointer (some ga)); refine Calls.mono (unhide C2 _ hs6) ?_; rintro e w7 ⟨rfl, hs7⟩; have hK7 := unhide KB _ _ hs7))
      all_goals
        go_wp2
        go_roundw
        case rel => exact ⟨k + 1, _, by omega, by omega, by go_num, unhide HFIN _ hs7⟩
        case measure => simp [intOf]; omega
    · have hend : Hid (MS DR F w2 wr [(.pointer (some ga), t), (.pointer (some fa), t), (.pointer (some da), s)] ∧ t.waits.length ≤ 1048576) := by
        have := hS.out
        exact ⟨this.1, by omega⟩
      clear hS hk hkl
      have hout : ∀ (P : Prop), (¬ (k : Int) < m.length → P) → ((k : Int) < m.length → ¬ (k : Int) < 60 → P) → P := fun P h1 h2 => by
        by_cases h : (k : Int) < m.length
        · exact h2 h (fun h' => hgo ⟨h, h'⟩)
        · exact h1 h
      clear hgo
      refine hout _ (fun hn => ?_) (fun hn hn' => ?_)
      all_goals
        clear hout
        have HRAN := hide (ran_any C sv l wr (Ops.below (unhide HL) hbel))
        rw [← unhide HS0] at HRAN
        clear HS0 HL HM hmc hmI HST
        go_wp2_with fail
        refine Calls.mono (unhide HRAN) ?_
        rintro e w8 ⟨ha, rfl, ⟨F2, hd8, hF8⟩, hb8⟩
        have h8 := MS.join C (unhide hend).1 hb8 hd8 hF8
        have hB8 := hbel.trans (hb8.mono hbel.size)
        have hw1 := (unhide hend).2
        have hw2 : s.waits.length ≤ 1048576 := by have := unhide HSW; omega
        have FR := hide (fun (a : Int) w' (hb : Below w8.heap.size w8 w') => (MS.read C (l1 := [(.pointer (some ha), s), (.pointer (some ga), t)]) (l2 := [(.pointer (some da), s)]) (MS.below C h8 hb) a hw1).mono (R' := fun e w'' => ∃ v, e = .returned (.tuple #[v, .int .i64 (t.readE a)]) ∧ Mine w'' w'.heap.size v (t.readB a) ∧ Below w'.heap.size w' w'') (by rintro e w'' ⟨v, h1, h2, _, h3⟩; exact ⟨v, h1, h2, h3⟩))
        have GR := hide (fun (a : Int) w' (hb : Below w8.heap.size w8 w') => (MS.read C (l1 := [(.pointer (some ha), s)]) (l2 := [(.pointer (some fa), t), (.pointer (some da), s)]) (MS.below C h8 hb) a hw1).mono (R' := fun e w'' => ∃ v, e = .returned (.tuple #[v, .int .i64 (t.readE a)]) ∧ Mine w'' w'.heap.size v (t.readB a) ∧ Below w'.heap.size w' w'') (by rintro e w'' ⟨v, h1, h2, _, h3⟩; exact ⟨v, h1, h2, h3⟩))
        have DR_ := hide (fun (a : Int) w' (hb : Below w8.heap.size w8 w') => (MS.read C (l1 := [(.pointer (some ha), s), (.pointer (some ga), t), (.pointer (some fa), t)]) (l2 := []) (MS.below C h8 hb) a hw2).mono (R' := fun e w'' => ∃ v, e = .returned (.tuple #[v, .int .i64 (s.readE a)]) ∧ Mine w'' w'.heap.size v (s.readB a) ∧ Below w'.heap.size w' w'') (by rintro e w'' ⟨v, h1, h2, _, h3⟩; exact ⟨v, h1, h2, h3⟩))
        have HR := hide (fun (a : Int) w' (hb : Below w8.heap.size w8 w') => (MS.read C (l1 := []) (l2 := [(.pointer (some ga), t), (.pointer (some fa), t), (.pointer (some da), s)]) (MS.below C h8 hb) a hw2).mono (R' := fun e w'' => ∃ v, e = .returned (.tuple #[v, .int .i64 (s.readE a)]) ∧ Mine w'' w'.heap.size v (s.readB a) ∧ Below w'.heap.size w' w'') (by rintro e w'' ⟨v, h1, h2, _, h3⟩; exact ⟨v, h1, h2, h3⟩))
        have FD := hide (fun w' (hb : Below w8.heap.size w8 w') => (MS.down C (l1 := [(.pointer (some ha), s), (.pointer (some ga), t)]) (l2 := [(.pointer (some da), s)]) (MS.below C h8 hb)).mono (R' := fun e w'' => e = .returned (.bool t.fell) ∧ Below w'.heap.size w' w'') (by rintro e w'' ⟨h1, _, h3⟩; exact ⟨h1, h3⟩))
        have GD := hide (fun w' (hb : Below w8.heap.size w8 w') => (MS.down C (l1 := [(.pointer (some ha), s)]) (l2 := [(.pointer (some fa), t), (.pointer (some da), s)]) (MS.below C h8 hb)).mono (R' := fun e w'' => e = .returned (.bool t.fell) ∧ Below w'.heap.size w' w'') (by rintro e w'' ⟨h1, _, h3⟩; exact ⟨h1, h3⟩))
        have DD := hide (fun w' (hb : Below w8.heap.size w8 w') => (MS.down C (l1 := [(.pointer (some ha), s), (.pointer (some ga), t), (.pointer (some fa), t)]) (l2 := []) (MS.below C h8 hb)).mono (R' := fun e w'' => e = .returned (.bool s.fell) ∧ Below w'.heap.size w' w'') (by rintro e w'' ⟨h1, _, h3⟩; exact ⟨h1, h3⟩))
        have HD := hide (fun w' (hb : Below w8.heap.size w8 w') => (MS.down C (l1 := []) (l2 := [(.pointer (some ga), t), (.pointer (some fa), t), (.pointer (some da), s)]) (MS.below C h8 hb)).mono (R' := fun e w'' => e = .returned (.bool s.fell) ∧ Below w'.heap.size w' w'') (by rintro e w'' ⟨h1, _, h3⟩; exact ⟨h1, h3⟩))
        have FW := hide (fun w' (hb : Below w8.heap.size w8 w') => (MS.waiting C (l1 := [(.pointer (some ha), s), (.pointer (some ga), t)]) (l2 := [(.pointer (some da), s)]) (MS.below C h8 hb)).mono (R' := fun e w'' => e = .returned (.int .i64 (t.waits.length : Int)) ∧ Below w'.heap.size w' w'') (by rintro e w'' ⟨h1, _, h3⟩; exact ⟨h1, h3⟩))
        have GW := hide (fun w' (hb : Below w8.heap.size w8 w') => (MS.waiting C (l1 := [(.pointer (some ha), s)]) (l2 := [(.pointer (some fa), t), (.pointer (some da), s)]) (MS.below C h8 hb)).mono (R' := fun e w'' => e = .returned (.int .i64 (t.waits.length : Int)) ∧ Below w'.heap.size w' w'') (by rintro e w'' ⟨h1, _, h3⟩; exact ⟨h1, h3⟩))
        have DW := hide (fun w' (hb : Below w8.heap.size w8 w') => (MS.waiting C (l1 := [(.pointer (some ha), s), (.pointer (some ga), t), (.pointer (some fa), t)]) (l2 := []) (MS.below C h8 hb)).mono (R' := fun e w'' => e = .returned (.int .i64 (s.waits.length : Int)) ∧ Below w'.heap.size w' w'') (by rintro e w'' ⟨h1, _, h3⟩; exact ⟨h1, h3⟩))
        have HW := hide (fun w' (hb : Below w8.heap.size w8 w') => (MS.waiting C (l1 := []) (l2 := [(.pointer (some ga), t), (.pointer (some fa), t), (.pointer (some da), s)]) (MS.below C h8 hb)).mono (R' := fun e w'' => e = .returned (.int .i64 (s.waits.length : Int)) ∧ Below w'.heap.size w' w'') (by rintro e w'' ⟨h1, _, h3⟩; exact ⟨h1, h3⟩))
        clear HRAN hend h8 hb8 hd8 hF8 hw1 hw2 HSW hbel HF B2
        have HB8 := hide hB8
        have B0 := Below.refl w8.heap.size w8
        clear hB8
        go_wp2_with fail
        go_loopw [12] (fun i wr => ∃ k : Nat, k ≤ 8 ∧ i = .int .i64 k ∧ Below w8.heap.size w8 wr) (fun i _ => 8 - (intOf i).toNat)
        case atStart => exact ⟨0, by omega, rfl, B0⟩
        case round =>
          clear B0
          obtain ⟨j, hj, rfl, hbel⟩ := hrel
          by_cases h8 : (j : Int) < 8
          · have H1 := hide (unhide FR j wr hbel)
            clear hj
            go_wp2_with fail
            refine Calls.mono (unhide H1) ?_
            rintro e v1 ⟨t1, rfl, m1, b1⟩
            have B1 := hbel.trans (b1.mono hbel.size)
            have H2 := hide (unhide GR j v1 B1)
            have M1 := hide m1.row
            clear H1 m1 b1
            go_wp2_with fail
            refine Calls.mono (unhide H2) ?_
            rintro e v2 ⟨t2, rfl, m2, b2⟩
            have B2 := B1.trans (b2.mono B1.size)
            have H3 := hide (unhide DR_ j v2 B2)
            have M2 := hide (And.intro ((unhide M1).below b2) m2.row)
            clear H2 m2 b2 M1
            go_wp2_with fail
            refine Calls.mono (unhide H3) ?_
            rintro e v3 ⟨t3, rfl, m3, b3⟩
            have B3 := B2.trans (b3.mono B2.size)
            have H4 := hide (unhide HR j v3 B3)
            have M3 := hide (And.intro ((unhide M2).1.below b3) (And.intro ((unhide M2).2.below b3) m3.row))
            clear H3 m3 b3 M2
            go_wp2_with fail
            refine Calls.mono (unhide H4) ?_
            rintro e v4 ⟨t4, rfl, m4, b4⟩
            have B4 := B3.trans (b4.mono B3.size)
            have H5 := hide (bytes_any _ _ _ _ v4 ((unhide M3).1.below b4) ((unhide M3).2.1.below b4))
            have H6 := hide (bytes_any _ _ _ _ v4 ((unhide M3).2.2.below b4) m4.row)
            rw [show (t.readB (j : Int) == t.readB (j : Int)) = true by simp] at H5
            rw [show (s.readB (j : Int) == s.readB (j : Int)) = true by simp] at H6
            have e1 : (t.readE (j : Int) != t.readE (j : Int)) = false := by simp
            have e2 : (s.readE (j : Int) != s.readE (j : Int)) = false := by simp
            clear H4 m4 b4 M3 B1 B2 B3
            go_wp2_with fail
            refine Calls.mono (unhide H5) ?_
            rintro e v5 ⟨rfl, rfl⟩
            clear H5
            go_wp2_with fail
            refine Calls.mono (unhide H6) ?_
            rintro e v6 ⟨rfl, rfl⟩
            clear H6
            go_wp2_with fail
            go_roundw
            case rel => exact ⟨j + 1, by omega, by go_num, B4⟩
            case measure => simp [intOf]; omega
          · clear hj FR GR DR_ HR
            have e1 : (t.fell == t.fell) = true := by simp
            have e2 : ((t.waits.length : Int) == t.waits.length) = true := by simp
            have e3 : ((s.waits.length : Int) == s.waits.length) = true := by simp
            have e4 : (s.fell == s.fell) = true := by simp
            have H1 := hide (unhide FD _ hbel)
            go_wp2_with fail
            refine Calls.mono (unhide H1) ?_
            rintro e v1 ⟨rfl, b1⟩
            have B1 := hbel.trans (b1.mono hbel.size)
            have H2 := hide (unhide GD _ B1)
            clear H1 b1 FD hbel
            go_wp2_with fail
            refine Calls.mono (unhide H2) ?_
            rintro e v2 ⟨rfl, b2⟩
            have B2 := B1.trans (b2.mono B1.size)
            have H3 := hide (unhide FW _ B2)
            clear H2 b2 GD B1
            go_wp2_with fail
            refine Calls.mono (unhide H3) ?_
            rintro e v3 ⟨rfl, b3⟩
            have B3 := B2.trans (b3.mono B2.size)
            have H4 := hide (unhide GW _ B3)
            clear H3 b3 FW B2
            go_wp2_with fail
            refine Calls.mono (unhide H4) ?_
            rintro e v4 ⟨rfl, b4⟩
            have B4 := B3.trans (b4.mono B3.size)
            have H5 := hide (unhide DW _ B4)
            clear H4 b4 GW B3
            go_wp2_with fail
            refine Calls.mono (unhide H5) ?_
            rintro e v5 ⟨rfl, b5⟩
            have B5 := B4.trans (b5.mono B4.size)
            have H6 := hide (unhide HW _ B5)
            clear H5 b5 DW B4
            go_wp2_with fail
            refine Calls.mono (unhide H6) ?_
            rintro e v6 ⟨rfl, b6⟩
            have B6 := B5.trans (b6.mono B5.size)
            have H7 := hide (unhide DD _ B6)
            clear H6 b6 HW B5
            go_wp2_with fail
            refine Calls.mono (unhide H7) ?_
            rintro e v7 ⟨rfl, b7⟩
            have B7 := B6.trans (b7.mono B6.size)
            have H8 := hide (unhide HD _ B7)
            clear H7 b7 DD B6
            go_wp2_with fail
            refine Calls.mono (unhide H8) ?_
            rintro e v9 ⟨rfl, b8⟩
            have B8 := B7.trans (b8.mono B7.size)
            clear H8 b8 HD B7
            go_wp2_with fail
            go_ret
            exact ⟨rfl, (unhide HB8).trans (B8.mono (unhide HB8).size)⟩
end
end Go.Proofs.Ytkekikfiijbjmaa
