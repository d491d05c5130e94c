/- The landed package wal: Append and Sync. -/
import Derived.Test.YtdpoiieblbmofaaWalOwn3
import Derived.Test.YtdpoiieblbmofaaFrOwn5
import Derived.Test.YtdpoiieblbmofaaDiskOwn5
namespace Go.Proofs.Ytdpoiieblbmofaa
open Go.RowKit

/-- What Append answers, what it makes of the device and of the log. -/
def appE (n : Int) (s : DK) (L : LG) (r : List UInt8) : Int :=
  if 8192 < r.length then 4 else if L.fallen = true ∨ s.fell = true then 40 else if lz n - ((L.next - L.first : Nat) : Int) < countN r.length then 3 else (layW n s L.next (cutL L.age L.next r)).2
def appS (n : Int) (s : DK) (L : LG) (r : List UInt8) : DK :=
  if 8192 < r.length then s else if L.fallen = true ∨ s.fell = true then s else if lz n - ((L.next - L.first : Nat) : Int) < countN r.length then s else (layW n s L.next (cutL L.age L.next r)).1
def appL (n : Int) (s : DK) (L : LG) (r : List UInt8) : LG :=
  if appE n s L r = 0 then L.add L.age (countN r.length).toNat else if appE n s L r = 40 then L.down else L

/-- A device and a log on it, apart from one another. -/
structure Both (F G : Nat → Prop) (w : World) (lp dp : Value) (n : Int) (s : DK) (L : LG) : Prop where
  dev : DRep F w dp s
  log : LRep G w lp dp n L
  apart : ∀ k, F k → ¬ G k
  size : (s.n : Int) = n
def orF (F G : Nat → Prop) : Nat → Prop := fun k => F k ∨ G k
theorem Both.below {F G : Nat → Prop} {w w' : World} {lp dp : Value} {n : Int} {s : DK} {L : LG} (h : Both F G w lp dp n s L) (hb : Below w.heap.size w w') : Both F G w' lp dp n s L :=
  ⟨h.dev.stays hb.size (fun k hk => hb.block k (h.dev.lt k hk)), h.log.below hb, h.apart, h.size⟩
/-- The device goes its way. -/
theorem Both.dev' {F F' G : Nat → Prop} {w w' : World} {lp dp : Value} {n : Int} {s s' : DK} {L : LG} (h : Both F G w lp dp n s L) (hd : DRep F' w' dp s') (hm : Moves F F' w w') (hn : s'.n = s.n) : Both F' G w' lp dp n s' L ∧ Moves (orF F G) (orF F' G) w w' := by
  refine ⟨⟨hd, h.log.keep hm.keep h.apart, fun k hk hg => ?_, by rw [hn]; exact h.size⟩, hm.keep.weak (fun k hk => Or.inl hk), fun k hk => ?_⟩
  · rcases hm.sub k hk with h1 | h1
    · exact h.apart k h1 hg
    · have := h.log.lt k hg; omega
  · rcases hk with hk | hk
    · rcases hm.sub k hk with h1 | h1
      · exact Or.inl (Or.inl h1)
      · exact Or.inr h1
    · exact Or.inl (Or.inr hk)
/-- The log goes its way. -/
theorem Both.log' {F G G' : Nat → Prop} {w w' : World} {lp dp : Value} {n : Int} {s : DK} {L L' : LG} (h : Both F G w lp dp n s L) (hl : LRep G' w' lp dp n L') (hm : Moves G G' w w') : Both F G' w' lp dp n s L' ∧ Moves (orF F G) (orF F G') w w' := by
  refine ⟨⟨h.dev.stays hm.keep.size (fun k hk => hm.keep.block k (h.dev.lt k hk) (h.apart k hk)), hl, fun k hk hg => ?_, h.size⟩, hm.keep.weak (fun k hk => Or.inr hk), fun k hk => ?_⟩
  · rcases hm.sub k hg with h1 | h1
    · exact h.apart k hk h1
    · have := h.dev.lt k hk; omega
  · rcases hk with hk | hk
    · exact Or.inl (Or.inl hk)
    · rcases hm.sub k hk with h1 | h1
      · exact Or.inl (Or.inr h1)
      · exact Or.inr h1

theorem lay_n (n : Int) : ∀ (ls : List (List UInt8)) (s : DK) (t : Nat), (layW n s t ls).1.n = s.n
  | [], _, _ => rfl
  | x :: l, s, t => by
    unfold layW
    split
    · exact write_n _ _ _
    · rw [lay_n n l]; exact write_n _ _ _
theorem bytesF_le (f : Fr) (h5 : f.data.length ≤ 440) : (bytesF f).length ≤ 496 := by
  unfold bytesF
  have a1 := (varF_len 9 f.age).2
  have a2 := (varF_len 9 f.first).2
  have a3 := (varF_len 9 f.of.toNat).2
  simp only [List.length_append]
  omega
theorem cut_short (A C : Nat) (r : List UInt8) : ∀ x ∈ cutL A C r, x.length ≤ 496 := by
  intro x hx
  unfold cutL at hx
  split at hx
  · cases hx
  · obtain ⟨f, hf, rfl⟩ := List.mem_map.1 hx
    obtain ⟨j, hj, rfl⟩ := List.getElem_of_mem hf
    rw [frames_get]
    exact bytesF_le _ (by dsimp only; rw [length_part]; omega)



set_option maxRecDepth 20000 in
set_option maxHeartbeats 2000000 in
theorem wappend_large (F G : Nat → Prop) (lp dp : Value) (n : Int) (s : DK) (L : LG) (rv : Value) (r : List UInt8) (w : World) (hB : Both F G w lp dp n s L) (hr : Row w rv r) (h : 8192 < r.length) :
    Calls Try.prog 21 #[lp, rv] w fun e w' => e = .returned (.int .i64 4) ∧ Below w.heap.size w w' := by
  obtain ⟨g, sv, hlp, R⟩ := hB.log
  subst hlp
  obtain ⟨_, c10, _, c12, _⟩ := fifteen_cells R.blk
  have hdw : Below w.heap.size w w.drew := (Below.refl _ _).drew
  obtain ⟨_, d10, _, d12, _⟩ := fifteen_cells (R.below hdw).blk
  have HCT := hide (cut_large L.age L.next rv r w.drew (hr.below hdw) h)
  obtain ⟨rp, rc, rl, rfl, hrl⟩ := hr.shape
  clear hr hrl R hB h hdw
  go_enter Try.func21, Try.ntmps21
  go_wp2_with fail
  go_region_held3 (fun w' => w'.cell? ⟨g, 10, none⟩ = some (.int .u64 (L.age : Int)) ∧ w'.cell? ⟨g, 12, none⟩ = some (.int .u64 (L.next : Int))) (first | assumption | go_keep)
    (first | (go_at_call 55; refine Calls.mono (unhide HCT) ?_; rintro x w1 ⟨rfl, rfl⟩))
  go_wp2
  go_ret
  exact ⟨rfl, (Below.refl _ _).drew⟩

theorem Parts.keep {w w' : World} {lo : Nat} {v : Value} {ls : List (List UInt8)} {F : Nat → Prop} (h : Parts w lo v ls) (hk : Keep F w w') (hF : ∀ k, F k → k < lo) : Parts w' lo v ls := by
  obtain ⟨g, cur, blk, h1, h2, h3, h4, h5⟩ := h
  have hb : ∀ b, b < w.heap.size → g ≤ b → w'.heap[b]? = w.heap[b]? := fun b hb hg => hk.block b hb (fun hf => by have := hF b hf; omega)
  exact ⟨g, cur, blk, h1, h2, (hb g (Array.getElem?_eq_some_iff.1 h3).1 (Nat.le_refl _)).trans h3, h4, h5.stays fun b hl hg => hb b hl (by omega)⟩
theorem Parts.shape {w : World} {lo : Nat} {v : Value} {ls : List (List UInt8)} (h : Parts w lo v ls) : ∃ g, v = .slice (some ⟨g, 0, none⟩) ls.length ls.length := by
  obtain ⟨g, cur, blk, h1, _⟩ := h
  exact ⟨g, h1⟩

set_option maxRecDepth 20000 in
set_option maxHeartbeats 4000000 in
theorem wappend_any (F G : Nat → Prop) (lp dp : Value) (n : Int) (s : DK) (L : LG) (rv : Value) (r : List UInt8) (w : World) (hB : Both F G w lp dp n s L) (hr : Row w rv r) (hw : s.waits.length + 32 ≤ 1048576) (ht : s.ticks + 32 ≤ 1048576) (hnx : L.next + 32 < 9223372036854775808) :
    Calls Try.prog 21 #[lp, rv] w fun e w' => e = .returned (.int .i64 (appE n s L r)) ∧ ∃ F' G', Both F' G' w' lp dp n (appS n s L r) (appL n s L r) ∧ Moves (orF F G) (orF F' G') w w' := by
  by_cases h8 : 8192 < r.length
  · have e1 : appE n s L r = 4 := by unfold appE; rw [if_pos h8]
    have e2 : appS n s L r = s := by unfold appS; rw [if_pos h8]
    have e3 : appL n s L r = L := by unfold appL; rw [e1]; rfl
    rw [e1, e2, e3]
    refine (wappend_large F G lp dp n s L rv r w hB hr h8).mono ?_
    rintro e w1 ⟨rfl, b1⟩
    exact ⟨rfl, F, G, hB.below b1, Moves.of_below b1⟩
  · obtain ⟨E, hE⟩ : ∃ E, E = appE n s L r := ⟨_, rfl⟩
    obtain ⟨S, hS⟩ : ∃ S, S = appS n s L r := ⟨_, rfl⟩
    obtain ⟨M, hM⟩ : ∃ M, M = appL n s L r := ⟨_, rfl⟩
    unfold appL at hM
    rw [← hE] at hM
    unfold appE at hE
    unfold appS at hS
    rw [if_neg h8] at hE hS
    have hnc := length_cutL L.age L.next r h8
    have hn1 := count_pos (n := (r.length : Int)) (by omega)
    have hn2 := count_le (n := (r.length : Int)) (by omega)
    rw [show appE n s L r = E by unfold appE; rw [if_neg h8]; exact hE.symm, show appS n s L r = S by unfold appS; rw [if_neg h8]; exact hS.symm, show appL n s L r = M by unfold appL appE; rw [if_neg h8, ← hE]; exact hM.symm]
    have HE := hide hE
    have HS := hide hS
    have HMM := hide hM
    have HLS := hide (cut_short L.age L.next r)
    obtain ⟨g, sv, hlp, R⟩ := hB.log
    subst hlp
    have hA := R.ok.age
    have hNX := R.ok.next
    obtain ⟨z1, z2, z3⟩ := lz_le n R.fits
    clear z3
    have HB := hide hB
    have hFlt := hB.dev.lt
    have hGlt := hB.log.lt
    have c10 := (fifteen_cells R.blk).2.1
    have c12 := (fifteen_cells R.blk).2.2.2.1
    have hdw : Below w.heap.size w w.drew := (Below.refl _ _).drew
    have d10 := (fifteen_cells (R.below hdw).blk).2.1
    have d12 := (fifteen_cells (R.below hdw).blk).2.2.2.1
    have HCT := hide (cut_ok L.age L.next hA (by omega) rv r w.drew (hr.below hdw) h8)
    obtain ⟨dg, hdg⟩ : ∃ dg, dp = .pointer (some dg) := hB.dev.ptr
    subst hdg
    obtain ⟨rp, rc, rl, rfl, hrl⟩ := hr.shape
    have HNC := hide hnc
    generalize hcl : cutL L.age L.next r = ls at *
    generalize hcn : countN (r.length : Int) = N at *
    have HFL := hide hFlt
    have HGL := hide hGlt
    have HW := hide hw
    have HT := hide ht
    have HNX := hide hnx
    clear hr hrl R hB h8 hdw hE hS hM hcl hcn hA hNX hFlt hGlt hw ht hnx hnc
    go_enter Try.func21, Try.ntmps21
    go_wp2_with fail
    go_region_held3 (fun w' => w'.cell? ⟨g, 10, none⟩ = some (.int .u64 (L.age : Int)) ∧ w'.cell? ⟨g, 12, none⟩ = some (.int .u64 (L.next : Int))) (first | assumption | go_keep)
      (first | (go_at_call 55; refine Calls.mono (unhide HCT) ?_; rintro x w1 ⟨v1, rfl, hp1, b1⟩; have hk1 : w1.cell? ⟨g, 10, none⟩ = some (.int .u64 (L.age : Int)) ∧ w1.cell? ⟨g, 12, none⟩ = some (.int .u64 (L.next : Int)) := ⟨(b1.cell (World.block_lt_of_cell? _ _ d10)).trans d10, (b1.cell (World.block_lt_of_cell? _ _ d12)).trans d12⟩))
    have hb1 : Below w.heap.size w w1 := ((Below.refl _ _).drew).trans b1
    have hB1 := (unhide HB).below hb1
    obtain ⟨vg, rfl⟩ := hp1.shape
    have HP1 : Hid (Parts w1 w.heap.size _ ls) := hp1
    have HBL1 := hide hb1
    clear hk1 c10 c12 d10 d12 HCT b1 hp1 HB hb1
    have HB1 := hide hB1
    obtain ⟨g', sv', hg', R1⟩ := hB1.log
    cases hg'
    have x0 := (fifteen_cells R1.blk).1.1
    have x10 := (fifteen_cells R1.blk).2.1
    have x14 := (fifteen_cells R1.blk).2.2.2.2.2.1
    clear R1 hB1
    by_cases hfa : L.fallen = true
    · rw [hfa] at x14
      have hEv : E = 40 := by have h := unhide HE; rw [if_pos (Or.inl hfa)] at h; exact h
      have hSv : S = s := by have h := unhide HS; rw [if_pos (Or.inl hfa)] at h; exact h
      have hMv : M = L.down := by have h := unhide HMM; rw [hEv] at h; exact h
      have HAN := hide (wanswer_any G _ _ n L 40 w1 (unhide HB1).log)
      rw [if_pos rfl] at HAN
      have HEQ := hide (And.intro hEv (And.intro hSv hMv))
      clear hfa hEv hSv hMv HE HS HMM HNC HLS x0 x10
      go_wp2_with fail
      refine Calls.mono (unhide HAN) ?_
      rintro e w2 ⟨rfl, hl2, hk2⟩
      obtain ⟨hB2, hM2⟩ := (unhide HB1).log' hl2 ⟨hk2, fun k hk => Or.inl hk⟩
      have HB2 := hide hB2
      have HM2 := hide ((Moves.of_below (unhide HBL1)).trans hM2)
      clear hl2 hk2 hB2 hM2 HAN x14
      go_wp2
      go_ret
      obtain ⟨q1, q2, q3⟩ := unhide HEQ
      rw [q1, q2, q3]
      exact ⟨rfl, F, G, unhide HB2, unhide HM2⟩
    · rw [Bool.not_eq_true] at hfa
      rw [hfa] at x14
      have HDN := hide (odown_any F _ s w1 (unhide HB1).dev)
      cases hfe : s.fell with
      | true =>
        rw [hfe] at HDN
        have hEv : E = 40 := by have h := unhide HE; rw [if_pos (Or.inr hfe)] at h; exact h
        have hSv : S = s := by have h := unhide HS; rw [if_pos (Or.inr hfe)] at h; exact h
        have hMv : M = L.down := by have h := unhide HMM; rw [hEv] at h; exact h
        have HEQ := hide (And.intro hEv (And.intro hSv hMv))
        clear hfa hfe hEv hSv hMv HE HS HMM HNC HLS x10
        go_wp2_with fail
        refine Calls.mono (unhide HDN) ?_
        rintro e w2 ⟨rfl, b2⟩
        have hB2 := (unhide HB1).below b2
        have HAN := hide (wanswer_any G _ _ n L 40 w2 hB2.log)
        rw [if_pos rfl] at HAN
        have HB2 := hide hB2
        have HBL2 := hide ((unhide HBL1).trans (b2.mono (unhide HBL1).size))
        clear b2 hB2 HDN x0 x14
        go_wp2_with fail
        refine Calls.mono (unhide HAN) ?_
        rintro e w3 ⟨rfl, hl2, hk2⟩
        obtain ⟨hB3, hM3⟩ := (unhide HB2).log' hl2 ⟨hk2, fun k hk => Or.inl hk⟩
        have HB3 := hide hB3
        have HM3 := hide ((Moves.of_below (unhide HBL2)).trans hM3)
        clear hl2 hk2 hB3 hM3 HAN
        go_wp2
        go_ret
        obtain ⟨q1, q2, q3⟩ := unhide HEQ
        rw [q1, q2, q3]
        exact ⟨rfl, F, G, unhide HB3, unhide HM3⟩
      | false =>
        rw [hfe] at HDN
        have hEv := unhide HE
        rw [if_neg (by rw [hfa, hfe]; simp)] at hEv
        have hSv := unhide HS
        rw [if_neg (by rw [hfa, hfe]; simp)] at hSv
        have HEV := hide hEv
        have HSV := hide hSv
        clear hEv hSv HE HS hfa hfe
        go_wp2_with fail
        refine Calls.mono (unhide HDN) ?_
        rintro e w2 ⟨rfl, b2⟩
        have hB2 := (unhide HB1).below b2
        have HB2 := hide hB2
        have HBL2 := hide ((unhide HBL1).trans (b2.mono (unhide HBL1).size))
        have HP2 := hide ((unhide HP1).below b2)
        have HLF := hide (wleft_any G _ _ n L w2 hB2.log)
        clear b2 hB2 HDN x0 x14 x10 HP1
        go_wp2_with fail
        refine Calls.mono (unhide HLF) ?_
        rintro e w3 ⟨rfl, b3⟩
        have hB3 := (unhide HB2).below b3
        have HB3 := hide hB3
        have HBL3 := hide ((unhide HBL2).trans (b3.mono (unhide HBL2).size))
        have HP3 := hide ((unhide HP2).below b3)
        have hNC := unhide HNC
        clear b3 HLF HP2 HB2 HBL1 HBL2
        obtain ⟨g', sv', hg', R3⟩ := hB3.log
        cases hg'
        have x0 := (fifteen_cells R3.blk).1.1
        have x10 := (fifteen_cells R3.blk).2.1
        clear R3 hB3
        by_cases hfull : lz n - ((L.next - L.first : Nat) : Int) < N
        · have hEv := unhide HEV
          rw [if_pos hfull] at hEv
          have hSv := unhide HSV
          rw [if_pos hfull] at hSv
          have hMv : M = L := by have h := unhide HMM; rw [hEv] at h; exact h
          have HEQ := hide (And.intro hEv (And.intro hSv hMv))
          have hf2 : lz n - ((L.next - L.first : Nat) : Int) < ls.length := by omega
          generalize lz n - ((L.next - L.first : Nat) : Int) = Z at *
          clear hEv hSv hMv HEV HSV HMM hfull hNC HNC x0 x10 z1 z2 hn1 hn2
          go_wp2
          go_ret
          obtain ⟨q1, q2, q3⟩ := unhide HEQ
          rw [q1, q2, q3]
          exact ⟨rfl, F, G, unhide HB3, Moves.of_below (unhide HBL3)⟩
        · have hEv := unhide HEV
          rw [if_neg hfull] at hEv
          have hSv := unhide HSV
          rw [if_neg hfull] at hSv
          have HLY := hide (wlay_any F G _ _ n L s _ ls w3 (unhide HB3).log (unhide HB3).dev (unhide HB3).apart (fun w' hk => ((unhide HP3).keep hk (unhide HFL)).rows (by unfold maxLen; omega)) (unhide HLS) (by omega) (unhide HW) (unhide HT))
          have hf2 : (ls.length : Int) ≤ lz n - ((L.next - L.first : Nat) : Int) := by omega
          have hroom : L.next + ls.length ≤ L.first + (lz n).toNat := by
            obtain ⟨_, _, _, RR⟩ := (unhide HB3).log
            have := RR.ok.le
            have := RR.ok.ring
            omega
          have HRM := hide hroom
          have HN19 : Hid (1 ≤ ls.length ∧ ls.length ≤ 19 ∧ N.toNat = ls.length) := by unfold Hid; omega
          have HSN := hide (lay_n n ls s L.next)
          rw [← hEv, ← hSv] at HLY
          rw [← hSv] at HSN
          generalize lz n - ((L.next - L.first : Nat) : Int) = Z at *
          clear hEv hSv HEV HSV hfull hNC HNC z1 z2 hn1 hn2 hroom
          go_wp2_with fail
          refine Calls.mono (unhide HLY) ?_
          rintro e w4 ⟨rfl, F4, hd4, hm4⟩
          obtain ⟨hB4, hM4⟩ := (unhide HB3).dev' hd4 hm4 (unhide HSN)
          have HB4 := hide hB4
          have HM4 := hide ((Moves.of_below (unhide HBL3)).trans hM4)
          obtain ⟨g', sv', hg', R4⟩ := hB4.log
          cases hg'
          have y10 := (fifteen_cells R4.blk).2.1
          have HA := hide R4.ok.age
          clear R4 hB4 hM4 hd4 hm4 HLY x0 x10 HB3 HBL3
          by_cases hE0 : E = 0
          · subst hE0
            have hMv : M = L.add L.age N.toNat := by have h := unhide HMM; rw [if_pos rfl] at h; exact h
            rw [(unhide HN19).2.2] at hMv
            have HAD := hide (wadd_any G _ _ n L L.age ls.length w4 (unhide HB4).log (unhide HN19).1 (unhide HRM) (by have := (unhide HN19).2.1; have := unhide HNX; omega) (unhide HA))
            rw [← hMv] at HAD
            clear hMv HMM hf2
            go_wp2_with fail
            refine Calls.mono (unhide HAD) ?_
            rintro e w5 ⟨rfl, G5, hl5, hm5⟩
            obtain ⟨hB5, hM5⟩ := (unhide HB4).log' hl5 hm5
            have HB5 := hide hB5
            have HM5 := hide ((unhide HM4).trans hM5)
            clear hB5 hM5 hl5 hm5 HAD y10
            go_wp2
            go_ret
            exact ⟨rfl, F4, G5, unhide HB5, unhide HM5⟩
          · have hMv : M = if E = 40 then L.down else L := by have h := unhide HMM; rw [if_neg hE0] at h; exact h
            have HAN := hide (wanswer_any G _ _ n L E w4 (unhide HB4).log)
            rw [← hMv] at HAN
            have hE' : (E == 0) = false := by rw [beq_eq_false_iff_ne]; exact hE0
            clear hMv HMM hf2 hE0 y10
            go_wp2_with fail
            refine Calls.mono (unhide HAN) ?_
            rintro e w5 ⟨rfl, hl5, hk5⟩
            obtain ⟨hB5, hM5⟩ := (unhide HB4).log' hl5 ⟨hk5, fun k hk => Or.inl hk⟩
            have HB5 := hide hB5
            have HM5 := hide ((unhide HM4).trans hM5)
            clear hB5 hM5 hl5 hk5 HAN
            go_wp2
            go_ret
            exact ⟨rfl, F4, G, unhide HB5, unhide HM5⟩
end Go.Proofs.Ytdpoiieblbmofaa
