/- Texts of ours, one behind the other: WalOwn3, WalOwn4. -/
import Derived.Test.YtpkpjmebkikgdaaG10
import Derived.Test.YtpkpjmebkikgdaaG11
import Derived.Test.YtpkpjmebkikgdaaG22
import Derived.Test.YtpkpjmebkikgdaaG24
import Derived.Test.YtpkpjmebkikgdaaG25
import Derived.Test.YtpkpjmebkikgdaaG26
/- The landed package wal: the sectors of a record are written. -/
namespace Go.Proofs.Ytpkpjmebkikgdaa
open Go.RowKit

/-- The sectors of payloads, from the turn t on, are written, up to the first that the device refuses. -/
def layW (n : Int) : DK → Nat → List (List UInt8) → DK × Int
  | s, _, [] => (s, 0)
  | s, t, x :: l => if s.writeE (logN n t) (sealed 77 t x) ≠ 0 then (s.write (logN n t) (sealed 77 t x), s.writeE (logN n t) (sealed 77 t x)) else layW n (s.write (logN n t) (sealed 77 t x)) (t + 1) l

theorem write_n (s : DK) (a : Int) (b : List UInt8) : (s.write a b).n = s.n := by unfold DK.write DK.tick; repeat' split
                                                                                  all_goals rfl
theorem write_waits (s : DK) (a : Int) (b : List UInt8) : (s.write a b).waits.length ≤ s.waits.length + 1 ∧ (s.write a b).ticks ≤ s.ticks + 1 := by
  unfold DK.write DK.tick
  repeat' split
  all_goals simp
theorem ent_write (args : Array Value) (w : World) : (callFunc 6 args).run Try.prog w = .ok (.enter 6 args) w := by
  first | kernel_rfl | rfl | simp [callFunc, Try.func6]
theorem seal_log (t : Nat) (x : List UInt8) (h : x.length ≤ 496) : sealB 77 t x = sealed 77 t x ∧ sealE 77 x = 0 := by
  unfold sealB sealE
  rw [if_neg (by decide), if_neg (by omega), if_neg (by decide), if_neg (by omega)]
  exact ⟨rfl, rfl⟩

set_option maxRecDepth 20000 in
set_option maxHeartbeats 2000000 in
theorem wlay_any (F G : Nat → Prop) (lp dp : Value) (n : Int) (L : LG) (s : DK) (pv : Value) (ls : List (List UInt8)) (w : World) (hL : LRep G w lp dp n L) (hD : DRep F w dp s) (hap : ∀ k, F k → ¬ G k)
    (hP : ∀ w', Keep F w w' → Rows2 w' pv ls) (hls : ∀ x ∈ ls, x.length ≤ 496) (hlen : ls.length ≤ 32) (hw : s.waits.length + 32 ≤ 1048576) (ht : s.ticks + 32 ≤ 1048576) :
    Calls Try.prog 33 #[lp, pv, .func (.func 6) #[dp] #[]] w fun e w' => e = .returned (.int .i64 (layW n s L.next ls).2) ∧ ∃ F', DRep F' w' dp (layW n s L.next ls).1 ∧ Moves F F' w w' := by
  obtain ⟨g, sv, rfl, R⟩ := hL
  have hFit := R.fits
  have hnx := R.ok.next
  have HR := hide R
  obtain ⟨p, c, rfl, hc1, hc2, hc3⟩ := (hP w (Keep.refl _ _)).shape
  have HP := hide hP
  have HLS := hide hls
  have HSE := hide (fun (t : Nat) (v : Value) (x : List UInt8) w' (h1 : t < 18446744073709551616) (h2 : x.length ≤ 496) (h3 : Row w' v x) => sealC 77 t v x w' h1 (by omega) h3)
  have HLA := hide (fun (t : Nat) w' (h : t < 18446744073709551616) => ologat_any n t w' hFit h)
  have HWR := hide (fun F' (a : Int) bv b s' w' (h : DRep F' w' dp s') (h2 : Row w' bv b) (h3 : s'.waits.length ≤ 1048576) (h4 : s'.ticks ≤ 1048576) => owrite_any F' dp s' a bv b w' h h2 h3 h4)
  have hent := ent_write
  obtain ⟨Res, hRes⟩ : ∃ Res, Res = layW n s L.next ls := ⟨_, rfl⟩
  rw [← hRes]
  unfold layV at HLA
  have HD := hide hD
  have HLEN := hide hlen
  have HW := hide hw
  have HT := hide ht
  have HAP := hide hap
  have HNX := hide hnx
  have HRES := hide hRes
  obtain ⟨dg, hdg⟩ : ∃ dg, dp = .pointer (some dg) := hD.ptr
  subst hdg
  clear hP hls hFit hD R hRes hw ht hlen hap hnx hc1 hc2 hc3
  go_enter Try.func33, Try.ntmps33
  go_wp2_with fail
  go_loopw [15] (fun i wr => ∃ (k : Nat) (s' : DK) (F' : Nat → Prop), k ≤ ls.length ∧ i = .int .i64 k ∧ Hid (DRep F' wr (.pointer (some dg)) s') ∧ Hid (Moves F F' w wr) ∧ Hid (s'.waits.length ≤ s.waits.length + k ∧ s'.ticks ≤ s.ticks + k) ∧ Hid (Res = layW n s' (L.next + k) (ls.drop k))) (fun i _ => ls.length - (intOf i).toNat)
  case atStart => exact ⟨0, s, F, Nat.zero_le _, rfl, unhide HD, Moves.refl _ _, ⟨Nat.le_refl _, Nat.le_refl _⟩, by unfold Hid; rw [unhide HRES]; rfl⟩
  case round =>
    obtain ⟨k, s', F', hk, rfl, hD', hM', hwt, hres⟩ := hrel
    by_cases hlt : k < ls.length
    · have hne : ls ≠ [] := by intro e; rw [e] at hlt; simp at hlt
      obtain ⟨b, off, cap, he, j1, j2, hrows⟩ := (unhide HP wr (unhide hM').keep).open hne
      clear j1 j2
      simp only [Value.slice.injEq] at he
      obtain ⟨rfl, j3, rfl⟩ := he
      clear j3
      obtain ⟨pk, hpk, hrk⟩ := hrows k hlt
      have hx := unhide HLS ls[k] (List.getElem_mem hlt)
      have hdrop : ls.drop k = ls[k] :: ls.drop (k + 1) := List.drop_eq_getElem_cons hlt
      have hres' := unhide hres
      rw [hdrop] at hres'
      unfold layW at hres'
      have d12 := (fifteen_cells ((unhide HR).keep (unhide hM').keep (unhide HAP)).blk).2.2.2.1
      have hnx := unhide HNX
      have hlen := unhide HLEN
      have hkl : (k : Int) < ls.length := by omega
      have hk32 : (k : Int) ≤ 32 := by omega
      have hnI : (L.next : Int) < 9223372036854775808 := by omega
      have hS := unhide HSE (L.next + k) pk ls[k] wr (by omega) hx hrk
      obtain ⟨e1, e2⟩ := seal_log (L.next + k) ls[k] hx
      rw [e1, e2] at hS
      rw [Int.natCast_add] at hS
      have HS := hide hS
      have hsl := length_sealed 77 (L.next + k) ls[k] hx
      generalize sealed 77 (L.next + k) ls[k] = SB at *
      have HRS := hide hres'
      obtain ⟨p2, q2, l2, rfl, hl2⟩ := hrk.shape
      have HHL := hide hlt
      have HSL := hide hsl
      clear hl2 hS e1 e2 hres hres' hx hdrop hrows hrk hnx hlen hlt hsl
      go_wp2_with fail
      refine Calls.mono (unhide HS) ?_
      rintro e w2 ⟨t2, rfl, m2, b2⟩
      have HM2 := hide m2
      have HB2 := hide b2
      have hK2 := (unhide hM').keep.trans (Keep.of_below (F := fun _ => False) b2) (fun x hx => hx.elim)
      obtain ⟨x0, x1, x2, x3, x4, x5, x6, x7, x8, x9⟩ := (fifteen_cells ((unhide HR).keep hK2 (unhide HAP)).blk).1
      have hlg := unhide HLA (L.next + k) w2 (by have := unhide HNX; have := unhide HLEN; have := unhide HHL; omega)
      rw [Int.natCast_add] at hlg
      have HLG := hide hlg
      obtain ⟨p3, q3, l3, rfl, hl3⟩ := m2.row.shape
      clear hl3 m2 b2 hK2 d12 hpk hlg HS HSE
      go_wp2_with fail
      refine Calls.mono (unhide HLG) ?_
      rintro e w3 ⟨rfl, b3⟩
      have hD3 : DRep F' w3 (.pointer (some dg)) s' := by
        have h2 := (unhide hD').stays (unhide HB2).size (fun j hj => (unhide HB2).block j ((unhide hD').lt j hj))
        exact h2.stays b3.size (fun j hj => b3.block j (h2.lt j hj))
      have hW3 := unhide HWR F' (logN n (L.next + k)) _ SB s' w3 hD3 ((unhide HM2).row.below b3) (by have := (unhide hwt).1; have := unhide HW; have := unhide HLEN; have := unhide HHL; omega) (by have := (unhide hwt).2; have := unhide HT; have := unhide HLEN; have := unhide HHL; omega)
      have hM3 : Moves F F' w w3 := (unhide hM').trans ((Moves.of_below (unhide HB2)).trans (Moves.of_below b3))
      have HW3 := hide hW3
      have HM3 := hide hM3
      clear b3 hD3 hW3 hM3 HLG HB2 HM2 x0 x1 x2 x3 x4 x5 x6 x7 x8 x9 hD' hM'
      go_wp2_with fail
      refine Calls.mono (unhide HW3) ?_
      rintro e w4 ⟨rfl, F4, hD4, hM4⟩
      have HD4 := hide hD4
      have HM4 := hide ((unhide HM3).trans hM4)
      have hww := write_waits s' (logN n (L.next + k)) SB
      have HWW := hide hww
      clear hD4 hM4 hww HM3 HW3
      generalize s'.write (logN n (L.next + k)) SB = s4 at *
      by_cases hE : s'.writeE (logN n (L.next + k)) SB = 0
      · rw [hE] at HRS ⊢
        have HRS' : Hid (Res = layW n s4 (L.next + k + 1) (List.drop (k + 1) ls)) := by
          have h := unhide HRS
          rw [if_neg (by simp)] at h
          exact h
        clear HRS hE
        go_wp2
        go_roundw
        case rel => exact ⟨k + 1, s4, F4, unhide HHL, by go_num, unhide HD4, unhide HM4, ⟨by have := (unhide HWW).1; have := (unhide hwt).1; omega, by have := (unhide HWW).2; have := (unhide hwt).2; omega⟩, unhide HRS'⟩
        case measure => have := unhide HHL; simp [intOf]; omega
      · have HRS' : Hid (Res = (s4, s'.writeE (logN n (L.next + k)) SB)) := by
          have h := unhide HRS
          rw [if_pos hE] at h
          exact h
        generalize s'.writeE (logN n (L.next + k)) SB = E at *
        have hE' : (E == 0) = false := by rw [beq_eq_false_iff_ne]; exact hE
        clear HRS hE hwt HSL HWW HHL HNX HAP HT HW HLEN HLA HWR HLS HP HR hent hkl hk32 hnI
        go_wp2
        go_ret
        rw [unhide HRS']
        exact ⟨rfl, F4, unhide HD4, unhide HM4⟩
    · have hkn : k = ls.length := by omega
      subst hkn
      have HRS' : Hid (Res = (s', 0)) := by
        have h := unhide hres
        rw [List.drop_length] at h
        exact h
      clear hres
      go_wp2
      go_ret
      rw [unhide HRS']
      exact ⟨rfl, F', unhide hD', unhide hM'⟩
end Go.Proofs.Ytpkpjmebkikgdaa

/- The landed package wal: Append and Sync. -/
namespace Go.Proofs.Ytpkpjmebkikgdaa
open Go.RowKit

/-- What Append answers, what it makes of the device and of the log. -/
def appE (n : Int) (s : DK) (L : LG) (r : List UInt8) : Int :=
  if 8192 < r.length then 4 else if L.fallen = true ∨ s.fell = true then 40 else if lz n - ((L.next - L.first : Nat) : Int) < countN r.length then 3 else (layW n s L.next (cutL L.age L.next r)).2
def appS (n : Int) (s : DK) (L : LG) (r : List UInt8) : DK :=
  if 8192 < r.length then s else if L.fallen = true ∨ s.fell = true then s else if lz n - ((L.next - L.first : Nat) : Int) < countN r.length then s else (layW n s L.next (cutL L.age L.next r)).1
def appL (n : Int) (s : DK) (L : LG) (r : List UInt8) : LG :=
  if appE n s L r = 0 then L.add L.age (countN r.length).toNat else if appE n s L r = 40 then L.down else L

/-- A device and a log on it, apart from one another. -/
structure Both (F G : Nat → Prop) (w : World) (lp dp : Value) (n : Int) (s : DK) (L : LG) : Prop where
  dev : DRep F w dp s
  log : LRep G w lp dp n L
  apart : ∀ k, F k → ¬ G k
  size : (s.n : Int) = n
def orF (F G : Nat → Prop) : Nat → Prop := fun k => F k ∨ G k
theorem Both.below {F G : Nat → Prop} {w w' : World} {lp dp : Value} {n : Int} {s : DK} {L : LG} (h : Both F G w lp dp n s L) (hb : Below w.heap.size w w') : Both F G w' lp dp n s L :=
  ⟨h.dev.stays hb.size (fun k hk => hb.block k (h.dev.lt k hk)), h.log.below hb, h.apart, h.size⟩
/-- The device goes its way. -/
theorem Both.dev' {F F' G : Nat → Prop} {w w' : World} {lp dp : Value} {n : Int} {s s' : DK} {L : LG} (h : Both F G w lp dp n s L) (hd : DRep F' w' dp s') (hm : Moves F F' w w') (hn : s'.n = s.n) : Both F' G w' lp dp n s' L ∧ Moves (orF F G) (orF F' G) w w' := by
  refine ⟨⟨hd, h.log.keep hm.keep h.apart, fun k hk hg => ?_, by rw [hn]; exact h.size⟩, hm.keep.weak (fun k hk => Or.inl hk), fun k hk => ?_⟩
  · rcases hm.sub k hk with h1 | h1
    · exact h.apart k h1 hg
    · have := h.log.lt k hg; omega
  · rcases hk with hk | hk
    · rcases hm.sub k hk with h1 | h1
      · exact Or.inl (Or.inl h1)
      · exact Or.inr h1
    · exact Or.inl (Or.inr hk)
/-- The log goes its way. -/
theorem Both.log' {F G G' : Nat → Prop} {w w' : World} {lp dp : Value} {n : Int} {s : DK} {L L' : LG} (h : Both F G w lp dp n s L) (hl : LRep G' w' lp dp n L') (hm : Moves G G' w w') : Both F G' w' lp dp n s L' ∧ Moves (orF F G) (orF F G') w w' := by
  refine ⟨⟨h.dev.stays hm.keep.size (fun k hk => hm.keep.block k (h.dev.lt k hk) (h.apart k hk)), hl, fun k hk hg => ?_, h.size⟩, hm.keep.weak (fun k hk => Or.inr hk), fun k hk => ?_⟩
  · rcases hm.sub k hg with h1 | h1
    · exact h.apart k hk h1
    · have := h.dev.lt k hk; omega
  · rcases hk with hk | hk
    · exact Or.inl (Or.inl hk)
    · rcases hm.sub k hk with h1 | h1
      · exact Or.inl (Or.inr h1)
      · exact Or.inr h1

theorem lay_n (n : Int) : ∀ (ls : List (List UInt8)) (s : DK) (t : Nat), (layW n s t ls).1.n = s.n
  | [], _, _ => rfl
  | x :: l, s, t => by
    unfold layW
    split
    · exact write_n _ _ _
    · rw [lay_n n l]; exact write_n _ _ _
theorem bytesF_le (f : Fr) (h5 : f.data.length ≤ 440) : (bytesF f).length ≤ 496 := by
  unfold bytesF
  have a1 := (varF_len 9 f.age).2
  have a2 := (varF_len 9 f.first).2
  have a3 := (varF_len 9 f.of.toNat).2
  simp only [List.length_append]
  omega
theorem cut_short (A C : Nat) (r : List UInt8) : ∀ x ∈ cutL A C r, x.length ≤ 496 := by
  intro x hx
  unfold cutL at hx
  split at hx
  · cases hx
  · obtain ⟨f, hf, rfl⟩ := List.mem_map.1 hx
    obtain ⟨j, hj, rfl⟩ := List.getElem_of_mem hf
    rw [frames_get]
    exact bytesF_le _ (by dsimp only; rw [length_part]; omega)



set_option maxRecDepth 20000 in
set_option maxHeartbeats 2000000 in
theorem wappend_large (F G : Nat → Prop) (lp dp : Value) (n : Int) (s : DK) (L : LG) (rv : Value) (r : List UInt8) (w : World) (hB : Both F G w lp dp n s L) (hr : Row w rv r) (h : 8192 < r.length) :
    Calls Try.prog 14 #[lp, rv] w fun e w' => e = .returned (.int .i64 4) ∧ Below w.heap.size w w' := by
  obtain ⟨g, sv, hlp, R⟩ := hB.log
  subst hlp
  obtain ⟨_, c10, _, c12, _⟩ := fifteen_cells R.blk
  have hdw : Below w.heap.size w w.drew := (Below.refl _ _).drew
  obtain ⟨_, d10, _, d12, _⟩ := fifteen_cells (R.below hdw).blk
  have HCT := hide (cut_large L.age L.next rv r w.drew (hr.below hdw) h)
  obtain ⟨rp, rc, rl, rfl, hrl⟩ := hr.shape
  clear hr hrl R hB h hdw
  go_enter Try.func14, Try.ntmps14
  go_wp2_with fail
  go_region_held3 (fun w' => w'.cell? ⟨g, 10, none⟩ = some (.int .u64 (L.age : Int)) ∧ w'.cell? ⟨g, 12, none⟩ = some (.int .u64 (L.next : Int))) (first | assumption | go_keep)
    (first | (go_at_call 30; refine Calls.mono (unhide HCT) ?_; rintro x w1 ⟨rfl, rfl⟩))
  go_wp2
  go_ret
  exact ⟨rfl, (Below.refl _ _).drew⟩

theorem Parts.keep {w w' : World} {lo : Nat} {v : Value} {ls : List (List UInt8)} {F : Nat → Prop} (h : Parts w lo v ls) (hk : Keep F w w') (hF : ∀ k, F k → k < lo) : Parts w' lo v ls := by
  obtain ⟨g, cur, blk, h1, h2, h3, h4, h5⟩ := h
  have hb : ∀ b, b < w.heap.size → g ≤ b → w'.heap[b]? = w.heap[b]? := fun b hb hg => hk.block b hb (fun hf => by have := hF b hf; omega)
  exact ⟨g, cur, blk, h1, h2, (hb g (Array.getElem?_eq_some_iff.1 h3).1 (Nat.le_refl _)).trans h3, h4, h5.stays fun b hl hg => hb b hl (by omega)⟩
theorem Parts.shape {w : World} {lo : Nat} {v : Value} {ls : List (List UInt8)} (h : Parts w lo v ls) : ∃ g, v = .slice (some ⟨g, 0, none⟩) ls.length ls.length := by
  obtain ⟨g, cur, blk, h1, _⟩ := h
  exact ⟨g, h1⟩

set_option maxRecDepth 20000 in
set_option maxHeartbeats 4000000 in
theorem wappend_any (F G : Nat → Prop) (lp dp : Value) (n : Int) (s : DK) (L : LG) (rv : Value) (r : List UInt8) (w : World) (hB : Both F G w lp dp n s L) (hr : Row w rv r) (hw : s.waits.length + 32 ≤ 1048576) (ht : s.ticks + 32 ≤ 1048576) (hnx : L.next + 32 < 9223372036854775808) :
    Calls Try.prog 14 #[lp, rv] w fun e w' => e = .returned (.int .i64 (appE n s L r)) ∧ ∃ F' G', Both F' G' w' lp dp n (appS n s L r) (appL n s L r) ∧ Moves (orF F G) (orF F' G') w w' := by
  by_cases h8 : 8192 < r.length
  · have e1 : appE n s L r = 4 := by unfold appE; rw [if_pos h8]
    have e2 : appS n s L r = s := by unfold appS; rw [if_pos h8]
    have e3 : appL n s L r = L := by unfold appL; rw [e1]; rfl
    rw [e1, e2, e3]
    refine (wappend_large F G lp dp n s L rv r w hB hr h8).mono ?_
    rintro e w1 ⟨rfl, b1⟩
    exact ⟨rfl, F, G, hB.below b1, Moves.of_below b1⟩
  · obtain ⟨E, hE⟩ : ∃ E, E = appE n s L r := ⟨_, rfl⟩
    obtain ⟨S, hS⟩ : ∃ S, S = appS n s L r := ⟨_, rfl⟩
    obtain ⟨M, hM⟩ : ∃ M, M = appL n s L r := ⟨_, rfl⟩
    unfold appL at hM
    rw [← hE] at hM
    unfold appE at hE
    unfold appS at hS
    rw [if_neg h8] at hE hS
    have hnc := length_cutL L.age L.next r h8
    have hn1 := count_pos (n := (r.length : Int)) (by omega)
    have hn2 := count_le (n := (r.length : Int)) (by omega)
    rw [show appE n s L r = E by unfold appE; rw [if_neg h8]; exact hE.symm, show appS n s L r = S by unfold appS; rw [if_neg h8]; exact hS.symm, show appL n s L r = M by unfold appL appE; rw [if_neg h8, ← hE]; exact hM.symm]
    have HE := hide hE
    have HS := hide hS
    have HMM := hide hM
    have HLS := hide (cut_short L.age L.next r)
    obtain ⟨g, sv, hlp, R⟩ := hB.log
    subst hlp
    have hA := R.ok.age
    have hNX := R.ok.next
    obtain ⟨z1, z2, z3⟩ := lz_le n R.fits
    clear z3
    have HB := hide hB
    have hFlt := hB.dev.lt
    have hGlt := hB.log.lt
    have c10 := (fifteen_cells R.blk).2.1
    have c12 := (fifteen_cells R.blk).2.2.2.1
    have hdw : Below w.heap.size w w.drew := (Below.refl _ _).drew
    have d10 := (fifteen_cells (R.below hdw).blk).2.1
    have d12 := (fifteen_cells (R.below hdw).blk).2.2.2.1
    have HCT := hide (cut_ok L.age L.next hA (by omega) rv r w.drew (hr.below hdw) h8)
    obtain ⟨dg, hdg⟩ : ∃ dg, dp = .pointer (some dg) := hB.dev.ptr
    subst hdg
    obtain ⟨rp, rc, rl, rfl, hrl⟩ := hr.shape
    have HNC := hide hnc
    generalize hcl : cutL L.age L.next r = ls at *
    generalize hcn : countN (r.length : Int) = N at *
    have HFL := hide hFlt
    have HGL := hide hGlt
    have HW := hide hw
    have HT := hide ht
    have HNX := hide hnx
    clear hr hrl R hB h8 hdw hE hS hM hcl hcn hA hNX hFlt hGlt hw ht hnx hnc
    go_enter Try.func14, Try.ntmps14
    go_wp2_with fail
    go_region_held3 (fun w' => w'.cell? ⟨g, 10, none⟩ = some (.int .u64 (L.age : Int)) ∧ w'.cell? ⟨g, 12, none⟩ = some (.int .u64 (L.next : Int))) (first | assumption | go_keep)
      (first | (go_at_call 30; refine Calls.mono (unhide HCT) ?_; rintro x w1 ⟨v1, rfl, hp1, b1⟩; have hk1 : w1.cell? ⟨g, 10, none⟩ = some (.int .u64 (L.age : Int)) ∧ w1.cell? ⟨g, 12, none⟩ = some (.int .u64 (L.next : Int)) := ⟨(b1.cell (World.block_lt_of_cell? _ _ d10)).trans d10, (b1.cell (World.block_lt_of_cell? _ _ d12)).trans d12⟩))
    have hb1 : Below w.heap.size w w1 := ((Below.refl _ _).drew).trans b1
    have hB1 := (unhide HB).below hb1
    obtain ⟨vg, rfl⟩ := hp1.shape
    have HP1 : Hid (Parts w1 w.heap.size _ ls) := hp1
    have HBL1 := hide hb1
    clear hk1 c10 c12 d10 d12 HCT b1 hp1 HB hb1
    have HB1 := hide hB1
    obtain ⟨g', sv', hg', R1⟩ := hB1.log
    cases hg'
    have x0 := (fifteen_cells R1.blk).1.1
    have x10 := (fifteen_cells R1.blk).2.1
    have x14 := (fifteen_cells R1.blk).2.2.2.2.2.1
    clear R1 hB1
    by_cases hfa : L.fallen = true
    · rw [hfa] at x14
      have hEv : E = 40 := by have h := unhide HE; rw [if_pos (Or.inl hfa)] at h; exact h
      have hSv : S = s := by have h := unhide HS; rw [if_pos (Or.inl hfa)] at h; exact h
      have hMv : M = L.down := by have h := unhide HMM; rw [hEv] at h; exact h
      have HAN := hide (wanswer_any G _ _ n L 40 w1 (unhide HB1).log)
      rw [if_pos rfl] at HAN
      have HEQ := hide (And.intro hEv (And.intro hSv hMv))
      clear hfa hEv hSv hMv HE HS HMM HNC HLS x0 x10
      go_wp2_with fail
      refine Calls.mono (unhide HAN) ?_
      rintro e w2 ⟨rfl, hl2, hk2⟩
      obtain ⟨hB2, hM2⟩ := (unhide HB1).log' hl2 ⟨hk2, fun k hk => Or.inl hk⟩
      have HB2 := hide hB2
      have HM2 := hide ((Moves.of_below (unhide HBL1)).trans hM2)
      clear hl2 hk2 hB2 hM2 HAN x14
      go_wp2
      go_ret
      obtain ⟨q1, q2, q3⟩ := unhide HEQ
      rw [q1, q2, q3]
      exact ⟨rfl, F, G, unhide HB2, unhide HM2⟩
    · rw [Bool.not_eq_true] at hfa
      rw [hfa] at x14
      have HDN := hide (odown_any F _ s w1 (unhide HB1).dev)
      cases hfe : s.fell with
      | true =>
        rw [hfe] at HDN
        have hEv : E = 40 := by have h := unhide HE; rw [if_pos (Or.inr hfe)] at h; exact h
        have hSv : S = s := by have h := unhide HS; rw [if_pos (Or.inr hfe)] at h; exact h
        have hMv : M = L.down := by have h := unhide HMM; rw [hEv] at h; exact h
        have HEQ := hide (And.intro hEv (And.intro hSv hMv))
        clear hfa hfe hEv hSv hMv HE HS HMM HNC HLS x10
        go_wp2_with fail
        refine Calls.mono (unhide HDN) ?_
        rintro e w2 ⟨rfl, b2⟩
        have hB2 := (unhide HB1).below b2
        have HAN := hide (wanswer_any G _ _ n L 40 w2 hB2.log)
        rw [if_pos rfl] at HAN
        have HB2 := hide hB2
        have HBL2 := hide ((unhide HBL1).trans (b2.mono (unhide HBL1).size))
        clear b2 hB2 HDN x0 x14
        go_wp2_with fail
        refine Calls.mono (unhide HAN) ?_
        rintro e w3 ⟨rfl, hl2, hk2⟩
        obtain ⟨hB3, hM3⟩ := (unhide HB2).log' hl2 ⟨hk2, fun k hk => Or.inl hk⟩
        have HB3 := hide hB3
        have HM3 := hide ((Moves.of_below (unhide HBL2)).trans hM3)
        clear hl2 hk2 hB3 hM3 HAN
        go_wp2
        go_ret
        obtain ⟨q1, q2, q3⟩ := unhide HEQ
        rw [q1, q2, q3]
        exact ⟨rfl, F, G, unhide HB3, unhide HM3⟩
      | false =>
        rw [hfe] at HDN
        have hEv := unhide HE
        rw [if_neg (by rw [hfa, hfe]; simp)] at hEv
        have hSv := unhide HS
        rw [if_neg (by rw [hfa, hfe]; simp)] at hSv
        have HEV := hide hEv
        have HSV := hide hSv
        clear hEv hSv HE HS hfa hfe
        go_wp2_with fail
        refine Calls.mono (unhide HDN) ?_
        rintro e w2 ⟨rfl, b2⟩
        have hB2 := (unhide HB1).below b2
        have HB2 := hide hB2
        have HBL2 := hide ((unhide HBL1).trans (b2.mono (unhide HBL1).size))
        have HP2 := hide ((unhide HP1).below b2)
        have HLF := hide (wleft_any G _ _ n L w2 hB2.log)
        clear b2 hB2 HDN x0 x14 x10 HP1
        go_wp2_with fail
        refine Calls.mono (unhide HLF) ?_
        rintro e w3 ⟨rfl, b3⟩
        have hB3 := (unhide HB2).below b3
        have HB3 := hide hB3
        have HBL3 := hide ((unhide HBL2).trans (b3.mono (unhide HBL2).size))
        have HP3 := hide ((unhide HP2).below b3)
        have hNC := unhide HNC
        clear b3 HLF HP2 HB2 HBL1 HBL2
        obtain ⟨g', sv', hg', R3⟩ := hB3.log
        cases hg'
        have x0 := (fifteen_cells R3.blk).1.1
        have x10 := (fifteen_cells R3.blk).2.1
        clear R3 hB3
        by_cases hfull : lz n - ((L.next - L.first : Nat) : Int) < N
        · have hEv := unhide HEV
          rw [if_pos hfull] at hEv
          have hSv := unhide HSV
          rw [if_pos hfull] at hSv
          have hMv : M = L := by have h := unhide HMM; rw [hEv] at h; exact h
          have HEQ := hide (And.intro hEv (And.intro hSv hMv))
          have hf2 : lz n - ((L.next - L.first : Nat) : Int) < ls.length := by omega
          generalize lz n - ((L.next - L.first : Nat) : Int) = Z at *
          clear hEv hSv hMv HEV HSV HMM hfull hNC HNC x0 x10 z1 z2 hn1 hn2
          go_wp2
          go_ret
          obtain ⟨q1, q2, q3⟩ := unhide HEQ
          rw [q1, q2, q3]
          exact ⟨rfl, F, G, unhide HB3, Moves.of_below (unhide HBL3)⟩
        · have hEv := unhide HEV
          rw [if_neg hfull] at hEv
          have hSv := unhide HSV
          rw [if_neg hfull] at hSv
          have HLY := hide (wlay_any F G _ _ n L s _ ls w3 (unhide HB3).log (unhide HB3).dev (unhide HB3).apart (fun w' hk => ((unhide HP3).keep hk (unhide HFL)).rows (by unfold maxLen; omega)) (unhide HLS) (by omega) (unhide HW) (unhide HT))
          have hf2 : (ls.length : Int) ≤ lz n - ((L.next - L.first : Nat) : Int) := by omega
          have hroom : L.next + ls.length ≤ L.first + (lz n).toNat := by
            obtain ⟨_, _, _, RR⟩ := (unhide HB3).log
            have := RR.ok.le
            have := RR.ok.ring
            omega
          have HRM := hide hroom
          have HN19 : Hid (1 ≤ ls.length ∧ ls.length ≤ 19 ∧ N.toNat = ls.length) := by unfold Hid; omega
          have HSN := hide (lay_n n ls s L.next)
          rw [← hEv, ← hSv] at HLY
          rw [← hSv] at HSN
          generalize lz n - ((L.next - L.first : Nat) : Int) = Z at *
          clear hEv hSv HEV HSV hfull hNC HNC z1 z2 hn1 hn2 hroom
          go_wp2_with fail
          refine Calls.mono (unhide HLY) ?_
          rintro e w4 ⟨rfl, F4, hd4, hm4⟩
          obtain ⟨hB4, hM4⟩ := (unhide HB3).dev' hd4 hm4 (unhide HSN)
          have HB4 := hide hB4
          have HM4 := hide ((Moves.of_below (unhide HBL3)).trans hM4)
          obtain ⟨g', sv', hg', R4⟩ := hB4.log
          cases hg'
          have y10 := (fifteen_cells R4.blk).2.1
          have HA := hide R4.ok.age
          clear R4 hB4 hM4 hd4 hm4 HLY x0 x10 HB3 HBL3
          by_cases hE0 : E = 0
          · subst hE0
            have hMv : M = L.add L.age N.toNat := by have h := unhide HMM; rw [if_pos rfl] at h; exact h
            rw [(unhide HN19).2.2] at hMv
            have HAD := hide (wadd_any G _ _ n L L.age ls.length w4 (unhide HB4).log (unhide HN19).1 (unhide HRM) (by have := (unhide HN19).2.1; have := unhide HNX; omega) (unhide HA))
            rw [← hMv] at HAD
            clear hMv HMM hf2
            go_wp2_with fail
            refine Calls.mono (unhide HAD) ?_
            rintro e w5 ⟨rfl, G5, hl5, hm5⟩
            obtain ⟨hB5, hM5⟩ := (unhide HB4).log' hl5 hm5
            have HB5 := hide hB5
            have HM5 := hide ((unhide HM4).trans hM5)
            clear hB5 hM5 hl5 hm5 HAD y10
            go_wp2
            go_ret
            exact ⟨rfl, F4, G5, unhide HB5, unhide HM5⟩
          · have hMv : M = if E = 40 then L.down else L := by have h := unhide HMM; rw [if_neg hE0] at h; exact h
            have HAN := hide (wanswer_any G _ _ n L E w4 (unhide HB4).log)
            rw [← hMv] at HAN
            have hE' : (E == 0) = false := by rw [beq_eq_false_iff_ne]; exact hE0
            clear hMv HMM hf2 hE0 y10
            go_wp2_with fail
            refine Calls.mono (unhide HAN) ?_
            rintro e w5 ⟨rfl, hl5, hk5⟩
            obtain ⟨hB5, hM5⟩ := (unhide HB4).log' hl5 ⟨hk5, fun k hk => Or.inl hk⟩
            have HB5 := hide hB5
            have HM5 := hide ((unhide HM4).trans hM5)
            clear hB5 hM5 hl5 hk5 HAN
            go_wp2
            go_ret
            exact ⟨rfl, F4, G, unhide HB5, unhide HM5⟩
end Go.Proofs.Ytpkpjmebkikgdaa
